/-
  The walk of IdsPlay.
-/
import Derived.Test.YtmafhcfdamhejaaIp
import Derived.Deep.DeepCutAuto
import Derived.Deep.RegionWith
import Derived.Deep.RegionHeld3
namespace Go.Proofs.Ytmafhcfdamhejaa
open Go.ChangeShapes Go.WideShapes Go.ChangeAt Go.RowKit

set_option maxHeartbeats 4000000 in
set_option maxRecDepth 100000 in
theorem idsPlay_in (room : Int) (A : Option Addr) (N cap : Nat) (w : World) (hN : N ≤ 100)
    (hz : ∀ j : Nat, j < N → ∃ b off dr mk i x n, A = some ⟨b, off, none⟩ ∧ b < w.heap.size ∧ ActAt w b off j dr mk i x n) :
    Calls Try.prog 3 #[.int .i64 room, .slice A N cap] w fun e w' => e = .returned (.bool true) ∧ Touch NoB w w' := by
  have HZ := Lib.hid hz
  have HN := Lib.hid (new_any room)
  have HN7 := Lib.hid (new_any 7)
  have HR := Lib.hid (rnew_any room)
  rw [show roomI 7 = 7 from by decide] at HN7
  have hR := roomI_range room
  obtain ⟨R, hRe⟩ : ∃ R, roomI room = R := ⟨_, rfl⟩
  rw [hRe] at HN HR hR
  clear hRe hz
  have d3 : decide (100 < (N : Int)) = false := by simp; omega
  obtain ⟨i0, hi, hz0, hz1, hz2⟩ := info_parts info_id
  go_enter Try.func3, Try.ntmps3
  go_wp2_with fail
  refine (alive_any w).mono ?_
  rintro e w1 ⟨rfl, hT⟩
  have HT := Lib.hid hT
  have hs1 := hT.size
  clear hT
  go_wp2_with fail
  refine (HN.out w1).mono ?_
  rintro e w2 ⟨rfl, rfl⟩
  go_wp2_with fail
  refine (HN7.out _).mono ?_
  rintro e w2 ⟨rfl, rfl⟩
  go_wp2_with fail
  refine (HR.out _).mono ?_
  rintro e w2 ⟨rfl, rfl⟩
  simp only [World.size_alloc]
  go_wp2
  go_loopw [9, 10] (fun v9 i wr => PlayRel w w1.heap.size N w1.heap.size (w1.heap.size + 1) (w1.heap.size + 1 + 1) R v9 i wr) (fun _ i _ => N - (intOf i).toNat)
  case atStart => exact ⟨0, Nat.zero_le _, rfl, [], [], [], [], pinv_start R (by omega), Nat.le_refl _, play_start w1 R, ((HT.out.alloc _).alloc _).alloc _⟩
  case round =>
    obtain ⟨k, hk, rfl, ps, ds, po, md, hI, hmk, hM, hTr⟩ := hrel
    have hsr := hTr.size
    obtain ⟨A9, cap9, rfl, hc9, hc9'⟩ := row_any hM.row
    unfold maxLen at hc9'
    obtain ⟨L, hL⟩ : ∃ L, md.length = L := ⟨_, rfl⟩
    rw [hL] at hc9 hM hmk
    rw [hL]
    have HI := Lib.hid hI
    have HM := Lib.hid hM
    have HTr := Lib.hid hTr
    have HL := Lib.hid hL
    have hB := hM.size
    clear hI hM hTr hL
    by_cases hlt : k < N
    · obtain ⟨b, off, dr, mk, i, x, n, rfl, hb, hact⟩ := HZ.out k hlt
      have HA := Lib.hid hact
      clear hact
      go_wp2_with fail
      refine (play_other HM.out).mono ?_
      rintro e w3 ⟨v, po3, rfl, hM3, hB3⟩
      have hT3 := touch_below HTr.out hB3 hs1
      have hs3 := hT3.size
      obtain ⟨a0, a1, a2, a3, a4⟩ := HA.out
      have c0 := (hT3.cell hb (fun x => x)).trans a0
      have c1 := (hT3.cell hb (fun x => x)).trans a1
      have c2 := (hT3.cell hb (fun x => x)).trans a2
      have c3 := (hT3.cell hb (fun x => x)).trans a3
      have c4 := (hT3.cell hb (fun x => x)).trans a4
      have HM3 := Lib.hid hM3
      have HT3 := Lib.hid hT3
      clear hM3 hB3 hT3 HM HTr a0 a1 a2 a3 a4
      have hb3 : b < w3.heap.size := by omega
      go_upto_region 13 with fail
      go_cut [65] (fun c wx => c = .bool (mk && decide (0 ≤ n) && decide (n < (L : Int))) ∧ wx = w3.alloc (.cells #[.int .i64 i, .int .i64 x] 30))
      case first =>
        by_cases hn0 : 0 ≤ n <;> by_cases hnL : n < (L : Int)
        all_goals first | (exfalso; omega) | skip
        all_goals
          cases mk
          all_goals
            go_wp2
            go_meet
            exact ⟨by simp [hn0, hnL], rfl⟩
      case rest =>
        obtain ⟨rfl, rfl⟩ := hcut
        obtain ⟨C, hC⟩ : ∃ C, (mk && decide (0 ≤ n) && decide (n < (L : Int))) = C := ⟨_, rfl⟩
        rw [hC]
        have HC := Lib.hid hC
        clear hC
        go_upto_if 65 with fail
        go_cut [9] (fun v wx => PlayMid w w1.heap.size w1.heap.size (w1.heap.size + 1) (w1.heap.size + 1 + 1) w3.heap.size R ps ds po3 md (.slice A9 L cap9) v wx)
        case first =>
          cases C
          · go_wp2
            go_meet
            exact ⟨i, x, rfl, HM3.out.box i x, HT3.out.alloc _⟩
          · have hC := HC.out
            simp only [Bool.and_eq_true, decide_eq_true_eq] at hC
            obtain ⟨⟨rfl, hn0⟩, hnL⟩ := hC
            obtain ⟨q, rfl⟩ := Int.eq_ofNat_of_zero_le hn0
            have hqL : q < L := by omega
            have hr9 := HM3.out.row
            rw [HL.out] at hr9
            obtain ⟨gm, cp, hv, _, _, hob⟩ := row_form hr9 (by omega)
            injection hv with hv1 hv2 hv3
            subst hv1
            clear hv2 hv3
            obtain ⟨i2, x2, hix⟩ : ∃ i2 x2, md[q]? = some (i2, x2) := ⟨_, _, List.getElem?_eq_getElem (by have := HL.out; omega)⟩
            have hgm : gm < w3.heap.size := row_lt hr9 hob
            have m0 : w3.cell? ⟨gm, q * 2, none⟩ = some (.int .i64 i2) := by rw [hr9.cellAt (q * 2) (by omega), idc_at0, hix]; rfl
            have m1 : w3.cell? ⟨gm, q * 2 + 1, none⟩ = some (.int .i64 x2) := by rw [hr9.cellAt (q * 2 + 1) (by omega), idc_at1, hix]; rfl
            clear hr9 hob hix
            go_wp2
            go_meet
            exact ⟨i2, x2, rfl, (HM3.out.box i2 x2), (HT3.out.alloc _)⟩
        case rest =>
          clear HM3 HT3 HC c0 c1 c2 c3 c4 hsr
          obtain ⟨i4, x4, rfl, hM4, hT4⟩ := hcut
          have hg4 := hM4.blk (List.mem_singleton.2 rfl)
          have hs4 := hT4.size
          have hl4 := blk_lt hg4
          have k0 : wc.cell? ⟨w3.heap.size, 0, none⟩ = some (.int .i64 i4) := cell_blk hg4 0
          have k1 : wc.cell? ⟨w3.heap.size, 1, none⟩ = some (.int .i64 x4) := cell_blk hg4 1
          obtain ⟨a0, _⟩ := HA.out
          have c0 := (hT4.cell hb (fun x => x)).trans a0
          have HM4 := Lib.hid hM4
          have HT4 := Lib.hid hT4
          clear hM4 hT4 hg4 a0
          go_upto_if 78 with fail
          go_cut [9] (fun v wx => PlayEnd w w1.heap.size w1.heap.size (w1.heap.size + 1) (w1.heap.size + 1 + 1) w3.heap.size k R i4 x4 v wx)
          case first =>
            cases dr
            · obtain ⟨i1, x1, e1, ps1, ds1, he1, hI1, hS1, hR1⟩ := play_make HI.out hR.2 (by omega)
              have HS := Lib.hid hS1
              have HRr := Lib.hid hR1
              have HI1 := Lib.hid hI1
              clear hS1 hR1 hI1
              rcases he1 with rfl | rfl
              · go_wp2_with fail
                refine (HS.out _ _ _ _ _ _ _ _ _ _ _ HM4.out).mono ?_
                rintro e w5 ⟨rfl, hM5, hB5⟩
                have hT5 := touch_below HT4.out hB5 hs1
                have hs5 := hT5.size
                have HM5 := Lib.hid (hM5.box i1 x1)
                have HT5 := Lib.hid (hT5.alloc (.cells #[.int .i64 i1, .int .i64 x1] 30))
                clear hM5 hB5 hT5 HM4 HT4
                go_wp2_with fail
                refine (HRr.out _ _ _ _ _ _ _ _ _ _ _ HM5.out).mono ?_
                rintro e w6 ⟨rfl, hM6, hB6⟩
                have hT6 := touch_below HT5.out hB6 hs1
                have hs6 := hT6.size
                have hz6 := hM6.size
                have hga := hM6.blk (List.mem_cons_self)
                have ka0 : w6.cell? ⟨w5.heap.size, 0, none⟩ = some (.int .i64 i1) := cell_blk hga 0
                have ka1 : w6.cell? ⟨w5.heap.size, 1, none⟩ = some (.int .i64 x1) := cell_blk hga 1
                have hla := blk_lt hga
                have HM6 := Lib.hid hM6
                have HT6 := Lib.hid hT6
                clear hM6 hB6 hT6 hga HM5 HT5
                go_wp2_with fail
                refine (num_any 0 _).mono ?_
                rintro e w7 ⟨rfl, rfl⟩
                have e9 := HM6.out.row
                rw [HL.out] at e9
                have E9 := Lib.hid e9
                clear e9
                go_wp2_with (at_builtin; refine wpList_append_own_at _ rfl (.tmp 108) (.tmp 110) 28 rfl w1.heap.size 30 i0 _ 2 16 Try.underlying28 hi hz0 hz1 hz2 rfl (by decide) (.slice A9 L cap9) L (idc md) rfl ?o1 ⟨w6.heap.size + 1, 0, none⟩ 1 1 [.int .i64 i1, .int .i64 x1] rfl rfl ?c1 ?c2 ?c3 ?c4 ?c5 ?go)
                case o1 => exact (E9.out.alloc _).alloc _
                case c1 => exact World.news_of_block (cs := #[.int .i64 i1, .int .i64 x1]) (alloc_blk (w6.alloc (.cells #[.int .i64 i1, .int .i64 x1] 30)) _ 30 (by simp))
                case c2 => intro x hx; simp at hx; rcases hx with rfl | rfl <;> rfl
                case c3 => unfold maxLen; omega
                case c4 => omega
                case c5 => simp; omega
                case go =>
                intro v9 w8 hown9 hgrow9 _ hat9
                have TR9 : Touch (fun b => (Value.slice A9 L cap9).ownBlock = some b) w6 w8 := (((Touch.refl _ w6).alloc _).alloc _).grown hgrow9 (fun _ e => .inl e)
                have hm8 : PlayMem w1.heap.size w8 w1.heap.size (w1.heap.size + 1) (w1.heap.size + 1 + 1) R ps1 ds1 po3 ps1 ds1 (md ++ [(i1, x1)]) v9 [(w5.heap.size, i1, x1), (w3.heap.size, i4, x4)] := by
                  refine HM6.out.app TR9 (by rw [List.length_append, HL.out, idc_snoc]; exact hown9) ?_
                  intro b hb
                  rcases hat9 with e | e
                  · left; rw [← e]; exact hb
                  · right; rw [hb] at e; injection e with e; omega
                have hT8 : Touch NoB w w8 := HT6.out.trans TR9 (fun b hb => .inr (by have := (E9.out.lt b hb).1; omega))
                have HM8 := Lib.hid hm8
                have HT8 := Lib.hid hT8
                clear hown9 hgrow9 hat9 TR9 hm8 hT8 E9 HM6 HT6
                go_wp2
                go_meet
                exact ⟨ps1, ds1, po3, _, HI1.out, by rw [List.length_append, HL.out, List.length_singleton]; omega, HM8.out.forget (by simp), HT8.out⟩
              · go_wp2_with fail
                refine (HS.out _ _ _ _ _ _ _ _ _ _ _ HM4.out).mono ?_
                rintro e w5 ⟨rfl, hM5, hB5⟩
                have hT5 := touch_below HT4.out hB5 hs1
                have hs5 := hT5.size
                have HM5 := Lib.hid (hM5.box i1 x1)
                have HT5 := Lib.hid (hT5.alloc (.cells #[.int .i64 i1, .int .i64 x1] 30))
                clear hM5 hB5 hT5 HM4 HT4
                go_wp2_with fail
                refine (HRr.out _ _ _ _ _ _ _ _ _ _ _ HM5.out).mono ?_
                rintro e w6 ⟨rfl, hM6, hB6⟩
                have hT6 := touch_below HT5.out hB6 hs1
                have hs6 := hT6.size
                have hz6 := hM6.size
                have hga := hM6.blk (List.mem_cons_self)
                have ka0 : w6.cell? ⟨w5.heap.size, 0, none⟩ = some (.int .i64 i1) := cell_blk hga 0
                have ka1 : w6.cell? ⟨w5.heap.size, 1, none⟩ = some (.int .i64 x1) := cell_blk hga 1
                have hla := blk_lt hga
                have HM6 := Lib.hid hM6
                have HT6 := Lib.hid hT6
                clear hM6 hB6 hT6 hga HM5 HT5
                go_wp2_with fail
                refine (num_any 10 _).mono ?_
                rintro e w7 ⟨rfl, rfl⟩
                go_wp2
                go_meet
                exact ⟨ps1, ds1, po3, md, HI1.out, by have := HL.out; omega, (HM6.out.quiet ((Touch.refl _ _).alloc _)).forget (by simp), HT6.out.alloc _⟩
            · obtain ⟨e1, ps1, ds1, hI1, hS1, hR1⟩ := play_drop HI.out hR.2 i4 x4
              have HS := Lib.hid hS1
              have HRr := Lib.hid hR1
              have HI1 := Lib.hid hI1
              clear hS1 hR1 hI1
              go_wp2_with fail
              go_region_held3 (fun w' => w'.cell? ⟨w3.heap.size, 0, none⟩ = some (.int .i64 i4) ∧ w'.cell? ⟨w3.heap.size, 1, none⟩ = some (.int .i64 x4)) (first | go_keep | exact ⟨hk0, hk1⟩)
                (first | (go_at_call 11; refine (num_any _ _).mono ?_; rintro e w7 ⟨rfl, rfl⟩)
                       | (go_at_call 12; refine (HS.out _ _ _ _ _ _ _ _ _ _ _ (HM4.out.quiet (by repeat (first | with_reducible exact Touch.refl _ _ | with_reducible refine Touch.alloc ?_ _ | with_reducible refine Touch.drewN ?_ _ | with_reducible refine Touch.drew ?_)))).mono ?_; rintro e w5 ⟨rfl, hM5, hB5⟩; have hT5 := touch_below (HT4.out.same (by repeat (first | with_reducible exact Touch.refl _ _ | with_reducible refine Touch.alloc ?_ _ | with_reducible refine Touch.drewN ?_ _ | with_reducible refine Touch.drew ?_))) hB5 hs1; have hk0 : w5.cell? ⟨w3.heap.size, 0, none⟩ = some (.int .i64 i4) := cell_blk (hM5.blk (List.mem_singleton.2 rfl)) 0; have hk1 : w5.cell? ⟨w3.heap.size, 1, none⟩ = some (.int .i64 x4) := cell_blk (hM5.blk (List.mem_singleton.2 rfl)) 1; clear HM4 HT4; have HM4 := Lib.hid hM5; have HT4 := Lib.hid hT5; clear hM5 hB5 hT5)
                       | (go_at_call 13; refine (HRr.out _ _ _ _ _ _ _ _ _ _ _ (HM4.out.quiet (by repeat (first | with_reducible exact Touch.refl _ _ | with_reducible refine Touch.alloc ?_ _ | with_reducible refine Touch.drewN ?_ _ | with_reducible refine Touch.drew ?_)))).mono ?_; rintro e w6 ⟨rfl, hM5, hB5⟩; have hT5 := touch_below (HT4.out.same (by repeat (first | with_reducible exact Touch.refl _ _ | with_reducible refine Touch.alloc ?_ _ | with_reducible refine Touch.drewN ?_ _ | with_reducible refine Touch.drew ?_))) hB5 hs1; have hk0 : w6.cell? ⟨w3.heap.size, 0, none⟩ = some (.int .i64 i4) := cell_blk (hM5.blk (List.mem_singleton.2 rfl)) 0; have hk1 : w6.cell? ⟨w3.heap.size, 1, none⟩ = some (.int .i64 x4) := cell_blk (hM5.blk (List.mem_singleton.2 rfl)) 1; clear HM4 HT4; have HM4 := Lib.hid hM5; have HT4 := Lib.hid hT5; clear hM5 hB5 hT5))
              all_goals
                go_wp2
                go_meet
                exact ⟨ps1, ds1, po3, md, HI1.out.more (by omega), by have := HL.out; omega, HM4.out.quiet (by repeat (first | with_reducible exact Touch.refl _ _ | with_reducible refine Touch.alloc ?_ _ | with_reducible refine Touch.drewN ?_ _ | with_reducible refine Touch.drew ?_)), HT4.out.same (by repeat (first | with_reducible exact Touch.refl _ _ | with_reducible refine Touch.alloc ?_ _ | with_reducible refine Touch.drewN ?_ _ | with_reducible refine Touch.drew ?_))⟩
          case rest =>
            clear HM4 HT4 c0 k0 k1 hl4 hs4
            obtain ⟨ps2, ds2, po2, md2, hI2, hmk2, hM2, hT2⟩ := hcut
            have hg2 := hM2.blk (List.mem_singleton.2 rfl)
            have k0 : wc.cell? ⟨w3.heap.size, 0, none⟩ = some (.int .i64 i4) := cell_blk hg2 0
            have k1 : wc.cell? ⟨w3.heap.size, 1, none⟩ = some (.int .i64 x4) := cell_blk hg2 1
            have hl2 := blk_lt hg2
            have hpl : ps2.length ≤ 100000 := by have := hI2.len; omega
            have hdp : ds2.length ≤ ps2.length := by have := hI2.cnt; omega
            have hal : (allI 0 ps2).length ≤ 100000 := by have := hI2.cnt; omega
            have HI2 := Lib.hid hI2
            have HM2 := Lib.hid hM2
            have HT2 := Lib.hid hT2
            have HPL := Lib.hid (And.intro hpl (And.intro hdp hal))
            clear hI2 hM2 hT2 hg2 hpl hdp hal
            obtain ⟨bh, hbh⟩ : ∃ bh, hasI ps2 i4 x4 = bh := ⟨_, rfl⟩
            have HBH := Lib.hid hbh
            clear hbh
            obtain ⟨la, hla⟩ : ∃ la, allI 0 ps2 = la := ⟨_, rfl⟩
            rw [hla] at HPL
            have HLA := Lib.hid hla
            clear hla
            have dbh : (bh != bh) = false := by simp
            go_wp2_with fail
            go_region_held3 (fun w' => w'.cell? ⟨w3.heap.size, 0, none⟩ = some (.int .i64 i4) ∧ w'.cell? ⟨w3.heap.size, 1, none⟩ = some (.int .i64 x4)) (first | go_keep | exact ⟨hk0, hk1⟩)
              (first | (go_at_call 15; refine (play_has (HM2.out.quiet (by repeat (first | with_reducible exact Touch.refl _ _ | with_reducible refine Touch.alloc ?_ _ | with_reducible refine Touch.drewN ?_ _ | with_reducible refine Touch.drew ?_))) _ _).mono ?_; rintro e w5 ⟨rfl, hT5⟩; rw [HBH.out]; have hm := HM2.out.quiet ((Touch.same (by repeat (first | with_reducible exact Touch.refl _ _ | with_reducible refine Touch.alloc ?_ _ | with_reducible refine Touch.drewN ?_ _ | with_reducible refine Touch.drew ?_)) hT5)); have ht := HT2.out.same (Touch.same (by repeat (first | with_reducible exact Touch.refl _ _ | with_reducible refine Touch.alloc ?_ _ | with_reducible refine Touch.drewN ?_ _ | with_reducible refine Touch.drew ?_)) hT5); have hk0 : w5.cell? ⟨w3.heap.size, 0, none⟩ = some (.int .i64 i4) := cell_blk (hm.blk (List.mem_singleton.2 rfl)) 0; have hk1 : w5.cell? ⟨w3.heap.size, 1, none⟩ = some (.int .i64 x4) := cell_blk (hm.blk (List.mem_singleton.2 rfl)) 1; clear HM2 HT2; have HM2 := Lib.hid hm; have HT2 := Lib.hid ht; clear hm ht hT5)
                     | (go_at_call 16; refine (play_rhas (HM2.out.quiet (by repeat (first | with_reducible exact Touch.refl _ _ | with_reducible refine Touch.alloc ?_ _ | with_reducible refine Touch.drewN ?_ _ | with_reducible refine Touch.drew ?_))) _ _).mono ?_; rintro e w6 ⟨rfl, hT5⟩; rw [HBH.out]; have hm := HM2.out.quiet ((Touch.same (by repeat (first | with_reducible exact Touch.refl _ _ | with_reducible refine Touch.alloc ?_ _ | with_reducible refine Touch.drewN ?_ _ | with_reducible refine Touch.drew ?_)) hT5)); have ht := HT2.out.same (Touch.same (by repeat (first | with_reducible exact Touch.refl _ _ | with_reducible refine Touch.alloc ?_ _ | with_reducible refine Touch.drewN ?_ _ | with_reducible refine Touch.drew ?_)) hT5); have hk0 : w6.cell? ⟨w3.heap.size, 0, none⟩ = some (.int .i64 i4) := cell_blk (hm.blk (List.mem_singleton.2 rfl)) 0; have hk1 : w6.cell? ⟨w3.heap.size, 1, none⟩ = some (.int .i64 x4) := cell_blk (hm.blk (List.mem_singleton.2 rfl)) 1; clear HM2 HT2; have HM2 := Lib.hid hm; have HT2 := Lib.hid ht; clear hm ht hT5)
                     | (go_at_call 18; refine (play_all (HM2.out.quiet (by repeat (first | with_reducible exact Touch.refl _ _ | with_reducible refine Touch.alloc ?_ _ | with_reducible refine Touch.drewN ?_ _ | with_reducible refine Touch.drew ?_))) HPL.out.2.1 HPL.out.1).mono ?_; rintro e w7 ⟨v1, rfl, hrow1, hT5⟩; rw [HLA.out] at hrow1; obtain ⟨A1, cp1, rfl, _, _⟩ := row_any hrow1; (try (have hx := row_touch HA2.out hT5 (fun _ _ x => x); clear HA2; have HA2 := Lib.hid hx; clear hx)); have HA1 := Lib.hid hrow1; clear hrow1; have hm := HM2.out.quiet ((Touch.same (by repeat (first | with_reducible exact Touch.refl _ _ | with_reducible refine Touch.alloc ?_ _ | with_reducible refine Touch.drewN ?_ _ | with_reducible refine Touch.drew ?_)) hT5)); have ht := HT2.out.same (Touch.same (by repeat (first | with_reducible exact Touch.refl _ _ | with_reducible refine Touch.alloc ?_ _ | with_reducible refine Touch.drewN ?_ _ | with_reducible refine Touch.drew ?_)) hT5); have hk0 : w7.cell? ⟨w3.heap.size, 0, none⟩ = some (.int .i64 i4) := cell_blk (hm.blk (List.mem_singleton.2 rfl)) 0; have hk1 : w7.cell? ⟨w3.heap.size, 1, none⟩ = some (.int .i64 x4) := cell_blk (hm.blk (List.mem_singleton.2 rfl)) 1; clear HM2 HT2; have HM2 := Lib.hid hm; have HT2 := Lib.hid ht; clear hm ht hT5)
                     | (go_at_call 19; refine (play_rall (HM2.out.quiet (by repeat (first | with_reducible exact Touch.refl _ _ | with_reducible refine Touch.alloc ?_ _ | with_reducible refine Touch.drewN ?_ _ | with_reducible refine Touch.drew ?_))) HPL.out.1).mono ?_; rintro e w8 ⟨v2, rfl, hrow2, hT5⟩; rw [HLA.out] at hrow2; obtain ⟨A2, cp2, rfl, _, _⟩ := row_any hrow2; (try (have hx := row_touch HA1.out hT5 (fun _ _ x => x); clear HA1; have HA1 := Lib.hid hx; clear hx)); have HA2 := Lib.hid hrow2; clear hrow2; have hm := HM2.out.quiet ((Touch.same (by repeat (first | with_reducible exact Touch.refl _ _ | with_reducible refine Touch.alloc ?_ _ | with_reducible refine Touch.drewN ?_ _ | with_reducible refine Touch.drew ?_)) hT5)); have ht := HT2.out.same (Touch.same (by repeat (first | with_reducible exact Touch.refl _ _ | with_reducible refine Touch.alloc ?_ _ | with_reducible refine Touch.drewN ?_ _ | with_reducible refine Touch.drew ?_)) hT5); have hk0 : w8.cell? ⟨w3.heap.size, 0, none⟩ = some (.int .i64 i4) := cell_blk (hm.blk (List.mem_singleton.2 rfl)) 0; have hk1 : w8.cell? ⟨w3.heap.size, 1, none⟩ = some (.int .i64 x4) := cell_blk (hm.blk (List.mem_singleton.2 rfl)) 1; clear HM2 HT2; have HM2 := Lib.hid hm; have HT2 := Lib.hid ht; clear hm ht hT5)
                     | (go_at_call 17; refine (same_ids _ _ _ _ _ _ la _ HA1.out HA2.out HPL.out.2.2).mono ?_; rintro e w9 ⟨rfl, hT5⟩; have hm := HM2.out.quiet ((Touch.same (by repeat (first | with_reducible exact Touch.refl _ _ | with_reducible refine Touch.alloc ?_ _ | with_reducible refine Touch.drewN ?_ _ | with_reducible refine Touch.drew ?_)) hT5)); have ht := HT2.out.same (Touch.same (by repeat (first | with_reducible exact Touch.refl _ _ | with_reducible refine Touch.alloc ?_ _ | with_reducible refine Touch.drewN ?_ _ | with_reducible refine Touch.drew ?_)) hT5); have hk0 : w9.cell? ⟨w3.heap.size, 0, none⟩ = some (.int .i64 i4) := cell_blk (hm.blk (List.mem_singleton.2 rfl)) 0; have hk1 : w9.cell? ⟨w3.heap.size, 1, none⟩ = some (.int .i64 x4) := cell_blk (hm.blk (List.mem_singleton.2 rfl)) 1; clear HM2 HT2; have HM2 := Lib.hid hm; have HT2 := Lib.hid ht; clear hm ht hT5))
            all_goals
              go_wp2
              go_roundw
              case rel => exact ⟨k + 1, by omega, by go_num, ps2, ds2, po2, md2, HI2.out, hmk2, (HM2.out.quiet (by repeat (first | with_reducible exact Touch.refl _ _ | with_reducible refine Touch.alloc ?_ _ | with_reducible refine Touch.drewN ?_ _ | with_reducible refine Touch.drew ?_))).forget (by simp), HT2.out.same (by repeat (first | with_reducible exact Touch.refl _ _ | with_reducible refine Touch.alloc ?_ _ | with_reducible refine Touch.drewN ?_ _ | with_reducible refine Touch.drew ?_))⟩
              case measure => simp [intOf]; omega
    · have hsz := HTr.out.size
      go_wp2
      go_ret
      exact ⟨rfl, HTr.out⟩
end Go.Proofs.Ytmafhcfdamhejaa
