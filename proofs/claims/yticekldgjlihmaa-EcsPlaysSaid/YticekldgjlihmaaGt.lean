/-
  The walk of EcsPlays.
-/
import Derived.Test.YticekldgjlihmaaM7
import Derived.Deep.DeepCutAuto
import Derived.Deep.CutBlock
import Derived.Deep.RegionWith
import Derived.Deep.RegionHeld3
namespace Go.Proofs.Yticekldgjlihmaa
open Go.ChangeShapes Go.WideShapes Go.ChangeAt Go.RowKit Go.Maps
set_option maxRecDepth 100000
set_option maxHeartbeats 40000000

/-- At the head of the loop. -/
def PlEnd (w : World) (g o r : Nat) (room tables : Int) (k : Nat) (v : Value) (wr : World) : Prop :=
  ∃ (c : Nat) (F Fo G : Nat → Prop) (ps : List (Int × Bool)) (ds : List Int) (bs : List Tb) (md : List (Int × Int)), c ≤ 4 * k ∧ md.length ≤ k ∧ PM w wr g o r room tables c F Fo G ps ds bs ps ds bs v md
def PlRel (w : World) (g o r : Nat) (room tables : Int) (N : Nat) (v v2 : Value) (wr : World) : Prop :=
  ∃ k : Nat, k ≤ N ∧ v2 = .int .i64 k ∧ PlEnd w g o r room tables k v wr

theorem plays_in (room tables : Int) (A : Option Addr) (N cap : Nat) (w : World) (hN : N ≤ 60)
    (hz : ∀ j : Nat, j < N → ∃ b off way made at_ i x c v Ac n cp all nn cl, A = some ⟨b, off, none⟩ ∧ b < w.heap.size ∧ MActAt w b off j way made at_ i x c v Ac n cp all nn ∧
      I64 i ∧ I64 x ∧ (0 ≤ all ∧ all < 65536) ∧ (0 ≤ nn ∧ nn < 65536) ∧ n ≤ 9223372036854775807 ∧ cl.length = n ∧ CellsAt w NoB Ac cl) :
    Calls Try.prog 3 #[.int .i64 room, .int .i64 tables, .slice A N cap] w fun e w' => e = .returned (.bool true) ∧ Touch NoB w w' := by
  have HZ := Lib.hid hz
  clear hz
  obtain ⟨i0, hi, hz0, hz1, hz2⟩ := info_parts info_id
  have d3 : decide (60 < (N : Int)) = false := by simp; omega
  go_enter Try.func3, Try.ntmps3
  go_wp2_with fail
  refine (ealive_any w).mono ?_
  rintro e w1 ⟨rfl, hT1⟩
  have HT1 := Lib.hid hT1
  clear hT1
  go_wp2_with fail
  refine (new_st room tables w1).mono ?_
  rintro e w2 ⟨g, F, rfl, hS2, hT2, hF2⟩
  have HS2 := Lib.hid (And.intro hS2 (And.intro hT2 hF2))
  clear hS2 hT2 hF2
  go_wp2_with fail
  refine (new_st 9 9 w2).mono ?_
  rintro e w3 ⟨o, Fo, rfl, hS3, hT3, hF3⟩
  rw [show roomI 9 = 9 from by decide, show withinI 9 1 1000 = 9 from by decide] at hS3
  have HS3 := Lib.hid (And.intro hS3 (And.intro hT3 hF3))
  clear hS3 hT3 hF3
  go_wp2_with fail
  refine (rs_new room tables w3).mono ?_
  rintro e w4 ⟨φ, r, gi, rfl, hR4, hT4, hF4⟩
  have hI4 : InW w4 w3.heap.size (fun b => φ b ≠ 0) := fun b hb => ⟨hF4 b hb, hR4.wf b hb⟩
  have HE : Hid (PlEnd w g o r (roomI room) (withinI tables 1 1000) 0 (.slice none 0 0) w4) := by
    obtain ⟨hS2, hT2, hF2⟩ := HS2.out
    obtain ⟨hS3, hT3, hF3⟩ := HS3.out
    have s1 := HT1.out.size
    have s2 := hT2.size
    have s3 := hT3.size
    have s4 := hT4.size
    refine ⟨0, F, Fo, fun b => φ b ≠ 0, [], [], [], [], by omega, by simp, ?_⟩
    exact ⟨(hS2.quiet hT3).quiet hT4, ⟨_, _, _, hS3.quiet hT4⟩, ⟨φ, gi, [], .slice none 0 0, hR4, rfl, fun b hb => hb⟩, fun b hb => by have := hF2 b hb; omega, fun b hb => by have := hF3 b hb; omega, fun b hb => by have := hI4 b hb; omega, fun b h1 h2 => by have := hF2 b h1; have := hF3 b h2; omega, fun b h1 h2 => by have := hF2 b h1; have := hI4 b h2; omega, fun b h1 h2 => by have := hF3 b h1; have := hI4 b h2; omega, World.ownsRow_nil _ _ _ _, fun b hb => by simp [Value.ownBlock] at hb, fun b hb => by simp [Value.ownBlock] at hb, fun b hb => by simp [Value.ownBlock] at hb, fun p hp => by simp at hp, HT1.out.same (hT2.same (hT3.same hT4))⟩
  clear HS2 HS3 hR4 hT4 hF4 hI4
  obtain ⟨rm, hrm⟩ : ∃ z, roomI room = z := ⟨_, rfl⟩
  obtain ⟨tb, htb⟩ : ∃ z, withinI tables 1 1000 = z := ⟨_, rfl⟩
  rw [hrm, htb] at HE
  clear hrm htb
  go_wp2
  go_loopw [11, 12] (fun v11 v12 wr => PlRel w g o r rm tb N v11 v12 wr) (fun _ v12 _ => N - (intOf v12).toNat)
  case atStart => exact ⟨0, Nat.zero_le _, rfl, HE.out⟩
  case round =>
    obtain ⟨wo, rfl⟩ : ∃ x, x = wr := ⟨_, rfl⟩
    clear HE
    obtain ⟨k, hkN, rfl, c, F, Fo, G, ps, ds, bs, md, hc, hmd, hm⟩ := hrel
    obtain ⟨n, hn⟩ : ∃ n, md.length = n := ⟨_, rfl⟩
    have hrow := hm.row
    rw [hn] at hrow hmd
    obtain ⟨A11, c11, rfl, hq11, hm11⟩ := row_any hrow
    unfold maxLen at hm11
    have HT := Lib.hid hm.t
    have HM := Lib.hid hm
    have HN := Lib.hid hn
    have hsr := HT.out.size
    clear hm hrow hn
    by_cases hlt : k < N
    · obtain ⟨b, off, way, made, at_, i, x, c2, v2, Ac, n', cp, all, nn, cl, rfl, hb, hact, hi64, hx64, hall, hnn, hn9, hcl, hC⟩ := HZ.out k hlt
      obtain ⟨a0, a1, a2, a3, a4, a5, a6, a7, a8, a9⟩ := hact
      have c0 := (HT.out.cell hb (fun x => x)).trans a0
      have c1 := (HT.out.cell hb (fun x => x)).trans a1
      have c2' := (HT.out.cell hb (fun x => x)).trans a2
      have c3 := (HT.out.cell hb (fun x => x)).trans a3
      have c4 := (HT.out.cell hb (fun x => x)).trans a4
      have c5 := (HT.out.cell hb (fun x => x)).trans a5
      have c6 := (HT.out.cell hb (fun x => x)).trans a6
      have c7 := (HT.out.cell hb (fun x => x)).trans a7
      have c8 := (HT.out.cell hb (fun x => x)).trans a8
      have c9 := (HT.out.cell hb (fun x => x)).trans a9
      have hbr : b < wo.heap.size := by omega
      have HC := Lib.hid (And.intro hcl hC)
      have HI := Lib.hid (And.intro hi64 hx64)
      clear a0 a1 a2 a3 a4 a5 a6 a7 a8 a9 hcl hC hi64 hx64
      by_cases h30 : 30 < n'
      · go_wp2
        go_ret
        exact ⟨rfl, HT.out.same (by repeat (first | with_reducible exact Touch.refl _ _ | with_reducible refine Touch.alloc ?_ _ | with_reducible refine Touch.drewN ?_ _ | with_reducible refine Touch.drew ?_))⟩
      · have HKB := Lib.hid (kb_new HM.out (cs := #[.int .i64 way, .bool made, .int .i64 at_, .int .i64 i, .int .i64 x, .int .i64 c2, .int .i64 v2, .slice Ac n' cp, .int .u16 all, .int .u16 nn]) (t := 36) rfl)
        have HM0 := Lib.hid (HM.out.quiet ((Touch.refl NoB wo).alloc (.cells #[.int .i64 way, .bool made, .int .i64 at_, .int .i64 i, .int .i64 x, .int .i64 c2, .int .i64 v2, .slice Ac n' cp, .int .u16 all, .int .u16 nn] 36)))
        have hkb := HKB.out.h
        go_wp2_with fail
        refine (pm_other2 HM0.out HKB.out (by omega)).mono ?_
        rintro e w5 ⟨i5, x5, z5, rfl, Fo5, hm5, ka5⟩
        have hkb5 := ka5.h
        obtain ⟨ga, hga⟩ : ∃ ga, wo.heap.size = ga := ⟨_, rfl⟩
        rw [hga] at ka5 hkb5
        rw [hga]
        have HE5 := Lib.hid (fun gd (hd : w5.heap.size = gd) => pq_lay hm5 ka5 hd i x)
        have g3 : w5.cell? ⟨ga, 3, none⟩ = some (.int .i64 i) := cell_blk hkb5 3
        have g4 : w5.cell? ⟨ga, 4, none⟩ = some (.int .i64 x) := cell_blk hkb5 4
        have hgl := blk_lt hkb5
        clear hm5 ka5 hkb5 hkb HKB HM0 HM c0 c1 c2' c3 c4 c5 c6 c7 c8 c9 hga hbr hsr
        go_upto_region 16 with fail
        obtain ⟨wa, hwa⟩ : ∃ W, w5.alloc (.cells #[.int .i64 i, .int .i64 x] 30) = W := ⟨_, rfl⟩
        obtain ⟨gd, hgd⟩ : ∃ G, w5.heap.size = G := ⟨_, rfl⟩
        have he := HE5.out gd hgd
        rw [hwa] at he
        rw [hwa, hgd]
        clear HE5 hwa hgd g3 g4 hgl
        have hcc : c + 2 ≤ 4 * k + 2 := by omega
        obtain ⟨c4, hc4⟩ : ∃ c4, c + 2 = c4 := ⟨_, rfl⟩
        rw [hc4] at he hcc
        clear hc4 hc
        have HE := Lib.hid he
        have q1 : wa.cell? ⟨ga, 1, none⟩ = some (.bool made) := cell_blk he.cells.1 1
        have q2 : wa.cell? ⟨ga, 2, none⟩ = some (.int .i64 at_) := cell_blk he.cells.1 2
        have hga := blk_lt he.cells.1
        have hgd := blk_lt he.cells.2
        clear he
        have hno : (made = false) ∨ (made = true ∧ decide ((0 : Int) ≤ at_) = false) ∨ (made = true ∧ decide ((0 : Int) ≤ at_) = true ∧ decide (at_ < (n : Int)) = false) ∨ (made = true ∧ decide ((0 : Int) ≤ at_) = true ∧ decide (at_ < (n : Int)) = true) := by
          cases made
          · exact .inl rfl
          · cases h0 : decide ((0 : Int) ≤ at_)
            · exact .inr (.inl ⟨rfl, rfl⟩)
            · cases h1 : decide (at_ < (n : Int))
              · exact .inr (.inr (.inl ⟨rfl, rfl, rfl⟩))
              · exact .inr (.inr (.inr ⟨rfl, rfl, rfl⟩))
        go_cut [74] (fun v74 wx => ∃ bb, v74 = .bool bb ∧ (bb = true → 0 ≤ at_ ∧ at_ < (n : Int)) ∧ wx = wa)
        case first =>
          rcases hno with rfl | ⟨rfl, d0⟩ | ⟨rfl, d0, d1⟩ | ⟨rfl, d0, d1⟩
          · go_wp2_with fail
            go_meet
            exact ⟨false, rfl, (fun e => by cases e), rfl⟩
          · go_wp2_with fail
            go_meet
            exact ⟨false, rfl, (fun e => by cases e), rfl⟩
          · go_wp2_with fail
            go_meet
            exact ⟨false, rfl, (fun e => by cases e), rfl⟩
          · go_wp2_with fail
            go_meet
            exact ⟨true, rfl, (fun _ => ⟨of_decide_eq_true d0, of_decide_eq_true d1⟩), rfl⟩
        case rest =>
          clear hno
          obtain ⟨bb, rfl, hbb, rfl⟩ := hcut
          obtain ⟨wa, rfl⟩ : ∃ z, z = wc := ⟨_, rfl⟩
          go_upto_if 74 with fail
          go_cut [] (fun wx => ∃ i1 x1, I64 i1 ∧ I64 x1 ∧ EndS w g o r rm tb c4 ps ds bs ps ds bs (.slice A11 n c11) md ga gd #[.int .i64 way, .bool made, .int .i64 at_, .int .i64 i, .int .i64 x, .int .i64 c2, .int .i64 v2, .slice Ac n' cp, .int .u16 all, .int .u16 nn] i1 x1 wx)
          case first =>
            cases bb
            · go_wp2
              go_meet
              exact ⟨i, x, HI.out.1, HI.out.2, HE.out⟩
            · obtain ⟨h0, h1⟩ := hbb rfl
              obtain ⟨a, rfl⟩ := Int.eq_ofNat_of_zero_le h0
              have han : a < n := by omega
              obtain ⟨⟨i1, x1⟩, ha⟩ : ∃ p, md[a]? = some p := ⟨_, List.getElem?_eq_getElem (by rw [HN.out]; exact han)⟩
              obtain ⟨F1, Fo1, G1, hq⟩ := HE.out
              have hok := hq.m.ok _ (List.mem_of_getElem? ha)
              have hrow := hq.m.row
              rw [HN.out] at hrow
              obtain ⟨q, cc, hv, ha_, hb_, hob⟩ := row_form hrow (by omega)
              injection hv with hv1 hv2 hv3
              subst hv1
              clear hv2 hv3 ha_ hb_ cc hob hrow
              obtain ⟨e0, e1, e2⟩ := hq.m.at_ HN.out ha
              have hfz0 := free_blk hq.d.h 0
              have hfz1 := free_blk hq.d.h 1
              have d0 := cell_blk hq.d.h 0
              have d1 := cell_blk hq.d.h 1
              have HQ := Lib.hid (And.intro hq hok)
              clear hq hok HE ha
              go_wp2
              go_meet
              exact ⟨i1, x1, HQ.out.2.1, HQ.out.2.2, F1, Fo1, G1, HQ.out.1.store i1 x1 (Touch.setCell (F := fun b => b = gd) (p := ⟨gd, 1, none⟩) (Touch.setCell (F := fun b => b = gd) (p := ⟨gd, 0, none⟩) (Touch.refl _ wa) (.inl rfl) _) (.inl rfl) _) (by simpa using set_blk (set_blk HQ.out.1.d.h 0 (.int .i64 i1)) 1 (.int .i64 x1))⟩
          case rest =>
            obtain ⟨i1, x1, hi1, hx1, he⟩ := hcut
            obtain ⟨wb, rfl⟩ : ∃ z, z = wc := ⟨_, rfl⟩
            clear HE q1 q2 hga hgd hbb
            have HE := Lib.hid he
            have q0 : wb.cell? ⟨ga, 0, none⟩ = some (.int .i64 way) := cell_blk he.cells.1 0
            have q5 : wb.cell? ⟨ga, 5, none⟩ = some (.int .i64 c2) := cell_blk he.cells.1 5
            have q6 : wb.cell? ⟨ga, 6, none⟩ = some (.int .i64 v2) := cell_blk he.cells.1 6
            have q7 : wb.cell? ⟨ga, 7, none⟩ = some (.slice Ac n' cp) := cell_blk he.cells.1 7
            have r0 : wb.cell? ⟨gd, 0, none⟩ = some (.int .i64 i1) := cell_blk he.cells.2 0
            have r1 : wb.cell? ⟨gd, 1, none⟩ = some (.int .i64 x1) := cell_blk he.cells.2 1
            have hga := blk_lt he.cells.1
            have hgd := blk_lt he.cells.2
            clear he
            go_upto_block 2 with fail
            go_cut [11] (fun v11 wx => ∃ c5 qs es cs md', c5 ≤ 4 * (k + 1) ∧ md'.length ≤ k + 1 ∧ EndS w g o r rm tb c5 qs es cs qs es cs v11 md' ga gd #[.int .i64 way, .bool made, .int .i64 at_, .int .i64 i, .int .i64 x, .int .i64 c2, .int .i64 v2, .slice Ac n' cp, .int .u16 all, .int .u16 nn] i1 x1 wx)
            case first =>
              by_cases e0 : way = 0
              · subst e0
                as_aux_lemma =>
                  obtain ⟨i7, x7, z, qs, es, cs, hix, h1, h2⟩ := pq_spawn HE.out (by omega) Ac n' cp cl HC.out.1 (by omega) HC.out.2
                  have P1 := Lib.hid h1
                  have P2 := Lib.hid h2
                  have HIX := Lib.hid hix
                  clear h1 h2 hix
                  go_wp2_with fail
                  refine (P1.out _ (by repeat (first | with_reducible exact Touch.refl _ _ | with_reducible refine Touch.alloc ?_ _ | with_reducible refine Touch.drewN ?_ _ | with_reducible refine Touch.drew ?_))).mono ?_
                  rintro e w5 ⟨rfl, hq⟩
                  have hk7 := cell_blk hq.cells.1 7
                  have hlj := blk_lt hq.cells.1
                  have HQ := Lib.hid hq
                  clear hq
                  go_wp2_with fail
                  refine (P2.out w5 _ #[.int .i64 i7, .int .i64 x7] 30 HQ.out).mono ?_
                  rintro e w6 ⟨rfl, hbx, hq⟩
                  clear HQ hk7 hlj
                  have HQ := Lib.hid hq
                  have y0 : w6.cell? ⟨w5.heap.size, 0, none⟩ = some (.int .i64 i7) := cell_blk hbx 0
                  have y1 : w6.cell? ⟨w5.heap.size, 1, none⟩ = some (.int .i64 x7) := cell_blk hbx 1
                  have hy := blk_lt hbx
                  have dz : (z != z) = false := by simp
                  clear hq hbx
                  by_cases hz : z = 0
                  · subst hz
                    have HR := Lib.hid (fun (W : World) (t : Touch NoB w6 W) => show W.ownsRow w.heap.size 30 2 (.slice A11 n c11) n (idc md) ∧ w.heap.size ≤ W.heap.size from by
                      obtain ⟨F6, Fo6, G6, h6⟩ := HQ.out.quiet t
                      have h7 := h6.m.row
                      rw [HN.out] at h7
                      exact ⟨h7, h6.m.hb⟩)
                    go_wp2_with (first | (go_at_call 9; refine (num_any _ _).mono ?_; rintro e w' ⟨rfl, rfl⟩) | (at_builtin; refine wpList_append_own_at _ rfl (.tmp 109) (.tmp 111) 28 rfl w.heap.size 30 i0 _ 2 16 Try.underlying28 hi hz0 hz1 hz2 rfl (by decide) (.slice A11 n c11) n (idc md) rfl ?o5 ⟨w6.heap.size + 1, 0, none⟩ 1 1 [.int .i64 i7, .int .i64 x7] rfl rfl ?a5 ?b5 ?c5 ?d5 ?e5 ?go5))
                    case o5 => exact (HR.out _ (by repeat (first | with_reducible exact Touch.refl _ _ | with_reducible refine Touch.alloc ?_ _ | with_reducible refine Touch.drewN ?_ _ | with_reducible refine Touch.drew ?_))).1
                    case a5 => exact World.news_of_block (cs := #[.int .i64 i7, .int .i64 x7]) (alloc_blk _ _ _ (by first | rfl | simp))
                    case b5 => intro u hu; simp at hu; rcases hu with rfl | rfl <;> rfl
                    case c5 => unfold maxLen; omega
                    case d5 => omega
                    case e5 => exact (HR.out _ (by repeat (first | with_reducible exact Touch.refl _ _ | with_reducible refine Touch.alloc ?_ _ | with_reducible refine Touch.drewN ?_ _ | with_reducible refine Touch.drew ?_))).2
                    case go5 =>
                    intro v7 w7 hown hgrow _ hat
                    have hq7 : EndS w g o r rm tb (c4 + 2) qs es cs qs es cs v7 (md ++ [(i7, x7)]) ga gd #[.int .i64 0, .bool made, .int .i64 at_, .int .i64 i, .int .i64 x, .int .i64 c2, .int .i64 v2, .slice Ac n' cp, .int .u16 all, .int .u16 nn] i1 x1 w7 := by
                      obtain ⟨F6, Fo6, G6, h6⟩ := HQ.out
                      exact ⟨F6, Fo6, G6, (h6.quiet (by repeat (first | with_reducible exact Touch.refl _ _ | with_reducible refine Touch.alloc ?_ _ | with_reducible refine Touch.drewN ?_ _ | with_reducible refine Touch.drew ?_))).app HIX.out.1 HIX.out.2 (by rw [HN.out]; exact hown) hgrow (hat.imp id fun e => e.trans (by simp))⟩
                    have HQ7 := Lib.hid hq7
                    clear hown hgrow hat hq7
                    go_wp2
                    go_meet
                    exact ⟨c4 + 2, qs, es, cs, md ++ [(i7, x7)], by omega, by rw [List.length_append, HN.out]; simp; omega, HQ7.out.quiet (by repeat (first | with_reducible exact Touch.refl _ _ | with_reducible refine Touch.alloc ?_ _ | with_reducible refine Touch.drewN ?_ _ | with_reducible refine Touch.drew ?_))⟩
                  · have fz : (z == 0) = false := by simpa using hz
                    go_wp2_with (go_at_call 9; refine (num_any _ _).mono ?_; rintro e w' ⟨rfl, rfl⟩)
                    go_meet
                    exact ⟨c4 + 2, qs, es, cs, md, by omega, by rw [HN.out]; omega, HQ.out.quiet (by repeat (first | with_reducible exact Touch.refl _ _ | with_reducible refine Touch.alloc ?_ _ | with_reducible refine Touch.drewN ?_ _ | with_reducible refine Touch.drew ?_))⟩
              · by_cases e1 : way = 1
                · subst e1
                  as_aux_lemma =>
                    obtain ⟨z, qs, es, cs, h1, h2⟩ := pq_despawn HE.out (by omega) hi1 hx1
                    have P1 := Lib.hid h1
                    have P2 := Lib.hid h2
                    clear h1 h2
                    go_wp2_with fail
                    go_region_held3 (fun w' => w'.cell? ⟨gd, 0, none⟩ = some (.int .i64 i1) ∧ w'.cell? ⟨gd, 1, none⟩ = some (.int .i64 x1) ∧ w'.cell? ⟨ga, 5, none⟩ = some (.int .i64 c2) ∧ w'.cell? ⟨ga, 6, none⟩ = some (.int .i64 v2)) (first | exact ⟨hk0, hk1, hk5, hk6⟩ | exact ⟨r0, r1, q5, q6⟩ | go_keep)
                      (first | (go_at_call 9; refine (num_any _ _).mono ?_; rintro e w' ⟨rfl, rfl⟩)
                             | (go_at_call 10; refine (P1.out _ (by repeat (first | with_reducible exact Touch.refl _ _ | with_reducible refine Touch.alloc ?_ _ | with_reducible refine Touch.drewN ?_ _ | with_reducible refine Touch.drew ?_))).mono ?_; rintro e w5 ⟨rfl, hq⟩; have hk0 := cell_blk hq.cells.2 0; have hk1 := cell_blk hq.cells.2 1; have hk5 := cell_blk hq.cells.1 5; have hk6 := cell_blk hq.cells.1 6; have hlk := blk_lt hq.cells.2; have hlj := blk_lt hq.cells.1; (try clear HQ); have HQ := Lib.hid hq; clear hq)
                             | (go_at_call 11; refine (P2.out _ _ (HQ.out.quiet (by repeat (first | with_reducible exact Touch.refl _ _ | with_reducible refine Touch.alloc ?_ _ | with_reducible refine Touch.drewN ?_ _ | with_reducible refine Touch.drew ?_)))).mono ?_; rintro e w5 ⟨rfl, hq⟩; have hk0 := cell_blk hq.cells.2 0; have hk1 := cell_blk hq.cells.2 1; have hk5 := cell_blk hq.cells.1 5; have hk6 := cell_blk hq.cells.1 6; have hlk := blk_lt hq.cells.2; have hlj := blk_lt hq.cells.1; (try clear HQ); have HQ := Lib.hid hq; clear hq))
                    all_goals
                      go_wp2
                      go_meet
                      exact ⟨c4 + 2, qs, es, cs, md, by omega, by rw [HN.out]; omega, HQ.out.quiet (by repeat (first | with_reducible exact Touch.refl _ _ | with_reducible refine Touch.alloc ?_ _ | with_reducible refine Touch.drewN ?_ _ | with_reducible refine Touch.drew ?_))⟩
                · by_cases e2 : way = 2
                  · subst e2
                    as_aux_lemma =>
                      obtain ⟨z, cs, h1, h2⟩ := pq_put HE.out (by omega) hi1 hx1 c2 v2
                      have P1 := Lib.hid h1
                      have P2 := Lib.hid h2
                      clear h1 h2
                      go_wp2_with fail
                      go_region_held3 (fun w' => w'.cell? ⟨gd, 0, none⟩ = some (.int .i64 i1) ∧ w'.cell? ⟨gd, 1, none⟩ = some (.int .i64 x1) ∧ w'.cell? ⟨ga, 5, none⟩ = some (.int .i64 c2) ∧ w'.cell? ⟨ga, 6, none⟩ = some (.int .i64 v2)) (first | exact ⟨hk0, hk1, hk5, hk6⟩ | exact ⟨r0, r1, q5, q6⟩ | go_keep)
                        (first | (go_at_call 9; refine (num_any _ _).mono ?_; rintro e w' ⟨rfl, rfl⟩)
                               | (go_at_call 12; refine (P1.out _ (by repeat (first | with_reducible exact Touch.refl _ _ | with_reducible refine Touch.alloc ?_ _ | with_reducible refine Touch.drewN ?_ _ | with_reducible refine Touch.drew ?_))).mono ?_; rintro e w5 ⟨rfl, hq⟩; have hk0 := cell_blk hq.cells.2 0; have hk1 := cell_blk hq.cells.2 1; have hk5 := cell_blk hq.cells.1 5; have hk6 := cell_blk hq.cells.1 6; have hlk := blk_lt hq.cells.2; have hlj := blk_lt hq.cells.1; (try clear HQ); have HQ := Lib.hid hq; clear hq)
                               | (go_at_call 13; refine (P2.out _ _ (HQ.out.quiet (by repeat (first | with_reducible exact Touch.refl _ _ | with_reducible refine Touch.alloc ?_ _ | with_reducible refine Touch.drewN ?_ _ | with_reducible refine Touch.drew ?_)))).mono ?_; rintro e w5 ⟨rfl, hq⟩; have hk0 := cell_blk hq.cells.2 0; have hk1 := cell_blk hq.cells.2 1; have hk5 := cell_blk hq.cells.1 5; have hk6 := cell_blk hq.cells.1 6; have hlk := blk_lt hq.cells.2; have hlj := blk_lt hq.cells.1; (try clear HQ); have HQ := Lib.hid hq; clear hq))
                      all_goals
                        go_wp2
                        go_meet
                        exact ⟨c4 + 2, ps, ds, cs, md, by omega, by rw [HN.out]; omega, HQ.out.quiet (by repeat (first | with_reducible exact Touch.refl _ _ | with_reducible refine Touch.alloc ?_ _ | with_reducible refine Touch.drewN ?_ _ | with_reducible refine Touch.drew ?_))⟩
                  · by_cases e3 : way = 3
                    · subst e3
                      as_aux_lemma =>
                        obtain ⟨y, z, cs, h1, h2⟩ := pq_take HE.out (by omega) hi1 hx1 c2
                        have P1 := Lib.hid h1
                        have P2 := Lib.hid h2
                        clear h1 h2
                        go_wp2_with fail
                        refine (P1.out _ (by repeat (first | with_reducible exact Touch.refl _ _ | with_reducible refine Touch.alloc ?_ _ | with_reducible refine Touch.drewN ?_ _ | with_reducible refine Touch.drew ?_))).mono ?_
                        rintro e w5 ⟨rfl, hq⟩
                        have hk0 := cell_blk hq.cells.2 0; have hk1 := cell_blk hq.cells.2 1; have hk5 := cell_blk hq.cells.1 5; have hk6 := cell_blk hq.cells.1 6; have hlk := blk_lt hq.cells.2; have hlj := blk_lt hq.cells.1
                        have HQ := Lib.hid hq
                        clear hq
                        go_wp2_with fail
                        refine (P2.out _ _ HQ.out).mono ?_
                        rintro e w6 ⟨rfl, hq⟩
                        clear HQ hk0 hk1 hk5 hk6 hlk hlj
                        have HQ := Lib.hid hq
                        clear hq
                        go_wp2_with (go_at_call 9; refine (num_any _ _).mono ?_; rintro e w' ⟨rfl, rfl⟩)
                        go_meet
                        exact ⟨c4 + 2, ps, ds, cs, md, by omega, by rw [HN.out]; omega, HQ.out.quiet (by repeat (first | with_reducible exact Touch.refl _ _ | with_reducible refine Touch.alloc ?_ _ | with_reducible refine Touch.drewN ?_ _ | with_reducible refine Touch.drew ?_))⟩
                    · by_cases e4 : way = 4
                      · subst e4
                        as_aux_lemma =>
                          obtain ⟨y, z, h1, h2⟩ := pq_get HE.out hi1 hx1 c2
                          have P1 := Lib.hid h1
                          have P2 := Lib.hid h2
                          clear h1 h2
                          go_wp2_with fail
                          refine (P1.out _ (by repeat (first | with_reducible exact Touch.refl _ _ | with_reducible refine Touch.alloc ?_ _ | with_reducible refine Touch.drewN ?_ _ | with_reducible refine Touch.drew ?_))).mono ?_
                          rintro e w5 ⟨rfl, hq⟩
                          have hk0 := cell_blk hq.cells.2 0; have hk1 := cell_blk hq.cells.2 1; have hk5 := cell_blk hq.cells.1 5; have hk6 := cell_blk hq.cells.1 6; have hlk := blk_lt hq.cells.2; have hlj := blk_lt hq.cells.1
                          have HQ := Lib.hid hq
                          clear hq
                          go_wp2_with fail
                          refine (P2.out _ HQ.out).mono ?_
                          rintro e w6 ⟨rfl, hq⟩
                          clear HQ hk0 hk1 hk5 hk6 hlk hlj
                          have HQ := Lib.hid hq
                          clear hq
                          go_wp2_with (go_at_call 9; refine (num_any _ _).mono ?_; rintro e w' ⟨rfl, rfl⟩)
                          go_meet
                          exact ⟨c4, ps, ds, bs, md, by omega, by rw [HN.out]; omega, HQ.out.quiet (by repeat (first | with_reducible exact Touch.refl _ _ | with_reducible refine Touch.alloc ?_ _ | with_reducible refine Touch.drewN ?_ _ | with_reducible refine Touch.drew ?_))⟩
                      · have f0 : (way == 0) = false := by simpa using e0
                        have f1 : (way == 1) = false := by simpa using e1
                        have f2 : (way == 2) = false := by simpa using e2
                        have f3 : (way == 3) = false := by simpa using e3
                        have f4 : (way == 4) = false := by simpa using e4
                        go_wp2
                        go_meet
                        exact ⟨c4, ps, ds, bs, md, by omega, by rw [HN.out]; omega, HE.out⟩
            case rest =>
              as_aux_lemma =>
                obtain ⟨c5, qs, es, cs, md', hc5, hmd', he⟩ := hcut
                obtain ⟨wd, rfl⟩ : ∃ z, z = wc := ⟨_, rfl⟩
                clear HE q0 q5 q6 q7 r0 r1 hga hgd
                have HE := Lib.hid he
                have r0 := cell_blk he.cells.2 0
                have r1 := cell_blk he.cells.2 1
                have q0 := cell_blk he.cells.1 0
                have q1 := cell_blk he.cells.1 1
                have q2 := cell_blk he.cells.1 2
                have q3 := cell_blk he.cells.1 3
                have q4 := cell_blk he.cells.1 4
                have q5 := cell_blk he.cells.1 5
                have q6 := cell_blk he.cells.1 6
                have q7 := cell_blk he.cells.1 7
                have q8 := cell_blk he.cells.1 8
                have q9 := cell_blk he.cells.1 9
                have hga := blk_lt he.cells.1
                have hgd := blk_lt he.cells.2
                clear he
                go_wp2_with fail
                refine (pq_same HE.out (by omega) hi1 hx1 _ _ _ _ _ _ _ _ all nn _ (by repeat (first | with_reducible exact Touch.refl _ _ | with_reducible refine Touch.alloc ?_ _ | with_reducible refine Touch.drewN ?_ _ | with_reducible refine Touch.drew ?_))).mono ?_
                rintro e wz ⟨rfl, hTz⟩
                have HZ2 := Lib.hid (HE.out.quiet (Touch.same (by repeat (first | with_reducible exact Touch.refl _ _ | with_reducible refine Touch.alloc ?_ _ | with_reducible refine Touch.drewN ?_ _ | with_reducible refine Touch.drew ?_)) hTz))
                clear hTz
                go_wp2
                go_roundw
                case rel =>
                  obtain ⟨F, Fo, G, hz⟩ := HZ2.out
                  exact ⟨k + 1, by omega, by go_num, c5, F, Fo, G, qs, es, cs, md', hc5, hmd', hz.m⟩
                case measure => simp [intOf]; omega
    · go_wp2
      go_ret
      exact ⟨rfl, HT.out⟩
end Go.Proofs.Yticekldgjlihmaa
