/-
  The walk of IdsOnce.
-/
import Derived.Test.YtjbhjeiaogikfaaIh
import Derived.Deep.DeepCutAuto
import Derived.Deep.RegionWith
import Derived.Laws.BitsAllLaws
import Derived.Laws.BitsLemmas
namespace Go.Proofs.Ytjbhjeiaogikfaa
open Go.ChangeShapes Go.WideShapes Go.ChangeAt Go.RowKit

set_option maxHeartbeats 4000000 in
set_option maxRecDepth 100000 in
theorem idsOnce_in (room : Int) (A : Option Addr) (N cap : Nat) (zs : List Int) (w : World) (h1 : 1 ≤ room) (h2 : room ≤ 50) (hN : N ≤ 100) (hl : zs.length = N) (hNc : N ≤ cap)
    (hz : ∀ (j : Nat) (x : Int), zs[j]? = some x → ∃ b off, A = some ⟨b, off, none⟩ ∧ b < w.heap.size ∧ w.cell? ⟨b, off + j, none⟩ = some (.int .i64 x)) :
    Calls Try.prog 4 #[.int .i64 room, .slice A N cap] w fun e w' => e = .returned (.bool true) ∧ Touch NoB w w' := by
  have HZ := Lib.hid hz
  have HL := Lib.hid hl
  have HN := Lib.hid (new_any room)
  have hRe : roomI room = room := by unfold roomI withinI; repeat' split <;> omega
  rw [hRe] at HN
  clear hRe hz hl
  have d1 : decide (room < 1) = false := by simp; omega
  have d2 : decide (50 < room) = false := by simp; omega
  have d3 : decide (100 < (N : Int)) = false := by simp; omega
  obtain ⟨i0, hi, hz0, hz1, hz2⟩ := info_parts info_id
  obtain ⟨ib, hj, hy0, hy1, hy2⟩ := info_parts info_bool
  go_enter Try.func4, Try.ntmps4
  go_wp2_with fail
  refine (alive_any w).mono ?_
  rintro e w1 ⟨rfl, hT⟩
  have HT := Lib.hid hT
  have hs1 := hT.size
  clear hT
  go_wp2_with fail
  refine (HN.out w1).mono ?_
  rintro e w2 ⟨rfl, rfl⟩
  go_wp2
  go_loopw [7, 8, 9, 10] (fun v7 v8 v9 i wr => OnceRel w w1.heap.size room N v7 v8 v9 i wr) (fun _ _ _ i _ => N - (intOf i).toNat)
  case atStart =>
    exact ⟨0, Nat.zero_le _, rfl, [], [], [], [], once_start room (by omega), Nat.le_refl _, rfl, ⟨_, own_new w1 room, fun b hb => by subst hb; simp; omega, World.ownsRow_nil _ _ _ _, World.ownsRow_nil _ _ _ _, fun b hb => by simp [Value.ownBlock] at hb, fun b hb => by simp [Value.ownBlock] at hb⟩, HT.out.alloc _⟩
  case round =>
    obtain ⟨k, hk, rfl, ps, ds, md, th, hI, hmk, rfl, hM, hTr⟩ := hrel
    have hsr := hTr.size
    have hcn : (allI 0 ps).length ≤ 50 := by have h1 := hI.cnt; have h2 := hI.len; omega
    obtain ⟨A7, cap7, rfl, hc7, hc7'⟩ := row_any hM.row7
    obtain ⟨A8, cap8, rfl, hc8, hc8'⟩ := row_any hM.row8
    unfold maxLen at hc7' hc8'
    have htl := hI.tl
    obtain ⟨L, hL⟩ : ∃ L, md.length = L := ⟨_, rfl⟩
    rw [htl, hL] at hc8 hM
    rw [hL] at hc7 hmk htl
    rw [htl, hL]
    have HI := Lib.hid hI
    have HM := Lib.hid hM
    have HTr := Lib.hid hTr
    have HL2 := Lib.hid hL
    have HTL := Lib.hid htl
    clear hI hM hTr hL htl
    obtain ⟨cn, hce⟩ : ∃ cn, (allI 0 ps).length = cn := ⟨_, rfl⟩
    rw [hce] at hcn
    rw [hce]
    have HCE := Lib.hid hce
    clear hce
    by_cases hlt : k < N
    · have hq : (cn : Int) < room ∨ ¬ (cn : Int) < room := Decidable.em _
      rcases hq with hq | hq
      case' inl =>
        have q1 : decide ((cn : Int) < room) = true := by simpa using hq
        go_wp2_with fail
        refine (once_make HI.out HM.out (by rw [HCE.out]; exact hq) (by omega) (by have := HL2.out; omega)).mono ?_
        rintro e w3 ⟨i1, x1, ps1, ds1, rfl, hI1, hfr, hup, hM1, hb1⟩
        rw [HCE.out] at hup
        have HI1 := Lib.hid hI1
        have HM1 := Lib.hid hM1
        have HUP := Lib.hid hup
        have HFR := Lib.hid hfr
        have HB1 := Lib.hid hb1
        have hs3 := hb1.size
        clear hI1 hM1 hup hfr hb1
        go_wp2_with fail
        refine (num_any 0 _).mono ?_
        rintro e w4 ⟨rfl, rfl⟩
        go_wp2_with fail
        refine (num_any 0 _).mono ?_
        rintro e w4 ⟨rfl, rfl⟩
        go_wp2
        go_loopw [13] (fun j wq => DrawRel (w3.alloc (.cells #[.int .i64 i1, .int .i64 x1] 30)) L j wq) (fun j _ => L - (intOf j).toNat)
        case atStart => exact ⟨0, 0, Nat.zero_le _, rfl, rfl⟩
        case' round =>
          obtain ⟨q, c, hc, rfl, rfl⟩ := hrel
          by_cases hcl : c < L
        case pos =>
          obtain ⟨gm, cp, hv, _, _, hob⟩ := row_form HM1.out.row7 (by have := HL2.out; omega)
          injection hv with hv1 hv2 hv3
          subst hv1
          subst hv3
          clear hv2
          have hr7 := HM1.out.row7
          have hgm : gm < w3.heap.size := row_lt hr7 hob
          have hcm : c < md.length := by have := HL2.out; omega
          obtain ⟨i2, x2, hix⟩ : ∃ i2 x2, md[c] = (i2, x2) := ⟨_, _, rfl⟩
          have hget : md[c]? = some (i2, x2) := by rw [List.getElem?_eq_getElem hcm, hix]
          have hne := HFR.out c
          rw [hget] at hne
          have b0 : w3.cell? ⟨gm, c * 2, none⟩ = some (.int .i64 i2) := by rw [World.ownsRow.cellAt (cap := cap7) (by have e := HL2.out; rw [e] at hr7; exact hr7) (c * 2) (by omega), idc_at0, hget]; rfl
          have b1 : w3.cell? ⟨gm, c * 2 + 1, none⟩ = some (.int .i64 x2) := by rw [World.ownsRow.cellAt (cap := cap7) (by have e := HL2.out; rw [e] at hr7; exact hr7) (c * 2 + 1) (by omega), idc_at1, hget]; rfl
          clear hr7 hob hix hget hcm
          by_cases e1 : i2 = i1
          · subst e1
            have e2 : (x2 == x1) = false := by
              simp only [beq_eq_false_iff_ne]
              rintro rfl
              exact hne rfl
            clear hne
            go_wp2
            go_quiet (fail)
            go_wp2
            go_roundw
            case rel => exact ⟨_, c + 1, by omega, by go_num, rfl⟩
            case measure => simp [intOf]; omega
          · have e2 : (i2 == i1) = false := by simpa using e1
            clear hne e1
            go_wp2
            go_quiet (fail)
            go_wp2
            go_roundw
            case rel => exact ⟨_, c + 1, by omega, by go_num, rfl⟩
            case measure => simp [intOf]; omega
        case' neg =>
          obtain rfl : c = L := by omega
          have e7 := HM1.out.row7
          rw [HL2.out] at e7
          have E7 := Lib.hid e7
          clear e7 hc hcl
          go_wp2_with (at_builtin; refine wpList_append_own_at _ rfl (.tmp 69) (.tmp 71) 28 rfl w.heap.size 30 i0 _ 2 16 Try.underlying28 hi hz0 hz1 hz2 rfl (by decide) (.slice A7 c cap7) c (idc md) rfl ?o1 ⟨w3.heap.size + 1, 0, none⟩ 1 1 [.int .i64 i1, .int .i64 x1] rfl rfl ?c1 ?c2 ?c3 ?c4 ?c5 ?go)
          case o1 => exact (World.ownsRow.alloc (w := (w3.alloc (.cells #[.int .i64 i1, .int .i64 x1] 30)).drewN q) (E7.out.alloc _) _)
          case c1 => exact World.news_of_block (cs := #[.int .i64 i1, .int .i64 x1]) (alloc_blk ((w3.alloc (.cells #[.int .i64 i1, .int .i64 x1] 30)).drewN q) _ 30 (by simp))
          case c2 => intro x hx; simp at hx; rcases hx with rfl | rfl <;> rfl
          case c3 => unfold maxLen; omega
          case c4 => omega
          case c5 => simp; omega
          intro v7 w5 hown7 hgrow7 _ hat7
          have TR7 : Touch (fun b => (Value.slice A7 c cap7).ownBlock = some b) w3 w5 := ((((Touch.refl _ w3).alloc _).drewN q).alloc _).grown hgrow7 (fun _ e => .inl e)
          have hm5 : OnceMem w.heap.size w5 w1.heap.size room ps1 ds1 (md ++ [(i1, x1)]) th v7 (.slice A8 c cap8) := by
            refine HM1.out.app7 TR7 (by rw [List.length_append, HL2.out, idc_snoc]; exact hown7) ?_
            intro b hb
            rcases hat7 with e | e
            · left; rw [← e]; exact hb
            · right; rw [hb] at e; injection e with e; omega
          have hT5 : Touch NoB w w5 := (HTr.out.trans (F := NoB) (G := fun b => w.heap.size ≤ b) ⟨HB1.out.os, HB1.out.tape, HB1.out.output, HB1.out.size, fun b _ hb => HB1.out.block b (by omega)⟩ (fun b hb => .inr hb)).trans TR7 (fun b hb => .inr (E7.out.lt b hb).1)
          have e8 := hm5.row8
          rw [HTL.out] at e8
          have E8 := Lib.hid e8
          have HM5 := Lib.hid hm5
          have HT5 := Lib.hid hT5
          have hs5 := hT5.size
          clear hown7 hgrow7 hat7 TR7 hm5 e8 hT5
          go_wp2_with (at_builtin; refine wpList_append_own_at _ rfl (.tmp 73) (.tmp 74) 46 rfl w.heap.size 4 ib _ 1 1 Try.underlying46 hj hy0 hy1 hy2 rfl (by decide) (.slice A8 c cap8) c (bc th) rfl ?o2 ⟨w5.heap.size, 0, none⟩ 1 1 [.bool true] rfl rfl ?e1 ?e2 ?e3 ?e4 ?e5 ?go2)
          case o2 => exact E8.out.alloc _
          case e1 => exact World.news_of_block (cs := #[.bool true]) (alloc_blk w5 _ 4 rfl)
          case e2 => intro x hx; simp at hx; subst hx; rfl
          case e3 => unfold maxLen; omega
          case e4 => omega
          case e5 => simp; omega
          intro v8 ws hown8 hgrow8 _ hat8
          have TR8 : Touch (fun b => (Value.slice A8 c cap8).ownBlock = some b) w5 ws := ((Touch.refl _ w5).alloc _).grown hgrow8 (fun _ e => .inl e)
          have hm6 : OnceMem w.heap.size ws w1.heap.size room ps1 ds1 (md ++ [(i1, x1)]) (th ++ [true]) v7 v8 := by
            refine HM5.out.app8 TR8 (by rw [List.length_append, HTL.out, bc_snoc]; exact hown8) ?_
            intro b hb
            rcases hat8 with e | e
            · left; rw [← e]; exact hb
            · right; rw [hb] at e; injection e with e; omega
          have hT6 : Touch NoB w ws := HT5.out.trans TR8 (fun b hb => .inr (E8.out.lt b hb).1)
          have hmid : OnceMid w w1.heap.size room k v7 v8 (.int .i64 ((cn : Int) + 1)) ws :=
            ⟨cn + 1, ps1, ds1, _, _, HI1.out, by rw [List.length_append, HL2.out, List.length_singleton]; omega, rfl, HUP.out, hm6, hT6⟩
          obtain ⟨v9, hv9⟩ : ∃ v, Value.int .i64 ((cn : Int) + 1) = v := ⟨_, rfl⟩
          have HV9 := Lib.hid hv9
          rw [hv9] at hmid
          have HMID := Lib.hid hmid
          clear hown8 hgrow8 hat8 TR8 hm6 hT6 E8 HM5 HT5 HM1 E7 hmid hv9 HM HI HTr HL2 HTL HCE hc7 hc8 hc7' hc8' HFR HUP HI1 HB1
          go_upto_region 23 with fail
          rw [HV9.out]
          have hmid := HMID.out
          clear HMID HV9
      case' inr =>
        have q1 : decide ((cn : Int) < room) = false := by simpa using hq
        go_wp2_with fail
        refine (once_full HI.out HM.out (by rw [HCE.out]; omega)).mono ?_
        rintro e w3 ⟨rfl, hT3⟩
        have HT3 := Lib.hid hT3
        have hs3 := hT3.size
        clear hT3
        go_wp2_with fail
        refine (num_any 10 _).mono ?_
        rintro e w4 ⟨rfl, rfl⟩
        go_wp2_with fail
        refine (num_any 10 _).mono ?_
        rintro e w4 ⟨rfl, rfl⟩
        go_upto_region 23 with fail
        have hmid : OnceMid w w1.heap.size room k (.slice A7 L cap7) (.slice A8 L cap8) (.int .i64 cn) (w3.alloc (.cells #[.int .i64 0, .int .i64 0] 30)) :=
          ⟨cn, ps, ds, md, th, HI.out, by have := HL2.out; omega, rfl, HCE.out, HM.out.quiet (HT3.out.alloc _), (HTr.out.same HT3.out).alloc _⟩
        obtain ⟨v7, hv7⟩ : ∃ v, Value.slice A7 L cap7 = v := ⟨_, rfl⟩
        obtain ⟨v8, hv8⟩ : ∃ v, Value.slice A8 L cap8 = v := ⟨_, rfl⟩
        obtain ⟨v9, hv9⟩ : ∃ v, Value.int .i64 (cn : Int) = v := ⟨_, rfl⟩
        obtain ⟨ws, hws⟩ : ∃ v, w3.alloc (.cells #[.int .i64 0, .int .i64 0] 30) = v := ⟨_, rfl⟩
        rw [hv7, hv8, hv9, hws] at hmid
        rw [hv7, hv8, hv9, hws]
        clear hv7 hv8 hv9 hws HM HT3 HI HTr HL2 HTL HCE hc7 hc8 hc7' hc8'
      all_goals
        clear q1
        obtain ⟨cx, ps2, ds2, md2, th2, hI2, hmk2, rfl, hcx, hM2, hT2⟩ := hmid
        obtain ⟨A7x, cap7x, rfl, hd7, hd7'⟩ := row_any hM2.row7
        obtain ⟨A8x, cap8x, rfl, hd8, hd8'⟩ := row_any hM2.row8
        unfold maxLen at hd7' hd8'
        have htl2 := hI2.tl
        obtain ⟨L2, hL2⟩ : ∃ L2, md2.length = L2 := ⟨_, rfl⟩
        rw [htl2, hL2] at hd8 hM2
        rw [hL2] at hd7 hmk2 htl2
        rw [htl2, hL2]
        have hcx50 : cx ≤ 50 := by have h1 := hI2.cnt; have h2 := hI2.len; omega
        obtain ⟨z, hzk⟩ : ∃ z, zs[k]? = some z := ⟨_, List.getElem?_eq_getElem (by have := HL.out; omega)⟩
        obtain ⟨b, off, rfl, hb, hcell⟩ := HZ.out k z hzk
        have hcs := (hT2.cell (p := ⟨b, off + k, none⟩) hb (fun x => x)).trans hcell
        have HI2 := Lib.hid hI2
        have HM2 := Lib.hid hM2
        have HT2 := Lib.hid hT2
        have HTL2 := Lib.hid htl2
        have HLL := Lib.hid hL2
        have HCX := Lib.hid hcx
        have hs2 := hT2.size
        clear hI2 hM2 hT2 htl2 hL2 hcx hcell hzk
        go_upto_if 90 with fail
        obtain ⟨kk, hkk, hkL⟩ := mod_low z L2
        rw [hkk]
        clear hkk
        go_cut [9] (fun v9 wx => OnceMid w w1.heap.size room k (.slice A7x L2 cap7x) (.slice A8x L2 cap8x) v9 wx)
        case first =>
          by_cases hkl : kk < L2
          · have hd : decide (kk < L2) = true := by simpa using hkl
            have r7 := HM2.out.row7
            have r8 := HM2.out.row8
            rw [HLL.out] at r7
            rw [HTL2.out] at r8
            obtain ⟨gm, cp, hv, _, _, hob7⟩ := row_form r7 (by omega)
            injection hv with hv1 hv2 hv3
            subst hv1
            clear hv2 hv3
            obtain ⟨gt, cp2, hv, _, _, hob8⟩ := row_form r8 (by omega)
            injection hv with hv1 hv2 hv3
            subst hv1
            clear hv2 hv3
            obtain ⟨i3, x3, hix⟩ : ∃ i3 x3, md2[kk]? = some (i3, x3) := ⟨_, _, List.getElem?_eq_getElem (by have := HLL.out; omega)⟩
            obtain ⟨b3, hb3⟩ : ∃ b3, th2[kk]? = some b3 := ⟨_, List.getElem?_eq_getElem (by have := HTL2.out; omega)⟩
            have c0 : ws.cell? ⟨gm, kk * 2, none⟩ = some (.int .i64 i3) := by rw [r7.cellAt (kk * 2) (by omega), idc_at0, hix]; rfl
            have c1 : ws.cell? ⟨gm, kk * 2 + 1, none⟩ = some (.int .i64 x3) := by rw [r7.cellAt (kk * 2 + 1) (by omega), idc_at1, hix]; rfl
            have hgm : gm < ws.heap.size := row_lt r7 hob7
            have hgt : gt < ws.heap.size := row_lt r8 hob8
            have HIX := Lib.hid hix
            have HB3 := Lib.hid hb3
            clear r7 r8 hob7 hob8 hix hb3
            cases b3
            · go_wp2_with fail
              refine (once_stale HI2.out HM2.out HIX.out HB3.out).mono ?_
              rintro e w7 ⟨rfl, hT7⟩
              have hm7 := HM2.out.quiet hT7
              have r8 := hm7.row8
              rw [HTL2.out] at r8
              have k0 : w7.cell? ⟨gt, kk, none⟩ = some (.bool false) := by rw [r8.cellAt kk (by omega), bc_at, HB3.out]; rfl
              have k1 : w7.frozen? ⟨gt, kk, none⟩ = false := r8.frozenAt _
              have HM7 := Lib.hid hm7
              have HT7 := Lib.hid hT7
              have hgt7 : gt < w7.heap.size := by have := hT7.size; omega
              clear hm7 hT7 r8
              go_wp2
              go_quiet ((go_at_call 10; exact quiet_num (num_any _ _)))
              go_wp2
              go_meet
              refine ⟨cx, ps2, ds2, md2, th2, HI2.out, by rw [HLL.out]; exact hmk2, rfl, HCX.out, ?_, ?_⟩
              · have := (HM7.out.store HTL2.out kk false)
                rw [set_same HB3.out] at this
                exact this
              · refine Touch.setCell ((HT2.out.same HT7.out).drewN _) (.inr ?_) _
                exact (HM7.out.row8.lt gt rfl).1
            · go_wp2_with fail
              refine (once_drop HI2.out HM2.out HIX.out HB3.out (by omega)).mono ?_
              rintro e w7 ⟨ps4, ds4, rfl, hI4, hdn, hM4, hB4⟩
              have r8 := hM4.row8
              rw [HTL2.out] at r8
              have k0 : w7.cell? ⟨gt, kk, none⟩ = some (.bool true) := by rw [r8.cellAt kk (by omega), bc_at, HB3.out]; rfl
              have k1 : w7.frozen? ⟨gt, kk, none⟩ = false := r8.frozenAt _
              rw [HCX.out] at hdn
              have HI4 := Lib.hid hI4
              have HM4 := Lib.hid hM4
              have HB4 := Lib.hid hB4
              have HDN := Lib.hid hdn
              have hgt7 : gt < w7.heap.size := by have := hB4.size; omega
              clear hI4 hM4 hB4 hdn r8
              go_wp2
              go_quiet ((go_at_call 10; exact quiet_num (num_any _ _)))
              go_wp2
              go_meet
              refine ⟨(allI 0 ps4).length, ps4, ds4, md2, th2.set kk false, HI4.out, by rw [HLL.out]; exact hmk2, ?_, rfl, ?_, ?_⟩
              · rw [show ((cx : Int) - 1) = ((allI 0 ps4).length : Int) from by have := HDN.out; omega]
              · exact HM4.out.store HTL2.out kk false
              · have hT7 : Touch NoB w w7 := HT2.out.trans (G := fun b => w.heap.size ≤ b) ⟨HB4.out.os, HB4.out.tape, HB4.out.output, HB4.out.size, fun b _ hb => HB4.out.block b (by omega)⟩ (fun b hb => .inr hb)
                refine Touch.setCell (hT7.drewN _) (.inr ?_) _
                exact (HM4.out.row8.lt gt rfl).1
          · have hd : decide (kk < L2) = false := by simpa using hkl
            go_wp2
            go_meet
            exact ⟨cx, ps2, ds2, md2, th2, HI2.out, by rw [HLL.out]; exact hmk2, rfl, HCX.out, HM2.out, HT2.out⟩
        case rest =>
          clear HI2 HM2 HT2 HTL2 HLL HCX hs2 hcx50 hcs hkL
          obtain ⟨cy, ps3, ds3, md3, th3, hI3, hmk3, rfl, hcy, hM3, hT3⟩ := hcut
          have hcy50 : cy ≤ 50 := by have h1 := hI3.cnt; have h2 := hI3.len; omega
          have r7 := hM3.row7
          have r8 := hM3.row8
          have hL3 : md3.length = L2 := by
            obtain ⟨_, _, hv, _⟩ := row_any r7
            injection hv with _ hv _
            exact hv.symm
          have htl3 := hI3.tl
          rw [hL3] at r7 htl3
          rw [htl3] at r8
          have HI3 := Lib.hid hI3
          have HM3 := Lib.hid hM3
          have HT3 := Lib.hid hT3
          have HL3 := Lib.hid hL3
          have HTL3 := Lib.hid htl3
          have HCY := Lib.hid hcy
          have R7 := Lib.hid r7
          have R8 := Lib.hid r8
          clear hI3 hM3 hT3 hL3 htl3 hcy r7 r8
          go_wp2
          go_loopw [16] (fun j wq => QuietRel wc L2 j wq) (fun j _ => L2 - (intOf j).toNat)
          case atStart => exact ⟨0, Nat.zero_le _, rfl, Touch.refl _ _⟩
          case round =>
            obtain ⟨c5, hc5, rfl, hTq⟩ := hrel
            have HTq := Lib.hid hTq
            by_cases hcl : c5 < L2
            · have r7 := row_touch R7.out hTq (fun _ _ x => x)
              have r8 := row_touch R8.out hTq (fun _ _ x => x)
              have hmq := HM3.out.quiet hTq
              obtain ⟨gm, cp, hv, _, _, hob7⟩ := row_form r7 (by omega)
              injection hv with hv1 hv2 hv3
              subst hv1
              clear hv2 hv3
              obtain ⟨gt, cp2, hv, _, _, hob8⟩ := row_form r8 (by omega)
              injection hv with hv1 hv2 hv3
              subst hv1
              clear hv2 hv3
              obtain ⟨i3, x3, hix⟩ : ∃ i3 x3, md3[c5]? = some (i3, x3) := ⟨_, _, List.getElem?_eq_getElem (by have := HL3.out; omega)⟩
              obtain ⟨b3, hb3⟩ : ∃ b3, th3[c5]? = some b3 := ⟨_, List.getElem?_eq_getElem (by have := HTL3.out; omega)⟩
              have c0 : wr.cell? ⟨gm, c5 * 2, none⟩ = some (.int .i64 i3) := by rw [r7.cellAt (c5 * 2) (by omega), idc_at0, hix]; rfl
              have c1 : wr.cell? ⟨gm, c5 * 2 + 1, none⟩ = some (.int .i64 x3) := by rw [r7.cellAt (c5 * 2 + 1) (by omega), idc_at1, hix]; rfl
              have c2 : wr.cell? ⟨gt, c5, none⟩ = some (.bool b3) := by rw [r8.cellAt c5 (by omega), bc_at, hb3]; rfl
              have hgm : gm < wr.heap.size := row_lt r7 hob7
              have hgt : gt < wr.heap.size := row_lt r8 hob8
              have HIX := Lib.hid hix
              have HB3 := Lib.hid hb3
              have HMq := Lib.hid hmq
              clear r7 r8 hob7 hob8 hix hb3 hmq hTq
              go_wp2
              go_region_with (refine (once_has HI3.out (by exact HMq.out) HIX.out HB3.out).mono ?_
                              rintro e w9 ⟨rfl, hT9⟩
                              have c2' : w9.cell? ⟨gt, c5, none⟩ = some (.bool b3) := (hT9.cell (p := ⟨gt, c5, none⟩) hgt (fun x => x)).trans c2
                              have HT9 := Lib.hid hT9
                              clear hT9)
              all_goals
                go_wp2
                go_roundw
                case rel => exact ⟨c5 + 1, by omega, by go_num, HTq.out.same ⟨HT9.out.os, HT9.out.tape, HT9.out.output, HT9.out.size, HT9.out.block⟩⟩
                case measure => simp [intOf]; omega
            · obtain rfl : c5 = L2 := by omega
              clear hTq
              go_wp2
              go_roundw
              case rel => exact ⟨k + 1, by omega, by go_num, ps3, ds3, md3, th3, HI3.out, by have := HL3.out; omega, by rw [HCY.out], HM3.out.quiet HTq.out, HT3.out.same HTq.out⟩
              case measure => simp [intOf]; omega
    · obtain rfl : k = N := by omega
      obtain ⟨F, hOw, hFw, _⟩ := HM.out
      have hcc := HI.out.cnt
      have hll := HI.out.len
      have hA := all_any _ room ps ds F _ hOw (by omega) (by omega)
      have HA := Lib.hid hA
      clear hA hOw hFw hcc hll
      go_wp2_with fail
      refine HA.out.mono ?_
      rintro e w9 ⟨v, rfl, hown, hT9⟩
      rw [HCE.out] at hown
      obtain ⟨A9, cap9, rfl, hc9, hc9'⟩ := row_any hown
      unfold maxLen at hc9'
      have HT9 := Lib.hid hT9
      clear hown hT9
      go_wp2
      go_ret
      exact ⟨by simp, HTr.out.same HT9.out⟩

set_option maxHeartbeats 1000000 in
theorem idsOnce_out (room : Int) (A : Option Addr) (N cap : Nat) (w : World) (hN : N ≤ 9223372036854775807) (h : room < 1 ∨ 50 < room ∨ 100 < N) :
    Calls Try.prog 4 #[.int .i64 room, .slice A N cap] w fun e w' => e = .returned (.bool true) ∧ Touch NoB w w' := by
  by_cases h1 : room < 1 <;> by_cases h2 : 50 < room <;> by_cases h3 : 100 < N
  all_goals first | omega | skip
  all_goals
    clear h
    go_enter Try.func4, Try.ntmps4
    go_wp2_with fail
    refine (alive_any w).mono ?_
    rintro e w1 ⟨rfl, hT⟩
    have HT := Lib.hid hT
    clear hT
    go_wp2
    go_ret
    exact ⟨rfl, HT.out⟩

theorem idsOnce_any (room : Int) (A : Option Addr) (N cap : Nat) (zs : List Int) (w : World) (hl : zs.length = N) (hNc : N ≤ cap) (hcap : cap ≤ 9223372036854775807)
    (hz : ∀ (j : Nat) (x : Int), zs[j]? = some x → ∃ b off, A = some ⟨b, off, none⟩ ∧ b < w.heap.size ∧ w.cell? ⟨b, off + j, none⟩ = some (.int .i64 x)) :
    Calls Try.prog 4 #[.int .i64 room, .slice A N cap] w fun e w' => e = .returned (.bool true) ∧ Touch NoB w w' := by
  by_cases h : room < 1 ∨ 50 < room ∨ 100 < N
  · exact idsOnce_out room A N cap w (by omega) h
  · exact idsOnce_in room A N cap zs w (by omega) (by omega) (by omega) hl hNc hz

end Go.Proofs.Ytjbhjeiaogikfaa
