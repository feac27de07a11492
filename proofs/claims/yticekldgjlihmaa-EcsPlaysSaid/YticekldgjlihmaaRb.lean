/-
  The document's own Table: what Row, Ids and Column return; SameCells and SameInts.
-/
import Derived.Test.YticekldgjlihmaaM4
import Derived.Test.YticekldgjlihmaaIj
namespace Go.Proofs.Yticekldgjlihmaa
open Go.ChangeShapes Go.WideShapes Go.ChangeAt Go.RowKit Go.Maps

set_option maxHeartbeats 2000000 in
theorem rtrow_any (g : Nat) (m i x : Int) (l : List Rw) (F : Nat → Prop) (w : World) (h : RT w F g m l) :
    Calls Try.prog 62 #[.pointer (some ⟨g, 0, none⟩), .agg #[.int .i64 i, .int .i64 x]] w fun e w' => e = .returned (.int .i64 (rowV (l.map Prod.fst) (i, x))) ∧ Touch NoB w w' := by
  have hRT := h.quiet ((Touch.refl NoB w).alloc (.cells #[.int .i64 i, .int .i64 x] 30))
  have hbb := alloc_blk w #[.int .i64 i, .int .i64 x] 30 rfl
  obtain ⟨W, hW⟩ : ∃ W, w.alloc (.cells #[.int .i64 i, .int .i64 x] 30) = W := ⟨_, rfl⟩
  rw [hW] at hRT hbb
  have hTW : Touch NoB w W := by rw [← hW]; exact (Touch.refl _ _).alloc _
  obtain ⟨v, hg, hr, _, _⟩ := hRT
  obtain ⟨A, cap, rfl, h1, h2⟩ := row_any hr
  unfold maxLen at h2
  have b0 : W.cell? ⟨w.heap.size, 0, none⟩ = some (.int .i64 i) := cell_blk hbb 0
  have b1 : W.cell? ⟨w.heap.size, 1, none⟩ = some (.int .i64 x) := cell_blk hbb 1
  have k1 : W.cell? ⟨g, 1, none⟩ = some (.slice A l.length cap) := cell_blk hg 1
  have HR := Lib.hid hr
  have HW := Lib.hid hW
  have HTW := Lib.hid hTW
  clear h hbb hW hTW hg hr
  obtain ⟨L, hL⟩ : ∃ L, l.length = L := ⟨_, rfl⟩
  rw [hL] at k1 h1 HR
  have HL := Lib.hid hL
  clear hL
  obtain ⟨rv, hrv⟩ : ∃ rv, rowV (l.map Prod.fst) (i, x) = rv := ⟨_, rfl⟩
  rw [hrv]
  have HRV := Lib.hid hrv
  clear hrv
  go_enter Try.func62, Try.ntmps62
  go_wp2
  rw [HW.out]
  go_loopw [5] (fun j wq => (∃ q c : Nat, c ≤ L ∧ j = .int .i64 c ∧ wq = W.drewN q ∧ ∀ y : Nat, y < c → (l.map Prod.fst)[y]? ≠ some (i, x))) (fun j _ => L - (intOf j).toNat)
  case atStart => exact ⟨0, 0, Nat.zero_le _, rfl, rfl, fun y hy => by omega⟩
  case round =>
    obtain ⟨q, c, hc, rfl, rfl, hno⟩ := hrel
    have HNO := Lib.hid hno
    clear hno
    by_cases hcl : c < L
    · obtain ⟨gl, cp, hv, _, _, hob⟩ := row_form HR.out (by omega)
      injection hv with hv1 hv2 hv3
      subst hv1
      clear hv2 hv3
      obtain ⟨p, hp⟩ : ∃ p, l[c]? = some p := ⟨_, List.getElem?_eq_getElem (by have := HL.out; omega)⟩
      obtain ⟨⟨i2, x2⟩, f⟩ := p
      have e0 : W.cell? ⟨gl, c * 18, none⟩ = some (.int .i64 i2) := by rw [HR.out.cellAt (c * 18) (by omega), rowc_0 hp]
      have e1 : W.cell? ⟨gl, c * 18 + 1, none⟩ = some (.int .i64 x2) := by rw [HR.out.cellAt (c * 18 + 1) (by omega), rowc_1 hp]
      have hpm : (l.map Prod.fst)[c]? = some (i2, x2) := by rw [List.getElem?_map, hp]; rfl
      have HPM := Lib.hid hpm
      clear hob hp hpm
      by_cases h3 : i2 = i
      · subst h3
        by_cases h4 : x2 = x
        · subst h4
          have f1 : (i2 == i2) = true := by simp
          have f2 : (x2 == x2) = true := by simp
          go_wp2
          go_quiet (fail)
          go_wp2
          go_ret
          refine ⟨ret_int ?_, (HTW.out.drewN _).drewN _⟩
          have e : rowOf (l.map Prod.fst) (i2, x2) = some c := by
            rcases hro : rowOf (l.map Prod.fst) (i2, x2) with _ | r
            · exact absurd HPM.out (rowOf_none hro c)
            · obtain ⟨g1, g2⟩ := rowOf_some hro
              have a1 : ¬ r < c := fun a => HNO.out r a g1
              have a2 : ¬ c < r := fun a => g2 c a HPM.out
              rw [show r = c from by omega]
          rw [← HRV.out, rowV_some e]
        · have f1 : (i2 == i2) = true := by simp
          have f2 : (x2 == x) = false := by simpa using h4
          have H4 := Lib.hid h4
          clear h4
          go_wp2
          go_quiet (fail)
          go_wp2
          go_roundw
          case rel =>
            refine ⟨_, c + 1, by omega, by go_num, rfl, fun y hy => ?_⟩
            by_cases e : y = c
            · subst e
              rw [HPM.out]
              intro ee
              injection ee with ee
              injection ee with _ ee
              exact H4.out ee
            · exact HNO.out y (by omega)
          case measure => simp [intOf]; omega
      · have f1 : (i2 == i) = false := by simpa using h3
        have H3 := Lib.hid h3
        clear h3
        go_wp2
        go_quiet (fail)
        go_wp2
        go_roundw
        case rel =>
          refine ⟨_, c + 1, by omega, by go_num, rfl, fun y hy => ?_⟩
          by_cases e : y = c
          · subst e
            rw [HPM.out]
            intro ee
            injection ee with ee
            injection ee with ee _
            exact H3.out ee
          · exact HNO.out y (by omega)
        case measure => simp [intOf]; omega
    · obtain rfl : c = L := by omega
      go_wp2
      go_ret
      refine ⟨ret_int ?_, HTW.out.drewN _⟩
      have e : rowOf (l.map Prod.fst) (i, x) = none := by
        refine rowOf_none_of (fun y hy => ?_)
        have hyl := (List.getElem?_eq_some_iff.1 hy).1
        rw [List.length_map, HL.out] at hyl
        exact HNO.out y hyl hy
      rw [← HRV.out, rowV_none e]
end Go.Proofs.Yticekldgjlihmaa
