/-
  For any room and any list of ints, no identifier is made twice, a dropped one is never there again, and as many are there as were made and not dropped, within the law's own bounds; beyond them the law returns true as well. No condition.
-/
import Derived.Test.YtjbhjeiaogikfaaRows
import Derived.Test.YtjbhjeiaogikfaaIi
import Derived.WalkKit
import Derived.ProofKit
import Derived.OpenShut
import Derived.Carry
import Derived.ChangeSlices
namespace Go.Proofs.Ytjbhjeiaogikfaa.idsOnce
open Go.ChangeShapes Go.WideShapes Go.ChangeAt Go.RowKit

theorem own : ownKnob Try.prog.godebug = none := by kernel_rfl
theorem laidOut : laidOutB Try.prog = true := by kernel_rfl
theorem cells_int : Try.prog.cellsOf 3 = 1 := by kernel_rfl

theorem walk {H : Type} (a0 : Int) (v1 : Value) (d : DataW H) (p : List MemPlace) (W : World) (enc : TypeId × Value → H) (hs : ∃ a len cap, v1 = .slice a len cap) (h : DataW.Trod enc Try.prog W 0 (fun _ => true) true 45 v1 d p) (hlt : ∀ x ∈ p, x.block < W.heap.size) :
    Calls Try.prog 4 #[.int .i64 a0, v1] W fun e w' => e = .returned (.bool true) ∧ Below W.heap.size W w' := by
  obtain ⟨a, len, cap, rfl⟩ := hs
  obtain ⟨fuel, hf⟩ := h
  rcases open_ints Try.underlying45 Try.underlying3 cells_int hf with ⟨hcs, _⟩ | ⟨ad, len', cap', zs, hcs, _, hl, hm, hz, hx, hcell, _⟩
  · simp [Value.cells] at hcs
    obtain ⟨rfl, rfl, rfl⟩ := hcs
    exact (idsOnce_any a0 none 0 0 [] W rfl (Nat.le_refl _) (by omega) (by simp)).mono fun e w' ⟨he, hT⟩ => ⟨he, hT.below (fun _ x => x.elim)⟩
  · simp [Value.cells] at hcs
    obtain ⟨rfl, rfl, rfl⟩ := hcs
    simp only [Prod.mk.injEq] at hx
    obtain ⟨rfl, rfl⟩ := hx
    simp only [if_true] at hz
    unfold maxLen at hm
    refine (idsOnce_any a0 (some ad) len cap (zs.take len) W (by rw [List.length_take]; omega) hl (by omega) ?_).mono fun e w' ⟨he, hT⟩ => ⟨he, hT.below (fun _ x => x.elim)⟩
    intro j x hj
    have hjl : j < (zs.take len).length := (List.getElem?_eq_some_iff.1 hj).1
    rw [List.length_take] at hjl
    have hjz : j < zs.length := by omega
    have hc := hcell j hjz
    have hg : zs.getD j 0 = x := by
      rw [List.getElem?_take, if_pos (by omega)] at hj
      rw [List.getD_eq_getElem?_getD, hj]; rfl
    rw [hg] at hc
    obtain ⟨b, off, spot⟩ := ad
    have hspot : spot = none := by simpa [Addr.add] using World.cell?_spot (hcell 0 (by omega))
    subst hspot
    refine ⟨b, off, rfl, ?_, by rw [← add_plain]; exact hc⟩
    exact World.block_lt_of_cell? W ⟨b, off + j, none⟩ (by rw [← add_plain]; exact hc)

set_option maxRecDepth 100000 in
theorem lifted (os : Os) (started : os.Started) (H : Type) (enc : TypeId × Value → H) :
    ReturnsInHanded {} Try.checked os 4 .any (Rows.idsOnceSpec.pre6 enc Try.prog Try.f4 Rows.idsOnceRow.domain false) (Rows.idsOnceSpec.post enc Try.prog Try.f4 false true false false) := by
  refine returnsInHanded_of_change (C := Try.checked) own started (by kernel_rfl) Try.func4
    (ChangeSpec.witness6 (enc := enc) (C := Try.checked) false ⟨#[], #[.int .i64 0, .slice none 0 0], []⟩ 8 (by kernel_rfl) (by kernel_rfl) (by kernel_rfl) (by kernel_rfl)) ?_
  intro W base args ds gs before hval0 hW _ _
  have hval : ∀ (j : Nat) t v, Try.f4.params[j]? = some t → args[j]? = some v → Value.okWide Try.prog W .any base t v := hval0
  have hW' := hW
  obtain ⟨p, q, hA0, hV, rfl, _, _⟩ := hW
  have hA : DataW.TrodAll enc Try.prog W 0 (fun _ => true) true Try.f4.params.toList args.toList ds p := hA0
  rw [Try.params4] at hA hval
  obtain ⟨v0, vs0, d0, ds0, p0, q0, hargs, rfl, rfl, h0, r0⟩ := trodAll_cons hA
  obtain ⟨v1, vs1, d1, ds1, p1, q1, rfl, rfl, rfl, h1, r1⟩ := trodAll_cons r0
  obtain ⟨rfl, rfl, rfl⟩ := trodAll_nil r1
  obtain rfl : args = #[v0, v1] := by cases args; simp_all
  obtain ⟨rfl, rfl⟩ := trodVars_none hV
  obtain ⟨a0, rfl, rfl, rfl, w0⟩ := open_int Try.underlying3 (hval 0 3 v0 rfl rfl) h0
  have hs := okWide_slice Try.underlying45 (hval 1 45 v1 rfl rfl)
  have hlt : ∀ x ∈ p1, x.block < W.heap.size := fun x hx => hW'.lt x (by simpa using hx)
  clear hA0 hval0
  refine (walk a0 v1 d1 p1 W enc hs h1 hlt).mono fun e W' ⟨he, hb⟩ => ?_
  subst he
  exact ⟨_, rfl, _, _, _, [], [] ++ (p1 ++ []), [], hW', (trodAll_cons_mk (shut_bool Try.underlying4 _) trodAll_mk0), (trodAll_cons_mk (shut_int Try.underlying3 w0) (trodAll_cons_mk (Below.trod laidOut (by kernel_rfl) (of_decide_eq_true (by kernel_rfl)) h1 hb hlt) trodAll_mk0)), rfl, hb.frame _, fun h => by cases h⟩

theorem over : Rows.idsOnceRow.holds Try.pinned (OpenSpec.ofChange Rows.idsOnceSpec) :=
  OpenClaim.holds_of_wide 4 Try.f4 rfl rfl rfl rfl rfl rfl rfl ⟨rfl, rfl, rfl, rfl, rfl⟩ rfl rfl rfl rfl rfl (by kernel_rfl) Try.func4 (by kernel_rfl)
    (of_decide_eq_true (by kernel_rfl)) (by unfold Func.isWrapper; first | (rw [if_pos (by decide +kernel)]; kernel_rfl) | (rw [if_neg (by decide +kernel)]; exact ⟨rfl, rfl⟩))
    (fun os started H enc _ => lifted os started H enc)

theorem proved : Rows.IdsOnceSaid :=
  over
#print axioms proved
end Go.Proofs.Ytjbhjeiaogikfaa.idsOnce
