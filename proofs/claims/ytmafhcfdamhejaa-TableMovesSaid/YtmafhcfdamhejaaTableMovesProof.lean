/-
  For any mask, any number of rows, any row that goes and any values, the last row takes the place of the one that goes, with all that it has, and all others stay, within the law's own bounds; beyond them the law returns true as well. No condition.
-/
import Derived.Test.YtmafhcfdamhejaaRows
import Derived.Test.YtmafhcfdamhejaaTi
import Derived.Test.YtmafhcfdamhejaaTo
import Derived.WalkKit
import Derived.ProofKit
import Derived.OpenShut
import Derived.Carry
import Derived.ChangeSlices
namespace Go.Proofs.Ytmafhcfdamhejaa.tableMoves
open Go.ChangeShapes Go.WideShapes Go.ChangeAt Go.RowKit

theorem own : ownKnob Try.prog.godebug = none := by kernel_rfl
theorem laidOut : laidOutB Try.prog = true := by kernel_rfl

theorem walk {H : Type} (m n row : Int) (v1 : Value) (d : DataW H) (p : List MemPlace) (W : World) (enc : TypeId × Value → H) (hm : (Lit.int .u16 m).wf = true) (hs : ∃ a len cap, v1 = .slice a len cap) (h : DataW.Trod enc Try.prog W 0 (fun _ => true) true 62 v1 d p) :
    Calls Try.prog 5 #[.int .u16 m, .int .i64 n, .int .i64 row, v1] W fun e w' => e = .returned (.bool true) ∧ Below W.heap.size W w' := by
  have hr := mask_range hm
  obtain ⟨a, len, cap, rfl⟩ := hs
  obtain ⟨fuel, hf⟩ := h
  have key : ∃ zs : List Int, zs.length = len ∧ len ≤ 9223372036854775807 ∧ IntsAt W a zs := by
    rcases open_ints Try.underlying62 Try.underlying3 cellsInt hf with ⟨hcs, _⟩ | ⟨ad, len', cap', zs, hcs, _, hl, hx, hz, _, hcell, _⟩
    · simp [Value.cells] at hcs
      obtain ⟨rfl, rfl, rfl⟩ := hcs
      exact ⟨[], rfl, by omega, fun j z hj => by simp at hj⟩
    · simp [Value.cells] at hcs
      obtain ⟨rfl, rfl, rfl⟩ := hcs
      simp only [if_true] at hz
      unfold maxLen at hx
      refine ⟨zs.take len, by rw [List.length_take]; omega, by omega, ?_⟩
      intro j x hj
      have hjl : j < (zs.take len).length := (List.getElem?_eq_some_iff.1 hj).1
      rw [List.length_take] at hjl
      have hc := hcell j (by omega)
      have hg : zs.getD j 0 = x := by
        rw [List.getElem?_take, if_pos (by omega)] at hj
        rw [List.getD_eq_getElem?_getD, hj]; rfl
      rw [hg] at hc
      obtain ⟨b, off, spot⟩ := ad
      have hspot : spot = none := by simpa [Addr.add] using World.cell?_spot (hcell 0 (by omega))
      subst hspot
      refine ⟨b, off, rfl, ?_, by rw [← add_plain]; exact hc⟩
      exact World.block_lt_of_cell? W ⟨b, off + j, none⟩ (by rw [← add_plain]; exact hc)
  obtain ⟨zs, hzl, hlen, hZ⟩ := key
  by_cases hout : n < 1 ∨ 30 < n ∨ row < 0 ∨ n ≤ row ∨ (len : Int) < n
  · exact (tableMoves_out m n row a len cap W hout).mono fun e w' ⟨he, hT⟩ => ⟨he, hT.below (fun _ x => x.elim)⟩
  · obtain ⟨N, rfl⟩ := Int.eq_ofNat_of_zero_le (by omega : 0 ≤ n)
    obtain ⟨r, rfl⟩ := Int.eq_ofNat_of_zero_le (by omega : 0 ≤ row)
    exact (tableMoves_in m N r a len cap zs W hr.1 hr.2 (by omega) (by omega) (by omega) (by omega) hlen hzl hZ).mono fun e w' ⟨he, hT⟩ => ⟨he, hT.below (fun _ x => x.elim)⟩

set_option maxRecDepth 100000 in
theorem lifted (os : Os) (started : os.Started) (H : Type) (enc : TypeId × Value → H) :
    ReturnsInHanded {} Try.checked os 5 .any (Rows.tableMovesSpec.pre6 enc Try.prog Try.f5 Rows.tableMovesRow.domain false) (Rows.tableMovesSpec.post enc Try.prog Try.f5 false true false false) := by
  refine returnsInHanded_of_change (C := Try.checked) own started (by kernel_rfl) Try.func5
    (ChangeSpec.witness6 (enc := enc) (C := Try.checked) false ⟨#[], #[.int .u16 0, .int .i64 0, .int .i64 0, .slice none 0 0], []⟩ 8 (by kernel_rfl) (by kernel_rfl) (by kernel_rfl) (by kernel_rfl)) ?_
  intro W base args ds gs before hval0 hW _ _
  have hval : ∀ (j : Nat) t v, Try.f5.params[j]? = some t → args[j]? = some v → Value.okWide Try.prog W .any base t v := hval0
  have hW' := hW
  obtain ⟨p, q, hA0, hV, rfl, _, _⟩ := hW
  have hA : DataW.TrodAll enc Try.prog W 0 (fun _ => true) true Try.f5.params.toList args.toList ds p := hA0
  rw [Try.params5] at hA hval
  obtain ⟨v0, vs0, d0, ds0, p0, q0, hargs, rfl, rfl, h0, r0⟩ := trodAll_cons hA
  obtain ⟨v1, vs1, d1, ds1, p1, q1, rfl, rfl, rfl, h1, r1⟩ := trodAll_cons r0
  obtain ⟨v2, vs2, d2, ds2, p2, q2, rfl, rfl, rfl, h2, r2⟩ := trodAll_cons r1
  obtain ⟨v3, vs3, d3, ds3, p3, q3, rfl, rfl, rfl, h3, r3⟩ := trodAll_cons r2
  obtain ⟨rfl, rfl, rfl⟩ := trodAll_nil r3
  obtain rfl : args = #[v0, v1, v2, v3] := by cases args; simp_all
  obtain ⟨rfl, rfl⟩ := trodVars_none hV
  obtain ⟨a0, rfl, rfl, rfl, w0⟩ := open_int Try.underlying45 (hval 0 45 v0 rfl rfl) h0
  obtain ⟨a1, rfl, rfl, rfl, w1⟩ := open_int Try.underlying3 (hval 1 3 v1 rfl rfl) h1
  obtain ⟨a2, rfl, rfl, rfl, w2⟩ := open_int Try.underlying3 (hval 2 3 v2 rfl rfl) h2
  have hs := okWide_slice Try.underlying62 (hval 3 62 v3 rfl rfl)
  have hlt : ∀ x ∈ p3, x.block < W.heap.size := fun x hx => hW'.lt x (by simpa using hx)
  clear hA0 hval0
  refine (walk a0 a1 a2 v3 d3 p3 W enc w0 hs h3).mono fun e W' ⟨he, hb⟩ => ?_
  subst he
  exact ⟨_, rfl, _, _, _, [], [] ++ ([] ++ ([] ++ (p3 ++ []))), [], hW', (trodAll_cons_mk (shut_bool Try.underlying4 _) trodAll_mk0), (trodAll_cons_mk (shut_int Try.underlying45 w0) (trodAll_cons_mk (shut_int Try.underlying3 w1) (trodAll_cons_mk (shut_int Try.underlying3 w2) (trodAll_cons_mk (Below.trod laidOut (by kernel_rfl) (of_decide_eq_true (by kernel_rfl)) h3 hb hlt) trodAll_mk0)))), rfl, hb.frame _, fun h => by cases h⟩

theorem over : Rows.tableMovesRow.holds Try.pinned (OpenSpec.ofChange Rows.tableMovesSpec) :=
  OpenClaim.holds_of_wide 5 Try.f5 rfl rfl rfl rfl rfl rfl rfl ⟨rfl, rfl, rfl, rfl, rfl⟩ rfl rfl rfl rfl rfl (by kernel_rfl) Try.func5 (by kernel_rfl)
    (of_decide_eq_true (by kernel_rfl)) (by unfold Func.isWrapper; first | (rw [if_pos (by decide +kernel)]; kernel_rfl) | (rw [if_neg (by decide +kernel)]; exact ⟨rfl, rfl⟩))
    (fun os started H enc _ => lifted os started H enc)

theorem proved : Rows.TableMovesSaid :=
  over
#print axioms proved
end Go.Proofs.Ytmafhcfdamhejaa.tableMoves
