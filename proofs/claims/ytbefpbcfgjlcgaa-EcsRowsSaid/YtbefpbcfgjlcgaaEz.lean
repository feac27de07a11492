/-
  EcsRows beyond its bounds; arguments that are lists of ints.
-/
import Derived.Test.YtbefpbcfgjlcgaaEy
import Derived.Test.YtbefpbcfgjlcgaaTo
namespace Go.Proofs.Ytbefpbcfgjlcgaa
open Go.ChangeShapes Go.WideShapes Go.ChangeAt Go.RowKit Go.Deep
set_option maxRecDepth 100000
set_option maxHeartbeats 1000000

section
variable {H : Type} {enc : TypeId × Value → H} {w : World} {base : Nat} {held : Bool} {fuel : Nat}
theorem open_ints' {vs : List Value} {x : DataW H × List MemPlace} (h : DataW.trod enc Try.prog w base (fun _ => true) held fuel 61 vs = some x) :
    ∃ (a : Option Addr) (len cap : Nat) (ms : List Int), vs = [.slice a len cap] ∧ ms.length = len ∧ len ≤ 9223372036854775807 ∧ IntsIn w a ms := by
  rcases open_ints Try.underlying61 Try.underlying3 cellsInt h with ⟨hcs, _⟩ | ⟨ad, len, cap, zs, hcs, _, hl, hx, hz, _, hcell, _⟩
  · exact ⟨none, 0, 0, [], hcs, rfl, by omega, fun j z hj => by simp at hj⟩
  · simp only [if_true] at hz
    unfold maxLen at hx
    refine ⟨some ad, len, cap, zs.take len, hcs, by rw [List.length_take]; omega, by omega, ?_⟩
    intro j m hj
    have hjl : j < (zs.take len).length := (List.getElem?_eq_some_iff.1 hj).1
    rw [List.length_take] at hjl
    have hc := hcell j (by omega)
    have hg : zs.getD j 0 = m := by
      rw [List.getElem?_take, if_pos (by omega)] at hj
      rw [List.getD_eq_getElem?_getD, hj]; rfl
    rw [hg] at hc
    obtain ⟨b, off, spot⟩ := ad
    have hspot : spot = none := by simpa [Addr.add] using World.cell?_spot (hcell 0 (by omega))
    subst hspot
    refine ⟨b, off, rfl, ?_, by rw [← add_plain]; exact hc⟩
    exact World.block_lt_of_cell? w ⟨b, off + j, none⟩ (by rw [← add_plain]; exact hc)
end

theorem rows_out (n a : Int) (A : Option Addr) (len cap : Nat) (w : World) (h : n < 1 ∨ 30 < n ∨ a < 0 ∨ n ≤ a ∨ (len : Int) < n) :
    Calls Try.prog 6 #[.int .i64 n, .int .i64 a, .slice A len cap] w fun e w' => e = .returned (.bool true) ∧ Touch NoB w w' := by
  have h' : n < 1 ∨ (¬ n < 1 ∧ 30 < n) ∨ (¬ n < 1 ∧ ¬ 30 < n ∧ a < 0) ∨ (¬ n < 1 ∧ ¬ 30 < n ∧ ¬ a < 0 ∧ n ≤ a) ∨ (¬ n < 1 ∧ ¬ 30 < n ∧ ¬ a < 0 ∧ ¬ n ≤ a ∧ (len : Int) < n) := by omega
  rcases h' with h1 | ⟨h1, h2⟩ | ⟨h1, h2, h3⟩ | ⟨h1, h2, h3, h4⟩ | ⟨h1, h2, h3, h4, h5⟩
  all_goals
    clear h
    go_enter Try.func6, Try.ntmps6
    go_wp2_with fail
    refine (ealive_any w).mono ?_
    rintro e w1 ⟨rfl, hT⟩
    have HT := Lib.hid hT
    clear hT
    go_wp2
    go_ret
    exact ⟨rfl, HT.out⟩
end Go.Proofs.Ytbefpbcfgjlcgaa
