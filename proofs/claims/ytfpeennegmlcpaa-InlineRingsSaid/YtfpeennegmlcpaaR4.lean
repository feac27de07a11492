/-
  The statement InlineRings, of any number. No condition.
-/
import Derived.Test.YtfpeennegmlcpaaR3
namespace Go.Proofs.Ytfpeennegmlcpaa
open Go.ChangeShapes Go.WideShapes Go.ChangeAt Go.RowKit
set_option maxRecDepth 100000
set_option maxHeartbeats 4000000

theorem rings_out (n : Int) (ring : Bool) (w : World) (h : n < 1 ∨ (1 ≤ n ∧ 30 < n)) : Calls Try.prog 6 #[.int .i64 n, .bool ring] w fun e w' => e = .returned (.bool true) ∧ Touch NoB w w' := by
  rcases h with h | ⟨h1, h⟩
  all_goals
    go_enter Try.func6, Try.ntmps6
    go_wp2_with fail
    refine (alive14_any w).mono ?_
    rintro r w1 ⟨rfl, t1⟩
    have HT := Lib.hid t1
    clear t1
    try have g1 : ¬ (n < 1) := by omega
    go_wp2
    go_ret
    exact ⟨rfl, HT.out⟩
theorem rings_any (n : Int) (ring : Bool) (w : World) : Calls Try.prog 6 #[.int .i64 n, .bool ring] w fun e w' => e = .returned (.bool true) ∧ Touch NoB w w' := by
  by_cases h : n < 1 ∨ (1 ≤ n ∧ 30 < n)
  · exact rings_out n ring w h
  · obtain ⟨N, rfl⟩ : ∃ N : Nat, n = N := ⟨n.toNat, by omega⟩
    exact rings_in N ring w (by omega) (by omega)
end Go.Proofs.Ytfpeennegmlcpaa
