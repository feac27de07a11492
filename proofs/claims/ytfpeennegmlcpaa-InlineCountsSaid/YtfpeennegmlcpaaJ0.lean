/-
  The statement InlineCounts, of any two numbers. No condition.
-/
import Derived.Test.YtfpeennegmlcpaaJ9
namespace Go.Proofs.Ytfpeennegmlcpaa
open Go.ChangeShapes Go.WideShapes Go.ChangeAt Go.RowKit
set_option maxRecDepth 100000
set_option maxHeartbeats 4000000

theorem counts_out (n m : Int) (w : World) (h : n < 1 ∨ (1 ≤ n ∧ 16 < n) ∨ (1 ≤ n ∧ n ≤ 16 ∧ m < 0) ∨ (1 ≤ n ∧ n ≤ 16 ∧ 0 ≤ m ∧ 30 < m)) : Calls Try.prog 5 #[.int .i64 n, .int .i64 m] w fun e w' => e = .returned (.bool true) ∧ Touch NoB w w' := by
  rcases h with h | ⟨h1, h⟩ | ⟨h1, h2, h⟩ | ⟨h1, h2, h3, h⟩
  all_goals
    go_enter Try.func5, Try.ntmps5
    go_wp2_with fail
    refine (alive14_any w).mono ?_
    rintro r w1 ⟨rfl, t1⟩
    have HT := Lib.hid t1
    clear t1
    try have g1 : ¬ (n < 1) := by omega
    try have g2 : ¬ (16 < n) := by omega
    try have g3 : ¬ (m < 0) := by omega
    go_wp2
    go_ret
    exact ⟨rfl, HT.out⟩
theorem counts_any (n m : Int) (w : World) : Calls Try.prog 5 #[.int .i64 n, .int .i64 m] w fun e w' => e = .returned (.bool true) ∧ Touch NoB w w' := by
  by_cases h : n < 1 ∨ (1 ≤ n ∧ 16 < n) ∨ (1 ≤ n ∧ n ≤ 16 ∧ m < 0) ∨ (1 ≤ n ∧ n ≤ 16 ∧ 0 ≤ m ∧ 30 < m)
  · exact counts_out n m w h
  · obtain ⟨N, rfl⟩ : ∃ N : Nat, n = N := ⟨n.toNat, by omega⟩
    obtain ⟨M, rfl⟩ : ∃ M : Nat, m = M := ⟨m.toNat, by omega⟩
    exact counts_in N M w (by omega) (by omega) (by omega)
end Go.Proofs.Ytfpeennegmlcpaa
