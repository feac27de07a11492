/-
  What the given families of CheckMany come to over lists. Lists alone.
-/
import Derived.Test.YtnphaaahdlkmhaaGreatZs45
import Derived.Test.YtnphaaahdlkmhaaGreatZs46
import Derived.Test.YtnphaaahdlkmhaaGreatZs47
import Derived.Test.YtnphaaahdlkmhaaGreatZs48
import Derived.Test.YtnphaaahdlkmhaaGreatZs49
import Derived.Test.YtnphaaahdlkmhaaGreatZs50
namespace Go.Proofs.YtnphaaahdlkmhaaGreat
set_option maxRecDepth 100000

theorem cm_at {n m : Nat} (h1 : 1 ≤ n) (h2 : n ≤ 16) (h3 : 1 ≤ m) (h4 : m ≤ 6) : cntT n m ≤ 1000000000 ∧ ∃ g x, rparP (manyT n m) = .ok g ∧ pgFitC g = true ∧ checkE g = some x ∧ x.2 = if 4000 < cntT n m then 9 else 0 := by
  have h : cmB n m = true := by
    have hc : m = 1 ∨ m = 2 ∨ m = 3 ∨ m = 4 ∨ m = 5 ∨ m = 6 := by omega
    rcases hc with rfl | rfl | rfl | rfl | rfl | rfl
    · exact cm1 h1 h2
    · exact cm2 h1 h2
    · exact cm3 h1 h2
    · exact cm4 h1 h2
    · exact cm5 h1 h2
    · exact cm6 h1 h2
  unfold cmB at h
  rw [Bool.and_eq_true] at h
  obtain ⟨g, x, a, b, c, d⟩ := ck_of h.1
  exact ⟨of_decide_eq_true h.2, g, x, a, b, c, of_decide_eq_true d⟩
end Go.Proofs.YtnphaaahdlkmhaaGreat
