/-
  What the document's own RightExpr returns of an expression of any shape. Conditions: those that each theorem names.
-/
import Derived.Test.YtnphaaahdlkmhaaGreatZs14
namespace Go.Proofs.YtnphaaahdlkmhaaGreat
open Go.ChangeShapes Go.WideShapes Go.ChangeAt Go.RowKit
set_option maxRecDepth 100000
set_option maxHeartbeats 4000000

/-- What is valid by itself. -/
theorem alone_yes {k n : Int} {s : ByteArray} {m : Nat} (ha : aloneG k n s m = true) :
    (m : Int) = kidsI k ∧ (((k = 2 ∨ k = 3) ∧ s.size ≠ 0 ∧ okS s = true ∧ n = 0) ∨ (k = 0 ∧ s.size = 0 ∧ n ≠ -9223372036854775808) ∨ (k = 1 ∧ s.size = 0 ∧ (n = 0 ∨ n = 1)) ∨ ((4 ≤ k ∧ k ≤ 19) ∧ s.size = 0 ∧ n = 0)) := by
  unfold aloneG at ha
  simp only [Bool.and_eq_true, decide_eq_true_eq] at ha
  obtain ⟨⟨⟨h1, h2⟩, h3⟩, h4⟩ := ha
  refine ⟨h2, ?_⟩
  by_cases h5 : k = 2 ∨ k = 3
  · rw [if_pos h5] at h3
    rw [if_neg (by omega), if_neg (by omega)] at h4
    exact .inl ⟨h5, fun h => by rw [okS_empty h] at h3; simp at h3, h3, by simpa using h4⟩
  · rw [if_neg h5] at h3
    have h3 : s.size = 0 := by simpa using h3
    by_cases h6 : k = 0
    · rw [if_pos h6] at h4
      exact .inr (.inl ⟨h6, h3, by simpa using h4⟩)
    · rw [if_neg h6] at h4
      by_cases h7 : k = 1
      · rw [if_pos h7] at h4
        exact .inr (.inr (.inl ⟨h7, h3, by simpa using h4⟩))
      · rw [if_neg h7] at h4
        exact .inr (.inr (.inr ⟨by omega, h3, by simpa using h4⟩))
theorem kids_named {k : Int} (h : k = 2 ∨ k = 3) : kidsI k = 0 := by rcases h with rfl | rfl <;> rfl
/-- The first i Kids are valid. -/
def RgRel (f : Nat) (l : List GE) (m : Nat) (w : World) (v5 : Value) (wr : World) : Prop := ∃ i : Nat, i ≤ m ∧ v5 = .int .i64 i ∧ (∀ (j : Nat) (y : GE), j < i → l[j]? = some y → rightG f y = true) ∧ Touch NoB w wr
theorem all_right {f : Nat} {l : List GE} (h : ∀ (j : Nat) (y : GE), j < l.length → l[j]? = some y → rightG f y = true) : l.all (rightG f) = true := by
  rw [List.all_eq_true]
  intro y hy
  obtain ⟨j, hj⟩ := List.mem_iff_getElem?.1 hy
  exact h j y (List.getElem?_eq_some_iff.1 hj).1 hj
theorem all_wrong {f : Nat} {l : List GE} {i : Nat} {y : GE} (hy : l[i]? = some y) (h : rightG f y = false) : l.all (rightG f) = false := by
  cases h2 : l.all (rightG f) with
  | false => rfl
  | true =>
    have := List.all_eq_true.1 h2 y (List.mem_of_getElem? hy)
    rw [h] at this
    exact this.symm
end Go.Proofs.YtnphaaahdlkmhaaGreat
