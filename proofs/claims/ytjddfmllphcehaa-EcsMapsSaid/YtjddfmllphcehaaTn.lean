/-
  Plain words for a row that goes: the last takes its place. No program is named here.
-/
import Derived.Test.YtjddfmllphcehaaTm
namespace Go.Proofs.Ytjddfmllphcehaa

/-- The last takes the place of the r-th. -/
def cutAt {α : Type} (d : α) (l : List α) (r : Nat) : List α := (l.set r (l.getD (l.length - 1) d)).take (l.length - 1)
theorem cutAt_length {α : Type} (d : α) (l : List α) (r : Nat) : (cutAt d l r).length = l.length - 1 := by simp [cutAt]
/-- The first k columns have lost row r. -/
def remCol (m : Int) (cf : Nat → List Int) (r k : Nat) : Nat → List Int := fun c => if c < k ∧ bitB m c = true then cutAt 0 (cf c) r else cf c
theorem remCol_zero (m : Int) (cf : Nat → List Int) (r : Nat) : remCol m cf r 0 = cf := by funext c; simp [remCol]
theorem remCol_at {m : Int} {cf : Nat → List Int} {r : Nat} (k : Nat) : remCol m cf r k k = cf k := by simp [remCol]
theorem remCol_yes {m : Int} {cf : Nat → List Int} {r k : Nat} (h : bitB m k = true) : colSet (remCol m cf r k) k (cutAt 0 (cf k) r) = remCol m cf r (k + 1) := by
  funext c
  by_cases e : c = k
  · subst e
    rw [colSet_same]
    simp [remCol, h]
  · rw [colSet_other _ e]
    unfold remCol
    have : (c < k ∧ bitB m c = true) ↔ (c < k + 1 ∧ bitB m c = true) := by
      constructor
      · rintro ⟨a, b⟩; exact ⟨by omega, b⟩
      · rintro ⟨a, b⟩; exact ⟨by omega, b⟩
    simp only [this]
theorem remCol_no {m : Int} {cf : Nat → List Int} {r k : Nat} (h : bitB m k = false) : remCol m cf r (k + 1) = remCol m cf r k := by
  funext c
  unfold remCol
  by_cases e : c = k
  · subst e
    simp [h]
  · have : (c < k + 1 ∧ bitB m c = true) ↔ (c < k ∧ bitB m c = true) := by
      constructor
      · rintro ⟨a, b⟩; exact ⟨by omega, b⟩
      · rintro ⟨a, b⟩; exact ⟨by omega, b⟩
    simp only [this]
/-- The cells of row r, of the first k columns. -/
def outI (m : Int) (cf : Nat → List Int) (r k : Nat) : List (Int × Int) := ((List.range k).filter (bitB m)).map (fun (c : Nat) => ((c : Int), (cf c).getD r 0))
theorem outI_yes {m : Int} {cf : Nat → List Int} {r k : Nat} (h : bitB m k = true) : outI m cf r (k + 1) = outI m cf r k ++ [((k : Int), (cf k).getD r 0)] := by
  simp [outI, List.range_succ, List.filter_append, h]
theorem outI_no {m : Int} {cf : Nat → List Int} {r k : Nat} (h : bitB m k = false) : outI m cf r (k + 1) = outI m cf r k := by
  simp [outI, List.range_succ, List.filter_append, h]
theorem outI_length (m : Int) (cf : Nat → List Int) (r k : Nat) : (outI m cf r k).length ≤ k := by
  unfold outI
  rw [List.length_map]
  have := List.length_filter_le (bitB m) (List.range k)
  simpa using this
end Go.Proofs.Ytjddfmllphcehaa
