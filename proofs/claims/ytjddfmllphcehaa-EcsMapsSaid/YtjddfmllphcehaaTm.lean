/-
  Plain words for tables: bits of a mask, where an entity stands in a list, one column changed. No program is named here.
-/
import Derived.Maps.OwnSet
namespace Go.Proofs.Ytjddfmllphcehaa

/-- Is bit c of m set? -/
def bitB (m : Int) (c : Nat) : Bool := decide (m / 2 ^ c % 2 = 1)
/-- Is there a column for c? -/
def colB (m c : Int) : Bool := decide (0 ≤ c) && decide (c < 16) && bitB m c.toNat

/-- Where p stands in l. -/
def rowOf : List (Int × Int) → Int × Int → Option Nat
  | [], _ => none
  | q :: l, p => if q = p then some 0 else (rowOf l p).map (· + 1)
/-- .. as Row returns it. -/
def rowV (l : List (Int × Int)) (p : Int × Int) : Int := match rowOf l p with
  | some r => (r : Int)
  | none => -1

theorem rowOf_some {l : List (Int × Int)} {p : Int × Int} {r : Nat} (h : rowOf l p = some r) : l[r]? = some p ∧ ∀ j, j < r → l[j]? ≠ some p := by
  induction l generalizing r with
  | nil => simp [rowOf] at h
  | cons q l ih =>
    unfold rowOf at h
    split at h
    · rename_i e
      injection h with h
      subst h e
      exact ⟨rfl, fun j hj => by omega⟩
    · rename_i e
      rcases hr : rowOf l p with _ | r'
      · rw [hr] at h; simp at h
      · rw [hr] at h
        simp at h
        subst h
        obtain ⟨h1, h2⟩ := ih hr
        refine ⟨by simpa using h1, fun j hj => ?_⟩
        cases j with
        | zero => simpa using e
        | succ j => simpa using h2 j (by omega)
theorem rowOf_none {l : List (Int × Int)} {p : Int × Int} (h : rowOf l p = none) (j : Nat) : l[j]? ≠ some p := by
  induction l generalizing j with
  | nil => simp
  | cons q l ih =>
    unfold rowOf at h
    split at h
    · cases h
    · rename_i e
      have hr : rowOf l p = none := by simpa using h
      cases j with
      | zero => simpa using e
      | succ j => simpa using ih hr j
/-- No entity stands twice. -/
def Once (l : List (Int × Int)) : Prop := ∀ (a b : Nat) (p : Int × Int), l[a]? = some p → l[b]? = some p → a = b
theorem rowOf_at {l : List (Int × Int)} (hn : Once l) {p : Int × Int} {r : Nat} (h : l[r]? = some p) : rowOf l p = some r := by
  rcases hr : rowOf l p with _ | r'
  · exact absurd h (rowOf_none hr r)
  · rw [hn r r' p h (rowOf_some hr).1]
theorem rowV_some {l : List (Int × Int)} {p : Int × Int} {r : Nat} (h : rowOf l p = some r) : rowV l p = r := by simp [rowV, h]
theorem rowV_none {l : List (Int × Int)} {p : Int × Int} (h : rowOf l p = none) : rowV l p = -1 := by simp [rowV, h]
theorem rowOf_none_of {l : List (Int × Int)} {p : Int × Int} (h : ∀ j : Nat, l[j]? ≠ some p) : rowOf l p = none := by
  rcases hr : rowOf l p with _ | r
  · rfl
  · exact absurd (rowOf_some hr).1 (h r)

/-- One column is another list. -/
def colSet (cf : Nat → List Int) (c : Nat) (l : List Int) : Nat → List Int := fun d => if d = c then l else cf d
theorem colSet_same (cf : Nat → List Int) (c : Nat) (l : List Int) : colSet cf c l c = l := by simp [colSet]
theorem colSet_other (cf : Nat → List Int) {c d : Nat} (h : d ≠ c) (l : List Int) : colSet cf c l d = cf d := by simp [colSet, h]

/-- What bit c says, as Go reckons it. -/
theorem bit_mod (m : Int) (c : Nat) : (m / 2 ^ c % 2 == 1) = bitB m c := rfl

/-- The last value that l has for c, or 0. -/
def lastI (l : List (Int × Int)) (c : Int) : Int := l.foldl (fun a p => if p.1 = c then p.2 else a) 0
theorem lastI_nil (c : Int) : lastI [] c = 0 := rfl
theorem lastI_snoc (l : List (Int × Int)) (p : Int × Int) (c : Int) : lastI (l ++ [p]) c = if p.1 = c then p.2 else lastI l c := by simp [lastI, List.foldl_append]

/-- The first k columns have one 0 more. -/
def upCol (m : Int) (cf : Nat → List Int) (k : Nat) : Nat → List Int := fun c => if c < k ∧ bitB m c = true then cf c ++ [0] else cf c
theorem upCol_zero (m : Int) (cf : Nat → List Int) : upCol m cf 0 = cf := by funext c; simp [upCol]
theorem upCol_yes {m : Int} {cf : Nat → List Int} {k : Nat} (h : bitB m k = true) : colSet (upCol m cf k) k (cf k ++ [0]) = upCol m cf (k + 1) := by
  funext c
  by_cases e : c = k
  · subst e
    rw [colSet_same]
    simp [upCol, h]
  · rw [colSet_other _ e]
    unfold upCol
    have : (c < k ∧ bitB m c = true) ↔ (c < k + 1 ∧ bitB m c = true) := by
      constructor
      · rintro ⟨a, b⟩; exact ⟨by omega, b⟩
      · rintro ⟨a, b⟩; exact ⟨by omega, b⟩
    simp only [this]
theorem upCol_no {m : Int} {cf : Nat → List Int} {k : Nat} (h : bitB m k = false) : upCol m cf (k + 1) = upCol m cf k := by
  funext c
  unfold upCol
  by_cases e : c = k
  · subst e
    simp [h]
  · have : (c < k + 1 ∧ bitB m c = true) ↔ (c < k ∧ bitB m c = true) := by
      constructor
      · rintro ⟨a, b⟩; exact ⟨by omega, b⟩
      · rintro ⟨a, b⟩; exact ⟨by omega, b⟩
    simp only [this]
theorem upCol_at {m : Int} {cf : Nat → List Int} (k : Nat) : upCol m cf k k = cf k := by simp [upCol]

/-- Each column has one value more: the last that was said for it, or 0. -/
def newCol (m : Int) (cf : Nat → List Int) (cl : List (Int × Int)) : Nat → List Int := fun c => if c < 16 ∧ bitB m c = true then cf c ++ [lastI cl c] else cf c
theorem newCol_nil (m : Int) (cf : Nat → List Int) : newCol m cf [] = upCol m cf 16 := rfl
theorem newCol_yes {m : Int} {cf : Nat → List Int} {cl : List (Int × Int)} {c : Nat} {v : Int} {L : Nat} (hc : c < 16) (hb : bitB m c = true) (hL : (cf c).length = L) :
    colSet (newCol m cf cl) c ((newCol m cf cl c).set L v) = newCol m cf (cl ++ [((c : Int), v)]) := by
  funext d
  by_cases e : d = c
  · subst e
    rw [colSet_same]
    unfold newCol
    rw [if_pos ⟨hc, hb⟩, if_pos ⟨hc, hb⟩, lastI_snoc, if_pos rfl, List.set_append_right _ _ (by omega)]
    simp [hL]
  · rw [colSet_other _ e]
    unfold newCol
    by_cases h : d < 16 ∧ bitB m d = true
    · rw [if_pos h, if_pos h, lastI_snoc, if_neg (by simp; omega)]
    · rw [if_neg h, if_neg h]
theorem newCol_no {m : Int} {cf : Nat → List Int} {cl : List (Int × Int)} {c v : Int} (h : colB m c = false) : newCol m cf (cl ++ [(c, v)]) = newCol m cf cl := by
  funext d
  unfold newCol
  by_cases hd : d < 16 ∧ bitB m d = true
  · rw [if_pos hd, if_pos hd, lastI_snoc, if_neg]
    rintro rfl
    unfold colB at h
    simp [hd.2] at h
    omega
  · rw [if_neg hd, if_neg hd]
theorem newCol_len {m : Int} {cf : Nat → List Int} {cl : List (Int × Int)} {c L : Nat} (hc : c < 16) (hb : bitB m c = true) (hL : (cf c).length = L) : (newCol m cf cl c).length = L + 1 := by
  unfold newCol
  rw [if_pos ⟨hc, hb⟩, List.length_append, hL]
  rfl
end Go.Proofs.Ytjddfmllphcehaa
