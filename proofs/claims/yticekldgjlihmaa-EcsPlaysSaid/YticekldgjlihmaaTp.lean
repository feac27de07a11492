/-
  The columns of a Table and the rows of the document's own Table, one list beside the other: what Add, Set and Remove do to both.
-/
import Derived.Test.YticekldgjlihmaaRd
namespace Go.Proofs.Yticekldgjlihmaa

/-- The columns that the rows l make. -/
def colsOf (m : Int) (l : List Rw) : Nat → List Int := fun c => if c < 16 ∧ bitB m c = true then l.map (fun p => p.2 c) else []
theorem colsOf_nil (m : Int) : colsOf m [] = fun _ => [] := by funext c; simp [colsOf]
theorem colsOf_length {m : Int} {l : List Rw} {c : Nat} (hc : c < 16) (hb : bitB m c = true) : (colsOf m l c).length = l.length := by
  unfold colsOf
  rw [if_pos ⟨hc, hb⟩, List.length_map]
theorem cols_add (m i x : Int) (l : List Rw) (cl : List (Int × Int)) : newCol m (colsOf m l) cl = colsOf m (l ++ [((i, x), newVals m cl)]) := by
  funext c
  unfold newCol colsOf
  by_cases h : c < 16 ∧ bitB m c = true
  · rw [if_pos h, if_pos h, if_pos h, List.map_append]
    simp [newVals, h]
  · rw [if_neg h, if_neg h, if_neg h]
theorem cols_set {m : Int} {l : List Rw} {r c : Nat} {p : Rw} (hp : l[r]? = some p) (hc : c < 16) (hb : bitB m c = true) (v : Int) :
    colSet (colsOf m l) c ((colsOf m l c).set r v) = colsOf m (l.set r (p.1, valAt p.2 c v)) := by
  funext d
  by_cases e : d = c
  · subst e
    rw [colSet_same]
    unfold colsOf
    rw [if_pos ⟨hc, hb⟩, if_pos ⟨hc, hb⟩, List.map_set]
    simp [valAt]
  · rw [colSet_other _ e]
    unfold colsOf
    by_cases h : d < 16 ∧ bitB m d = true
    · rw [if_pos h, if_pos h, List.map_set]
      have e2 : valAt p.2 c v d = p.2 d := by simp [valAt, e]
      simp only [e2]
      apply List.ext_getElem?
      intro j
      rw [List.getElem?_set]
      by_cases ej : r = j
      · subst ej
        rw [if_pos rfl]
        have hl := (List.getElem?_eq_some_iff.1 hp).1
        rw [if_pos (by rw [List.length_map]; exact hl), List.getElem?_map, hp]
        rfl
      · rw [if_neg ej]
    · rw [if_neg h, if_neg h]
theorem map_cut {α β : Type} (f : α → β) (d : α) (l : List α) (r : Nat) : (cutAt d l r).map f = cutAt (f d) (l.map f) r := by
  unfold cutAt
  rw [List.map_take, List.map_set, List.length_map, List.getD_eq_getElem?_getD, List.getD_eq_getElem?_getD, List.getElem?_map]
  congr 2
  cases l[l.length - 1]? <;> rfl
/-- A row of nothing. -/
def noRow : Rw := ((0, 0), fun _ => 0)
theorem cols_rem (m : Int) (l : List Rw) (r : Nat) : remCol m (colsOf m l) r 16 = colsOf m (cutAt noRow l r) := by
  funext c
  unfold remCol colsOf
  by_cases h : c < 16 ∧ bitB m c = true
  · rw [if_pos h, if_pos h, if_pos h, map_cut]
    rfl
  · rw [if_neg h, if_neg h, if_neg h]
theorem ids_rem (l : List Rw) (r : Nat) : cutAt (0, 0) (l.map Prod.fst) r = (cutAt noRow l r).map Prod.fst := by
  rw [map_cut]
  rfl
theorem cols_column (m : Int) (l : List Rw) (c : Int) : columnI m (colsOf m l) c = colR m l c := by
  unfold columnI colR
  cases h : colB m c
  · rfl
  · obtain ⟨k, rfl, hk, hb⟩ := colB_true h
    simp [colsOf, hk, hb]
/-- The cells of row r. -/
def outR (m : Int) (p : Rw) : List (Int × Int) := ((List.range 16).filter (bitB m)).map (fun (c : Nat) => ((c : Int), p.2 c))
theorem cols_out {m : Int} {l : List Rw} {r : Nat} {p : Rw} (hp : l[r]? = some p) : outI m (colsOf m l) r 16 = outR m p := by
  unfold outI outR
  refine List.map_congr_left (fun c hc => ?_)
  obtain ⟨h1, h2⟩ := List.mem_filter.1 hc
  have h3 : c < 16 := by simpa using h1
  unfold colsOf
  rw [if_pos ⟨h3, h2⟩, List.getD_eq_getElem?_getD, List.getElem?_map, hp]
  rfl
end Go.Proofs.Yticekldgjlihmaa
