/-
  The kind of an expression of any shape, as plain recursion; what package check's result returns of any kind. Conditions: those that each theorem names.
-/
import Derived.Test.YtblcmgahgpnjmaaCd
namespace Go.Proofs.Ytblcmgahgpnjmaa
open Go.ChangeShapes Go.WideShapes Go.ChangeAt Go.RowKit Go.Maps
set_option maxRecDepth 100000
set_option maxHeartbeats 4000000

/-- The kinds of some Kids, or the first error. -/
def kidsG (g : GE → Int × Int) : List GE → Except Int (List Int)
  | [] => .ok []
  | x :: r => if (g x).2 = 0 then (match kidsG g r with | .ok vs => .ok ((g x).1 :: vs) | .error e => .error e) else .error (g x).2
def headG (ks : List KyG) (k : Int) (s : ByteArray) (vs : List Int) : Int × Int :=
  if k = 2 then (match kdG ks s with | some v => (v, 0) | none => (0, 5)) else match resG k vs with | some v => (v, 0) | none => (0, 7)
/-- The kind of an expression that is valid, and the error. -/
def kindG (ks : List KyG) : Nat → GE → Int × Int
  | 0, _ => (0, 0)
  | f + 1, .mk k _ s l => match kidsG (kindG ks f) l with | .error e => (0, e) | .ok vs => headG ks k s vs
theorem kidsG_snoc (g : GE → Int × Int) : ∀ (l : List GE) (x : GE), kidsG g (l ++ [x]) = match kidsG g l with | .ok vs => (if (g x).2 = 0 then .ok (vs ++ [(g x).1]) else .error (g x).2) | .error e => .error e
  | [], x => by
    show kidsG g [x] = _
    simp only [kidsG]
    split <;> rfl
  | y :: r, x => by
    show kidsG g (y :: (r ++ [x])) = _
    simp only [kidsG]
    rw [kidsG_snoc g r x]
    split
    · cases kidsG g r with
      | error e => rfl
      | ok vs =>
        by_cases hx : (g x).2 = 0
        · simp [hx]
        · simp [hx]
    · rfl
theorem kidsG_len (g : GE → Int × Int) : ∀ (l : List GE) (vs : List Int), kidsG g l = .ok vs → vs.length = l.length
  | [], vs, h => by simp only [kidsG] at h; cases h; rfl
  | x :: r, vs, h => by
    simp only [kidsG] at h
    split at h
    · cases hr : kidsG g r with
      | error e => rw [hr] at h; cases h
      | ok us =>
        rw [hr] at h
        cases h
        simp [kidsG_len g r us hr]
    · cases h
theorem kidsG_stop (g : GE → Int × Int) : ∀ (l r : List GE) (x : GE) (vs : List Int), kidsG g l = .ok vs → (g x).2 ≠ 0 → kidsG g (l ++ x :: r) = .error (g x).2
  | [], r, x, vs, _, hx => by
    show kidsG g (x :: r) = _
    simp only [kidsG]
    rw [if_neg hx]
  | y :: q, r, x, vs, h, hx => by
    simp only [kidsG] at h
    show kidsG g (y :: (q ++ x :: r)) = _
    simp only [kidsG]
    split at h
    · rename_i h0
      rw [if_pos h0]
      cases hq : kidsG g q with
      | error e => rw [hq] at h; cases h
      | ok us => rw [kidsG_stop g q r x us hq hx]
    · cases h
theorem kidsG_step {g : GE → Int × Int} {l : List GE} {i : Nat} {y : GE} {vs : List Int} (hy : l[i]? = some y) (h : kidsG g (l.take i) = .ok vs) (h0 : (g y).2 = 0) : kidsG g (l.take (i + 1)) = .ok (vs ++ [(g y).1]) := by
  rw [List.take_add_one, hy]
  show kidsG g (l.take i ++ [y]) = _
  rw [kidsG_snoc, h]
  simp only
  rw [if_pos h0]
theorem kidsG_bad {g : GE → Int × Int} {l : List GE} {i : Nat} {y : GE} {vs : List Int} (hy : l[i]? = some y) (h : kidsG g (l.take i) = .ok vs) (h0 : (g y).2 ≠ 0) : kidsG g l = .error (g y).2 := by
  have hi := (List.getElem?_eq_some_iff.1 hy).1
  have hk := (List.getElem?_eq_some_iff.1 hy).2
  have e : l = l.take i ++ y :: l.drop (i + 1) := by
    rw [← hk, ← List.drop_eq_getElem_cons hi, List.take_append_drop]
  rw [e]
  exact kidsG_stop g _ _ y vs h h0
/-- Cells of ints. -/
def icG (l : List Int) : List Value := l.map (Value.int .i64)
theorem icG_snoc (l : List Int) (m : Int) : icG (l ++ [m]) = icG l ++ [.int .i64 m] := by simp [icG]
theorem ksat_row {w : World} {B : Nat} {A : Option Addr} {n cap : Nat} {vs : List Int} (h : w.ownsRow B 3 1 (.slice A n cap) n (icG vs)) (hl : vs.length = n) : KsAt w A vs := by
  intro j x hx
  have hj : j < n := by have := (List.getElem?_eq_some_iff.1 hx).1; omega
  obtain ⟨g, cp, hv, _, _, hob⟩ := row_form h (by omega)
  injection hv with hv1 hv2 hv3
  subst hv1
  refine ⟨g, 0, rfl, row_lt h hob, ?_⟩
  rw [Nat.zero_add, h.cellAt j (by omega)]
  simp [icG, hx]
theorem info_i64 : (Try.prog.info? 3).map (fun i => (i.zero, i.size, i.bytes)) = some (some (.int .i64 0), 1, 8) := by kernel_rfl
theorem info_i64' : ∃ i0, Try.prog.info? 3 = some i0 ∧ i0.zero = some (.int .i64 0) ∧ i0.size = 1 ∧ i0.bytes = 8 := by
  have h := info_i64
  cases hi : Try.prog.info? 3 with
  | none => rw [hi] at h; cases h
  | some i0 =>
    rw [hi] at h
    simp at h
    exact ⟨i0, rfl, h.1, h.2.1, h.2.2⟩
theorem res_any {k : Int} (h0 : 0 ≤ k ∧ k ≤ 19) (h2 : k ≠ 2) (A : Option Addr) (n cap : Nat) (ks : List Int) (w : World) (hn : ks.length = n) (hn2 : n ≤ 1000) (hk : (n : Int) = kidsI k) (h : KsAt w A ks) :
    Calls Try.prog 39 #[.int .i64 k, .slice A n cap] w (ResPost (resG k ks) w) := by
  have hc : (k = 0 ∨ k = 1 ∨ k = 3 ∨ k = 4 ∨ k = 5) ∨ (k = 6 ∨ k = 7) ∨ (k = 8 ∨ k = 9) ∨ (k = 16 ∨ k = 17 ∨ k = 19) ∨ (k = 12 ∨ k = 13 ∨ k = 14) ∨ (k = 11 ∨ k = 15) ∨ k = 18 ∨ k = 10 := by omega
  rcases hc with h | h | h | h | h | h | h | h
  · exact res_const h A n cap ks w
  · have : kidsI k = 2 := by rcases h with rfl | rfl <;> rfl
    exact res_add h A n cap ks w hn hn2 ‹_› (by omega)
  · exact res_mul h A n cap ks w hn hn2 ‹_›
  · exact res_re h A n cap ks w hn hn2 ‹_›
  · exact res_and h A n cap ks w hn hn2 ‹_›
  · exact res_less h A n cap ks w hn hn2 ‹_›
  · exact res_turn h A n cap ks w hn hn2 ‹_›
  · subst h
    have : kidsI 10 = 2 := rfl
    exact res_same A n cap ks w hn hn2 ‹_› (by omega)
end Go.Proofs.Ytblcmgahgpnjmaa
