/-
  What the document's own Named and CheckKeys return.
-/
import Derived.Test.YteacpfknfbmjkaaKa
namespace Go.Proofs.Yteacpfknfbmjkaa
open Go.ChangeShapes Go.WideShapes Go.ChangeAt Go.RowKit
set_option maxRecDepth 100000
set_option maxHeartbeats 4000000

/-- What Named asks of the byte at place j. -/
def nok (s : ByteArray) (j : Nat) : Bool := letB (bt s j) || ((digB (bt s j) || bt s j == 95) && decide (0 < j))
theorem named_no {s : ByteArray} {j : Nat} (hj : j < s.size) (h : nok s j = false) : nameB s = false := by
  unfold nok at h
  unfold nameB
  cases hl : letB (bt s j)
  · rw [hl] at h
    by_cases h0 : 0 < j
    · rw [Bool.and_eq_false_iff]; right
      rw [List.all_eq_false]
      refine ⟨j, List.mem_range.2 hj, ?_⟩
      unfold okB
      simp [h0] at h
      simp [hl, h.1, h.2]
    · obtain rfl : j = 0 := by omega
      rw [hl]; simp
  · rw [hl] at h; simp at h
theorem named_yes {s : ByteArray} (h : ∀ j, j < s.size → nok s j = true) : nameB s = decide (1 ≤ s.size ∧ s.size ≤ 24) := by
  unfold nameB
  by_cases h1 : 1 ≤ s.size ∧ s.size ≤ 24
  · have h0 := h 0 (by omega)
    unfold nok at h0
    simp at h0
    rw [h0, show (List.range s.size).all (fun i => okB (bt s i)) = true from by
      rw [List.all_eq_true]
      intro j hj
      have := h j (List.mem_range.1 hj)
      unfold nok at this
      unfold okB
      cases hl : letB (bt s j)
      · rw [hl] at this; simp at this; simpa using this.1
      · rfl]
    simp
  · rw [show decide (1 ≤ s.size ∧ s.size ≤ 24) = false from by simpa using h1]
    rfl

def NdRel (w : World) (s : ByteArray) (v3 : Value) (wr : World) : Prop := ∃ i : Nat, i ≤ s.size ∧ v3 = .int .i64 i ∧ (∀ j, j < i → nok s j = true) ∧ wr = w
def CkRel (w : World) (l : List Ky) (v4 : Value) (wr : World) : Prop := ∃ i : Nat, i ≤ l.length ∧ v4 = .int .i64 i ∧ errI l i = errI l 0 ∧ Touch NoB w wr
/-- What CheckKeys returns: where, and the error. -/
def CkPost (w : World) (x : Int) (e : Ending) (w' : World) : Prop := ∃ p : Int, e = .returned (.tuple #[.int .i64 p, .int .i64 x]) ∧ Touch NoB w w'
theorem quiet_same {P : Program} {f : FuncId} {args : Array Value} {w : World} {n : Nat} {v : Value}
    (h : Calls P f args (w.drewN n) fun e w' => e = .returned v ∧ w.drewN n = w') : Calls P f args (w.drewN n) fun e w'' => e = .returned v ∧ ∃ m, w'' = w.drewN m :=
  h.mono fun _ _ ⟨he, hm⟩ => ⟨he, n, hm.symm⟩
end Go.Proofs.Yteacpfknfbmjkaa
