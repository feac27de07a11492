/-
  Lists of tokens in memory; what package lex's Tokens returns of a text that is right, that is wrong; bytes out of a string; the example of the document. Conditions: those that each theorem names.
-/
import Derived.Test.YtblcmgahgpnjmaaQa
import Derived.Lib.ConvBytes
import Derived.Lib.AtoiErrMem
import Derived.Lib.SlBytesConst
namespace Go.Proofs.Ytblcmgahgpnjmaa
open Go.ChangeShapes Go.WideShapes Go.ChangeAt Go.RowKit
set_option maxRecDepth 100000
set_option maxHeartbeats 4000000

/-- Tokens lie in block g from its start on. -/
structure TL (w : World) (g : Nat) (ts : List Tk) : Prop where
  lt : g < w.heap.size
  at_ : ∀ (k : Nat) (t : Tk), ts[k]? = some t → w.cell? ⟨g, k * 4, none⟩ = some (.int .i64 t.kd) ∧ w.cell? ⟨g, k * 4 + 1, none⟩ = some (.int .i64 t.n) ∧ w.cell? ⟨g, k * 4 + 2, none⟩ = some (.int .i64 t.pl) ∧ w.cell? ⟨g, k * 4 + 3, none⟩ = some (.string (bs t.tx))
theorem TL.touch {w w' : World} {g : Nat} {ts : List Tk} (h : TL w g ts) (t : Touch NoB w w') : TL w' g ts := by
  refine ⟨Nat.lt_of_lt_of_le h.lt t.size, fun k x hx => ?_⟩
  have e := fun j => t.cell (p := ⟨g, j, none⟩) h.lt (fun x => x)
  obtain ⟨a, b, c, d⟩ := h.at_ k x hx
  exact ⟨(e _).trans a, (e _).trans b, (e _).trans c, (e _).trans d⟩
theorem tkC_at (ts : List Tk) : ∀ (k : Nat) (t : Tk), ts[k]? = some t → (tkC ts)[k * 4]? = some (.int .i64 t.kd) ∧ (tkC ts)[k * 4 + 1]? = some (.int .i64 t.n) ∧ (tkC ts)[k * 4 + 2]? = some (.int .i64 t.pl) ∧ (tkC ts)[k * 4 + 3]? = some (.string (bs t.tx)) := by
  induction ts with
  | nil => intro k t h; cases h
  | cons a r ih =>
    intro k t h
    have e : tkC (a :: r) = TkV a ++ tkC r := rfl
    have hl : (TkV a).length = 4 := rfl
    cases k with
    | zero => simp only [List.getElem?_cons_zero, Option.some.injEq] at h; subst h; rw [e]; exact ⟨rfl, rfl, rfl, rfl⟩
    | succ k =>
      have := ih k t (by simpa using h)
      rw [e]
      refine ⟨?_, ?_, ?_, ?_⟩ <;> rw [List.getElem?_append_right (by rw [hl]; omega), hl]
      · rw [show (k + 1) * 4 - 4 = k * 4 from by omega]; exact this.1
      · rw [show (k + 1) * 4 + 1 - 4 = k * 4 + 1 from by omega]; exact this.2.1
      · rw [show (k + 1) * 4 + 2 - 4 = k * 4 + 2 from by omega]; exact this.2.2.1
      · rw [show (k + 1) * 4 + 3 - 4 = k * 4 + 3 from by omega]; exact this.2.2.2
theorem good_pos {b : Bs} {ts : List Tk} (h : lexL b = .good ts) : 0 < ts.length := by
  have := lex_places h
  cases ts with
  | nil => exact this.elim
  | cons t r => simp
/-- Bytes laid as a literal. -/
theorem bat_const (w : World) (C : Array Value) (t : TypeId) (fr : Nat × Nat) (l : Bs) (hC : C.toList = l.map fun c => .int .u8 (c.toNat : Int)) {N : Nat} (hN : w.heap.size = N) : BAt (w.alloc (.cells C t fr)) (some ⟨N, 0, none⟩) l := by
  intro _
  subst hN
  refine ⟨w.heap.size, 0, rfl, by simp, fun i c hi => ?_⟩
  have h : (w.alloc (.cells C t fr)).heap[w.heap.size]? = some (.cells C t fr) := heap_alloc_new w _
  rw [cell_of_row _ _ _ _ _ _ h, Nat.zero_add, ← Array.getElem?_toList, hC, List.getElem?_map, hi]
  rfl
end Go.Proofs.Ytblcmgahgpnjmaa
