/-
  What the document's own kind returns of an expression of any shape. Conditions: those that each theorem names.
-/
import Derived.Test.YtblcmgahgpnjmaaCe
import Derived.Test.YtblcmgahgpnjmaaDd
import Derived.Deep.DeepCutAuto
import Derived.Deep.CutRange
namespace Go.Proofs.Ytblcmgahgpnjmaa
open Go.ChangeShapes Go.WideShapes Go.ChangeAt Go.RowKit Go.Maps
set_option maxRecDepth 100000
set_option maxHeartbeats 16000000

/-- The array of two kinds at block q. -/
def KA (w : World) (q : Nat) (k0 k1 : Int) : Prop := w.heap[q]? = some (.cells #[.int .i64 k0, .int .i64 k1] 55 (0, 0))
theorem KA.touch {w w' : World} {q : Nat} {k0 k1 : Int} (h : KA w q k0 k1) (t : Touch NoB w w') : KA w' q k0 k1 := (t.block q (blk_lt h) (fun f => f)).trans h
/-- The kinds of the first i Kids stand in the array. -/
def RkRel (g : GE → Int × Int) (l : List GE) (m : Nat) (w : World) (a b : Int) (s : ByteArray) (A : Option Addr) (c : Nat) (v7 : Value) (wr : World) : Prop := ∃ (i : Nat) (vs : List Int), i ≤ m ∧ v7 = .int .i64 i ∧ kidsG g (l.take i) = .ok vs ∧ vs.length = i ∧ GB wr w.heap.size a b s A m c ∧ KA wr (w.heap.size + 1) (vs.getD 0 0) (vs.getD 1 0) ∧ Touch NoB w wr
/-- The kind of an expression whose Kids have the kinds k0, k1 (0 where there is none), as the document's own kind reckons it. -/
def resD (k k0 k1 : Int) (pI pP pB : Bool) : Option Int :=
  if k = 0 ∨ k = 5 then some 0 else if k = 1 then some 1 else if k = 4 then some 2 else if k = 3 then some 3
  else if k = 6 ∨ k = 7 then (if (pI || pP) = true then some k0 else none)
  else if k = 8 ∨ k = 9 then (if pI = true then some 0 else none)
  else if k = 10 then (if k0 = k1 then some 1 else none)
  else if k = 11 then (if pI = true then some 1 else none)
  else if k = 12 ∨ k = 13 then (if pB = true then some 1 else none)
  else if k = 14 then (if k0 = 1 then some 1 else none)
  else if k = 15 then (if pI = true then some 4 else none)
  else if k = 16 ∨ k = 17 then (if k0 = 4 then some 0 else none)
  else if k = 18 then (if k0 = 4 then some 4 else none)
  else (if pP = true then some 0 else none)
theorem two_of {vs : List Int} (h : vs.length = 2) : vs = [vs.getD 0 0, vs.getD 1 0] := by
  match vs, h with
  | [x, y], _ => rfl
theorem one_of {vs : List Int} (h : vs.length = 1) : vs = [vs.getD 0 0] := by
  match vs, h with
  | [x], _ => rfl
theorem res_eq {k : Int} (hk : 0 ≤ k ∧ k ≤ 19) (h2 : k ≠ 2) {vs : List Int} (hl : (vs.length : Int) = kidsI k) :
    resG k vs = resD k (vs.getD 0 0) (vs.getD 1 0) (decide (vs.getD 0 0 = 0) && decide (vs.getD 1 0 = 0)) (decide (vs.getD 0 0 = 4) && decide (vs.getD 1 0 = 4)) (decide (vs.getD 0 0 = 1) && decide (vs.getD 1 0 = 1)) := by
  have hc : (k = 0 ∨ k = 1 ∨ k = 3 ∨ k = 4 ∨ k = 5) ∨ (k = 14 ∨ k = 16 ∨ k = 17 ∨ k = 18) ∨ (k = 6 ∨ k = 7 ∨ k = 8 ∨ k = 9 ∨ k = 10 ∨ k = 11 ∨ k = 12 ∨ k = 13 ∨ k = 15 ∨ k = 19) := by omega
  rcases hc with h | h | h
  · rcases h with rfl | rfl | rfl | rfl | rfl <;> rfl
  · have e : vs.length = 1 := by rcases h with rfl | rfl | rfl | rfl <;> (simp [kidsI] at hl; omega)
    rw [one_of e]
    obtain ⟨x, hx⟩ : ∃ x, vs.getD 0 0 = x := ⟨_, rfl⟩
    rw [hx]
    rcases h with rfl | rfl | rfl | rfl <;> simp [resG, resD, allI]
  · have e : vs.length = 2 := by rcases h with rfl | rfl | rfl | rfl | rfl | rfl | rfl | rfl | rfl | rfl <;> (simp [kidsI] at hl; omega)
    rw [two_of e]
    obtain ⟨x, hx⟩ : ∃ x, vs.getD 0 0 = x := ⟨_, rfl⟩
    obtain ⟨y, hy⟩ : ∃ y, vs.getD 1 0 = y := ⟨_, rfl⟩
    rw [hx, hy]
    by_cases exy : x = y
    · subst exy
      rcases h with rfl | rfl | rfl | rfl | rfl | rfl | rfl | rfl | rfl | rfl <;> simp [resG, resD, allI]
    · have eyx : ¬ y = x := fun h => exy h.symm
      rcases h with rfl | rfl | rfl | rfl | rfl | rfl | rfl | rfl | rfl | rfl <;> simp [resG, resD, allI, exy, eyx]
theorem beq_flip (a b : Int) : (a == b) = (b == a) := by
  by_cases h : a = b
  · subst h; rfl
  · have h2 : ¬ b = a := fun e => h e.symm
    have e1 : (a == b) = false := by simpa using h
    have e2 : (b == a) = false := by simpa using h2
    rw [e1, e2]
theorem class_of (k0 : Int) : ((k0 == 0) = true ∧ (k0 == 4) = false ∧ (k0 == 1) = false ∧ k0 = 0) ∨ ((k0 == 0) = false ∧ (k0 == 4) = true ∧ (k0 == 1) = false ∧ k0 = 4) ∨ ((k0 == 0) = false ∧ (k0 == 4) = false ∧ (k0 == 1) = true ∧ k0 = 1) ∨ ((k0 == 0) = false ∧ (k0 == 4) = false ∧ (k0 == 1) = false ∧ k0 ≠ 0 ∧ k0 ≠ 4 ∧ k0 ≠ 1) := by
  by_cases d0 : k0 = 0
  · subst d0; exact .inl ⟨rfl, rfl, rfl, rfl⟩
  · by_cases d4 : k0 = 4
    · subst d4; exact .inr (.inl ⟨rfl, rfl, rfl, rfl⟩)
    · by_cases d1 : k0 = 1
      · subst d1; exact .inr (.inr (.inl ⟨rfl, rfl, rfl, rfl⟩))
      · exact .inr (.inr (.inr ⟨by simpa using d0, by simpa using d4, by simpa using d1, d0, d4, d1⟩))
/-- What is assumed of the document's own kind below f. -/
def RkOk (ks : List KyG) (K : Option Addr) (nk cp f : Nat) : Prop := ∀ (x : GE), rightG f x = true → ∀ (w : World) (d : Nat) {a b : Int} {s : ByteArray} {A : Option Addr} {m c : Nat}, GAt w d x a b s A m → m ≤ c → KAtG w NoB K ks →
    Calls Try.prog 13 #[.agg #[.int .i64 a, .int .i64 b, .string s, .slice A m c], .slice K nk cp] w fun e w' => e = .returned (.tuple #[.int .i64 (kindG ks f x).1, .int .i64 (kindG ks f x).2]) ∧ Touch NoB w w'
end Go.Proofs.Ytblcmgahgpnjmaa
