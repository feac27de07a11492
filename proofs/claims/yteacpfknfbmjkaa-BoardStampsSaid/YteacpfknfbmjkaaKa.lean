/-
  Keys of a schema: plain lists of them, and how such a list lies in memory; what the document's own FindKey, Named and CheckKeys return.
-/
import Derived.Test.YteacpfknfbmjkaaVc
import Derived.Deep.AppendLies
import Derived.Deep.QuietTactic
import Derived.BigQuiet
import Derived.RegionTactic
namespace Go.Proofs.Yteacpfknfbmjkaa
open Go.ChangeShapes Go.WideShapes Go.ChangeAt Go.RowKit
set_option maxRecDepth 100000
set_option maxHeartbeats 1000000

/-- A key: its name, its kind, is it shared? -/
structure Ky where
  nm : ByteArray
  kd : Int
  sh : Bool
/-- The cells of a row of keys. -/
def kc (l : List Ky) : List Value := l.flatMap fun k => [.string k.nm, .int .i64 k.kd, .bool k.sh]
theorem kc_length (l : List Ky) : (kc l).length = l.length * 3 := by
  induction l with
  | nil => rfl
  | cons p l ih => simp only [kc, List.flatMap_cons, List.length_append, List.length_cons, List.length_nil] at ih ⊢; omega
theorem kc_snoc (l : List Ky) (k : Ky) : kc (l ++ [k]) = kc l ++ [.string k.nm, .int .i64 k.kd, .bool k.sh] := by simp [kc]
theorem kc_at (l : List Ky) (i j : Nat) (hj : j < 3) : (kc l)[i * 3 + j]? = (l[i]?).bind fun k => [Value.string k.nm, .int .i64 k.kd, .bool k.sh][j]? := by
  induction l generalizing i with
  | nil => simp [kc]
  | cons p l ih =>
    cases i with
    | zero =>
      rcases j with _ | _ | _ | j
      · simp [kc]
      · simp [kc]
      · simp [kc]
      · omega
    | succ i =>
      have := ih i
      simp only [kc, List.flatMap_cons, List.getElem?_cons_succ] at this ⊢
      rw [show (i + 1) * 3 + j = i * 3 + j + 1 + 1 + 1 from by omega]
      simpa using this

/-- Are two strings one? -/
def eqS (a b : ByteArray) : Bool := a.data.toList == b.data.toList
theorem eqS_list (a b : ByteArray) : (a.toList == b.toList) = eqS a b := by unfold eqS; rw [ByteArray.toList_eq, ByteArray.toList_eq]
/-- The place of the first key of a name. -/
def findK : List Ky → ByteArray → Option Nat
  | [], _ => none
  | k :: l, s => if eqS k.nm s = true then some 0 else (findK l s).map (· + 1)
def posV : Option Nat → Int
  | none => -1
  | some i => i
theorem findK_none {s : ByteArray} : ∀ {l : List Ky}, (∀ (j : Nat) (k : Ky), l[j]? = some k → eqS k.nm s = false) → findK l s = none
  | [], _ => rfl
  | k :: l, h => by
    have h0 := h 0 k rfl
    have h1 := findK_none (l := l) (fun j x hx => h (j + 1) x (by simpa using hx))
    unfold findK
    rw [if_neg (by simp [h0]), h1]
    rfl
theorem findK_some {s : ByteArray} : ∀ {l : List Ky} {i : Nat} {k : Ky}, l[i]? = some k → eqS k.nm s = true → (∀ (j : Nat) (x : Ky), j < i → l[j]? = some x → eqS x.nm s = false) → findK l s = some i
  | [], i, k, hk, _, _ => by simp at hk
  | x :: l, 0, k, hk, he, _ => by
    simp at hk; subst hk
    unfold findK
    rw [if_pos he]
  | x :: l, i + 1, k, hk, he, hn => by
    have h0 := hn 0 x (by omega) rfl
    have h1 := findK_some (l := l) (i := i) (by simpa using hk) he (fun j y hj hy => hn (j + 1) y (by omega) (by simpa using hy))
    unfold findK
    rw [if_neg (by simp [h0]), h1]
    rfl
theorem findK_lt {s : ByteArray} : ∀ {l : List Ky} {i : Nat}, findK l s = some i → i < l.length
  | [], i, h => by simp [findK] at h
  | k :: l, i, h => by
    unfold findK at h
    split at h
    · simp at h; subst h; simp
    · cases h1 : findK l s with
      | none => rw [h1] at h; simp at h
      | some j =>
        rw [h1] at h
        simp at h
        have := findK_lt h1
        simp only [List.length_cons]
        omega

def kindB (n : Int) : Bool := decide (0 ≤ n ∧ n ≤ 4)
/-- The error of a key behind others. -/
def errAt (pre : List Ky) (k : Ky) : Int := if nameB k.nm = true then (if kindB k.kd = true then (if (findK pre k.nm).isSome = true then 6 else 0) else 7) else 5
def errFrom (pre : List Ky) : List Ky → Int
  | [] => 0
  | k :: l => if errAt pre k = 0 then errFrom (pre ++ [k]) l else errAt pre k
theorem errFrom_cons (pre : List Ky) (k : Ky) (l : List Ky) : errFrom pre (k :: l) = if errAt pre k = 0 then errFrom (pre ++ [k]) l else errAt pre k := rfl
/-- The error of a list of keys. -/
def errK (l : List Ky) : Int := if 100 < l.length then 9 else errFrom [] l
/-- .. what is left of it at place i. -/
def errI (l : List Ky) (i : Nat) : Int := errFrom (l.take i) (l.drop i)
theorem errI_zero (l : List Ky) : errI l 0 = errFrom [] l := by simp [errI]
theorem errI_end (l : List Ky) (i : Nat) (h : l.length ≤ i) : errI l i = 0 := by unfold errI; rw [List.drop_of_length_le h]; rfl
theorem errI_step (l : List Ky) (i : Nat) (k : Ky) (h : l[i]? = some k) : errI l i = if errAt (l.take i) k = 0 then errI l (i + 1) else errAt (l.take i) k := by
  have hi := (List.getElem?_eq_some_iff.1 h).1
  have hk : l[i] = k := (List.getElem?_eq_some_iff.1 h).2
  unfold errI
  rw [List.drop_eq_getElem_cons hi, hk, errFrom_cons, List.take_succ_eq_append_getElem hi, hk]

/-- A list of keys lies at A, in no block of F; each name is of a string's length. -/
def KAt (w : World) (F : Nat → Prop) (A : Option Addr) (l : List Ky) : Prop :=
  ∀ (j : Nat) (k : Ky), l[j]? = some k → k.nm.size ≤ 9223372036854775807 ∧ ∃ b off, A = some ⟨b, off, none⟩ ∧ b < w.heap.size ∧ ¬ F b ∧ w.cell? ⟨b, off + j * 3, none⟩ = some (.string k.nm) ∧ w.cell? ⟨b, off + j * 3 + 1, none⟩ = some (.int .i64 k.kd) ∧ w.cell? ⟨b, off + j * 3 + 2, none⟩ = some (.bool k.sh)
theorem KAt.touch {w w' : World} {F : Nat → Prop} {A : Option Addr} {l : List Ky} (h : KAt w F A l) (t : Touch F w w') : KAt w' F A l := by
  intro j k hj
  obtain ⟨hs, b, off, rfl, hb, hf, h1, h2, h3⟩ := h j k hj
  exact ⟨hs, b, off, rfl, Nat.lt_of_lt_of_le hb t.size, hf, (t.cell (p := ⟨b, off + j * 3, none⟩) hb hf).trans h1, (t.cell (p := ⟨b, off + j * 3 + 1, none⟩) hb hf).trans h2, (t.cell (p := ⟨b, off + j * 3 + 2, none⟩) hb hf).trans h3⟩
theorem KAt.more {w : World} {F G : Nat → Prop} {A : Option Addr} {l : List Ky} (h : KAt w F A l) (d : ∀ b, G b → F b) : KAt w G A l := by
  intro j k hj
  obtain ⟨hs, b, off, e, hb, hf, h1, h2, h3⟩ := h j k hj
  exact ⟨hs, b, off, e, hb, fun x => hf (d b x), h1, h2, h3⟩
theorem KAt.take {w : World} {F : Nat → Prop} {A : Option Addr} {l : List Ky} (h : KAt w F A l) (n : Nat) : KAt w F A (l.take n) := by
  intro j k hj
  rw [List.getElem?_take] at hj
  split at hj
  · exact h j k hj
  · cases hj

def FkRel (w : World) (l : List Ky) (s : ByteArray) (v5 : Value) (wr : World) : Prop := ∃ i : Nat, i ≤ l.length ∧ v5 = .int .i64 i ∧ (∀ (j : Nat) (k : Ky), j < i → l[j]? = some k → eqS k.nm s = false) ∧ wr = w

end Go.Proofs.Yteacpfknfbmjkaa
