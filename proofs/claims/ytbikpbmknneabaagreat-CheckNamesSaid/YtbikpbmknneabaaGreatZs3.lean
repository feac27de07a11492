/-
  What package tokens' one, Number and Name, and package expr's number and name do with a reader in memory. Conditions: those that each theorem names.
-/
import Derived.Test.YtbikpbmknneabaaGreatZs2
import Derived.Deep.RegionLaw
import Derived.Deep.AppendLies
section
namespace Go.Proofs.YtbikpbmknneabaaGreat
open Go.ChangeShapes Go.WideShapes Go.ChangeAt Go.RowKit
set_option maxRecDepth 100000
set_option maxHeartbeats 4000000

theorem num_nxt {ts : List Tk} {k m : Nat} (h : numAt ts k = some m) : (nxt ts k 0).kd = 3 ∧ (nxt ts k 0).n = m := by
  unfold numAt at h
  cases ht : ts[k]? with
  | none => rw [ht] at h; cases h
  | some t =>
    rw [ht] at h
    simp only at h
    split at h
    · rename_i h3; injection h with h; rw [nxt_at ht]; exact ⟨h3, h⟩
    · cases h
theorem num_not {ts : List Tk} {k : Nat} (h : numAt ts k = none) : (nxt ts k 0).kd ≠ 3 := by
  unfold numAt at h
  cases ht : ts[k]? with
  | none => simp [nxt, ht]
  | some t =>
    rw [ht] at h
    simp only at h
    split at h
    · cases h
    · rename_i h3; rw [nxt_at ht]; exact h3
theorem PSt.kd_zero {T : TypeId} {w : World} {gp g n cp : Nat} {ts : List Tk} {k e c : Nat} (h : PSt T w gp g n cp ts k e) (hc : c ≠ 0) (hk : (nxt ts k e).kd = c) : e = 0 ∧ k < n := by
  by_cases he : e = 0
  · subst he
    refine ⟨rfl, ?_⟩
    by_cases hl : k < n
    · exact hl
    · have := h.le
      have : k = ts.length := by rw [h.len]; omega
      rw [this, nxt_end] at hk
      exact absurd hk.symm hc
  · rw [nxt_bad he] at hk; exact absurd hk.symm hc
/-- What Number returns, and where it leaves the reader. -/
def numR (t : Tk) : Nat := if t.kd = 3 then t.n else 0
def namR (t : Tk) : Bs := if t.kd = 1 then t.tx else []
def stepK (t : Tk) (c k : Nat) : Nat := if t.kd = c then k + 1 else k
def stepE (t : Tk) (c e : Nat) : Nat := if t.kd = c then e else if e = 0 then 2 else e
/-- Is this a name? -/
def okN (s : Bs) : Bool := nameB (bs s) && !wrd (bs s)
end Go.Proofs.YtbikpbmknneabaaGreat
end
/-
  A parser of declarations over lists of tokens, told by plain functions of a place and an error: each reads on where there is no error yet, and does nothing behind one. No program is named here.
-/
section
namespace Go.Proofs.YtbikpbmknneabaaGreat
set_option maxRecDepth 100000

/-- A place and an error (0: none). -/
abbrev St := Nat × Nat
def nxS (ts : List Tk) (σ : St) : Tk := nxt ts σ.1 σ.2
def isS (ts : List Tk) (s : Bs) (σ : St) : Bool := acc (nxS ts σ) s
def acS (ts : List Tk) (s : Bs) (σ : St) : St := (if isS ts s σ = true then σ.1 + 1 else σ.1, σ.2)
def failS (c : Nat) (σ : St) : St := (σ.1, if σ.2 = 0 then c else σ.2)
def exS (ts : List Tk) (s : Bs) (σ : St) : St := (if isS ts s σ = true then σ.1 + 1 else σ.1, if isS ts s σ = true then σ.2 else if σ.2 = 0 then 2 else σ.2)
def nuV (ts : List Tk) (σ : St) : Nat := numR (nxS ts σ)
def nuS (ts : List Tk) (σ : St) : St := (stepK (nxS ts σ) 3 σ.1, stepE (nxS ts σ) 3 σ.2)
def naV (ts : List Tk) (σ : St) : Bs := namR (nxS ts σ)
def naS (ts : List Tk) (σ : St) : St := (stepK (nxS ts σ) 1 σ.1, stepE (nxS ts σ) 1 σ.2)
/-- One of these words: which, and behind it. -/
def choF (ts : List Tk) (σ : St) : List Bs → Nat → Option Nat
  | [], _ => none
  | s :: r, i => if isS ts s σ = true then some i else choF ts σ r (i + 1)
def choV (ts : List Tk) (ws : List Bs) (σ : St) : Nat := (choF ts σ ws 0).getD 0
def choS (ts : List Tk) (ws : List Bs) (σ : St) : St := match choF ts σ ws 0 with
  | some _ => (σ.1 + 1, σ.2)
  | none => failS 2 σ
/-- A number, or one below 0. -/
def siV (ts : List Tk) (σ : St) : Int := if isS ts [45] σ = true then -(nuV ts (acS ts [45] σ) : Int) else nuV ts σ
def siS (ts : List Tk) (σ : St) : St := nuS ts (acS ts [45] σ)
/-- An expression. -/
def eqV (ts : List Tk) (σ : St) : Ex := if σ.2 = 0 then (match parL ts σ.1 with | .ok x _ => x | .er _ _ => .leaf 0 0 []) else .leaf 0 0 []
def eqS (ts : List Tk) (σ : St) : St := if σ.2 = 0 then (match parL ts σ.1 with | .ok _ k => (k, 0) | .er e k => (k, e)) else σ
/-! ### keys, variables, conditions, makes -/
def kindW : List Bs := [[105, 110, 116], [98, 111, 111, 108], [114, 101, 102], [115, 121, 109], [112, 111, 105, 110, 116]]
structure Ky where
  nm : Bs
  kd : Nat
  sh : Bool
structure Va where
  nm : Bs
  lo : Int
  hi : Int
structure Cn where
  nm : Bs
  op : Nat
  n : Int
structure Mk where
  nm : Bs
  add : Bool
  n : Int
def varV (ts : List Tk) (σ : St) : Va := ⟨naV ts σ, siV ts (naS ts σ), siV ts (siS ts (naS ts σ))⟩
def varS (ts : List Tk) (σ : St) : St := exS ts [59] (siS ts (siS ts (naS ts σ)))
end Go.Proofs.YtbikpbmknneabaaGreat
end
/-
  Expressions in memory; their depth, as package expr's depth returns it. Conditions: those that each theorem names.
-/
section
namespace Go.Proofs.YtbikpbmknneabaaGreat
open Go.ChangeShapes Go.WideShapes Go.ChangeAt Go.RowKit
set_option maxRecDepth 100000
set_option maxHeartbeats 4000000

/-- The fields of an expression x, whose Kids lie in blocks of Q. -/
def ET (w : World) (Q : Nat → Prop) : Ex → Int → Int → ByteArray → Option Addr → Nat → Nat → Prop
  | .leaf k n s, a, b, t, A, m, c => a = k ∧ b = n ∧ t = bs s ∧ A = none ∧ m = 0 ∧ c = 0
  | .one k x, a, b, t, A, m, c => a = k ∧ b = 0 ∧ t = ⟨#[]⟩ ∧ m = 1 ∧ c = 1 ∧ ∃ g fr a1 b1 t1 A1 m1 c1, (A = some ⟨g, 0, none⟩ ∧ Q g) ∧
      w.heap[g]? = some (.cells #[.int .i64 a1, .int .i64 b1, .string t1, .slice A1 m1 c1] 44 fr) ∧ ET w Q x a1 b1 t1 A1 m1 c1
  | .two k x y, a, b, t, A, m, c => a = k ∧ b = 0 ∧ t = ⟨#[]⟩ ∧ m = 2 ∧ c = 2 ∧ ∃ g fr a1 b1 t1 A1 m1 c1 a2 b2 t2 A2 m2 c2, (A = some ⟨g, 0, none⟩ ∧ Q g) ∧
      w.heap[g]? = some (.cells #[.int .i64 a1, .int .i64 b1, .string t1, .slice A1 m1 c1, .int .i64 a2, .int .i64 b2, .string t2, .slice A2 m2 c2] 44 fr) ∧ ET w Q x a1 b1 t1 A1 m1 c1 ∧ ET w Q y a2 b2 t2 A2 m2 c2
/-- No expression of Q lies in F. -/
def NoX (w : World) (F Q : Nat → Prop) : Prop := ∀ (b : Nat) (cs : Array Value) (fr : Nat × Nat), F b → Q b → w.heap[b]? ≠ some (.cells cs 44 fr)
theorem NoX.nob (w : World) (Q : Nat → Prop) : NoX w NoB Q := fun _ _ _ h => h.elim
theorem ET.touch {w w' : World} {F Q : Nat → Prop} (t : Touch F w w') (hF : NoX w F Q) : ∀ {x : Ex} {a b : Int} {s : ByteArray} {A : Option Addr} {m c : Nat}, ET w Q x a b s A m c → ET w' Q x a b s A m c
  | .leaf k n q, a, b, s, A, m, c, h => h
  | .one k x, a, b, s, A, m, c, h => by
    obtain ⟨h1, h2, h3, h4, h5, g, fr, a1, b1, t1, A1, m1, c1, h6, h7, h8⟩ := h
    exact ⟨h1, h2, h3, h4, h5, g, fr, a1, b1, t1, A1, m1, c1, h6, (t.block g (blk_lt h7) (fun f => hF g _ _ f h6.2 h7)).trans h7, ET.touch t hF h8⟩
  | .two k x y, a, b, s, A, m, c, h => by
    obtain ⟨h1, h2, h3, h4, h5, g, fr, a1, b1, t1, A1, m1, c1, a2, b2, t2, A2, m2, c2, h6, h7, h8, h9⟩ := h
    exact ⟨h1, h2, h3, h4, h5, g, fr, a1, b1, t1, A1, m1, c1, a2, b2, t2, A2, m2, c2, h6, (t.block g (blk_lt h7) (fun f => hF g _ _ f h6.2 h7)).trans h7, ET.touch t hF h8, ET.touch t hF h9⟩
theorem ET.touch0 {w w' : World} {Q : Nat → Prop} (t : Touch NoB w w') {x : Ex} {a b : Int} {s : ByteArray} {A : Option Addr} {m c : Nat} (h : ET w Q x a b s A m c) : ET w' Q x a b s A m c := ET.touch t (NoX.nob w Q) h
/-- The same blocks, told otherwise. -/
theorem ET.via {w : World} {Q R : Nat → Prop} (hQ : ∀ b, Q b → b < w.heap.size → R b) : ∀ {x : Ex} {a b : Int} {s : ByteArray} {A : Option Addr} {m c : Nat}, ET w Q x a b s A m c → ET w R x a b s A m c
  | .leaf k n q, a, b, s, A, m, c, h => h
  | .one k x, a, b, s, A, m, c, h => by
    obtain ⟨h1, h2, h3, h4, h5, g, fr, a1, b1, t1, A1, m1, c1, h6, h7, h8⟩ := h
    exact ⟨h1, h2, h3, h4, h5, g, fr, a1, b1, t1, A1, m1, c1, ⟨h6.1, hQ g h6.2 (blk_lt h7)⟩, h7, ET.via hQ h8⟩
  | .two k x y, a, b, s, A, m, c, h => by
    obtain ⟨h1, h2, h3, h4, h5, g, fr, a1, b1, t1, A1, m1, c1, a2, b2, t2, A2, m2, c2, h6, h7, h8, h9⟩ := h
    exact ⟨h1, h2, h3, h4, h5, g, fr, a1, b1, t1, A1, m1, c1, a2, b2, t2, A2, m2, c2, ⟨h6.1, hQ g h6.2 (blk_lt h7)⟩, h7, ET.via hQ h8, ET.via hQ h9⟩
theorem PSt.nox {T : TypeId} {w : World} {gp g n cp : Nat} {ts : List Tk} {k e : Nat} (h : PSt T w gp g n cp ts k e) (Q : Nat → Prop) (hT : T ≠ 44 := by decide) : NoX w (AtB gp) Q := by
  intro b cs fr hb _ hx
  unfold AtB at hb
  subst hb
  rw [h.blk] at hx
  injection hx with hx
  injection hx with _ hx
  exact absurd hx hT
def kidsOf : Ex → List Ex
  | .leaf _ _ _ => []
  | .one _ x => [x]
  | .two _ x y => [x, y]
theorem ET.len {w : World} {Q : Nat → Prop} : ∀ {x : Ex} {a b : Int} {s : ByteArray} {A : Option Addr} {m c : Nat}, ET w Q x a b s A m c → (kidsOf x).length = m ∧ c = m ∧ m ≤ 2
  | .leaf k n q, a, b, s, A, m, c, h => by obtain ⟨_, _, _, _, rfl, rfl⟩ := h; exact ⟨rfl, rfl, by omega⟩
  | .one k x, a, b, s, A, m, c, h => by obtain ⟨_, _, _, rfl, rfl, _⟩ := h; exact ⟨rfl, rfl, by omega⟩
  | .two k x y, a, b, s, A, m, c, h => by obtain ⟨_, _, _, rfl, rfl, _⟩ := h; exact ⟨rfl, rfl, by omega⟩
/-- Where a Kid lies. -/
structure KidAt (w : World) (Q : Nat → Prop) (g i : Nat) (y : Ex) (a b : Int) (s : ByteArray) (A : Option Addr) (m c : Nat) : Prop where
  lt : g < w.heap.size
  c0 : w.cell? ⟨g, i * 4, none⟩ = some (.int .i64 a)
  c1 : w.cell? ⟨g, i * 4 + 1, none⟩ = some (.int .i64 b)
  c2 : w.cell? ⟨g, i * 4 + 2, none⟩ = some (.string s)
  c3 : w.cell? ⟨g, i * 4 + 3, none⟩ = some (.slice A m c)
  et : ET w Q y a b s A m c
theorem ET.kid {w : World} {Q : Nat → Prop} : ∀ {x : Ex} {a b : Int} {s : ByteArray} {A : Option Addr} {m c : Nat}, ET w Q x a b s A m c → ∀ (i : Nat) (y : Ex), (kidsOf x)[i]? = some y →
    ∃ g a1 b1 t1 A1 m1 c1, A = some ⟨g, 0, none⟩ ∧ KidAt w Q g i y a1 b1 t1 A1 m1 c1
  | .leaf k n q, a, b, s, A, m, c, h, i, y, hi => by cases hi
  | .one k x, a, b, s, A, m, c, h, i, y, hi => by
    obtain ⟨h1, h2, h3, h4, h5, g, fr, a1, b1, t1, A1, m1, c1, h6, h7, h8⟩ := h
    have hi0 : i = 0 := by have := (List.getElem?_eq_some_iff.1 hi).1; simp [kidsOf] at this; exact this
    subst hi0
    simp only [kidsOf, List.getElem?_cons_zero, Option.some.injEq] at hi
    subst hi
    exact ⟨g, a1, b1, t1, A1, m1, c1, h6.1, blk_lt h7, cell_blk h7 0, cell_blk h7 1, cell_blk h7 2, cell_blk h7 3, h8⟩
  | .two k x z, a, b, s, A, m, c, h, i, y, hi => by
    obtain ⟨h1, h2, h3, h4, h5, g, fr, a1, b1, t1, A1, m1, c1, a2, b2, t2, A2, m2, c2, h6, h7, h8, h9⟩ := h
    have hi0 : i = 0 ∨ i = 1 := by have := (List.getElem?_eq_some_iff.1 hi).1; simp [kidsOf] at this; omega
    rcases hi0 with rfl | rfl
    · simp only [kidsOf, List.getElem?_cons_zero, Option.some.injEq] at hi
      subst hi
      exact ⟨g, a1, b1, t1, A1, m1, c1, h6.1, blk_lt h7, cell_blk h7 0, cell_blk h7 1, cell_blk h7 2, cell_blk h7 3, h8⟩
    · simp only [kidsOf, List.getElem?_cons_succ, List.getElem?_cons_zero, Option.some.injEq] at hi
      subst hi
      exact ⟨g, a2, b2, t2, A2, m2, c2, h6.1, blk_lt h7, cell_blk h7 4, cell_blk h7 5, cell_blk h7 6, cell_blk h7 7, h9⟩
/-- The greatest depth of the first i Kids. -/
def dk (x : Ex) (i : Nat) : Nat := ((kidsOf x).take i).foldl (fun d y => max d y.depth) 0
theorem dk_zero (x : Ex) : dk x 0 = 0 := rfl
theorem dk_succ {x y : Ex} {i : Nat} (h : (kidsOf x)[i]? = some y) : dk x (i + 1) = max (dk x i) y.depth := by
  unfold dk
  rw [List.take_add_one, h, List.foldl_append]
  rfl
theorem dk_full (x : Ex) : dk x (kidsOf x).length + 1 = x.depth := by
  unfold dk
  rw [List.take_length]
  cases x <;> simp [kidsOf, Ex.depth]
theorem kid_lt {x y : Ex} {i : Nat} (h : (kidsOf x)[i]? = some y) : y.depth < x.depth := by
  cases x with
  | leaf => cases h
  | one k x =>
    have hi0 : i = 0 := by have := (List.getElem?_eq_some_iff.1 h).1; simp [kidsOf] at this; exact this
    subst hi0
    simp only [kidsOf, List.getElem?_cons_zero, Option.some.injEq] at h
    subst h
    simp [Ex.depth]
  | two k x z =>
    have hi0 : i = 0 ∨ i = 1 := by have := (List.getElem?_eq_some_iff.1 h).1; simp [kidsOf] at this; omega
    rcases hi0 with rfl | rfl <;> simp [kidsOf] at h <;> subst h <;> simp [Ex.depth] <;> omega
theorem dk_lt (x : Ex) (i : Nat) : dk x i < x.depth := by
  induction i with
  | zero => rw [dk_zero]; cases x <;> simp [Ex.depth]
  | succ i ih =>
    cases h : (kidsOf x)[i]? with
    | none =>
      have : dk x (i + 1) = dk x i := by unfold dk; rw [List.take_add_one, h]; simp
      omega
    | some y => rw [dk_succ h]; have := kid_lt h; omega

end Go.Proofs.YtbikpbmknneabaaGreat
end
/-
  What package expr's word and operator return. Conditions: the table of levels can be read; those that each theorem names.
-/
section
namespace Go.Proofs.YtbikpbmknneabaaGreat
open Go.ChangeShapes Go.WideShapes Go.ChangeAt Go.RowKit
set_option maxRecDepth 100000
set_option maxHeartbeats 4000000

/-- The word or sign of a kind. -/
def wordB : Int → Bs
  | 4 => [115, 101, 108, 102]
  | 5 => [116, 105, 109, 101]
  | 6 => [43]
  | 7 => [45]
  | 8 => [42]
  | 9 => [47]
  | 10 => [61, 61]
  | 11 => [60]
  | 12 => [97, 110, 100]
  | 13 => [111, 114]
  | 14 => [110, 111, 116]
  | 16 => [114, 101]
  | 17 => [105, 109]
  | 18 => [116, 117, 114, 110]
  | 19 => [102, 97, 114]
  | _ => []
/-- The kinds of each level. -/
def lvs : List (List Int) := [[13], [12], [10, 11], [6, 7], [8, 9]]
/-- The first of these kinds whose word comes. -/
def firstK (ts : List Tk) (k e : Nat) (ops : List Int) : Option Int := ops.find? (fun kd => acc (nxt ts k e) (wordB kd))
theorem opk_first (ts : List Tk) (lv k : Nat) (ops : List Int) (h : lvs[lv]? = some ops) : opk ts lv k = firstK ts k 0 ops := by
  have hl : lv < 5 := (List.getElem?_eq_some_iff.1 h).1
  have hc : lv = 0 ∨ lv = 1 ∨ lv = 2 ∨ lv = 3 ∨ lv = 4 := by omega
  rcases hc with rfl | rfl | rfl | rfl | rfl <;> (simp only [lvs, List.getElem?_cons_zero, List.getElem?_cons_succ, Option.some.injEq] at h; subst h; unfold opk firstK; simp only [acc_ok, List.find?, wordB]) <;> repeat' split
  all_goals simp_all
theorem prek_first (ts : List Tk) (k : Nat) : prek ts k = firstK ts k 0 [14, 16, 17, 18] := by
  unfold prek firstK
  simp only [acc_ok, List.find?, wordB]
  repeat' split
  all_goals simp_all
theorem first_at {ts : List Tk} {k e : Nat} {ops : List Int} {i : Nat} {kd : Int} (hi : ops[i]? = some kd) (hno : ∀ (j : Nat) (q : Int), j < i → ops[j]? = some q → acc (nxt ts k e) (wordB q) = false) (hy : acc (nxt ts k e) (wordB kd) = true) : firstK ts k e ops = some kd := by
  unfold firstK
  induction ops generalizing i with
  | nil => cases hi
  | cons a r ih =>
    cases i with
    | zero => simp only [List.getElem?_cons_zero, Option.some.injEq] at hi; subst hi; simp [List.find?, hy]
    | succ i =>
      have h0 := hno 0 a (by omega) rfl
      simp only [List.find?, h0]
      exact ih (by simpa using hi) (fun j q hj hq => hno (j + 1) q (by omega) (by simpa using hq))
theorem first_none {ts : List Tk} {k e : Nat} {ops : List Int} (hno : ∀ (j : Nat) (q : Int), j < ops.length → ops[j]? = some q → acc (nxt ts k e) (wordB q) = false) : firstK ts k e ops = none := by
  unfold firstK
  rw [List.find?_eq_none]
  intro x hx
  obtain ⟨j, hj⟩ := List.mem_iff_getElem?.1 hx
  rw [hno j x (List.getElem?_eq_some_iff.1 hj).1 hj]
  decide
theorem first_lt {ts : List Tk} {k e : Nat} {ops : List Int} {kd : Int} (h : firstK ts k e ops = some kd) : acc (nxt ts k e) (wordB kd) = true := by
  unfold firstK at h
  exact List.find?_some (p := fun kd => acc (nxt ts k e) (wordB kd)) h

end Go.Proofs.YtbikpbmknneabaaGreat
end
/-
  What package expr's pair does: two operands behind one another. Conditions: those that each theorem names.
-/
section
namespace Go.Proofs.YtbikpbmknneabaaGreat
open Go.ChangeShapes Go.WideShapes Go.ChangeAt Go.RowKit
set_option maxRecDepth 100000
set_option maxHeartbeats 4000000

/-- What a call leaves of tree and state, where the model comes to r. -/
def Out (r : Rs) (k e : Nat) (y : Ex) (k' e' : Nat) : Prop :=
  if e = 0 then (match r with | .ok z j => y = z ∧ k' = j ∧ e' = 0 | .er e2 j => k' = j ∧ e' = e2 ∧ e2 ≠ 0) else k' = k ∧ e' = e
theorem Out.bad {r : Rs} {k e : Nat} {y : Ex} (he : e ≠ 0) : Out r k e y k e := by unfold Out; rw [if_neg he]; exact ⟨rfl, rfl⟩
/-- An expression in a block of its own. -/
def XB (w : World) (q : Nat) (a b : Int) (s : ByteArray) (A : Option Addr) (m c : Nat) : Prop := w.heap[q]? = some (.cells #[.int .i64 a, .int .i64 b, .string s, .slice A m c] 44 (0, 0))
theorem XB.go {w w' : World} {gp q : Nat} {a b : Int} {s : ByteArray} {A : Option Addr} {m c : Nat} (h : XB w q a b s A m c) (t : Touch (AtB gp) w w') (hne : q ≠ gp) : XB w' q a b s A m c := (t.block q (blk_lt h) hne).trans h
theorem XB.new (w : World) (a b : Int) (s : ByteArray) (A : Option Addr) (m c : Nat) {N : Nat} (hN : w.heap.size = N) : XB (w.alloc (.cells #[.int .i64 a, .int .i64 b, .string s, .slice A m c] 44)) N a b s A m c := alloc_blk _ _ _ hN
theorem XB.old {w : World} {q : Nat} {a b : Int} {s : ByteArray} {A : Option Addr} {m c : Nat} (h : XB w q a b s A m c) (o : Obj) : XB (w.alloc o) q a b s A m c := by unfold XB; rw [heap_alloc_old _ _ (blk_lt h)]; exact h
theorem XB.cells {w : World} {q : Nat} {a b : Int} {s : ByteArray} {A : Option Addr} {m c : Nat} (h : XB w q a b s A m c) : w.cell? ⟨q, 0, none⟩ = some (.int .i64 a) ∧ w.cell? ⟨q, 1, none⟩ = some (.int .i64 b) ∧ w.cell? ⟨q, 2, none⟩ = some (.string s) ∧ w.cell? ⟨q, 3, none⟩ = some (.slice A m c) ∧ q < w.heap.size :=
  ⟨cell_blk h 0, cell_blk h 1, cell_blk h 2, cell_blk h 3, blk_lt h⟩
theorem XB.free {w : World} {q : Nat} {a b : Int} {s : ByteArray} {A : Option Addr} {m c : Nat} (h : XB w q a b s A m c) : w.frozen? ⟨q, 0, none⟩ = false ∧ w.frozen? ⟨q, 1, none⟩ = false ∧ w.frozen? ⟨q, 2, none⟩ = false ∧ w.frozen? ⟨q, 3, none⟩ = false :=
  ⟨free_blk h 0, free_blk h 1, free_blk h 2, free_blk h 3⟩
/-- Two Kids in a new row. -/
theorem ET.mk2 {w : World} {Q : Nat → Prop} {x y : Ex} {a b : Int} {s : ByteArray} {A : Option Addr} {m c : Nat} {a' b' : Int} {s' : ByteArray} {A' : Option Addr} {m' c' : Nat} (hx : ET w Q x a b s A m c) (hy : ET w Q y a' b' s' A' m' c') (kd : Int) {N : Nat} (hN : w.heap.size = N) (hQ : Q N) :
    ET (w.alloc (.cells #[.int .i64 a, .int .i64 b, .string s, .slice A m c, .int .i64 a', .int .i64 b', .string s', .slice A' m' c'] 44)) Q (.two kd x y) kd 0 ⟨#[]⟩ (some ⟨N, 0, none⟩) 2 2 := by
  have t : Touch NoB w (w.alloc (.cells #[.int .i64 a, .int .i64 b, .string s, .slice A m c, .int .i64 a', .int .i64 b', .string s', .slice A' m' c'] 44)) := (Touch.refl _ _).alloc _
  exact ⟨rfl, rfl, rfl, rfl, rfl, N, _, a, b, s, A, m, c, a', b', s', A', m', c', ⟨rfl, hQ⟩, alloc_blk _ _ _ hN, hx.touch0 t, hy.touch0 t⟩
theorem ET.mk1 {w : World} {Q : Nat → Prop} {x : Ex} {a b : Int} {s : ByteArray} {A : Option Addr} {m c : Nat} (hx : ET w Q x a b s A m c) (kd : Int) {N : Nat} (hN : w.heap.size = N) (hQ : Q N) :
    ET (w.alloc (.cells #[.int .i64 a, .int .i64 b, .string s, .slice A m c] 44)) Q (.one kd x) kd 0 ⟨#[]⟩ (some ⟨N, 0, none⟩) 1 1 := by
  have t : Touch NoB w (w.alloc (.cells #[.int .i64 a, .int .i64 b, .string s, .slice A m c] 44)) := (Touch.refl _ _).alloc _
  exact ⟨rfl, rfl, rfl, rfl, rfl, N, _, a, b, s, A, m, c, ⟨rfl, hQ⟩, alloc_blk _ _ _ hN, hx.touch0 t⟩
/-- A store to a block that no Kid lies in. -/
theorem ET.aside {w w' : World} {Q : Nat → Prop} {q : Nat} (t : Touch (fun b => b = q) w w') {x : Ex} {a b : Int} {s : ByteArray} {A : Option Addr} {m c : Nat} (h : ET w Q x a b s A m c) (hq : ¬ Q q) : ET w' Q x a b s A m c :=
  h.touch t (fun b _ _ hb hQ => by subst hb; exact absurd hQ hq)

/-- What follows the first operand, in the model. -/
theorem out_pair {ts : List Tk} {E : Nat → Rs} {kd : Int} {x y : Ex} {k e k1 e1 k2 e2 k3 e3 e4 : Nat}
    (h1 : k1 = if acc (nxt ts k e) [44] = true then k + 1 else k) (h1e : e1 = if acc (nxt ts k e) [44] = true then e else if e = 0 then 2 else e)
    (h2 : Out (E k1) k1 e1 y k2 e2)
    (h3 : k3 = if acc (nxt ts k2 e2) [41] = true then k2 + 1 else k2) (h3e : e3 = if acc (nxt ts k2 e2) [41] = true then e2 else if e2 = 0 then 2 else e2)
    (h4 : e4 = if e3 = 0 ∧ 40 < (Ex.two kd x y).depth then 4 else e3) : Out (pairL ts E kd x k) k e (.two kd x y) k3 e4 := by
  by_cases he : e = 0
  · subst he
    unfold Out
    rw [if_pos rfl]
    rw [acc_ok] at h1 h1e
    unfold pairL
    cases hc : sg ts k [44]
    · rw [hc] at h1 h1e
      simp only [Bool.false_eq_true, if_false, if_true] at h1 h1e ⊢
      subst h1 h1e
      unfold Out at h2
      rw [if_neg (by decide)] at h2
      obtain ⟨rfl, rfl⟩ := h2
      rw [acc_bad (by decide)] at h3 h3e
      simp at h3 h3e
      subst h3 h3e
      simp at h4
      exact ⟨rfl, h4, by decide⟩
    · rw [hc] at h1 h1e
      simp only [if_true] at h1 h1e ⊢
      subst h1 h1e
      unfold Out at h2
      rw [if_pos rfl] at h2
      cases hE : E (k + 1) with
      | er e2' j =>
        rw [hE] at h2
        obtain ⟨rfl, rfl, h0⟩ := h2
        rw [acc_bad h0] at h3 h3e
        simp [h0] at h3 h3e
        subst h3 h3e
        rw [if_neg (fun z => h0 z.1)] at h4
        exact ⟨rfl, h4, h0⟩
      | ok z j =>
        rw [hE] at h2
        obtain ⟨rfl, rfl, rfl⟩ := h2
        rw [acc_ok] at h3 h3e
        simp only
        cases hd : sg ts k2 [41]
        · rw [hd] at h3 h3e
          simp at h3 h3e
          subst h3 h3e
          simp at h4
          simp only [Bool.false_eq_true, if_false]
          refine ⟨?_, ?_, ?_⟩ <;> first | trivial | exact h4 | decide
        · rw [hd] at h3 h3e
          simp only [if_true] at h3 h3e ⊢
          subst h3 h3e
          unfold mk
          by_cases h40 : 40 < (Ex.two kd x y).depth
          · rw [if_pos h40]; rw [if_pos ⟨rfl, h40⟩] at h4; exact ⟨rfl, h4, by decide⟩
          · rw [if_neg h40]; rw [if_neg (fun z => h40 z.2)] at h4; exact ⟨rfl, rfl, h4⟩
  · rw [acc_bad he] at h1 h1e
    simp [he] at h1 h1e
    subst h1 h1e
    unfold Out at h2 ⊢
    rw [if_neg he] at h2 ⊢
    obtain ⟨rfl, rfl⟩ := h2
    rw [acc_bad he] at h3 h3e
    simp [he] at h3 h3e
    subst h3 h3e
    rw [if_neg (fun z => he z.1)] at h4
    exact ⟨rfl, h4⟩
end Go.Proofs.YtbikpbmknneabaaGreat
end
/-
  What package expr's primary does with a parser in memory, branch by branch. Conditions: names among the tokens are names; what it calls does as the model says.
-/
section
namespace Go.Proofs.YtbikpbmknneabaaGreat
open Go.ChangeShapes Go.WideShapes Go.ChangeAt Go.RowKit
set_option maxRecDepth 100000
set_option maxHeartbeats 4000000

/-- What is called a name among the tokens is one. -/
def NamesOk (ts : List Tk) : Prop := ∀ (k : Nat) (s : Bs), nameAt ts k = some s → okN s = true
theorem num_of {ts : List Tk} {k : Nat} (h : (nxt ts k 0).kd = 3) : numAt ts k = some (nxt ts k 0).n := by
  unfold numAt
  cases ht : ts[k]? with
  | none => simp [nxt, ht] at h
  | some t => rw [nxt_at ht] at h ⊢; simp [h]
theorem num_nof {ts : List Tk} {k : Nat} (h : (nxt ts k 0).kd ≠ 3) : numAt ts k = none := by
  unfold numAt
  cases ht : ts[k]? with
  | none => rfl
  | some t => rw [nxt_at ht] at h; simp [h]
theorem nam_of {ts : List Tk} {k : Nat} (h : (nxt ts k 0).kd = 1) : nameAt ts k = some (nxt ts k 0).tx := by
  unfold nameAt
  cases ht : ts[k]? with
  | none => simp [nxt, ht] at h
  | some t => rw [nxt_at ht] at h ⊢; simp [h]
theorem nam_nof {ts : List Tk} {k : Nat} (h : (nxt ts k 0).kd ≠ 1) : nameAt ts k = none := by
  unfold nameAt
  cases ht : ts[k]? with
  | none => rfl
  | some t => rw [nxt_at ht] at h; simp [h]
theorem kd_zero {ts : List Tk} {k e c : Nat} (h : (nxt ts k e).kd = c) (hc : c ≠ 0) : e = 0 := by
  by_cases he : e = 0
  · exact he
  · rw [nxt_bad he] at h; exact absurd h.symm hc
theorem eqq_nat (a b : Nat) : ((a : Int) == (b : Int)) = (a == b) := by
  by_cases h : a = b
  · subst h; simp
  · have : ¬ (a : Int) = b := by omega
    have h1 : ((a : Int) == (b : Int)) = false := by simpa using this
    have h2 : (a == b) = false := by simpa using h
    rw [h1, h2]
end Go.Proofs.YtbikpbmknneabaaGreat
end
/-
  What package expr's unary does with a parser in memory. Conditions: names and numbers among the tokens are such; what it calls does as the model says.
-/
section
namespace Go.Proofs.YtbikpbmknneabaaGreat
open Go.ChangeShapes Go.WideShapes Go.ChangeAt Go.RowKit
set_option maxRecDepth 100000
set_option maxHeartbeats 4000000

def NumsOk (ts : List Tk) : Prop := (∀ (k m : Nat), numAt ts k = some m → m ≤ 9223372036854775807) ∧ ∀ t ∈ ts, t.tx.length ≤ 100000
theorem out_pre {ts : List Tk} {m k k2 e2 : Nat} {y : Ex} {kd : Int} (hp : firstK ts k 0 [14, 16, 17, 18] = some kd) (ho : Out (unaL ts m (k + 1)) (k + 1) 0 y k2 e2) :
    Out (unaL ts (m + 1) k) k 0 (.one kd y) k2 (if e2 = 0 ∧ 40 < (Ex.one kd y).depth then 4 else e2) := by
  unfold unaL
  rw [prek_first, hp]
  unfold Out at ho ⊢
  rw [if_pos rfl] at ho ⊢
  simp only
  cases hu : unaL ts m (k + 1) with
  | er e i =>
    rw [hu] at ho
    obtain ⟨rfl, rfl, h0⟩ := ho
    rw [if_neg (fun z => h0 z.1)]
    exact ⟨rfl, rfl, h0⟩
  | ok x i =>
    rw [hu] at ho
    obtain ⟨rfl, rfl, rfl⟩ := ho
    simp only [mk]
    by_cases h40 : 40 < (Ex.one kd y).depth
    · rw [if_pos h40, if_pos ⟨trivial, h40⟩]; refine ⟨?_, ?_, ?_⟩ <;> first | trivial | decide
    · rw [if_neg h40, if_neg (fun z => h40 z.2)]; refine ⟨?_, ?_, ?_⟩ <;> trivial
theorem out_neg {ts : List Tk} {m k : Nat} (hp : firstK ts k 0 [14, 16, 17, 18] = none) (hy : acc (nxt ts k 0) [45] = true) :
    (∀ q, numAt ts (k + 1) = some q → Out (unaL ts (m + 1) k) k 0 (.leaf 0 (-(q : Int)) []) (k + 1 + 1) 0) ∧ (numAt ts (k + 1) = none → Out (unaL ts (m + 1) k) k 0 (.leaf 0 0 []) (k + 1) 2) := by
  unfold unaL
  rw [prek_first, hp]
  rw [acc_ok] at hy
  simp only [hy, if_true]
  unfold Out
  constructor
  · intro q hq
    rw [if_pos rfl, hq]
    exact ⟨rfl, rfl, rfl⟩
  · intro hq
    rw [if_pos rfl, hq]
    exact ⟨rfl, rfl, by decide⟩
theorem out_pri {ts : List Tk} {m k e k2 e2 : Nat} {y : Ex} (hp : firstK ts k e [14, 16, 17, 18] = none) (hy : acc (nxt ts k e) [45] = false) (ho : Out (primL ts (binL ts (unaL ts m) 5) k) k e y k2 e2) : Out (unaL ts (m + 1) k) k e y k2 e2 := by
  by_cases he : e = 0
  · subst he
    unfold unaL
    rw [prek_first, hp]
    rw [acc_ok] at hy
    simp only [hy, Bool.false_eq_true, if_false]
    exact ho
  · unfold Out at ho ⊢
    rw [if_neg he] at ho ⊢
    exact ho

def unOps : List Int := [14, 16, 17, 18]
def UnRel (ts : List Tk) (k e : Nat) (W : World) (v14 : Value) (wr : World) : Prop := ∃ i : Nat, i ≤ 4 ∧ v14 = .int .i64 i ∧ (∀ (j : Nat) (q : Int), j < i → unOps[j]? = some q → acc (nxt ts k e) (wordB q) = false) ∧ Touch NoB W wr
end Go.Proofs.YtbikpbmknneabaaGreat
end
/-
  What package expr's binary does with a parser in memory. Conditions: the table of levels can be read; what it calls does as the model says.
-/
section
namespace Go.Proofs.YtbikpbmknneabaaGreat
open Go.ChangeShapes Go.WideShapes Go.ChangeAt Go.RowKit
set_option maxRecDepth 100000
set_option maxHeartbeats 4000000

/-! ### the model's loop, round by round -/
theorem bin_start {ts : List Tk} {u : Nat → Rs} {j k e k1 e1 : Nat} {x : Ex} (ho : Out (binL ts u j k) k e x k1 e1) :
    (e1 ≠ 0 → Out (binL ts u (j + 1) k) k e x k1 e1) ∧ (e1 = 0 → e = 0 ∧ loopL ts (4 - j) (binL ts u j) (ts.length - k1) x k1 = binL ts u (j + 1) k) := by
  by_cases he : e = 0
  · subst he
    unfold Out at ho
    rw [if_pos rfl] at ho
    cases hr : binL ts u j k with
    | er e i =>
      rw [hr] at ho
      obtain ⟨rfl, rfl, h0⟩ := ho
      refine ⟨fun _ => ?_, fun h => absurd h h0⟩
      unfold Out binL
      rw [if_pos rfl, hr]
      exact ⟨rfl, rfl, h0⟩
    | ok z i =>
      rw [hr] at ho
      obtain ⟨rfl, rfl, rfl⟩ := ho
      refine ⟨fun h => absurd rfl h, fun _ => ⟨rfl, ?_⟩⟩
      conv => rhs; unfold binL
      rw [hr]
  · unfold Out at ho
    rw [if_neg he] at ho
    obtain ⟨rfl, rfl⟩ := ho
    exact ⟨fun _ => Out.bad he, fun h => absurd h he⟩
theorem bin_none {ts : List Tk} {sub : Nat → Rs} {lv k kx f : Nat} {x : Ex} {R0 : Rs} (hl : loopL ts lv sub f x kx = R0) (ho : opk ts lv kx = none) : Out R0 k 0 x kx 0 := by
  have : R0 = .ok x kx := by
    rw [← hl]
    cases f with
    | zero => rfl
    | succ f => unfold loopL; rw [ho]
  subst this
  exact ⟨rfl, rfl, rfl⟩
theorem bin_op {ts : List Tk} {sub : Nat → Rs} {lv k kx f k2 e2 e3 : Nat} {x y : Ex} {kd : Int} {R0 : Rs} (hs : ∀ k, k ≤ ts.length → (sub k).fwd ts.length k) (hf : ts.length ≤ kx + f) (hl : loopL ts lv sub f x kx = R0) (hop : opk ts lv kx = some kd)
    (ho : Out (sub (kx + 1)) (kx + 1) 0 y k2 e2) (he3 : e3 = if e2 = 0 ∧ 40 < (Ex.two kd x y).depth then 4 else e2) :
    (lv = 2 → Out R0 k 0 (.two kd x y) k2 e3) ∧ (e3 ≠ 0 → Out R0 k 0 (.two kd x y) k2 e3) ∧ (lv ≠ 2 → e3 = 0 → (Ex.two kd x y).depth ≤ 40 ∧ ∃ f', ts.length ≤ k2 + f' ∧ loopL ts lv sub f' (.two kd x y) k2 = R0) ∧ kx < k2 := by
  have hlt := opk_lt hop
  cases f with
  | zero => omega
  | succ f =>
    unfold loopL at hl
    rw [hop] at hl
    simp only at hl
    have h2 := hs (kx + 1) (by omega)
    unfold Out at ho
    rw [if_pos rfl] at ho
    cases hr : sub (kx + 1) with
    | er e i =>
      rw [hr] at ho hl h2
      obtain ⟨rfl, rfl, h0⟩ := ho
      rw [if_neg (fun z => h0 z.1)] at he3
      subst he3 hl
      exact ⟨fun _ => ⟨rfl, rfl, h0⟩, fun _ => ⟨rfl, rfl, h0⟩, fun _ h => absurd h h0, by have := h2.1; omega⟩
    | ok z i =>
      rw [hr] at ho hl h2
      obtain ⟨rfl, rfl, rfl⟩ := ho
      simp only [mk] at hl
      by_cases h40 : 40 < (Ex.two kd x y).depth
      · rw [if_pos h40] at hl
        rw [if_pos ⟨rfl, h40⟩] at he3
        simp only at hl
        subst he3 hl
        exact ⟨fun _ => ⟨rfl, rfl, by decide⟩, fun _ => ⟨rfl, rfl, by decide⟩, fun _ h => absurd h (by decide), by have := h2.1; omega⟩
      · rw [if_neg h40] at hl
        rw [if_neg (fun z => h40 z.2)] at he3
        simp only at hl
        subst he3
        refine ⟨fun h => ?_, fun h => absurd rfl h, fun h _ => ⟨by omega, f, by have := h2.1; omega, by rw [if_neg h] at hl; exact hl⟩, by have := h2.1; omega⟩
        rw [if_pos h] at hl
        subst hl
        exact ⟨rfl, rfl, rfl⟩
def meas (gp n : Nat) (wr : World) : Nat := n - (intOf ((wr.cell? ⟨gp, 1, none⟩).getD undef)).toNat
end Go.Proofs.YtbikpbmknneabaaGreat
end
/-
  What package expr's primary does with a parser in memory: a symbol, parentheses, far. Conditions: names among the tokens are names; what it calls does as the model says.
-/
section
namespace Go.Proofs.YtbikpbmknneabaaGreat
open Go.ChangeShapes Go.WideShapes Go.ChangeAt Go.RowKit
set_option maxRecDepth 100000
set_option maxHeartbeats 4000000

theorem out_paren {ts : List Tk} {E : Nat → Rs} {k k2 e2 : Nat} {y : Ex} (h3 : (nxt ts k 0).kd ≠ 3) (h1 : (nxt ts k 0).kd ≠ 1) (c39 : acc (nxt ts k 0) [39] = false) (cT : acc (nxt ts k 0) [116, 114, 117, 101] = false) (cF : acc (nxt ts k 0) [102, 97, 108, 115, 101] = false) (cS : acc (nxt ts k 0) [115, 101, 108, 102] = false) (cM : acc (nxt ts k 0) [116, 105, 109, 101] = false) (hy : acc (nxt ts k 0) [40] = true)
    (ho : Out (E (k + 1)) (k + 1) 0 y k2 e2) :
    (acc (nxt ts k2 e2) [41] = true → Out (primL ts E k) k 0 y (k2 + 1) e2) ∧ (∀ z k3 e3, acc (nxt ts k2 e2) [41] = false → Out (pairL ts E 15 y k2) k2 e2 z k3 e3 → Out (primL ts E k) k 0 z k3 e3) := by
  have hp : primL ts E k = match E (k + 1) with
        | .er e i => .er e i
        | .ok x i => if sg ts i [41] = true then .ok x (i + 1) else pairL ts E 15 x i := by
    unfold primL
    rw [num_nof h3, nam_nof h1]
    rw [acc_ok] at c39 cT cF cS cM hy
    simp only [c39, cT, cF, cS, cM, hy, if_true, Bool.false_eq_true, if_false]
    cases E (k + 1) <;> rfl
  rw [hp]
  unfold Out at ho
  rw [if_pos rfl] at ho
  constructor
  · intro ha
    have he := acc_zero ha
    subst he
    rw [acc_ok] at ha
    cases hE : E (k + 1) with
    | er e i => rw [hE] at ho; exact absurd ho.2.1.symm ho.2.2
    | ok x i =>
      rw [hE] at ho
      obtain ⟨rfl, rfl, -⟩ := ho
      simp only [ha, if_true]
      unfold Out
      rw [if_pos rfl]
      exact ⟨rfl, rfl, rfl⟩
  · intro z k3 e3 ha hz
    cases hE : E (k + 1) with
    | er e i =>
      rw [hE] at ho
      obtain ⟨rfl, rfl, h0⟩ := ho
      unfold Out at hz ⊢
      rw [if_neg h0] at hz
      rw [if_pos rfl]
      exact ⟨hz.1, hz.2, h0⟩
    | ok x i =>
      rw [hE] at ho
      obtain ⟨rfl, rfl, rfl⟩ := ho
      rw [acc_ok] at ha
      simp only [ha, Bool.false_eq_true, if_false]
      unfold Out at hz ⊢
      exact hz
theorem out_far {ts : List Tk} {E : Nat → Rs} {k k1 e1 k2 e2 : Nat} {y : Ex} (h3 : (nxt ts k 0).kd ≠ 3) (h1 : (nxt ts k 0).kd ≠ 1) (c39 : acc (nxt ts k 0) [39] = false) (cT : acc (nxt ts k 0) [116, 114, 117, 101] = false) (cF : acc (nxt ts k 0) [102, 97, 108, 115, 101] = false) (cS : acc (nxt ts k 0) [115, 101, 108, 102] = false) (cM : acc (nxt ts k 0) [116, 105, 109, 101] = false) (cP : acc (nxt ts k 0) [40] = false) (hy : acc (nxt ts k 0) [102, 97, 114] = true)
    (hk1 : k1 = if acc (nxt ts (k + 1) 0) [40] = true then k + 1 + 1 else k + 1) (he1 : e1 = if acc (nxt ts (k + 1) 0) [40] = true then 0 else 2)
    (ho : Out (E k1) k1 e1 y k2 e2) : ∀ z k3 e3, Out (pairL ts E 19 y k2) k2 e2 z k3 e3 → Out (primL ts E k) k 0 z k3 e3 := by
  have hp : primL ts E k = if sg ts (k + 1) [40] = true then match E (k + 2) with
          | .er e i => .er e i
          | .ok x i => pairL ts E 19 x i
        else .er 2 (k + 1) := by
    unfold primL
    rw [num_nof h3, nam_nof h1]
    rw [acc_ok] at c39 cT cF cS cM cP hy
    simp only [c39, cT, cF, cS, cM, cP, hy, if_true, Bool.false_eq_true, if_false]
    cases E (k + 2) <;> rfl
  rw [hp]
  intro z k3 e3 hz
  rw [acc_ok] at hk1 he1
  cases hc : sg ts (k + 1) [40]
  · rw [hc] at hk1 he1
    simp at hk1 he1
    subst hk1 he1
    unfold Out at ho
    rw [if_neg (by decide)] at ho
    obtain ⟨rfl, rfl⟩ := ho
    unfold Out at hz ⊢
    rw [if_neg (by decide)] at hz
    simp only [Bool.false_eq_true, if_false, if_true]
    exact ⟨hz.1, hz.2, by decide⟩
  · rw [hc] at hk1 he1
    simp only [if_true] at hk1 he1 ⊢
    subst hk1 he1
    unfold Out at ho
    rw [if_pos rfl] at ho
    cases hE : E (k + 2) with
    | er e i =>
      rw [show k + 1 + 1 = k + 2 from rfl, hE] at ho
      obtain ⟨rfl, rfl, h0⟩ := ho
      unfold Out at hz ⊢
      rw [if_neg h0] at hz
      rw [if_pos rfl]
      exact ⟨hz.1, hz.2, h0⟩
    | ok x i =>
      rw [show k + 1 + 1 = k + 2 from rfl, hE] at ho
      obtain ⟨rfl, rfl, rfl⟩ := ho
      exact hz
end Go.Proofs.YtbikpbmknneabaaGreat
end
/-
  What package expr's Parse returns: what the parser over lists of tokens comes to. Conditions: names and numbers among the tokens are such; the table of levels can be read.
-/
section
namespace Go.Proofs.YtbikpbmknneabaaGreat
open Go.ChangeShapes Go.WideShapes Go.ChangeAt Go.RowKit
set_option maxRecDepth 100000
set_option maxHeartbeats 4000000

theorem una_end {ts : List Tk} (m : Nat) : unaL ts (m + 1) ts.length = .er 2 ts.length := by
  have hs : ∀ s, sg ts ts.length s = false := fun s => by unfold sg; simp
  have hn : numAt ts ts.length = none := by unfold numAt; simp
  have hm : nameAt ts ts.length = none := by unfold nameAt; simp
  simp [unaL, prek, primL, hs, hn, hm]
theorem bin_end {ts : List Tk} (m : Nat) : ∀ j, binL ts (unaL ts (m + 1)) j ts.length = .er 2 ts.length
  | 0 => una_end m
  | j + 1 => by unfold binL; rw [bin_end m j]
theorem par_bin {ts : List Tk} {k : Nat} (hk : k ≤ ts.length) : parL ts k = binL ts (unaL ts 40) 5 k := by
  unfold parL
  by_cases h : k < ts.length
  · rw [if_pos h]
  · obtain rfl : k = ts.length := by omega
    rw [if_neg h, bin_end]
end Go.Proofs.YtbikpbmknneabaaGreat
end
/-
  What package tree's choice, begins, within and signed do with a parser in memory. Conditions: those that each theorem names.
-/
section
namespace Go.Proofs.YtbikpbmknneabaaGreat
open Go.ChangeShapes Go.WideShapes Go.ChangeAt Go.RowKit
set_option maxRecDepth 100000
set_option maxHeartbeats 4000000

theorem choF_at {ts : List Tk} {σ : St} : ∀ (ws : List Bs) (i d : Nat) (s : Bs), ws[i]? = some s → isS ts s σ = true → (∀ (j : Nat) (q : Bs), j < i → ws[j]? = some q → isS ts q σ = false) → choF ts σ ws d = some (d + i)
  | [], i, d, s, h, _, _ => by cases h
  | a :: r, 0, d, s, h, ha, _ => by
    simp only [List.getElem?_cons_zero, Option.some.injEq] at h
    subst h
    simp [choF, ha]
  | a :: r, i + 1, d, s, h, ha, hno => by
    have h0 := hno 0 a (by omega) rfl
    have := choF_at r i (d + 1) s (by simpa using h) ha (fun j q hj hq => hno (j + 1) q (by omega) (by simpa using hq))
    simp only [choF, h0, Bool.false_eq_true, if_false]
    rw [this]
    congr 1
    omega
theorem choF_none {ts : List Tk} {σ : St} : ∀ (ws : List Bs) (d : Nat), (∀ (j : Nat) (q : Bs), ws[j]? = some q → isS ts q σ = false) → choF ts σ ws d = none
  | [], d, _ => rfl
  | a :: r, d, hno => by
    simp only [choF, hno 0 a rfl, Bool.false_eq_true, if_false]
    exact choF_none r (d + 1) (fun j q hq => hno (j + 1) q (by simpa using hq))
/-- A row of words. -/
def WdAt (w : World) (b m : Nat) (ws : List Bs) : Prop := (ws.length = m ∧ m ≤ 100) ∧ b < w.heap.size ∧ ∀ (i : Nat) (s : Bs), ws[i]? = some s → w.cell? ⟨b, i, none⟩ = some (.string (bs s))
end Go.Proofs.YtbikpbmknneabaaGreat
end
/-
  What package tree's key, variable and cond do with a parser in memory. Conditions: numbers among the tokens are such.
-/
section
namespace Go.Proofs.YtbikpbmknneabaaGreat
open Go.ChangeShapes Go.WideShapes Go.ChangeAt Go.RowKit
set_option maxRecDepth 100000
set_option maxHeartbeats 4000000

/-- A block of three cells of its own. -/
def B3 (w : World) (T : TypeId) (q : Nat) (a b c : Value) : Prop := w.heap[q]? = some (.cells #[a, b, c] T (0, 0))
theorem B3.go {w w' : World} {T : TypeId} {gp q : Nat} {a b c : Value} (h : B3 w T q a b c) (t : Touch (AtB gp) w w') (hne : q ≠ gp) : B3 w' T q a b c := (t.block q (blk_lt h) hne).trans h
theorem B3.new (w : World) (T : TypeId) (a b c : Value) {N : Nat} (hN : w.heap.size = N) : B3 (w.alloc (.cells #[a, b, c] T)) T N a b c := alloc_blk _ _ _ hN
theorem B3.old {w : World} {T : TypeId} {q : Nat} {a b c : Value} (h : B3 w T q a b c) (o : Obj) : B3 (w.alloc o) T q a b c := by unfold B3; rw [heap_alloc_old _ _ (blk_lt h)]; exact h
theorem B3.cells {w : World} {T : TypeId} {q : Nat} {a b c : Value} (h : B3 w T q a b c) : w.cell? ⟨q, 0, none⟩ = some a ∧ w.cell? ⟨q, 1, none⟩ = some b ∧ w.cell? ⟨q, 2, none⟩ = some c ∧ q < w.heap.size := ⟨cell_blk h 0, cell_blk h 1, cell_blk h 2, blk_lt h⟩
theorem B3.free {w : World} {T : TypeId} {q : Nat} {a b c : Value} (h : B3 w T q a b c) : w.frozen? ⟨q, 0, none⟩ = false ∧ w.frozen? ⟨q, 1, none⟩ = false ∧ w.frozen? ⟨q, 2, none⟩ = false := ⟨free_blk h 0, free_blk h 1, free_blk h 2⟩
theorem B3.set0 {w : World} {T : TypeId} {q : Nat} {a b c : Value} (h : B3 w T q a b c) (v : Value) : B3 (w.setCell ⟨q, 0, none⟩ v) T q v b c := set_blk h 0 v
theorem B3.set1 {w : World} {T : TypeId} {q : Nat} {a b c : Value} (h : B3 w T q a b c) (v : Value) : B3 (w.setCell ⟨q, 1, none⟩ v) T q a v c := set_blk h 1 v
theorem B3.set2 {w : World} {T : TypeId} {q : Nat} {a b c : Value} (h : B3 w T q a b c) (v : Value) : B3 (w.setCell ⟨q, 2, none⟩ v) T q a b v := set_blk h 2 v
theorem B3.aside {w : World} {T : TypeId} {q p i : Nat} {a b c v : Value} (h : B3 w T q a b c) (hne : q ≠ p) : B3 (w.setCell ⟨p, i, none⟩ v) T q a b c :=
  (((Touch.refl (fun b => b = p) w).setCell (p := ⟨p, i, none⟩) (.inl rfl) v).block q (blk_lt h) hne).trans h
theorem PSt.own {T : TypeId} {w : World} {gp g n cp : Nat} {ts : List Tk} {k e q i : Nat} {v : Value} (h : PSt T w gp g n cp ts k e) (h1 : gp < q) (h2 : g < q) : PSt T (w.setCell ⟨q, i, none⟩ v) gp g n cp ts k e :=
  h.touchX ((Touch.refl (fun b => b = q) w).setCell (p := ⟨q, i, none⟩) (.inl rfl) v) h1 h2
theorem touch3 {F : Nat → Prop} {w0 w : World} {q : Nat} (h : Touch F w0 w) (hq : F q ∨ w0.heap.size ≤ q) (x0 x1 x2 : Value) :
    Touch F w0 (((w.setCell ⟨q, 0, none⟩ x0).setCell ⟨q, 1, none⟩ x1).setCell ⟨q, 2, none⟩ x2) := ((h.setCell (p := ⟨q, 0, none⟩) hq x0).setCell (p := ⟨q, 1, none⟩) hq x1).setCell (p := ⟨q, 2, none⟩) hq x2
theorem words_at {w : World} {b m : Nat} {ws : List Bs} {cs : Array Value} {T : TypeId} (hb : w.heap[b]? = some (.cells cs T (0, 0))) (hm : ws.length = m) (hm2 : m ≤ 100) (hc : cs.toList = ws.map (fun s => .string (bs s))) : WdAt w b m ws := by
  refine ⟨⟨hm, hm2⟩, blk_lt hb, fun i s hi => ?_⟩
  rw [cell_of_row _ _ _ _ _ _ hb, ← Array.getElem?_toList, hc, List.getElem?_map, hi]
  rfl
/-! ### lists of words -/
end Go.Proofs.YtbikpbmknneabaaGreat
end
