/-
  What package tokens' Is does with a reader in memory. Conditions: those that each theorem names.
-/
import Derived.Test.YtnphaaahdlkmhaaGreatZs5
import Derived.Deep.RegionLaw
section
namespace Go.Proofs.YtnphaaahdlkmhaaGreat
open Go.ChangeShapes Go.WideShapes Go.ChangeAt Go.RowKit
set_option maxRecDepth 100000
set_option maxHeartbeats 4000000

/-- Is t this word or sign? -/
def acc (t : Tk) (s : Bs) : Bool := (t.kd == 2 || t.kd == 4) && t.tx == s
theorem acc_ok (ts : List Tk) (k : Nat) (s : Bs) : acc (nxt ts k 0) s = sg ts k s := by
  unfold nxt sg
  rw [if_pos rfl]
  cases h : ts[k]? with
  | none => rfl
  | some t => rfl
theorem acc_bad {ts : List Tk} {k e : Nat} {s : Bs} (h : e ≠ 0) : acc (nxt ts k e) s = false := by rw [nxt_bad h]; rfl
theorem acc_zero {ts : List Tk} {k e : Nat} {s : Bs} (h : acc (nxt ts k e) s = true) : e = 0 := by
  by_cases he : e = 0
  · exact he
  · rw [acc_bad he] at h; cases h
theorem PSt.acc_lt {T : TypeId} {w : World} {gp g n cp : Nat} {ts : List Tk} {k e : Nat} {s : Bs} (h : PSt T w gp g n cp ts k e) (ha : acc (nxt ts k e) s = true) : k < n := by
  have := acc_zero ha
  subst this
  rw [acc_ok] at ha
  rw [← h.len]
  exact sg_lt ha
theorem touch_set {w w1 : World} {gp : Nat} (h : Touch (AtB gp) w w1) (i : Nat) (v : Value) : Touch (AtB gp) w (w1.setCell ⟨gp, i, none⟩ v) := h.setCell (p := ⟨gp, i, none⟩) (.inl rfl) v

theorem eq_nat (a b : Nat) : ((a : Int) == (b : Int)) = (a == b) := by
  by_cases h : a = b
  · subst h; simp
  · have : ¬ (a : Int) = b := by omega
    have h1 : ((a : Int) == (b : Int)) = false := by simpa using this
    have h2 : (a == b) = false := by simpa using h
    rw [h1, h2]
end Go.Proofs.YtnphaaahdlkmhaaGreat
end
/-
  What package tokens' one, Number and Name, and package expr's number and name do with a reader in memory. Conditions: those that each theorem names.
-/
section
namespace Go.Proofs.YtnphaaahdlkmhaaGreat
open Go.ChangeShapes Go.WideShapes Go.ChangeAt Go.RowKit
set_option maxRecDepth 100000
set_option maxHeartbeats 4000000

theorem num_nxt {ts : List Tk} {k m : Nat} (h : numAt ts k = some m) : (nxt ts k 0).kd = 3 ∧ (nxt ts k 0).n = m := by
  unfold numAt at h
  cases ht : ts[k]? with
  | none => rw [ht] at h; cases h
  | some t =>
    rw [ht] at h
    simp only at h
    split at h
    · rename_i h3; injection h with h; rw [nxt_at ht]; exact ⟨h3, h⟩
    · cases h
theorem num_not {ts : List Tk} {k : Nat} (h : numAt ts k = none) : (nxt ts k 0).kd ≠ 3 := by
  unfold numAt at h
  cases ht : ts[k]? with
  | none => simp [nxt, ht]
  | some t =>
    rw [ht] at h
    simp only at h
    split at h
    · cases h
    · rename_i h3; rw [nxt_at ht]; exact h3
theorem PSt.kd_zero {T : TypeId} {w : World} {gp g n cp : Nat} {ts : List Tk} {k e c : Nat} (h : PSt T w gp g n cp ts k e) (hc : c ≠ 0) (hk : (nxt ts k e).kd = c) : e = 0 ∧ k < n := by
  by_cases he : e = 0
  · subst he
    refine ⟨rfl, ?_⟩
    by_cases hl : k < n
    · exact hl
    · have := h.le
      have : k = ts.length := by rw [h.len]; omega
      rw [this, nxt_end] at hk
      exact absurd hk.symm hc
  · rw [nxt_bad he] at hk; exact absurd hk.symm hc
/-- What Number returns, and where it leaves the reader. -/
def numR (t : Tk) : Nat := if t.kd = 3 then t.n else 0
def namR (t : Tk) : Bs := if t.kd = 1 then t.tx else []
def stepK (t : Tk) (c k : Nat) : Nat := if t.kd = c then k + 1 else k
def stepE (t : Tk) (c e : Nat) : Nat := if t.kd = c then e else if e = 0 then 2 else e
/-- Is this a name? -/
def okN (s : Bs) : Bool := nameB (bs s) && !wrd (bs s)
end Go.Proofs.YtnphaaahdlkmhaaGreat
end
/-
  A parser of declarations over lists of tokens, told by plain functions of a place and an error: each reads on where there is no error yet, and does nothing behind one. No program is named here.
-/
section
namespace Go.Proofs.YtnphaaahdlkmhaaGreat
set_option maxRecDepth 100000

/-- A place and an error (0: none). -/
abbrev St := Nat × Nat
def nxS (ts : List Tk) (σ : St) : Tk := nxt ts σ.1 σ.2
def isS (ts : List Tk) (s : Bs) (σ : St) : Bool := acc (nxS ts σ) s
def acS (ts : List Tk) (s : Bs) (σ : St) : St := (if isS ts s σ = true then σ.1 + 1 else σ.1, σ.2)
def failS (c : Nat) (σ : St) : St := (σ.1, if σ.2 = 0 then c else σ.2)
def exS (ts : List Tk) (s : Bs) (σ : St) : St := (if isS ts s σ = true then σ.1 + 1 else σ.1, if isS ts s σ = true then σ.2 else if σ.2 = 0 then 2 else σ.2)
def nuV (ts : List Tk) (σ : St) : Nat := numR (nxS ts σ)
def nuS (ts : List Tk) (σ : St) : St := (stepK (nxS ts σ) 3 σ.1, stepE (nxS ts σ) 3 σ.2)
def naV (ts : List Tk) (σ : St) : Bs := namR (nxS ts σ)
def naS (ts : List Tk) (σ : St) : St := (stepK (nxS ts σ) 1 σ.1, stepE (nxS ts σ) 1 σ.2)
/-- One of these words: which, and behind it. -/
def choF (ts : List Tk) (σ : St) : List Bs → Nat → Option Nat
  | [], _ => none
  | s :: r, i => if isS ts s σ = true then some i else choF ts σ r (i + 1)
def choV (ts : List Tk) (ws : List Bs) (σ : St) : Nat := (choF ts σ ws 0).getD 0
def choS (ts : List Tk) (ws : List Bs) (σ : St) : St := match choF ts σ ws 0 with
  | some _ => (σ.1 + 1, σ.2)
  | none => failS 2 σ
/-- A number, or one below 0. -/
def siV (ts : List Tk) (σ : St) : Int := if isS ts [45] σ = true then -(nuV ts (acS ts [45] σ) : Int) else nuV ts σ
def siS (ts : List Tk) (σ : St) : St := nuS ts (acS ts [45] σ)
/-- An expression. -/
def eqV (ts : List Tk) (σ : St) : Ex := if σ.2 = 0 then (match parL ts σ.1 with | .ok x _ => x | .er _ _ => .leaf 0 0 []) else .leaf 0 0 []
def eqS (ts : List Tk) (σ : St) : St := if σ.2 = 0 then (match parL ts σ.1 with | .ok _ k => (k, 0) | .er e k => (k, e)) else σ
/-! ### keys, variables, conditions, makes -/
def kindW : List Bs := [[105, 110, 116], [98, 111, 111, 108], [114, 101, 102], [115, 121, 109], [112, 111, 105, 110, 116]]
structure Ky where
  nm : Bs
  kd : Nat
  sh : Bool
structure Va where
  nm : Bs
  lo : Int
  hi : Int
structure Cn where
  nm : Bs
  op : Nat
  n : Int
structure Mk where
  nm : Bs
  add : Bool
  n : Int
def varV (ts : List Tk) (σ : St) : Va := ⟨naV ts σ, siV ts (naS ts σ), siV ts (siS ts (naS ts σ))⟩
def varS (ts : List Tk) (σ : St) : St := exS ts [59] (siS ts (siS ts (naS ts σ)))
end Go.Proofs.YtnphaaahdlkmhaaGreat
end
/-
  Expressions in memory; their depth, as package expr's depth returns it. Conditions: those that each theorem names.
-/
section
namespace Go.Proofs.YtnphaaahdlkmhaaGreat
open Go.ChangeShapes Go.WideShapes Go.ChangeAt Go.RowKit
set_option maxRecDepth 100000
set_option maxHeartbeats 4000000

/-- The fields of an expression x, whose Kids lie in blocks of Q. -/
def ET (w : World) (Q : Nat → Prop) : Ex → Int → Int → ByteArray → Option Addr → Nat → Nat → Prop
  | .leaf k n s, a, b, t, A, m, c => a = k ∧ b = n ∧ t = bs s ∧ A = none ∧ m = 0 ∧ c = 0
  | .one k x, a, b, t, A, m, c => a = k ∧ b = 0 ∧ t = ⟨#[]⟩ ∧ m = 1 ∧ c = 1 ∧ ∃ g fr a1 b1 t1 A1 m1 c1, (A = some ⟨g, 0, none⟩ ∧ Q g) ∧
      w.heap[g]? = some (.cells #[.int .i64 a1, .int .i64 b1, .string t1, .slice A1 m1 c1] 44 fr) ∧ ET w Q x a1 b1 t1 A1 m1 c1
  | .two k x y, a, b, t, A, m, c => a = k ∧ b = 0 ∧ t = ⟨#[]⟩ ∧ m = 2 ∧ c = 2 ∧ ∃ g fr a1 b1 t1 A1 m1 c1 a2 b2 t2 A2 m2 c2, (A = some ⟨g, 0, none⟩ ∧ Q g) ∧
      w.heap[g]? = some (.cells #[.int .i64 a1, .int .i64 b1, .string t1, .slice A1 m1 c1, .int .i64 a2, .int .i64 b2, .string t2, .slice A2 m2 c2] 44 fr) ∧ ET w Q x a1 b1 t1 A1 m1 c1 ∧ ET w Q y a2 b2 t2 A2 m2 c2
/-- No expression of Q lies in F. -/
def NoX (w : World) (F Q : Nat → Prop) : Prop := ∀ (b : Nat) (cs : Array Value) (fr : Nat × Nat), F b → Q b → w.heap[b]? ≠ some (.cells cs 44 fr)
theorem NoX.nob (w : World) (Q : Nat → Prop) : NoX w NoB Q := fun _ _ _ h => h.elim
theorem ET.touch {w w' : World} {F Q : Nat → Prop} (t : Touch F w w') (hF : NoX w F Q) : ∀ {x : Ex} {a b : Int} {s : ByteArray} {A : Option Addr} {m c : Nat}, ET w Q x a b s A m c → ET w' Q x a b s A m c
  | .leaf k n q, a, b, s, A, m, c, h => h
  | .one k x, a, b, s, A, m, c, h => by
    obtain ⟨h1, h2, h3, h4, h5, g, fr, a1, b1, t1, A1, m1, c1, h6, h7, h8⟩ := h
    exact ⟨h1, h2, h3, h4, h5, g, fr, a1, b1, t1, A1, m1, c1, h6, (t.block g (blk_lt h7) (fun f => hF g _ _ f h6.2 h7)).trans h7, ET.touch t hF h8⟩
  | .two k x y, a, b, s, A, m, c, h => by
    obtain ⟨h1, h2, h3, h4, h5, g, fr, a1, b1, t1, A1, m1, c1, a2, b2, t2, A2, m2, c2, h6, h7, h8, h9⟩ := h
    exact ⟨h1, h2, h3, h4, h5, g, fr, a1, b1, t1, A1, m1, c1, a2, b2, t2, A2, m2, c2, h6, (t.block g (blk_lt h7) (fun f => hF g _ _ f h6.2 h7)).trans h7, ET.touch t hF h8, ET.touch t hF h9⟩
theorem ET.touch0 {w w' : World} {Q : Nat → Prop} (t : Touch NoB w w') {x : Ex} {a b : Int} {s : ByteArray} {A : Option Addr} {m c : Nat} (h : ET w Q x a b s A m c) : ET w' Q x a b s A m c := ET.touch t (NoX.nob w Q) h
/-- The same blocks, told otherwise. -/
theorem ET.via {w : World} {Q R : Nat → Prop} (hQ : ∀ b, Q b → b < w.heap.size → R b) : ∀ {x : Ex} {a b : Int} {s : ByteArray} {A : Option Addr} {m c : Nat}, ET w Q x a b s A m c → ET w R x a b s A m c
  | .leaf k n q, a, b, s, A, m, c, h => h
  | .one k x, a, b, s, A, m, c, h => by
    obtain ⟨h1, h2, h3, h4, h5, g, fr, a1, b1, t1, A1, m1, c1, h6, h7, h8⟩ := h
    exact ⟨h1, h2, h3, h4, h5, g, fr, a1, b1, t1, A1, m1, c1, ⟨h6.1, hQ g h6.2 (blk_lt h7)⟩, h7, ET.via hQ h8⟩
  | .two k x y, a, b, s, A, m, c, h => by
    obtain ⟨h1, h2, h3, h4, h5, g, fr, a1, b1, t1, A1, m1, c1, a2, b2, t2, A2, m2, c2, h6, h7, h8, h9⟩ := h
    exact ⟨h1, h2, h3, h4, h5, g, fr, a1, b1, t1, A1, m1, c1, a2, b2, t2, A2, m2, c2, ⟨h6.1, hQ g h6.2 (blk_lt h7)⟩, h7, ET.via hQ h8, ET.via hQ h9⟩
theorem PSt.nox {T : TypeId} {w : World} {gp g n cp : Nat} {ts : List Tk} {k e : Nat} (h : PSt T w gp g n cp ts k e) (Q : Nat → Prop) (hT : T ≠ 44 := by decide) : NoX w (AtB gp) Q := by
  intro b cs fr hb _ hx
  unfold AtB at hb
  subst hb
  rw [h.blk] at hx
  injection hx with hx
  injection hx with _ hx
  exact absurd hx hT
def kidsOf : Ex → List Ex
  | .leaf _ _ _ => []
  | .one _ x => [x]
  | .two _ x y => [x, y]
theorem ET.len {w : World} {Q : Nat → Prop} : ∀ {x : Ex} {a b : Int} {s : ByteArray} {A : Option Addr} {m c : Nat}, ET w Q x a b s A m c → (kidsOf x).length = m ∧ c = m ∧ m ≤ 2
  | .leaf k n q, a, b, s, A, m, c, h => by obtain ⟨_, _, _, _, rfl, rfl⟩ := h; exact ⟨rfl, rfl, by omega⟩
  | .one k x, a, b, s, A, m, c, h => by obtain ⟨_, _, _, rfl, rfl, _⟩ := h; exact ⟨rfl, rfl, by omega⟩
  | .two k x y, a, b, s, A, m, c, h => by obtain ⟨_, _, _, rfl, rfl, _⟩ := h; exact ⟨rfl, rfl, by omega⟩
/-- Where a Kid lies. -/
structure KidAt (w : World) (Q : Nat → Prop) (g i : Nat) (y : Ex) (a b : Int) (s : ByteArray) (A : Option Addr) (m c : Nat) : Prop where
  lt : g < w.heap.size
  c0 : w.cell? ⟨g, i * 4, none⟩ = some (.int .i64 a)
  c1 : w.cell? ⟨g, i * 4 + 1, none⟩ = some (.int .i64 b)
  c2 : w.cell? ⟨g, i * 4 + 2, none⟩ = some (.string s)
  c3 : w.cell? ⟨g, i * 4 + 3, none⟩ = some (.slice A m c)
  et : ET w Q y a b s A m c
theorem ET.kid {w : World} {Q : Nat → Prop} : ∀ {x : Ex} {a b : Int} {s : ByteArray} {A : Option Addr} {m c : Nat}, ET w Q x a b s A m c → ∀ (i : Nat) (y : Ex), (kidsOf x)[i]? = some y →
    ∃ g a1 b1 t1 A1 m1 c1, A = some ⟨g, 0, none⟩ ∧ KidAt w Q g i y a1 b1 t1 A1 m1 c1
  | .leaf k n q, a, b, s, A, m, c, h, i, y, hi => by cases hi
  | .one k x, a, b, s, A, m, c, h, i, y, hi => by
    obtain ⟨h1, h2, h3, h4, h5, g, fr, a1, b1, t1, A1, m1, c1, h6, h7, h8⟩ := h
    have hi0 : i = 0 := by have := (List.getElem?_eq_some_iff.1 hi).1; simp [kidsOf] at this; exact this
    subst hi0
    simp only [kidsOf, List.getElem?_cons_zero, Option.some.injEq] at hi
    subst hi
    exact ⟨g, a1, b1, t1, A1, m1, c1, h6.1, blk_lt h7, cell_blk h7 0, cell_blk h7 1, cell_blk h7 2, cell_blk h7 3, h8⟩
  | .two k x z, a, b, s, A, m, c, h, i, y, hi => by
    obtain ⟨h1, h2, h3, h4, h5, g, fr, a1, b1, t1, A1, m1, c1, a2, b2, t2, A2, m2, c2, h6, h7, h8, h9⟩ := h
    have hi0 : i = 0 ∨ i = 1 := by have := (List.getElem?_eq_some_iff.1 hi).1; simp [kidsOf] at this; omega
    rcases hi0 with rfl | rfl
    · simp only [kidsOf, List.getElem?_cons_zero, Option.some.injEq] at hi
      subst hi
      exact ⟨g, a1, b1, t1, A1, m1, c1, h6.1, blk_lt h7, cell_blk h7 0, cell_blk h7 1, cell_blk h7 2, cell_blk h7 3, h8⟩
    · simp only [kidsOf, List.getElem?_cons_succ, List.getElem?_cons_zero, Option.some.injEq] at hi
      subst hi
      exact ⟨g, a2, b2, t2, A2, m2, c2, h6.1, blk_lt h7, cell_blk h7 4, cell_blk h7 5, cell_blk h7 6, cell_blk h7 7, h9⟩
/-- The greatest depth of the first i Kids. -/
def dk (x : Ex) (i : Nat) : Nat := ((kidsOf x).take i).foldl (fun d y => max d y.depth) 0
theorem dk_zero (x : Ex) : dk x 0 = 0 := rfl
theorem dk_succ {x y : Ex} {i : Nat} (h : (kidsOf x)[i]? = some y) : dk x (i + 1) = max (dk x i) y.depth := by
  unfold dk
  rw [List.take_add_one, h, List.foldl_append]
  rfl
theorem dk_full (x : Ex) : dk x (kidsOf x).length + 1 = x.depth := by
  unfold dk
  rw [List.take_length]
  cases x <;> simp [kidsOf, Ex.depth]
theorem kid_lt {x y : Ex} {i : Nat} (h : (kidsOf x)[i]? = some y) : y.depth < x.depth := by
  cases x with
  | leaf => cases h
  | one k x =>
    have hi0 : i = 0 := by have := (List.getElem?_eq_some_iff.1 h).1; simp [kidsOf] at this; exact this
    subst hi0
    simp only [kidsOf, List.getElem?_cons_zero, Option.some.injEq] at h
    subst h
    simp [Ex.depth]
  | two k x z =>
    have hi0 : i = 0 ∨ i = 1 := by have := (List.getElem?_eq_some_iff.1 h).1; simp [kidsOf] at this; omega
    rcases hi0 with rfl | rfl <;> simp [kidsOf] at h <;> subst h <;> simp [Ex.depth] <;> omega
theorem dk_lt (x : Ex) (i : Nat) : dk x i < x.depth := by
  induction i with
  | zero => rw [dk_zero]; cases x <;> simp [Ex.depth]
  | succ i ih =>
    cases h : (kidsOf x)[i]? with
    | none =>
      have : dk x (i + 1) = dk x i := by unfold dk; rw [List.take_add_one, h]; simp
      omega
    | some y => rw [dk_succ h]; have := kid_lt h; omega

end Go.Proofs.YtnphaaahdlkmhaaGreat
end
/-
  What package expr's word and operator return. Conditions: the table of levels can be read; those that each theorem names.
-/
section
namespace Go.Proofs.YtnphaaahdlkmhaaGreat
open Go.ChangeShapes Go.WideShapes Go.ChangeAt Go.RowKit
set_option maxRecDepth 100000
set_option maxHeartbeats 4000000

/-- The word or sign of a kind. -/
def wordB : Int → Bs
  | 4 => [115, 101, 108, 102]
  | 5 => [116, 105, 109, 101]
  | 6 => [43]
  | 7 => [45]
  | 8 => [42]
  | 9 => [47]
  | 10 => [61, 61]
  | 11 => [60]
  | 12 => [97, 110, 100]
  | 13 => [111, 114]
  | 14 => [110, 111, 116]
  | 16 => [114, 101]
  | 17 => [105, 109]
  | 18 => [116, 117, 114, 110]
  | 19 => [102, 97, 114]
  | _ => []
/-- The kinds of each level. -/
def lvs : List (List Int) := [[13], [12], [10, 11], [6, 7], [8, 9]]
/-- The first of these kinds whose word comes. -/
def firstK (ts : List Tk) (k e : Nat) (ops : List Int) : Option Int := ops.find? (fun kd => acc (nxt ts k e) (wordB kd))
theorem opk_first (ts : List Tk) (lv k : Nat) (ops : List Int) (h : lvs[lv]? = some ops) : opk ts lv k = firstK ts k 0 ops := by
  have hl : lv < 5 := (List.getElem?_eq_some_iff.1 h).1
  have hc : lv = 0 ∨ lv = 1 ∨ lv = 2 ∨ lv = 3 ∨ lv = 4 := by omega
  rcases hc with rfl | rfl | rfl | rfl | rfl <;> (simp only [lvs, List.getElem?_cons_zero, List.getElem?_cons_succ, Option.some.injEq] at h; subst h; unfold opk firstK; simp only [acc_ok, List.find?, wordB]) <;> repeat' split
  all_goals simp_all
theorem prek_first (ts : List Tk) (k : Nat) : prek ts k = firstK ts k 0 [14, 16, 17, 18] := by
  unfold prek firstK
  simp only [acc_ok, List.find?, wordB]
  repeat' split
  all_goals simp_all
theorem first_at {ts : List Tk} {k e : Nat} {ops : List Int} {i : Nat} {kd : Int} (hi : ops[i]? = some kd) (hno : ∀ (j : Nat) (q : Int), j < i → ops[j]? = some q → acc (nxt ts k e) (wordB q) = false) (hy : acc (nxt ts k e) (wordB kd) = true) : firstK ts k e ops = some kd := by
  unfold firstK
  induction ops generalizing i with
  | nil => cases hi
  | cons a r ih =>
    cases i with
    | zero => simp only [List.getElem?_cons_zero, Option.some.injEq] at hi; subst hi; simp [List.find?, hy]
    | succ i =>
      have h0 := hno 0 a (by omega) rfl
      simp only [List.find?, h0]
      exact ih (by simpa using hi) (fun j q hj hq => hno (j + 1) q (by omega) (by simpa using hq))
theorem first_none {ts : List Tk} {k e : Nat} {ops : List Int} (hno : ∀ (j : Nat) (q : Int), j < ops.length → ops[j]? = some q → acc (nxt ts k e) (wordB q) = false) : firstK ts k e ops = none := by
  unfold firstK
  rw [List.find?_eq_none]
  intro x hx
  obtain ⟨j, hj⟩ := List.mem_iff_getElem?.1 hx
  rw [hno j x (List.getElem?_eq_some_iff.1 hj).1 hj]
  decide
theorem first_lt {ts : List Tk} {k e : Nat} {ops : List Int} {kd : Int} (h : firstK ts k e ops = some kd) : acc (nxt ts k e) (wordB kd) = true := by
  unfold firstK at h
  exact List.find?_some (p := fun kd => acc (nxt ts k e) (wordB kd)) h

end Go.Proofs.YtnphaaahdlkmhaaGreat
end
/-
  What package expr's pair does: two operands behind one another. Conditions: those that each theorem names.
-/
section
namespace Go.Proofs.YtnphaaahdlkmhaaGreat
open Go.ChangeShapes Go.WideShapes Go.ChangeAt Go.RowKit
set_option maxRecDepth 100000
set_option maxHeartbeats 4000000

/-- What a call leaves of tree and state, where the model comes to r. -/
def Out (r : Rs) (k e : Nat) (y : Ex) (k' e' : Nat) : Prop :=
  if e = 0 then (match r with | .ok z j => y = z ∧ k' = j ∧ e' = 0 | .er e2 j => k' = j ∧ e' = e2 ∧ e2 ≠ 0) else k' = k ∧ e' = e
theorem Out.bad {r : Rs} {k e : Nat} {y : Ex} (he : e ≠ 0) : Out r k e y k e := by unfold Out; rw [if_neg he]; exact ⟨rfl, rfl⟩
/-- An expression in a block of its own. -/
def XB (w : World) (q : Nat) (a b : Int) (s : ByteArray) (A : Option Addr) (m c : Nat) : Prop := w.heap[q]? = some (.cells #[.int .i64 a, .int .i64 b, .string s, .slice A m c] 44 (0, 0))
theorem XB.go {w w' : World} {gp q : Nat} {a b : Int} {s : ByteArray} {A : Option Addr} {m c : Nat} (h : XB w q a b s A m c) (t : Touch (AtB gp) w w') (hne : q ≠ gp) : XB w' q a b s A m c := (t.block q (blk_lt h) hne).trans h
theorem XB.new (w : World) (a b : Int) (s : ByteArray) (A : Option Addr) (m c : Nat) {N : Nat} (hN : w.heap.size = N) : XB (w.alloc (.cells #[.int .i64 a, .int .i64 b, .string s, .slice A m c] 44)) N a b s A m c := alloc_blk _ _ _ hN
theorem XB.old {w : World} {q : Nat} {a b : Int} {s : ByteArray} {A : Option Addr} {m c : Nat} (h : XB w q a b s A m c) (o : Obj) : XB (w.alloc o) q a b s A m c := by unfold XB; rw [heap_alloc_old _ _ (blk_lt h)]; exact h
theorem XB.cells {w : World} {q : Nat} {a b : Int} {s : ByteArray} {A : Option Addr} {m c : Nat} (h : XB w q a b s A m c) : w.cell? ⟨q, 0, none⟩ = some (.int .i64 a) ∧ w.cell? ⟨q, 1, none⟩ = some (.int .i64 b) ∧ w.cell? ⟨q, 2, none⟩ = some (.string s) ∧ w.cell? ⟨q, 3, none⟩ = some (.slice A m c) ∧ q < w.heap.size :=
  ⟨cell_blk h 0, cell_blk h 1, cell_blk h 2, cell_blk h 3, blk_lt h⟩
theorem XB.free {w : World} {q : Nat} {a b : Int} {s : ByteArray} {A : Option Addr} {m c : Nat} (h : XB w q a b s A m c) : w.frozen? ⟨q, 0, none⟩ = false ∧ w.frozen? ⟨q, 1, none⟩ = false ∧ w.frozen? ⟨q, 2, none⟩ = false ∧ w.frozen? ⟨q, 3, none⟩ = false :=
  ⟨free_blk h 0, free_blk h 1, free_blk h 2, free_blk h 3⟩
/-- Two Kids in a new row. -/
theorem ET.mk2 {w : World} {Q : Nat → Prop} {x y : Ex} {a b : Int} {s : ByteArray} {A : Option Addr} {m c : Nat} {a' b' : Int} {s' : ByteArray} {A' : Option Addr} {m' c' : Nat} (hx : ET w Q x a b s A m c) (hy : ET w Q y a' b' s' A' m' c') (kd : Int) {N : Nat} (hN : w.heap.size = N) (hQ : Q N) :
    ET (w.alloc (.cells #[.int .i64 a, .int .i64 b, .string s, .slice A m c, .int .i64 a', .int .i64 b', .string s', .slice A' m' c'] 44)) Q (.two kd x y) kd 0 ⟨#[]⟩ (some ⟨N, 0, none⟩) 2 2 := by
  have t : Touch NoB w (w.alloc (.cells #[.int .i64 a, .int .i64 b, .string s, .slice A m c, .int .i64 a', .int .i64 b', .string s', .slice A' m' c'] 44)) := (Touch.refl _ _).alloc _
  exact ⟨rfl, rfl, rfl, rfl, rfl, N, _, a, b, s, A, m, c, a', b', s', A', m', c', ⟨rfl, hQ⟩, alloc_blk _ _ _ hN, hx.touch0 t, hy.touch0 t⟩
theorem ET.mk1 {w : World} {Q : Nat → Prop} {x : Ex} {a b : Int} {s : ByteArray} {A : Option Addr} {m c : Nat} (hx : ET w Q x a b s A m c) (kd : Int) {N : Nat} (hN : w.heap.size = N) (hQ : Q N) :
    ET (w.alloc (.cells #[.int .i64 a, .int .i64 b, .string s, .slice A m c] 44)) Q (.one kd x) kd 0 ⟨#[]⟩ (some ⟨N, 0, none⟩) 1 1 := by
  have t : Touch NoB w (w.alloc (.cells #[.int .i64 a, .int .i64 b, .string s, .slice A m c] 44)) := (Touch.refl _ _).alloc _
  exact ⟨rfl, rfl, rfl, rfl, rfl, N, _, a, b, s, A, m, c, ⟨rfl, hQ⟩, alloc_blk _ _ _ hN, hx.touch0 t⟩
/-- A store to a block that no Kid lies in. -/
theorem ET.aside {w w' : World} {Q : Nat → Prop} {q : Nat} (t : Touch (fun b => b = q) w w') {x : Ex} {a b : Int} {s : ByteArray} {A : Option Addr} {m c : Nat} (h : ET w Q x a b s A m c) (hq : ¬ Q q) : ET w' Q x a b s A m c :=
  h.touch t (fun b _ _ hb hQ => by subst hb; exact absurd hQ hq)

/-- What follows the first operand, in the model. -/
theorem out_pair {ts : List Tk} {E : Nat → Rs} {kd : Int} {x y : Ex} {k e k1 e1 k2 e2 k3 e3 e4 : Nat}
    (h1 : k1 = if acc (nxt ts k e) [44] = true then k + 1 else k) (h1e : e1 = if acc (nxt ts k e) [44] = true then e else if e = 0 then 2 else e)
    (h2 : Out (E k1) k1 e1 y k2 e2)
    (h3 : k3 = if acc (nxt ts k2 e2) [41] = true then k2 + 1 else k2) (h3e : e3 = if acc (nxt ts k2 e2) [41] = true then e2 else if e2 = 0 then 2 else e2)
    (h4 : e4 = if e3 = 0 ∧ 40 < (Ex.two kd x y).depth then 4 else e3) : Out (pairL ts E kd x k) k e (.two kd x y) k3 e4 := by
  by_cases he : e = 0
  · subst he
    unfold Out
    rw [if_pos rfl]
    rw [acc_ok] at h1 h1e
    unfold pairL
    cases hc : sg ts k [44]
    · rw [hc] at h1 h1e
      simp only [Bool.false_eq_true, if_false, if_true] at h1 h1e ⊢
      subst h1 h1e
      unfold Out at h2
      rw [if_neg (by decide)] at h2
      obtain ⟨rfl, rfl⟩ := h2
      rw [acc_bad (by decide)] at h3 h3e
      simp at h3 h3e
      subst h3 h3e
      simp at h4
      exact ⟨rfl, h4, by decide⟩
    · rw [hc] at h1 h1e
      simp only [if_true] at h1 h1e ⊢
      subst h1 h1e
      unfold Out at h2
      rw [if_pos rfl] at h2
      cases hE : E (k + 1) with
      | er e2' j =>
        rw [hE] at h2
        obtain ⟨rfl, rfl, h0⟩ := h2
        rw [acc_bad h0] at h3 h3e
        simp [h0] at h3 h3e
        subst h3 h3e
        rw [if_neg (fun z => h0 z.1)] at h4
        exact ⟨rfl, h4, h0⟩
      | ok z j =>
        rw [hE] at h2
        obtain ⟨rfl, rfl, rfl⟩ := h2
        rw [acc_ok] at h3 h3e
        simp only
        cases hd : sg ts k2 [41]
        · rw [hd] at h3 h3e
          simp at h3 h3e
          subst h3 h3e
          simp at h4
          simp only [Bool.false_eq_true, if_false]
          refine ⟨?_, ?_, ?_⟩ <;> first | trivial | exact h4 | decide
        · rw [hd] at h3 h3e
          simp only [if_true] at h3 h3e ⊢
          subst h3 h3e
          unfold mk
          by_cases h40 : 40 < (Ex.two kd x y).depth
          · rw [if_pos h40]; rw [if_pos ⟨rfl, h40⟩] at h4; exact ⟨rfl, h4, by decide⟩
          · rw [if_neg h40]; rw [if_neg (fun z => h40 z.2)] at h4; exact ⟨rfl, rfl, h4⟩
  · rw [acc_bad he] at h1 h1e
    simp [he] at h1 h1e
    subst h1 h1e
    unfold Out at h2 ⊢
    rw [if_neg he] at h2 ⊢
    obtain ⟨rfl, rfl⟩ := h2
    rw [acc_bad he] at h3 h3e
    simp [he] at h3 h3e
    subst h3 h3e
    rw [if_neg (fun z => he z.1)] at h4
    exact ⟨rfl, h4⟩
end Go.Proofs.YtnphaaahdlkmhaaGreat
end
