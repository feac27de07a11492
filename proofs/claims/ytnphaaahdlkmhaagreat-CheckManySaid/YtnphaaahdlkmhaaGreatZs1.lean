/-
  Words for memory: which blocks a call may have changed; rows of a call's own kept over it. No program is named here.
-/
import Derived.WalkKit
import Derived.Below
import Derived.Laws.OwnMore
import Derived.OwnWalk
import Derived.Maps.AppendAt
import Derived.Deep.Draws
import Derived.Test.YtnphaaahdlkmhaaGreatRows
import Derived.ProofKit
import Derived.OpenShut
import Derived.WalkLawsBesides
import Derived.KernelRfl
import Derived.Lib.Hide
import Derived.RegionTactic
import Derived.Deep.QuietTactic
import Derived.BigQuiet
import Derived.Deep.RegionLaw
import Derived.Deep.Slices
import Derived.ChangeSame
import Derived.ChangeSlices
import Derived.ChangeArms
import Derived.Carry
import Derived.IntWalk
section
namespace Go.Proofs.YtnphaaahdlkmhaaGreat
open Go.RowKit

/-- Of the blocks that w had, none outside F reads otherwise in w'; no block has gone; the streams are as they were. -/
structure Touch (F : Nat → Prop) (w w' : World) : Prop where
  os : w'.os = w.os
  tape : w'.tape = w.tape
  output : w'.output = w.output
  size : w.heap.size ≤ w'.heap.size
  block : ∀ k, k < w.heap.size → ¬ F k → w'.heap[k]? = w.heap[k]?

/-- No block at all. -/
def NoB : Nat → Prop := fun _ => False
/-- F, and every block that came between w and w'. -/
def Ext (F : Nat → Prop) (w w' : World) : Nat → Prop := fun b => F b ∨ (w.heap.size ≤ b ∧ b < w'.heap.size)
/-- F lies between B and the end of w's memory. -/
def InW (w : World) (B : Nat) (F : Nat → Prop) : Prop := ∀ b, F b → B ≤ b ∧ b < w.heap.size
/-- No block is in both. -/
def Dis (F G : Nat → Prop) : Prop := ∀ b, F b → G b → False

section
variable {F G : Nat → Prop} {w w' a b c : World} {B : Nat}
theorem Touch.refl (F : Nat → Prop) (w : World) : Touch F w w := ⟨rfl, rfl, rfl, Nat.le_refl _, fun _ _ _ => rfl⟩
theorem Touch.mono (h : Touch F w w') (hF : ∀ b, F b → G b) : Touch G w w' := ⟨h.os, h.tape, h.output, h.size, fun k hk hg => h.block k hk (fun x => hg (hF k x))⟩
/-- Two steps; what the second may change is in F, or is new since the start. -/
theorem Touch.trans (h : Touch F a b) (k : Touch G b c) (hG : ∀ x, G x → F x ∨ a.heap.size ≤ x) : Touch F a c :=
  ⟨k.os.trans h.os, k.tape.trans h.tape, k.output.trans h.output, Nat.le_trans h.size k.size, fun i hi hf =>
    (k.block i (Nat.lt_of_lt_of_le hi h.size) (fun g => (hG i g).elim hf (fun e => by omega))).trans (h.block i hi hf)⟩
theorem Touch.same (h : Touch F a b) (k : Touch F b c) : Touch F a c := h.trans k (fun _ => Or.inl)
theorem Touch.drew (h : Touch F a w) : Touch F a w.drew := ⟨h.os, h.tape, h.output, h.size, h.block⟩
theorem Touch.drewN (h : Touch F a w) (n : Nat) : Touch F a (w.drewN n) := ⟨h.os, h.tape, h.output, h.size, h.block⟩
theorem Touch.alloc (h : Touch F a w) (o : Obj) : Touch F a (w.alloc o) :=
  h.same ⟨rfl, rfl, rfl, by simp, fun k hk _ => Below.heap_alloc _ _ _ hk⟩
theorem Touch.setCell (h : Touch F a w) {p : Addr} (hp : F p.block ∨ a.heap.size ≤ p.block) (u : Value) : Touch F a (w.setCell p u) :=
  h.trans (G := fun b => b = p.block) ⟨rfl, rfl, rfl, by simp [World.setCell], fun k _ hn => Below.heap_setCell _ _ _ _ hn⟩ (fun x hx => by subst hx; exact hp)
theorem Touch.grown (h : Touch F a w) {row : Option Nat} (hg : w.grownBy w' row) (hr : ∀ k, row = some k → F k ∨ a.heap.size ≤ k) : Touch F a w' :=
  h.trans (G := fun b => row = some b) ⟨hg.os, hg.tape, hg.output, hg.size, fun k hk hn => hg.block k hk (fun e => hn e.symm)⟩ (fun x hx => hr x hx)
theorem Touch.cell (h : Touch F w w') {p : Addr} (hl : p.block < w.heap.size) (hf : ¬ F p.block) : w'.cell? p = w.cell? p := World.cell?_of_block (w := w) (h.block p.block hl hf)
/-- What only new blocks were changed by leaves all that was there. -/
theorem Touch.below (h : Touch F w w') (hB : ∀ b, F b → w.heap.size ≤ b) : Below w.heap.size w w' :=
  ⟨h.os, h.tape, h.output, h.size, fun k hk => h.block k hk (fun f => by have := hB k f; omega)⟩
theorem Touch.grow (h : Touch F w w') (hB : ∀ b, F b → B ≤ b) (hl : B ≤ w.heap.size) : Below B w w' :=
  ⟨h.os, h.tape, h.output, h.size, fun k hk => h.block k (by omega) (fun f => by have := hB k f; omega)⟩

theorem InW.ext (h : InW w B F) (hs : w.heap.size ≤ w'.heap.size) (hB : B ≤ w.heap.size) : InW w' B (Ext F w w') := by
  rintro b (hb | ⟨h1, h2⟩)
  · have := h b hb; omega
  · omega
theorem InW.more (h : InW w B F) (hs : w.heap.size ≤ w'.heap.size) : InW w' B F := fun b hb => by have := h b hb; omega
theorem Dis.symm (h : Dis F G) : Dis G F := fun b hg hf => h b hf hg
theorem Dis.ext (h : Dis F G) (hG : InW w B G) : Dis (Ext F w w') G := by
  rintro b (hb | ⟨h1, _⟩) hg
  · exact h b hb hg
  · have := hG b hg; omega
end

section
variable {F : Nat → Prop} {w w' : World} {base : Nat} {e : TypeId} {size n : Nat} {v : Value} {xs : List Value}
/-- A row stays as it is while its block is not touched. -/
theorem row_touch (h : w.ownsRow base e size v n xs) (t : Touch F w w') (hf : ∀ k, v.ownBlock = some k → ¬ F k) : w'.ownsRow base e size v n xs := by
  refine ⟨h.1, ?_⟩
  rcases h.2 with h0 | ⟨g, cap, cur, rfl, hb, hg, r⟩
  · exact .inl h0
  · exact .inr ⟨g, cap, cur, rfl, hb, by rw [t.block g (Array.getElem?_eq_some_iff.1 hg).1 (hf g rfl)]; exact hg, r⟩
theorem row_lt (h : w.ownsRow base e size v n xs) {k : Nat} (hk : v.ownBlock = some k) : k < w.heap.size := (h.lt k hk).2
/-- A row with an element shows its form. -/
theorem row_form (h : w.ownsRow base e size v n xs) (hn : 0 < n) : ∃ g cap, v = .slice (some ⟨g, 0, none⟩) n cap ∧ n ≤ cap ∧ cap ≤ maxLen ∧ v.ownBlock = some g := by
  rcases h.2 with ⟨_, h0⟩ | ⟨g, cap, cur, rfl, _, _, hc, hm, _⟩
  · omega
  · exact ⟨g, cap, rfl, hc, hm, rfl⟩
/-- The form of any row: a slice value of length n. -/
theorem row_any (h : w.ownsRow base e size v n xs) : ∃ A cap, v = .slice A n cap ∧ n ≤ cap ∧ cap ≤ maxLen := by
  rcases h.2 with ⟨rfl, h0⟩ | ⟨g, cap, cur, rfl, _, _, hc, hm, _⟩
  · subst h0; exact ⟨none, 0, rfl, Nat.le_refl _, by unfold maxLen; omega⟩
  · exact ⟨_, cap, rfl, hc, hm⟩
/-- Two blocks of different element types differ. -/
theorem row_ne (h : w.ownsRow base e size v n xs) {g : Nat} {cs : Array Value} {t : TypeId} {fr : Nat × Nat} (hg : w.heap[g]? = some (.cells cs t fr)) (hne : e ≠ t) : v.ownBlock ≠ some g := by
  rcases h.2 with ⟨rfl, _⟩ | ⟨g', cap, cur, rfl, _, hh, _⟩
  · simp [Value.ownBlock]
  · intro he
    have e1 : g' = g := by simpa [Value.ownBlock] using he
    subst e1
    rw [hg] at hh
    injection hh with hh
    injection hh with _ ht
    exact hne ht.symm
theorem row_row_ne {base' : Nat} {e' : TypeId} {size' n' : Nat} {v' : Value} {xs' : List Value} (h : w.ownsRow base e size v n xs) (h' : w.ownsRow base' e' size' v' n' xs') (hne : e ≠ e') {k : Nat} (hk : v.ownBlock = some k) : v'.ownBlock ≠ some k := by
  rcases h.2 with ⟨rfl, _⟩ | ⟨g, cap, cur, rfl, _, hh, _⟩
  · simp [Value.ownBlock] at hk
  · have e1 : g = k := by simpa [Value.ownBlock] using hk
    subst e1
    exact row_ne h' hh (fun x => hne x.symm)
end

theorem cell_blk {w : World} {g : Nat} {cs : Array Value} {t : TypeId} {fr : Nat × Nat} (h : w.heap[g]? = some (.cells cs t fr)) (i : Nat) : w.cell? ⟨g, i, none⟩ = cs[i]? := cell_of_row w g i cs t fr h
theorem free_blk {w : World} {g : Nat} {cs : Array Value} {t : TypeId} (h : w.heap[g]? = some (.cells cs t (0, 0))) (i : Nat) : w.frozen? ⟨g, i, none⟩ = false := by simp [World.frozen?, h]
theorem set_blk {w : World} {g : Nat} {cs : Array Value} {t : TypeId} {fr : Nat × Nat} (h : w.heap[g]? = some (.cells cs t fr)) (i : Nat) (u : Value) : (w.setCell ⟨g, i, none⟩ u).heap[g]? = some (.cells (cs.setIfInBounds i u) t fr) := by
  simp [World.setCell, Array.getElem?_modify, h]
theorem blk_lt {w : World} {g : Nat} {o : Obj} (h : w.heap[g]? = some o) : g < w.heap.size := (Array.getElem?_eq_some_iff.1 h).1

end Go.Proofs.YtnphaaahdlkmhaaGreat
end
/-
  Expressions of any shape, as plain data and in memory; an argument that is one, opened. No condition beyond those that each theorem names.
-/
section
namespace Go.Proofs.YtnphaaahdlkmhaaGreat
open Go.ChangeShapes Go.WideShapes Go.ChangeAt Go.RowKit Go.Deep
set_option maxRecDepth 100000
set_option maxHeartbeats 1000000

/-- An expression of any shape. -/
inductive GE where
  | mk : Int → Int → ByteArray → List GE → GE
def GE.kd : GE → Int | .mk k _ _ _ => k
def GE.nn : GE → Int | .mk _ n _ _ => n
def GE.nm : GE → ByteArray | .mk _ _ s _ => s
def GE.kids : GE → List GE | .mk _ _ _ l => l
def W64 (a : Int) : Prop := -9223372036854775808 ≤ a ∧ a ≤ 9223372036854775807
theorem w64_wf {m : Int} (h : W64 m) : (Lit.int .i64 m).wf = true := by
  have h1 : IntKind.i64.min = -9223372036854775808 := by decide
  have h2 : IntKind.i64.max = 9223372036854775807 := by decide
  simp only [Lit.wf, h1, h2]
  simp
  exact h
/-- The fields a, b, s and the list of m at A are those of an expression that is less than d deep. -/
def GAt (w : World) : Nat → GE → Int → Int → ByteArray → Option Addr → Nat → Prop
  | 0, _, _, _, _, _, _ => False
  | d + 1, .mk k n t l, a, b, s, A, m => a = k ∧ b = n ∧ s = t ∧ l.length = m ∧ W64 k ∧ W64 n ∧ s.size ≤ 9223372036854775807 ∧ m ≤ 9223372036854775807 ∧
      ∀ (i : Nat) (y : GE), l[i]? = some y → ∃ g o a1 b1 s1 A1 m1 c1, A = some ⟨g, o, none⟩ ∧ g < w.heap.size ∧ w.cell? ⟨g, o + i * 4, none⟩ = some (.int .i64 a1) ∧ w.cell? ⟨g, o + i * 4 + 1, none⟩ = some (.int .i64 b1) ∧
        w.cell? ⟨g, o + i * 4 + 2, none⟩ = some (.string s1) ∧ w.cell? ⟨g, o + i * 4 + 3, none⟩ = some (.slice A1 m1 c1) ∧ m1 ≤ c1 ∧ GAt w d y a1 b1 s1 A1 m1
theorem GAt.touch {w w' : World} (t : Touch NoB w w') : ∀ {d : Nat} {x : GE} {a b : Int} {s : ByteArray} {A : Option Addr} {m : Nat}, GAt w d x a b s A m → GAt w' d x a b s A m
  | 0, _, _, _, _, _, _, h => h
  | d + 1, .mk k n q l, a, b, s, A, m, h => by
    obtain ⟨h1, h2, h3, h4, h5, h6, h7, h8, h9⟩ := h
    refine ⟨h1, h2, h3, h4, h5, h6, h7, h8, fun i y hy => ?_⟩
    obtain ⟨g, o, a1, b1, s1, A1, m1, c1, e1, e2, e3, e4, e5, e6, e7, e8⟩ := h9 i y hy
    have q : ∀ j, w'.cell? ⟨g, j, none⟩ = w.cell? ⟨g, j, none⟩ := fun j => t.cell (p := ⟨g, j, none⟩) e2 (fun f => f)
    exact ⟨g, o, a1, b1, s1, A1, m1, c1, e1, Nat.lt_of_lt_of_le e2 t.size, (q _).trans e3, (q _).trans e4, (q _).trans e5, (q _).trans e6, e7, GAt.touch t e8⟩

theorem GAt.more {w : World} : ∀ {d e : Nat} {x : GE} {a b : Int} {s : ByteArray} {A : Option Addr} {m : Nat}, d ≤ e → GAt w d x a b s A m → GAt w e x a b s A m
  | 0, _, _, _, _, _, _, _, _, h => h.elim
  | d + 1, 0, _, _, _, _, _, _, hd, _ => by omega
  | d + 1, e + 1, .mk k n q l, a, b, s, A, m, hd, h => by
    obtain ⟨h1, h2, h3, h4, h5, h6, h7, h8, h9⟩ := h
    refine ⟨h1, h2, h3, h4, h5, h6, h7, h8, fun i y hy => ?_⟩
    obtain ⟨g, o, a1, b1, s1, A1, m1, c1, e1, e2, e3, e4, e5, e6, e7, e8⟩ := h9 i y hy
    exact ⟨g, o, a1, b1, s1, A1, m1, c1, e1, e2, e3, e4, e5, e6, e7, GAt.more (by omega) e8⟩

section
variable {H : Type} {enc : TypeId × Value → H} {P : Program} {w : World} {base : Nat} {spare : Nat → Bool} {held : Bool} {fuel : Nat}
end

section
variable {H : Type} {enc : TypeId × Value → H} {w : World} {base : Nat} {spare : Nat → Bool} {held : Bool}
end
end Go.Proofs.YtnphaaahdlkmhaaGreat
end
/-
  Plain arithmetic on Lean's integers: what a number comes to when it is limited to 64 bits, with the facts on sums, products and quotients that the contracts of package clamp use. No condition beyond those that each theorem names.
-/
section
namespace Go.Proofs.YtnphaaahdlkmhaaGreat
open Go.RowKit (wrap64)

def withinI (n lo hi : Int) : Int := if n < lo ∨ hi < lo then lo else if hi < n then hi else n

end Go.Proofs.YtnphaaahdlkmhaaGreat
end
/-
  A lexer over lists of bytes, told by plain recursion, and what it comes to: where tokens stand, what more blanks between them change, which digits are a number, which texts are one name. No program is named here; no condition beyond those that each theorem names.
-/
section
namespace Go.Proofs.YtnphaaahdlkmhaaGreat

/-- Bytes. -/
abbrev Bs := List UInt8
def bL (c : UInt8) : Bool := decide (97 ≤ c.toNat ∧ c.toNat ≤ 122) || decide (65 ≤ c.toNat ∧ c.toNat ≤ 90)
def bD (c : UInt8) : Bool := decide (48 ≤ c.toNat ∧ c.toNat ≤ 57)
def bW (c : UInt8) : Bool := bL c || bD c || decide (c.toNat = 95)
def bB (c : UInt8) : Bool := decide (c.toNat = 32 ∨ c.toNat = 9 ∨ c.toNat = 10 ∨ c.toNat = 13)
/-- Is the first byte a slash? -/
def slash (l : Bs) : Bool := match l with | [] => false | c :: _ => decide (c.toNat = 47)
/-- What is left behind blanks; true: within a remark. -/
def skipL : Bool → Bs → Bs
  | _, [] => []
  | true, c :: r => if c.toNat = 10 then skipL false r else skipL true r
  | false, c :: r => if bB c = true then skipL false r else if c.toNat = 47 ∧ slash r = true then skipL true r else c :: r
/-- The words of the language. -/
def kw : List Bs := [
  [107, 101, 121],
  [116, 114, 101, 101],
  [100, 111, 109, 97, 105, 110],
  [111, 119, 110],
  [115, 104, 97, 114, 101, 100],
  [105, 110, 116],
  [98, 111, 111, 108],
  [114, 101, 102],
  [115, 121, 109],
  [112, 111, 105, 110, 116],
  [115, 101, 113],
  [115, 101, 108],
  [109, 115, 101, 113],
  [109, 115, 101, 108],
  [112, 97, 114],
  [110, 111, 116],
  [114, 101, 112, 101, 97, 116],
  [105, 102],
  [115, 101, 116],
  [100, 111],
  [117, 115, 101],
  [112, 105, 99, 107],
  [112, 108, 97, 110],
  [111, 107],
  [102, 97, 105, 108],
  [119, 97, 105, 116],
  [118, 97, 114],
  [97, 99, 116],
  [99, 111, 115, 116],
  [110, 101, 101, 100],
  [109, 97, 107, 101],
  [103, 111, 97, 108],
  [116, 114, 117, 101],
  [102, 97, 108, 115, 101],
  [115, 101, 108, 102],
  [116, 105, 109, 101],
  [97, 110, 100],
  [111, 114],
  [114, 101],
  [105, 109],
  [116, 117, 114, 110],
  [102, 97, 114]]
def valL (l : Bs) : Nat := l.foldl (fun v c => 10 * v + (c.toNat - 48)) 0
/-- Is the first byte a sign of equality? -/
def equal1 (l : Bs) : Bool := match l with | [] => false | c :: _ => decide (c.toNat = 61)
/-- How long a sign is that begins with c, d behind it: 0 for none. -/
def sgnL (c : UInt8) (r : Bs) : Nat :=
  if (c.toNat = 58 ∨ c.toNat = 60 ∨ c.toNat = 62 ∨ c.toNat = 61) ∧ equal1 r = true then 2
  else if c.toNat = 123 ∨ c.toNat = 125 ∨ c.toNat = 40 ∨ c.toNat = 41 ∨ c.toNat = 59 ∨ c.toNat = 58 ∨ c.toNat = 61 ∨ c.toNat = 60 ∨ c.toNat = 43 ∨ c.toNat = 45 ∨ c.toNat = 42 ∨ c.toNat = 47 ∨ c.toNat = 44 ∨ c.toNat = 39 then 1 else 0
/-- A token: its kind, its number, where it stands, its text. -/
structure Tk where
  kd : Nat
  n : Nat
  pl : Nat
  tx : Bs
/-- The token that a text begins with, and its length. -/
def tokL (a : Nat) : Bs → Option (Tk × Nat)
  | [] => none
  | c :: r =>
    if bD c = true then
      if (List.takeWhile bW (c :: r)).all bD = true ∧ valL (List.takeWhile bW (c :: r)) ≤ 9223372036854775807 ∧ ¬ (c.toNat = 48 ∧ 1 < (List.takeWhile bW (c :: r)).length) then some (⟨3, valL (List.takeWhile bW (c :: r)), a, []⟩, (List.takeWhile bW (c :: r)).length) else none
    else if bL c = true then
      if kw.contains (List.takeWhile bW (c :: r)) = true then some (⟨2, 0, a, List.takeWhile bW (c :: r)⟩, (List.takeWhile bW (c :: r)).length)
      else if (List.takeWhile bW (c :: r)).length ≤ 24 then some (⟨1, 0, a, List.takeWhile bW (c :: r)⟩, (List.takeWhile bW (c :: r)).length) else none
    else if sgnL c r = 0 then none else some (⟨4, 0, a, (c :: r).take (sgnL c r)⟩, sgnL c r)
/-- What a text comes to from place a on: its tokens, or the place of the first that is none. -/
inductive Lx where
  | bad (p : Nat)
  | good (l : List Tk)
def Lx.cons (t : Tk) : Lx → Lx
  | .bad p => .bad p
  | .good l => .good (t :: l)
def toksL : Nat → Nat → Bs → Lx
  | 0, a, _ => .bad a
  | f + 1, a, l => match skipL false l with
    | [] => .good [⟨0, 0, a + l.length, []⟩]
    | c :: r => match tokL (a + (l.length - (c :: r).length)) (c :: r) with
      | none => .bad (a + (l.length - (c :: r).length))
      | some (t, n) => Lx.cons t (toksL f (a + (l.length - (c :: r).length) + n) ((c :: r).drop n))
/-- .. of a whole text. -/
def lexL (b : Bs) : Lx := toksL (b.length + 1) 0 b

/-! ### blanks -/
theorem skip_len : ∀ (l : Bs) (s : Bool), (skipL s l).length ≤ l.length
  | [], s => by cases s <;> simp [skipL]
  | c :: r, s => by
    have h1 := skip_len r true
    have h2 := skip_len r false
    cases s <;> simp only [skipL] <;> repeat' split
    all_goals simp only [List.length_cons]; omega
theorem skip_len1 (c : UInt8) (r : Bs) : (skipL true (c :: r)).length ≤ r.length := by
  have h1 := skip_len r true
  have h2 := skip_len r false
  simp only [skipL]
  split <;> omega
/-- What was skipped is skipped ahead of any text. -/
theorem skip_closed : ∀ (l : Bs) (s : Bool) (m : Bs), skipL s l = m → m ≠ [] → ∃ p, l = p ++ m ∧ ∀ Z, skipL s (p ++ Z) = skipL false Z
  | [], s, m, h, hm => by
    cases s <;> simp only [skipL] at h <;> exact absurd h.symm hm
  | c :: r, true, m, h, hm => by
    simp only [skipL] at h
    split at h
    · rename_i hc
      obtain ⟨p, hp, hz⟩ := skip_closed r false m h hm
      exact ⟨c :: p, by rw [hp]; rfl, fun Z => by simp only [List.cons_append, skipL, if_pos hc]; exact hz Z⟩
    · rename_i hc
      obtain ⟨p, hp, hz⟩ := skip_closed r true m h hm
      exact ⟨c :: p, by rw [hp]; rfl, fun Z => by simp only [List.cons_append, skipL, if_neg hc]; exact hz Z⟩
  | c :: r, false, m, h, hm => by
    simp only [skipL] at h
    split at h
    · rename_i hc
      obtain ⟨p, hp, hz⟩ := skip_closed r false m h hm
      exact ⟨c :: p, by rw [hp]; rfl, fun Z => by simp only [List.cons_append, skipL, if_pos hc]; exact hz Z⟩
    · rename_i hc
      split at h
      · rename_i hd
        obtain ⟨p, hp, hz⟩ := skip_closed r true m h hm
        have hpn : ∃ d q, p = d :: q := by
          cases p with
          | cons d q => exact ⟨d, q, rfl⟩
          | nil =>
            cases r with
            | nil => simp [slash] at hd
            | cons d q =>
              have := skip_len1 d q
              rw [h, ← (show d :: q = m from hp)] at this
              simp at this
              omega
        obtain ⟨d, q, rfl⟩ := hpn
        refine ⟨c :: d :: q, by rw [hp]; rfl, fun Z => ?_⟩
        have hs : slash (d :: (q ++ Z)) = true := by rw [hp] at hd; exact hd.2
        have := hz Z
        simp only [List.cons_append] at this ⊢
        rw [skipL, if_neg hc, if_pos ⟨hd.1, hs⟩]
        exact this
      · exact ⟨[], by rw [← h]; rfl, fun Z => rfl⟩
/-- What a text begins with once nothing is to be skipped. -/
theorem skip_head : ∀ (l : Bs) (s : Bool) (c : UInt8) (r : Bs), skipL s l = c :: r → bB c = false ∧ ¬ (c.toNat = 47 ∧ slash r = true)
  | [], s, c, r, h => by cases s <;> simp [skipL] at h
  | d :: q, true, c, r, h => by
    simp only [skipL] at h
    split at h
    · exact skip_head q false c r h
    · exact skip_head q true c r h
  | d :: q, false, c, r, h => by
    simp only [skipL] at h
    split at h
    · exact skip_head q false c r h
    · rename_i hb
      split at h
      · exact skip_head q true c r h
      · rename_i hc
        injection h with h1 h2
        subst h1 h2
        exact ⟨by simpa using hb, hc⟩
theorem skip_stay {c : UInt8} {r : Bs} (hb : bB c = false) (hc : ¬ (c.toNat = 47 ∧ slash r = true)) : skipL false (c :: r) = c :: r := by
  simp only [skipL]
  rw [if_neg (by simp [hb]), if_neg hc]

/-! ### one token -/
theorem word_len (c : UInt8) (r : Bs) : (List.takeWhile bW (c :: r)).length ≤ (c :: r).length := (List.takeWhile_sublist _).length_le
theorem word_pos {c : UInt8} {r : Bs} (h : bW c = true) : 1 ≤ (List.takeWhile bW (c :: r)).length := by
  rw [List.takeWhile_cons, if_pos h]
  simp
theorem bW_D {c : UInt8} (h : bD c = true) : bW c = true := by simp [bW, h]
theorem bW_L {c : UInt8} (h : bL c = true) : bW c = true := by simp [bW, h]
theorem sgn_le (c : UInt8) (r : Bs) : sgnL c r ≤ (c :: r).length := by
  unfold sgnL
  split
  · rename_i h
    cases r with
    | nil => simp [equal1] at h
    | cons d q => simp
  · split <;> simp
/-- A token is no longer than the text, and has a byte at least. -/
theorem tok_len {a n : Nat} {c : UInt8} {r : Bs} {t : Tk} (h : tokL a (c :: r) = some (t, n)) : 1 ≤ n ∧ n ≤ (c :: r).length := by
  have hw := word_len c r
  have hs := sgn_le c r
  simp only [tokL] at h
  split at h
  · rename_i hd
    have := word_pos (r := r) (bW_D hd)
    split at h
    · injection h with h; injection h with _ h; omega
    · cases h
  · split at h
    · rename_i hl
      have := word_pos (r := r) (bW_L hl)
      split at h
      · injection h with h; injection h with _ h; omega
      · split at h
        · injection h with h; injection h with _ h; omega
        · cases h
    · split at h
      · cases h
      · injection h with h; injection h with _ h; omega
/-- A token stands where it was looked for; its text is what stands there; it is no end. -/
theorem tok_at {a n : Nat} {l : Bs} {t : Tk} (h : tokL a l = some (t, n)) : t.pl = a ∧ (t.kd = 1 ∨ t.kd = 2 ∨ t.kd = 3 ∨ t.kd = 4) ∧ l.take t.tx.length = t.tx ∧ t.tx.length ≤ l.length := by
  cases l with
  | nil => simp [tokL] at h
  | cons c r =>
    have hw := word_len c r
    have ht : (c :: r).take (List.takeWhile bW (c :: r)).length = List.takeWhile bW (c :: r) := (List.prefix_iff_eq_take.1 (List.takeWhile_prefix _)).symm
    have hs := sgn_le c r
    simp only [tokL] at h
    split at h
    · split at h
      · injection h with h; injection h with h _; subst h; exact ⟨rfl, by simp, by simp, by simp⟩
      · cases h
    · split at h
      · split at h
        · injection h with h; injection h with h _; subst h; exact ⟨rfl, by simp, ht, hw⟩
        · split at h
          · injection h with h; injection h with h _; subst h; exact ⟨rfl, by simp, ht, hw⟩
          · cases h
      · split at h
        · cases h
        · injection h with h; injection h with h _; subst h
          refine ⟨rfl, by simp, ?_, ?_⟩
          · simp only [List.length_take]; rw [Nat.min_eq_left hs]
          · simp only [List.length_take]; omega
end Go.Proofs.YtnphaaahdlkmhaaGreat
end
/-
  The lexer over lists of bytes: where its tokens stand; what a text of word's bytes alone comes to: numbers, names. No program is named here.
-/
section
namespace Go.Proofs.YtnphaaahdlkmhaaGreat

theorem skip_suffix (l : Bs) (s : Bool) : skipL s l = l.drop (l.length - (skipL s l).length) := by
  cases h : skipL s l with
  | nil => simp
  | cons c r =>
    obtain ⟨p, hp, _⟩ := skip_closed l s _ h (by simp)
    rw [hp]
    simp

/-- The tokens ts of b, from place a on: each stands where it says, in rising order, as it is written; the last, and it alone, is the end. -/
def PlOk (b : Bs) : Nat → List Tk → Prop
  | _, [] => False
  | a, [t] => t.kd = 0 ∧ t.pl = b.length ∧ a ≤ t.pl ∧ t.tx = [] ∧ t.n = 0
  | a, t :: u :: r => (t.kd = 1 ∨ t.kd = 2 ∨ t.kd = 3 ∨ t.kd = 4) ∧ a ≤ t.pl ∧ t.pl < b.length ∧ (b.drop t.pl).take t.tx.length = t.tx ∧ t.tx.length ≤ b.length - t.pl ∧ PlOk b (t.pl + 1) (u :: r)
theorem places : ∀ (f a : Nat) (b : Bs) (ts : List Tk), a ≤ b.length → toksL f a (b.drop a) = .good ts → PlOk b a ts
  | 0, a, b, ts, _, h => by simp [toksL] at h
  | f + 1, a, b, ts, ha, h => by
    have hsf := skip_suffix (b.drop a) false
    have hsl := skip_len (b.drop a) false
    simp only [toksL] at h
    split at h
    · rename_i hm
      injection h with h
      subst h
      exact ⟨rfl, by simp; omega, by simp, rfl, rfl⟩
    · rename_i c r hm
      rw [hm] at hsf hsl
      split at h
      · cases h
      · rename_i t n ht
        obtain ⟨e1, e2, e3, e4⟩ := tok_at ht
        have hn := tok_len ht
        rw [List.length_drop] at hsl e1 h ht hsf
        have hcr : c :: r = b.drop t.pl := by
          have := hsf
          rw [List.drop_drop, ← e1] at this
          exact this
        have hcl : (c :: r).length = b.length - t.pl := by rw [hcr, List.length_drop]
        have hpl : t.pl < b.length := by
          have : 1 ≤ (c :: r).length := by simp
          omega
        cases hx : toksL f (a + (b.length - a - (c :: r).length) + n) ((c :: r).drop n) with
        | bad p => rw [hx] at h; simp [Lx.cons] at h
        | good us =>
          rw [hx] at h
          simp only [Lx.cons] at h
          injection h with h
          subst h
          have hx' : toksL f (t.pl + n) (b.drop (t.pl + n)) = .good us := by
            rw [← e1, hcr, List.drop_drop] at hx
            exact hx
          have := places f (t.pl + n) b us (by omega) hx'
          have hmono : ∀ us x y, x ≤ y → PlOk b y us → PlOk b x us := by
            intro us x y hxy hp
            match us, hp with
            | [t], hp => exact ⟨hp.1, hp.2.1, by have := hp.2.2.1; omega, hp.2.2.2.1, hp.2.2.2.2⟩
            | t :: u :: r, hp => exact ⟨hp.1, by have := hp.2.1; omega, hp.2.2.1, hp.2.2.2.1, hp.2.2.2.2.1, hp.2.2.2.2.2⟩
          match us, this with
          | u :: rest, hp => exact ⟨e2, by omega, hpl, by rw [← hcr]; exact e3, by omega, hmono _ _ _ (by omega) hp⟩
theorem lex_places {b : Bs} {ts : List Tk} (h : lexL b = .good ts) : PlOk b 0 ts := places _ 0 b ts (Nat.zero_le _) h
/-! ### one word -/
theorem L_not_D {c : UInt8} (h : bL c = true) : bD c = false := by
  simp only [bL, bD, Bool.or_eq_true, decide_eq_true_eq, decide_eq_false_iff_not] at h ⊢
  omega
theorem val_snoc (l : Bs) (c : UInt8) : valL (l ++ [c]) = 10 * valL l + (c.toNat - 48) := by simp [valL, List.foldl_append]
end Go.Proofs.YtnphaaahdlkmhaaGreat
end
/-
  The lexer over lists of bytes: blanks laid ahead of each token change where the tokens stand, and nothing else. No program is named here.
-/
section
namespace Go.Proofs.YtnphaaahdlkmhaaGreat

/-- What a token comes to does not hang on where it stands. -/
def Tk.at (t : Tk) (a : Nat) : Tk := ⟨t.kd, t.n, a, t.tx⟩
/-- What tells of a token beside its place. -/
def Tk.what (t : Tk) : Nat × Nat × Bs := (t.kd, t.n, t.tx)
end Go.Proofs.YtnphaaahdlkmhaaGreat
end
