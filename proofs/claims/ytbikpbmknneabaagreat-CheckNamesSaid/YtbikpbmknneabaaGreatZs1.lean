/-
  Words for memory: which blocks a call may have changed; rows of a call's own kept over it. No program is named here.
-/
import Derived.WalkKit
import Derived.Below
import Derived.Laws.OwnMore
import Derived.OwnWalk
import Derived.Maps.AppendAt
import Derived.Deep.Draws
import Derived.Test.YtbikpbmknneabaaGreatRows
import Derived.ProofKit
import Derived.OpenShut
import Derived.WalkLawsBesides
import Derived.KernelRfl
import Derived.Lib.Hide
import Derived.RegionTactic
import Derived.Deep.QuietTactic
import Derived.BigQuiet
import Derived.Deep.RegionLaw
import Derived.Deep.Slices
import Derived.ChangeSame
import Derived.ChangeSlices
import Derived.ChangeArms
import Derived.Carry
import Derived.IntWalk
import Derived.Maps.OwnSet
section
namespace Go.Proofs.YtbikpbmknneabaaGreat
open Go.RowKit

/-- Of the blocks that w had, none outside F reads otherwise in w'; no block has gone; the streams are as they were. -/
structure Touch (F : Nat → Prop) (w w' : World) : Prop where
  os : w'.os = w.os
  tape : w'.tape = w.tape
  output : w'.output = w.output
  size : w.heap.size ≤ w'.heap.size
  block : ∀ k, k < w.heap.size → ¬ F k → w'.heap[k]? = w.heap[k]?

/-- No block at all. -/
def NoB : Nat → Prop := fun _ => False
/-- F, and every block that came between w and w'. -/
def Ext (F : Nat → Prop) (w w' : World) : Nat → Prop := fun b => F b ∨ (w.heap.size ≤ b ∧ b < w'.heap.size)
/-- F lies between B and the end of w's memory. -/
def InW (w : World) (B : Nat) (F : Nat → Prop) : Prop := ∀ b, F b → B ≤ b ∧ b < w.heap.size
/-- No block is in both. -/
def Dis (F G : Nat → Prop) : Prop := ∀ b, F b → G b → False

section
variable {F G : Nat → Prop} {w w' a b c : World} {B : Nat}
theorem Touch.refl (F : Nat → Prop) (w : World) : Touch F w w := ⟨rfl, rfl, rfl, Nat.le_refl _, fun _ _ _ => rfl⟩
theorem Touch.mono (h : Touch F w w') (hF : ∀ b, F b → G b) : Touch G w w' := ⟨h.os, h.tape, h.output, h.size, fun k hk hg => h.block k hk (fun x => hg (hF k x))⟩
/-- Two steps; what the second may change is in F, or is new since the start. -/
theorem Touch.trans (h : Touch F a b) (k : Touch G b c) (hG : ∀ x, G x → F x ∨ a.heap.size ≤ x) : Touch F a c :=
  ⟨k.os.trans h.os, k.tape.trans h.tape, k.output.trans h.output, Nat.le_trans h.size k.size, fun i hi hf =>
    (k.block i (Nat.lt_of_lt_of_le hi h.size) (fun g => (hG i g).elim hf (fun e => by omega))).trans (h.block i hi hf)⟩
theorem Touch.same (h : Touch F a b) (k : Touch F b c) : Touch F a c := h.trans k (fun _ => Or.inl)
theorem Touch.drew (h : Touch F a w) : Touch F a w.drew := ⟨h.os, h.tape, h.output, h.size, h.block⟩
theorem Touch.drewN (h : Touch F a w) (n : Nat) : Touch F a (w.drewN n) := ⟨h.os, h.tape, h.output, h.size, h.block⟩
theorem Touch.alloc (h : Touch F a w) (o : Obj) : Touch F a (w.alloc o) :=
  h.same ⟨rfl, rfl, rfl, by simp, fun k hk _ => Below.heap_alloc _ _ _ hk⟩
theorem Touch.setCell (h : Touch F a w) {p : Addr} (hp : F p.block ∨ a.heap.size ≤ p.block) (u : Value) : Touch F a (w.setCell p u) :=
  h.trans (G := fun b => b = p.block) ⟨rfl, rfl, rfl, by simp [World.setCell], fun k _ hn => Below.heap_setCell _ _ _ _ hn⟩ (fun x hx => by subst hx; exact hp)
theorem Touch.grown (h : Touch F a w) {row : Option Nat} (hg : w.grownBy w' row) (hr : ∀ k, row = some k → F k ∨ a.heap.size ≤ k) : Touch F a w' :=
  h.trans (G := fun b => row = some b) ⟨hg.os, hg.tape, hg.output, hg.size, fun k hk hn => hg.block k hk (fun e => hn e.symm)⟩ (fun x hx => hr x hx)
theorem Touch.cell (h : Touch F w w') {p : Addr} (hl : p.block < w.heap.size) (hf : ¬ F p.block) : w'.cell? p = w.cell? p := World.cell?_of_block (w := w) (h.block p.block hl hf)
/-- What only new blocks were changed by leaves all that was there. -/
theorem Touch.below (h : Touch F w w') (hB : ∀ b, F b → w.heap.size ≤ b) : Below w.heap.size w w' :=
  ⟨h.os, h.tape, h.output, h.size, fun k hk => h.block k hk (fun f => by have := hB k f; omega)⟩
theorem Touch.grow (h : Touch F w w') (hB : ∀ b, F b → B ≤ b) (hl : B ≤ w.heap.size) : Below B w w' :=
  ⟨h.os, h.tape, h.output, h.size, fun k hk => h.block k (by omega) (fun f => by have := hB k f; omega)⟩

theorem InW.ext (h : InW w B F) (hs : w.heap.size ≤ w'.heap.size) (hB : B ≤ w.heap.size) : InW w' B (Ext F w w') := by
  rintro b (hb | ⟨h1, h2⟩)
  · have := h b hb; omega
  · omega
theorem InW.more (h : InW w B F) (hs : w.heap.size ≤ w'.heap.size) : InW w' B F := fun b hb => by have := h b hb; omega
theorem Dis.symm (h : Dis F G) : Dis G F := fun b hg hf => h b hf hg
theorem Dis.ext (h : Dis F G) (hG : InW w B G) : Dis (Ext F w w') G := by
  rintro b (hb | ⟨h1, _⟩) hg
  · exact h b hb hg
  · have := hG b hg; omega
end

section
variable {F : Nat → Prop} {w w' : World} {base : Nat} {e : TypeId} {size n : Nat} {v : Value} {xs : List Value}
/-- A row stays as it is while its block is not touched. -/
theorem row_touch (h : w.ownsRow base e size v n xs) (t : Touch F w w') (hf : ∀ k, v.ownBlock = some k → ¬ F k) : w'.ownsRow base e size v n xs := by
  refine ⟨h.1, ?_⟩
  rcases h.2 with h0 | ⟨g, cap, cur, rfl, hb, hg, r⟩
  · exact .inl h0
  · exact .inr ⟨g, cap, cur, rfl, hb, by rw [t.block g (Array.getElem?_eq_some_iff.1 hg).1 (hf g rfl)]; exact hg, r⟩
theorem row_lt (h : w.ownsRow base e size v n xs) {k : Nat} (hk : v.ownBlock = some k) : k < w.heap.size := (h.lt k hk).2
/-- A row with an element shows its form. -/
theorem row_form (h : w.ownsRow base e size v n xs) (hn : 0 < n) : ∃ g cap, v = .slice (some ⟨g, 0, none⟩) n cap ∧ n ≤ cap ∧ cap ≤ maxLen ∧ v.ownBlock = some g := by
  rcases h.2 with ⟨_, h0⟩ | ⟨g, cap, cur, rfl, _, _, hc, hm, _⟩
  · omega
  · exact ⟨g, cap, rfl, hc, hm, rfl⟩
/-- The form of any row: a slice value of length n. -/
theorem row_any (h : w.ownsRow base e size v n xs) : ∃ A cap, v = .slice A n cap ∧ n ≤ cap ∧ cap ≤ maxLen := by
  rcases h.2 with ⟨rfl, h0⟩ | ⟨g, cap, cur, rfl, _, _, hc, hm, _⟩
  · subst h0; exact ⟨none, 0, rfl, Nat.le_refl _, by unfold maxLen; omega⟩
  · exact ⟨_, cap, rfl, hc, hm⟩
/-- Two blocks of different element types differ. -/
theorem row_ne (h : w.ownsRow base e size v n xs) {g : Nat} {cs : Array Value} {t : TypeId} {fr : Nat × Nat} (hg : w.heap[g]? = some (.cells cs t fr)) (hne : e ≠ t) : v.ownBlock ≠ some g := by
  rcases h.2 with ⟨rfl, _⟩ | ⟨g', cap, cur, rfl, _, hh, _⟩
  · simp [Value.ownBlock]
  · intro he
    have e1 : g' = g := by simpa [Value.ownBlock] using he
    subst e1
    rw [hg] at hh
    injection hh with hh
    injection hh with _ ht
    exact hne ht.symm
theorem row_row_ne {base' : Nat} {e' : TypeId} {size' n' : Nat} {v' : Value} {xs' : List Value} (h : w.ownsRow base e size v n xs) (h' : w.ownsRow base' e' size' v' n' xs') (hne : e ≠ e') {k : Nat} (hk : v.ownBlock = some k) : v'.ownBlock ≠ some k := by
  rcases h.2 with ⟨rfl, _⟩ | ⟨g, cap, cur, rfl, _, hh, _⟩
  · simp [Value.ownBlock] at hk
  · have e1 : g = k := by simpa [Value.ownBlock] using hk
    subst e1
    exact row_ne h' hh (fun x => hne x.symm)
end

theorem cell_blk {w : World} {g : Nat} {cs : Array Value} {t : TypeId} {fr : Nat × Nat} (h : w.heap[g]? = some (.cells cs t fr)) (i : Nat) : w.cell? ⟨g, i, none⟩ = cs[i]? := cell_of_row w g i cs t fr h
theorem free_blk {w : World} {g : Nat} {cs : Array Value} {t : TypeId} (h : w.heap[g]? = some (.cells cs t (0, 0))) (i : Nat) : w.frozen? ⟨g, i, none⟩ = false := by simp [World.frozen?, h]
theorem set_blk {w : World} {g : Nat} {cs : Array Value} {t : TypeId} {fr : Nat × Nat} (h : w.heap[g]? = some (.cells cs t fr)) (i : Nat) (u : Value) : (w.setCell ⟨g, i, none⟩ u).heap[g]? = some (.cells (cs.setIfInBounds i u) t fr) := by
  simp [World.setCell, Array.getElem?_modify, h]
theorem blk_lt {w : World} {g : Nat} {o : Obj} (h : w.heap[g]? = some o) : g < w.heap.size := (Array.getElem?_eq_some_iff.1 h).1

end Go.Proofs.YtbikpbmknneabaaGreat
end
/-
  Expressions of any shape, as plain data and in memory; an argument that is one, opened. No condition beyond those that each theorem names.
-/
section
namespace Go.Proofs.YtbikpbmknneabaaGreat
open Go.ChangeShapes Go.WideShapes Go.ChangeAt Go.RowKit Go.Deep
set_option maxRecDepth 100000
set_option maxHeartbeats 1000000

/-- An expression of any shape. -/
inductive GE where
  | mk : Int → Int → ByteArray → List GE → GE
def GE.kd : GE → Int | .mk k _ _ _ => k
def GE.nn : GE → Int | .mk _ n _ _ => n
def GE.nm : GE → ByteArray | .mk _ _ s _ => s
def GE.kids : GE → List GE | .mk _ _ _ l => l
def W64 (a : Int) : Prop := -9223372036854775808 ≤ a ∧ a ≤ 9223372036854775807
theorem w64_wf {m : Int} (h : W64 m) : (Lit.int .i64 m).wf = true := by
  have h1 : IntKind.i64.min = -9223372036854775808 := by decide
  have h2 : IntKind.i64.max = 9223372036854775807 := by decide
  simp only [Lit.wf, h1, h2]
  simp
  exact h
/-- The fields a, b, s and the list of m at A are those of an expression that is less than d deep. -/
def GAt (w : World) : Nat → GE → Int → Int → ByteArray → Option Addr → Nat → Prop
  | 0, _, _, _, _, _, _ => False
  | d + 1, .mk k n t l, a, b, s, A, m => a = k ∧ b = n ∧ s = t ∧ l.length = m ∧ W64 k ∧ W64 n ∧ s.size ≤ 9223372036854775807 ∧ m ≤ 9223372036854775807 ∧
      ∀ (i : Nat) (y : GE), l[i]? = some y → ∃ g o a1 b1 s1 A1 m1 c1, A = some ⟨g, o, none⟩ ∧ g < w.heap.size ∧ w.cell? ⟨g, o + i * 4, none⟩ = some (.int .i64 a1) ∧ w.cell? ⟨g, o + i * 4 + 1, none⟩ = some (.int .i64 b1) ∧
        w.cell? ⟨g, o + i * 4 + 2, none⟩ = some (.string s1) ∧ w.cell? ⟨g, o + i * 4 + 3, none⟩ = some (.slice A1 m1 c1) ∧ m1 ≤ c1 ∧ GAt w d y a1 b1 s1 A1 m1
theorem GAt.touch {w w' : World} (t : Touch NoB w w') : ∀ {d : Nat} {x : GE} {a b : Int} {s : ByteArray} {A : Option Addr} {m : Nat}, GAt w d x a b s A m → GAt w' d x a b s A m
  | 0, _, _, _, _, _, _, h => h
  | d + 1, .mk k n q l, a, b, s, A, m, h => by
    obtain ⟨h1, h2, h3, h4, h5, h6, h7, h8, h9⟩ := h
    refine ⟨h1, h2, h3, h4, h5, h6, h7, h8, fun i y hy => ?_⟩
    obtain ⟨g, o, a1, b1, s1, A1, m1, c1, e1, e2, e3, e4, e5, e6, e7, e8⟩ := h9 i y hy
    have q : ∀ j, w'.cell? ⟨g, j, none⟩ = w.cell? ⟨g, j, none⟩ := fun j => t.cell (p := ⟨g, j, none⟩) e2 (fun f => f)
    exact ⟨g, o, a1, b1, s1, A1, m1, c1, e1, Nat.lt_of_lt_of_le e2 t.size, (q _).trans e3, (q _).trans e4, (q _).trans e5, (q _).trans e6, e7, GAt.touch t e8⟩

theorem GAt.more {w : World} : ∀ {d e : Nat} {x : GE} {a b : Int} {s : ByteArray} {A : Option Addr} {m : Nat}, d ≤ e → GAt w d x a b s A m → GAt w e x a b s A m
  | 0, _, _, _, _, _, _, _, _, h => h.elim
  | d + 1, 0, _, _, _, _, _, _, hd, _ => by omega
  | d + 1, e + 1, .mk k n q l, a, b, s, A, m, hd, h => by
    obtain ⟨h1, h2, h3, h4, h5, h6, h7, h8, h9⟩ := h
    refine ⟨h1, h2, h3, h4, h5, h6, h7, h8, fun i y hy => ?_⟩
    obtain ⟨g, o, a1, b1, s1, A1, m1, c1, e1, e2, e3, e4, e5, e6, e7, e8⟩ := h9 i y hy
    exact ⟨g, o, a1, b1, s1, A1, m1, c1, e1, e2, e3, e4, e5, e6, e7, GAt.more (by omega) e8⟩

section
variable {H : Type} {enc : TypeId × Value → H} {P : Program} {w : World} {base : Nat} {spare : Nat → Bool} {held : Bool} {fuel : Nat}
end

section
variable {H : Type} {enc : TypeId × Value → H} {w : World} {base : Nat} {spare : Nat → Bool} {held : Bool}
end
end Go.Proofs.YtbikpbmknneabaaGreat
end
/-
  Plain arithmetic on Lean's integers: what a number comes to when it is limited to 64 bits, with the facts on sums, products and quotients that the contracts of package clamp use. No condition beyond those that each theorem names.
-/
section
namespace Go.Proofs.YtbikpbmknneabaaGreat
open Go.RowKit (wrap64)

def withinI (n lo hi : Int) : Int := if n < lo ∨ hi < lo then lo else if hi < n then hi else n

end Go.Proofs.YtbikpbmknneabaaGreat
end
/-
  A lexer over lists of bytes, told by plain recursion, and what it comes to: where tokens stand, what more blanks between them change, which digits are a number, which texts are one name. No program is named here; no condition beyond those that each theorem names.
-/
section
namespace Go.Proofs.YtbikpbmknneabaaGreat

/-- Bytes. -/
abbrev Bs := List UInt8
def bL (c : UInt8) : Bool := decide (97 ≤ c.toNat ∧ c.toNat ≤ 122) || decide (65 ≤ c.toNat ∧ c.toNat ≤ 90)
def bD (c : UInt8) : Bool := decide (48 ≤ c.toNat ∧ c.toNat ≤ 57)
def bW (c : UInt8) : Bool := bL c || bD c || decide (c.toNat = 95)
def bB (c : UInt8) : Bool := decide (c.toNat = 32 ∨ c.toNat = 9 ∨ c.toNat = 10 ∨ c.toNat = 13)
/-- Is the first byte a slash? -/
def slash (l : Bs) : Bool := match l with | [] => false | c :: _ => decide (c.toNat = 47)
/-- What is left behind blanks; true: within a remark. -/
def skipL : Bool → Bs → Bs
  | _, [] => []
  | true, c :: r => if c.toNat = 10 then skipL false r else skipL true r
  | false, c :: r => if bB c = true then skipL false r else if c.toNat = 47 ∧ slash r = true then skipL true r else c :: r
/-- The words of the language. -/
def kw : List Bs := [
  [107, 101, 121],
  [116, 114, 101, 101],
  [100, 111, 109, 97, 105, 110],
  [111, 119, 110],
  [115, 104, 97, 114, 101, 100],
  [105, 110, 116],
  [98, 111, 111, 108],
  [114, 101, 102],
  [115, 121, 109],
  [112, 111, 105, 110, 116],
  [115, 101, 113],
  [115, 101, 108],
  [109, 115, 101, 113],
  [109, 115, 101, 108],
  [112, 97, 114],
  [110, 111, 116],
  [114, 101, 112, 101, 97, 116],
  [105, 102],
  [115, 101, 116],
  [100, 111],
  [117, 115, 101],
  [112, 105, 99, 107],
  [112, 108, 97, 110],
  [111, 107],
  [102, 97, 105, 108],
  [119, 97, 105, 116],
  [118, 97, 114],
  [97, 99, 116],
  [99, 111, 115, 116],
  [110, 101, 101, 100],
  [109, 97, 107, 101],
  [103, 111, 97, 108],
  [116, 114, 117, 101],
  [102, 97, 108, 115, 101],
  [115, 101, 108, 102],
  [116, 105, 109, 101],
  [97, 110, 100],
  [111, 114],
  [114, 101],
  [105, 109],
  [116, 117, 114, 110],
  [102, 97, 114]]
def valL (l : Bs) : Nat := l.foldl (fun v c => 10 * v + (c.toNat - 48)) 0
/-- Is the first byte a sign of equality? -/
def equal1 (l : Bs) : Bool := match l with | [] => false | c :: _ => decide (c.toNat = 61)
/-- How long a sign is that begins with c, d behind it: 0 for none. -/
def sgnL (c : UInt8) (r : Bs) : Nat :=
  if (c.toNat = 58 ∨ c.toNat = 60 ∨ c.toNat = 62 ∨ c.toNat = 61) ∧ equal1 r = true then 2
  else if c.toNat = 123 ∨ c.toNat = 125 ∨ c.toNat = 40 ∨ c.toNat = 41 ∨ c.toNat = 59 ∨ c.toNat = 58 ∨ c.toNat = 61 ∨ c.toNat = 60 ∨ c.toNat = 43 ∨ c.toNat = 45 ∨ c.toNat = 42 ∨ c.toNat = 47 ∨ c.toNat = 44 ∨ c.toNat = 39 then 1 else 0
/-- A token: its kind, its number, where it stands, its text. -/
structure Tk where
  kd : Nat
  n : Nat
  pl : Nat
  tx : Bs
/-- The token that a text begins with, and its length. -/
def tokL (a : Nat) : Bs → Option (Tk × Nat)
  | [] => none
  | c :: r =>
    if bD c = true then
      if (List.takeWhile bW (c :: r)).all bD = true ∧ valL (List.takeWhile bW (c :: r)) ≤ 9223372036854775807 ∧ ¬ (c.toNat = 48 ∧ 1 < (List.takeWhile bW (c :: r)).length) then some (⟨3, valL (List.takeWhile bW (c :: r)), a, []⟩, (List.takeWhile bW (c :: r)).length) else none
    else if bL c = true then
      if kw.contains (List.takeWhile bW (c :: r)) = true then some (⟨2, 0, a, List.takeWhile bW (c :: r)⟩, (List.takeWhile bW (c :: r)).length)
      else if (List.takeWhile bW (c :: r)).length ≤ 24 then some (⟨1, 0, a, List.takeWhile bW (c :: r)⟩, (List.takeWhile bW (c :: r)).length) else none
    else if sgnL c r = 0 then none else some (⟨4, 0, a, (c :: r).take (sgnL c r)⟩, sgnL c r)
/-- What a text comes to from place a on: its tokens, or the place of the first that is none. -/
inductive Lx where
  | bad (p : Nat)
  | good (l : List Tk)
def Lx.cons (t : Tk) : Lx → Lx
  | .bad p => .bad p
  | .good l => .good (t :: l)
def toksL : Nat → Nat → Bs → Lx
  | 0, a, _ => .bad a
  | f + 1, a, l => match skipL false l with
    | [] => .good [⟨0, 0, a + l.length, []⟩]
    | c :: r => match tokL (a + (l.length - (c :: r).length)) (c :: r) with
      | none => .bad (a + (l.length - (c :: r).length))
      | some (t, n) => Lx.cons t (toksL f (a + (l.length - (c :: r).length) + n) ((c :: r).drop n))
/-- .. of a whole text. -/
def lexL (b : Bs) : Lx := toksL (b.length + 1) 0 b

/-! ### blanks -/
theorem skip_len : ∀ (l : Bs) (s : Bool), (skipL s l).length ≤ l.length
  | [], s => by cases s <;> simp [skipL]
  | c :: r, s => by
    have h1 := skip_len r true
    have h2 := skip_len r false
    cases s <;> simp only [skipL] <;> repeat' split
    all_goals simp only [List.length_cons]; omega
theorem skip_len1 (c : UInt8) (r : Bs) : (skipL true (c :: r)).length ≤ r.length := by
  have h1 := skip_len r true
  have h2 := skip_len r false
  simp only [skipL]
  split <;> omega
/-- What was skipped is skipped ahead of any text. -/
theorem skip_closed : ∀ (l : Bs) (s : Bool) (m : Bs), skipL s l = m → m ≠ [] → ∃ p, l = p ++ m ∧ ∀ Z, skipL s (p ++ Z) = skipL false Z
  | [], s, m, h, hm => by
    cases s <;> simp only [skipL] at h <;> exact absurd h.symm hm
  | c :: r, true, m, h, hm => by
    simp only [skipL] at h
    split at h
    · rename_i hc
      obtain ⟨p, hp, hz⟩ := skip_closed r false m h hm
      exact ⟨c :: p, by rw [hp]; rfl, fun Z => by simp only [List.cons_append, skipL, if_pos hc]; exact hz Z⟩
    · rename_i hc
      obtain ⟨p, hp, hz⟩ := skip_closed r true m h hm
      exact ⟨c :: p, by rw [hp]; rfl, fun Z => by simp only [List.cons_append, skipL, if_neg hc]; exact hz Z⟩
  | c :: r, false, m, h, hm => by
    simp only [skipL] at h
    split at h
    · rename_i hc
      obtain ⟨p, hp, hz⟩ := skip_closed r false m h hm
      exact ⟨c :: p, by rw [hp]; rfl, fun Z => by simp only [List.cons_append, skipL, if_pos hc]; exact hz Z⟩
    · rename_i hc
      split at h
      · rename_i hd
        obtain ⟨p, hp, hz⟩ := skip_closed r true m h hm
        have hpn : ∃ d q, p = d :: q := by
          cases p with
          | cons d q => exact ⟨d, q, rfl⟩
          | nil =>
            cases r with
            | nil => simp [slash] at hd
            | cons d q =>
              have := skip_len1 d q
              rw [h, ← (show d :: q = m from hp)] at this
              simp at this
              omega
        obtain ⟨d, q, rfl⟩ := hpn
        refine ⟨c :: d :: q, by rw [hp]; rfl, fun Z => ?_⟩
        have hs : slash (d :: (q ++ Z)) = true := by rw [hp] at hd; exact hd.2
        have := hz Z
        simp only [List.cons_append] at this ⊢
        rw [skipL, if_neg hc, if_pos ⟨hd.1, hs⟩]
        exact this
      · exact ⟨[], by rw [← h]; rfl, fun Z => rfl⟩
/-- What a text begins with once nothing is to be skipped. -/
theorem skip_head : ∀ (l : Bs) (s : Bool) (c : UInt8) (r : Bs), skipL s l = c :: r → bB c = false ∧ ¬ (c.toNat = 47 ∧ slash r = true)
  | [], s, c, r, h => by cases s <;> simp [skipL] at h
  | d :: q, true, c, r, h => by
    simp only [skipL] at h
    split at h
    · exact skip_head q false c r h
    · exact skip_head q true c r h
  | d :: q, false, c, r, h => by
    simp only [skipL] at h
    split at h
    · exact skip_head q false c r h
    · rename_i hb
      split at h
      · exact skip_head q true c r h
      · rename_i hc
        injection h with h1 h2
        subst h1 h2
        exact ⟨by simpa using hb, hc⟩
theorem skip_stay {c : UInt8} {r : Bs} (hb : bB c = false) (hc : ¬ (c.toNat = 47 ∧ slash r = true)) : skipL false (c :: r) = c :: r := by
  simp only [skipL]
  rw [if_neg (by simp [hb]), if_neg hc]

/-! ### one token -/
theorem word_len (c : UInt8) (r : Bs) : (List.takeWhile bW (c :: r)).length ≤ (c :: r).length := (List.takeWhile_sublist _).length_le
theorem word_pos {c : UInt8} {r : Bs} (h : bW c = true) : 1 ≤ (List.takeWhile bW (c :: r)).length := by
  rw [List.takeWhile_cons, if_pos h]
  simp
theorem bW_D {c : UInt8} (h : bD c = true) : bW c = true := by simp [bW, h]
theorem bW_L {c : UInt8} (h : bL c = true) : bW c = true := by simp [bW, h]
theorem sgn_le (c : UInt8) (r : Bs) : sgnL c r ≤ (c :: r).length := by
  unfold sgnL
  split
  · rename_i h
    cases r with
    | nil => simp [equal1] at h
    | cons d q => simp
  · split <;> simp
/-- A token is no longer than the text, and has a byte at least. -/
theorem tok_len {a n : Nat} {c : UInt8} {r : Bs} {t : Tk} (h : tokL a (c :: r) = some (t, n)) : 1 ≤ n ∧ n ≤ (c :: r).length := by
  have hw := word_len c r
  have hs := sgn_le c r
  simp only [tokL] at h
  split at h
  · rename_i hd
    have := word_pos (r := r) (bW_D hd)
    split at h
    · injection h with h; injection h with _ h; omega
    · cases h
  · split at h
    · rename_i hl
      have := word_pos (r := r) (bW_L hl)
      split at h
      · injection h with h; injection h with _ h; omega
      · split at h
        · injection h with h; injection h with _ h; omega
        · cases h
    · split at h
      · cases h
      · injection h with h; injection h with _ h; omega
/-- A token stands where it was looked for; its text is what stands there; it is no end. -/
theorem tok_at {a n : Nat} {l : Bs} {t : Tk} (h : tokL a l = some (t, n)) : t.pl = a ∧ (t.kd = 1 ∨ t.kd = 2 ∨ t.kd = 3 ∨ t.kd = 4) ∧ l.take t.tx.length = t.tx ∧ t.tx.length ≤ l.length := by
  cases l with
  | nil => simp [tokL] at h
  | cons c r =>
    have hw := word_len c r
    have ht : (c :: r).take (List.takeWhile bW (c :: r)).length = List.takeWhile bW (c :: r) := (List.prefix_iff_eq_take.1 (List.takeWhile_prefix _)).symm
    have hs := sgn_le c r
    simp only [tokL] at h
    split at h
    · split at h
      · injection h with h; injection h with h _; subst h; exact ⟨rfl, by simp, by simp, by simp⟩
      · cases h
    · split at h
      · split at h
        · injection h with h; injection h with h _; subst h; exact ⟨rfl, by simp, ht, hw⟩
        · split at h
          · injection h with h; injection h with h _; subst h; exact ⟨rfl, by simp, ht, hw⟩
          · cases h
      · split at h
        · cases h
        · injection h with h; injection h with h _; subst h
          refine ⟨rfl, by simp, ?_, ?_⟩
          · simp only [List.length_take]; rw [Nat.min_eq_left hs]
          · simp only [List.length_take]; omega
end Go.Proofs.YtbikpbmknneabaaGreat
end
/-
  The lexer over lists of bytes: where its tokens stand; what a text of word's bytes alone comes to: numbers, names. No program is named here.
-/
section
namespace Go.Proofs.YtbikpbmknneabaaGreat

theorem skip_suffix (l : Bs) (s : Bool) : skipL s l = l.drop (l.length - (skipL s l).length) := by
  cases h : skipL s l with
  | nil => simp
  | cons c r =>
    obtain ⟨p, hp, _⟩ := skip_closed l s _ h (by simp)
    rw [hp]
    simp

/-- The tokens ts of b, from place a on: each stands where it says, in rising order, as it is written; the last, and it alone, is the end. -/
def PlOk (b : Bs) : Nat → List Tk → Prop
  | _, [] => False
  | a, [t] => t.kd = 0 ∧ t.pl = b.length ∧ a ≤ t.pl ∧ t.tx = [] ∧ t.n = 0
  | a, t :: u :: r => (t.kd = 1 ∨ t.kd = 2 ∨ t.kd = 3 ∨ t.kd = 4) ∧ a ≤ t.pl ∧ t.pl < b.length ∧ (b.drop t.pl).take t.tx.length = t.tx ∧ t.tx.length ≤ b.length - t.pl ∧ PlOk b (t.pl + 1) (u :: r)
theorem places : ∀ (f a : Nat) (b : Bs) (ts : List Tk), a ≤ b.length → toksL f a (b.drop a) = .good ts → PlOk b a ts
  | 0, a, b, ts, _, h => by simp [toksL] at h
  | f + 1, a, b, ts, ha, h => by
    have hsf := skip_suffix (b.drop a) false
    have hsl := skip_len (b.drop a) false
    simp only [toksL] at h
    split at h
    · rename_i hm
      injection h with h
      subst h
      exact ⟨rfl, by simp; omega, by simp, rfl, rfl⟩
    · rename_i c r hm
      rw [hm] at hsf hsl
      split at h
      · cases h
      · rename_i t n ht
        obtain ⟨e1, e2, e3, e4⟩ := tok_at ht
        have hn := tok_len ht
        rw [List.length_drop] at hsl e1 h ht hsf
        have hcr : c :: r = b.drop t.pl := by
          have := hsf
          rw [List.drop_drop, ← e1] at this
          exact this
        have hcl : (c :: r).length = b.length - t.pl := by rw [hcr, List.length_drop]
        have hpl : t.pl < b.length := by
          have : 1 ≤ (c :: r).length := by simp
          omega
        cases hx : toksL f (a + (b.length - a - (c :: r).length) + n) ((c :: r).drop n) with
        | bad p => rw [hx] at h; simp [Lx.cons] at h
        | good us =>
          rw [hx] at h
          simp only [Lx.cons] at h
          injection h with h
          subst h
          have hx' : toksL f (t.pl + n) (b.drop (t.pl + n)) = .good us := by
            rw [← e1, hcr, List.drop_drop] at hx
            exact hx
          have := places f (t.pl + n) b us (by omega) hx'
          have hmono : ∀ us x y, x ≤ y → PlOk b y us → PlOk b x us := by
            intro us x y hxy hp
            match us, hp with
            | [t], hp => exact ⟨hp.1, hp.2.1, by have := hp.2.2.1; omega, hp.2.2.2.1, hp.2.2.2.2⟩
            | t :: u :: r, hp => exact ⟨hp.1, by have := hp.2.1; omega, hp.2.2.1, hp.2.2.2.1, hp.2.2.2.2.1, hp.2.2.2.2.2⟩
          match us, this with
          | u :: rest, hp => exact ⟨e2, by omega, hpl, by rw [← hcr]; exact e3, by omega, hmono _ _ _ (by omega) hp⟩
theorem lex_places {b : Bs} {ts : List Tk} (h : lexL b = .good ts) : PlOk b 0 ts := places _ 0 b ts (Nat.zero_le _) h
/-! ### one word -/
theorem L_not_D {c : UInt8} (h : bL c = true) : bD c = false := by
  simp only [bL, bD, Bool.or_eq_true, decide_eq_true_eq, decide_eq_false_iff_not] at h ⊢
  omega
theorem val_snoc (l : Bs) (c : UInt8) : valL (l ++ [c]) = 10 * valL l + (c.toNat - 48) := by simp [valL, List.foldl_append]
end Go.Proofs.YtbikpbmknneabaaGreat
end
/-
  The lexer over lists of bytes: blanks laid ahead of each token change where the tokens stand, and nothing else. No program is named here.
-/
section
namespace Go.Proofs.YtbikpbmknneabaaGreat

/-- What a token comes to does not hang on where it stands. -/
def Tk.at (t : Tk) (a : Nat) : Tk := ⟨t.kd, t.n, a, t.tx⟩
/-- What tells of a token beside its place. -/
def Tk.what (t : Tk) : Nat × Nat × Bs := (t.kd, t.n, t.tx)
end Go.Proofs.YtbikpbmknneabaaGreat
end
/-
  The lexer over lists of bytes: fuel, the five blanks, numbers, signs, the example of the document. No program is named here.
-/
section
namespace Go.Proofs.YtbikpbmknneabaaGreat

/-- Fuel for each byte and one more is enough. -/
theorem toks_fuel : ∀ (f a : Nat) (l : Bs), l.length < f → ∀ f', l.length < f' → toksL f a l = toksL f' a l
  | 0, a, l, h, _, _ => by omega
  | f + 1, a, l, h, f', hf => by
    obtain ⟨k, rfl⟩ : ∃ k, f' = k + 1 := ⟨f' - 1, by omega⟩
    have hsl := skip_len l false
    simp only [toksL]
    cases hm : skipL false l with
    | nil => rfl
    | cons c r =>
      rw [hm] at hsl
      simp only
      cases ht : tokL (a + (l.length - (c :: r).length)) (c :: r) with
      | none => rfl
      | some x =>
        obtain ⟨t, n⟩ := x
        have hn := tok_len ht
        simp only
        rw [toks_fuel f _ ((c :: r).drop n) (by rw [List.length_drop]; omega) k (by rw [List.length_drop]; omega)]

theorem pl_count (b : Bs) : ∀ (a : Nat) (ts : List Tk), PlOk b a ts → a + ts.length ≤ b.length + 1
  | a, [t], h => by have := h.2.1; have := h.2.2.1; simp only [List.length_cons, List.length_nil]; omega
  | a, t :: u :: r, h => by
    have ih := pl_count b (t.pl + 1) (u :: r) h.2.2.2.2.2
    have h1 := h.2.1
    simp only [List.length_cons] at ih ⊢
    omega
/-! ### numbers -/
/-! ### signs, and the example of the document -/
end Go.Proofs.YtbikpbmknneabaaGreat
end
/-
  What the predicates on bytes return, of package lex, of package value and the document's own; what Name of package value, Named, isWord and Name of package lex return; no condition beyond those that each theorem names.
-/
section
namespace Go.Proofs.YtbikpbmknneabaaGreat
open Go.ChangeShapes Go.WideShapes Go.ChangeAt Go.RowKit
set_option maxRecDepth 100000
set_option maxHeartbeats 4000000

theorem alloc_blk (W : World) (cs : Array Value) (t : TypeId) {N : Nat} (hN : W.heap.size = N) : (W.alloc (.cells cs t)).heap[N]? = some (.cells cs t (0, 0)) := by
  subst hN; exact heap_alloc_new W _
def letB (c : Int) : Bool := decide (97 ≤ c ∧ c ≤ 122) || decide (65 ≤ c ∧ c ≤ 90)
def digB (c : Int) : Bool := decide (48 ≤ c ∧ c ≤ 57)
def okB (c : Int) : Bool := letB c || digB c || c == 95
/-- The byte at place i. -/
def bt (s : ByteArray) (i : Nat) : Int := if h : i < s.size then ((s[i]'h).toNat : Int) else 0
def nameB (s : ByteArray) : Bool := decide (1 ≤ s.size ∧ s.size ≤ 24) && letB (bt s 0) && (List.range s.size).all fun i => okB (bt s i)

theorem ret_bool {a b : Bool} (h : a = b) : Ending.returned (.bool a) = .returned (.bool b) := by rw [h]
theorem letter_any (c : Int) (w : World) : Calls Tryz.prog 96 #[.int .u8 c] w fun e w' => e = .returned (.bool (letB c)) ∧ w = w' := by
  by_cases h1 : 97 ≤ c <;> by_cases h2 : c ≤ 122 <;> by_cases h3 : 65 ≤ c <;> by_cases h4 : c ≤ 90
  all_goals
    go_enter Tryz.func96, Tryz.ntmps96
    go_wp2
    all_goals
      go_ret
      exact ⟨ret_bool (by unfold letB; simp [h1, h2, h3, h4]), rfl⟩
theorem digit_any (c : Int) (w : World) : Calls Tryz.prog 97 #[.int .u8 c] w fun e w' => e = .returned (.bool (digB c)) ∧ w = w' := by
  by_cases h1 : 48 ≤ c <;> by_cases h2 : c ≤ 57
  all_goals
    go_enter Tryz.func97, Tryz.ntmps97
    go_wp2
    all_goals
      go_ret
      exact ⟨ret_bool (by unfold digB; simp [h1, h2]), rfl⟩

theorem toList_empty {s : ByteArray} (h : s.size = 0) : s = ⟨#[]⟩ := by
  obtain ⟨a⟩ := s
  have : a = #[] := Array.eq_empty_of_size_eq_zero h
  rw [this]
theorem toList_ne {s : ByteArray} (h : 0 < s.size) : s.toList.isEmpty = false := by
  rw [ByteArray.toList_eq]
  obtain ⟨⟨x⟩⟩ := s
  cases x with
  | nil => exact absurd h (by decide)
  | cons a l => rfl

def NmRel (w : World) (s : ByteArray) (v19 : Value) (wr : World) : Prop := ∃ i : Nat, i ≤ s.size ∧ v19 = .int .i64 i ∧ (∀ j, j < i → okB (bt s j) = true) ∧ wr = w

theorem name_any (s : ByteArray) (hs : s.size ≤ 9223372036854775807) (w : World) : Calls Tryz.prog 81 #[.string s] w fun e w' => e = .returned (.bool (nameB s)) ∧ w = w' := by
  by_cases h0 : s.size = 0
  · obtain rfl := toList_empty h0
    go_enter Tryz.func81, Tryz.ntmps81
    go_wp2
    go_ret
    exact ⟨ret_bool (by unfold nameB; rfl), rfl⟩
  · have e0 := toList_ne (s := s) (by omega)
    by_cases h1 : 24 < s.size
    · have d1 : decide (24 < (s.size : Int)) = true := by simp; omega
      go_enter Tryz.func81, Tryz.ntmps81
      go_wp2
      go_ret
      exact ⟨ret_bool (by unfold nameB; rw [show decide (1 ≤ s.size ∧ s.size ≤ 24) = false from by simp; omega]; rfl), rfl⟩
    · have d1 : decide (24 < (s.size : Int)) = false := by simp; omega
      have h00 : 0 < s.size := by omega
      obtain ⟨c0, hc0⟩ : ∃ c, bt s 0 = c := ⟨_, rfl⟩
      have hb0 : ((s[0]'h00).toNat : Int) = c0 := by rw [← hc0]; unfold bt; rw [dif_pos h00]
      have HL := Lib.hid (fun w => letter_any c0 w)
      cases hl : letB c0
      · rw [hl] at HL
        go_enter Tryz.func81, Tryz.ntmps81
        go_wp2_with fail
        refine (HL.out _).mono ?_
        rintro e w' ⟨rfl, rfl⟩
        go_wp2
        go_ret
        exact ⟨ret_bool (by unfold nameB; rw [hc0, hl]; simp), rfl⟩
      · rw [hl] at HL
        have H0 := Lib.hid (And.intro hc0 hl)
        clear hc0 hl
        go_enter Tryz.func81, Tryz.ntmps81
        go_wp2_with fail
        refine (HL.out _).mono ?_
        rintro e w' ⟨rfl, rfl⟩
        clear hb0 e0 d1 HL
        go_wp2
        go_loopw [19] (fun v19 wr => NmRel w s v19 wr) (fun v19 _ => s.size - (intOf v19).toNat)
        case atStart => exact ⟨0, Nat.zero_le _, rfl, fun j hj => by omega, rfl⟩
        case round =>
          obtain ⟨i, hi, rfl, hok, rfl⟩ := hrel
          have HOK := Lib.hid hok
          clear hok
          by_cases hlt : i < s.size
          · obtain ⟨c, hc⟩ : ∃ c, bt s i = c := ⟨_, rfl⟩
            have hbi : ((s[i]'hlt).toNat : Int) = c := by rw [← hc]; unfold bt; rw [dif_pos hlt]
            have HLi := Lib.hid (fun w => letter_any c w)
            have HDi := Lib.hid (fun w => digit_any c w)
            have HC := Lib.hid hc
            clear hc
            have hfalse : okB c = false → nameB s = false := fun h => by
              unfold nameB
              rw [show (List.range s.size).all (fun i => okB (bt s i)) = false from by
                rw [List.all_eq_false]
                exact ⟨i, List.mem_range.2 hlt, by rw [HC.out, h]; decide⟩, Bool.and_false]
            have HFalse := Lib.hid hfalse
            clear hfalse
            cases hl : letB c
            · rw [hl] at HLi
              cases hd : digB c
              · rw [hd] at HDi
                by_cases h95 : c = 95
                · have k95 : (c != 95) = false := by simp [h95]
                  have hnext : okB c = true := by unfold okB; rw [hl, hd, h95]; rfl
                  have HNext := Lib.hid hnext
                  clear hl hd h95 hnext
                  go_wp2_with fail
                  refine (HLi.out _).mono ?_
                  rintro e w' ⟨rfl, rfl⟩
                  go_wp2_with fail
                  refine (HDi.out _).mono ?_
                  rintro e w' ⟨rfl, rfl⟩
                  go_wp2
                  go_roundw
                  case rel => exact ⟨i + 1, by omega, by go_num, fun j hj => by
                    by_cases e : j = i
                    · rw [e, HC.out]; exact HNext.out
                    · exact HOK.out j (by omega), rfl⟩
                  case measure => simp [intOf]; omega
                · have k95 : (c != 95) = true := by simpa using h95
                  have hno := HFalse.out (by unfold okB; rw [hl, hd]; simpa using h95)
                  have HNo := Lib.hid hno
                  clear hl hd h95 hno
                  go_wp2_with fail
                  refine (HLi.out _).mono ?_
                  rintro e w' ⟨rfl, rfl⟩
                  go_wp2_with fail
                  refine (HDi.out _).mono ?_
                  rintro e w' ⟨rfl, rfl⟩
                  go_wp2
                  go_ret
                  exact ⟨ret_bool HNo.out.symm, rfl⟩
              · rw [hd] at HDi
                have hnext : okB c = true := by unfold okB; rw [hl, hd]; rfl
                have HNext := Lib.hid hnext
                clear hl hd hnext
                go_wp2_with fail
                refine (HLi.out _).mono ?_
                rintro e w' ⟨rfl, rfl⟩
                go_wp2_with fail
                refine (HDi.out _).mono ?_
                rintro e w' ⟨rfl, rfl⟩
                go_wp2
                go_roundw
                case rel => exact ⟨i + 1, by omega, by go_num, fun j hj => by
                  by_cases e : j = i
                  · rw [e, HC.out]; exact HNext.out
                  · exact HOK.out j (by omega), rfl⟩
                case measure => simp [intOf]; omega
            · rw [hl] at HLi
              have hnext : okB c = true := by unfold okB; rw [hl]; rfl
              have HNext := Lib.hid hnext
              clear hl hnext
              go_wp2_with fail
              refine (HLi.out _).mono ?_
              rintro e w' ⟨rfl, rfl⟩
              go_wp2
              go_roundw
              case rel => exact ⟨i + 1, by omega, by go_num, fun j hj => by
                by_cases e : j = i
                · rw [e, HC.out]; exact HNext.out
                · exact HOK.out j (by omega), rfl⟩
              case measure => simp [intOf]; omega
          · obtain rfl : i = s.size := by omega
            have hyes : nameB s = true := by
              unfold nameB
              rw [show decide (1 ≤ s.size ∧ s.size ≤ 24) = true from by simp; omega, H0.out.1, H0.out.2]
              simp only [Bool.true_and, List.all_eq_true]
              exact fun j hj => HOK.out j (List.mem_range.1 hj)
            have HYes := Lib.hid hyes
            clear hyes
            go_wp2
            go_ret
            exact ⟨ret_bool HYes.out.symm, rfl⟩

/-- What Named asks of the byte at place j. -/
def nok (s : ByteArray) (j : Nat) : Bool := letB (bt s j) || ((digB (bt s j) || bt s j == 95) && decide (0 < j))
theorem named_yes {s : ByteArray} (h : ∀ j, j < s.size → nok s j = true) : nameB s = decide (1 ≤ s.size ∧ s.size ≤ 24) := by
  unfold nameB
  by_cases h1 : 1 ≤ s.size ∧ s.size ≤ 24
  · have h0 := h 0 (by omega)
    unfold nok at h0
    simp at h0
    rw [h0, show (List.range s.size).all (fun i => okB (bt s i)) = true from by
      rw [List.all_eq_true]
      intro j hj
      have := h j (List.mem_range.1 hj)
      unfold nok at this
      unfold okB
      cases hl : letB (bt s j)
      · rw [hl] at this; simp at this; simpa using this.1
      · rfl]
    simp
  · rw [show decide (1 ≤ s.size ∧ s.size ≤ 24) = false from by simpa using h1]
    rfl

/-! ### package lex: bytes -/
def spcB (c : Int) : Bool := c == 32 || c == 9 || c == 10 || c == 13
theorem letB_b (c : UInt8) : letB (c.toNat : Int) = bL c := by
  unfold letB bL
  congr 1 <;> simp only [decide_eq_decide] <;> omega
theorem digB_b (c : UInt8) : digB (c.toNat : Int) = bD c := by
  unfold digB bD
  simp only [decide_eq_decide]; omega
theorem okB_b (c : UInt8) : okB (c.toNat : Int) = bW c := by
  unfold okB bW
  rw [letB_b, digB_b]
  congr 1
  by_cases h : c.toNat = 95
  · simp [h]
  · have : ¬ (c.toNat : Int) = 95 := by omega
    simp [h, this]
theorem spcB_b (c : UInt8) : spcB (c.toNat : Int) = bB c := by
  unfold spcB bB
  have e : ∀ n : Nat, ((c.toNat : Int) == (n : Int)) = decide (c.toNat = n) := fun n => by
    by_cases h : c.toNat = n
    · simp [h]
    · have : ¬ (c.toNat : Int) = n := by omega
      simp [h, this]
  have := e 32; have := e 9; have := e 10; have := e 13
  simp_all [Bool.or_assoc]

/-! ### words -/
def wrd (s : ByteArray) : Bool := kw.contains s.toList
theorem isword_any (s : ByteArray) (w : World) : Calls Tryz.prog 104 #[.string s] w fun e w' => e = .returned (.bool (wrd s)) ∧ w = w' := by
  go_enter Tryz.func104, Tryz.ntmps104
  go_wp2
  all_goals
    go_ret
    refine ⟨ret_bool ?_, rfl⟩
    unfold wrd kw
    first
    | (simp only [List.contains_cons, *, Bool.true_or, Bool.or_true, Bool.false_or, List.contains_nil]; done)
    | (exfalso; simp_all; done)
theorem lname_any (s : ByteArray) (hs : s.size ≤ 9223372036854775807) (w : World) : Calls Tryz.prog 101 #[.string s] w fun e w' => e = .returned (.bool (nameB s && !wrd s)) ∧ w = w' := by
  have HL := Lib.hid (fun w => name_any s hs w)
  have HD := Lib.hid (fun w => isword_any s w)
  cases hl : nameB s <;> cases hd : wrd s
  all_goals
    rw [hl] at HL
    rw [hd] at HD
    go_enter Tryz.func101, Tryz.ntmps101
    go_wp2_with (first
      | (go_at_call 81; refine (HL.out _).mono ?_; rintro e w' ⟨rfl, rfl⟩)
      | (go_at_call 104; refine (HD.out _).mono ?_; rintro e w' ⟨rfl, rfl⟩))
    all_goals
      go_ret
      exact ⟨ret_bool rfl, rfl⟩
end Go.Proofs.YtbikpbmknneabaaGreat
end
/-
  Lists of keys: the place of a name, the document's own FindKey; package check's kindsOf. Conditions: those that each theorem names.
-/
section
namespace Go.Proofs.YtbikpbmknneabaaGreat
open Go.ChangeShapes Go.WideShapes Go.ChangeAt Go.RowKit Go.Deep Go.Maps
set_option maxRecDepth 100000
set_option maxHeartbeats 4000000

/-- A key: its name, its kind, is it shared? -/
structure KyG where
  nm : ByteArray
  kd : Int
  sh : Bool
/-- Are two strings one? -/
def eqG (a b : ByteArray) : Bool := a.data.toList == b.data.toList
theorem eqG_list (a b : ByteArray) : (a.toList == b.toList) = eqG a b := by unfold eqG; rw [ByteArray.toList_eq, ByteArray.toList_eq]
/-- A list of keys lies at A, in no block of F; each name is of a string's length. -/
def KAtG (w : World) (F : Nat → Prop) (A : Option Addr) (l : List KyG) : Prop :=
  ∀ (j : Nat) (k : KyG), l[j]? = some k → k.nm.size ≤ 9223372036854775807 ∧ ∃ b off, A = some ⟨b, off, none⟩ ∧ b < w.heap.size ∧ ¬ F b ∧ w.cell? ⟨b, off + j * 3, none⟩ = some (.string k.nm) ∧ w.cell? ⟨b, off + j * 3 + 1, none⟩ = some (.int .i64 k.kd) ∧ w.cell? ⟨b, off + j * 3 + 2, none⟩ = some (.bool k.sh)
theorem KAtG.touch {w w' : World} {F : Nat → Prop} {A : Option Addr} {l : List KyG} (h : KAtG w F A l) (t : Touch F w w') : KAtG w' F A l := by
  intro j k hj
  obtain ⟨hs, b, off, rfl, hb, hf, h1, h2, h3⟩ := h j k hj
  exact ⟨hs, b, off, rfl, Nat.lt_of_lt_of_le hb t.size, hf, (t.cell (p := ⟨b, off + j * 3, none⟩) hb hf).trans h1, (t.cell (p := ⟨b, off + j * 3 + 1, none⟩) hb hf).trans h2, (t.cell (p := ⟨b, off + j * 3 + 2, none⟩) hb hf).trans h3⟩
theorem KAtG.more {w : World} {F G : Nat → Prop} {A : Option Addr} {l : List KyG} (h : KAtG w F A l) (d : ∀ b, G b → F b) : KAtG w G A l := by
  intro j k hj
  obtain ⟨hs, b, off, e, hb, hf, h1, h2, h3⟩ := h j k hj
  exact ⟨hs, b, off, e, hb, fun x => hf (d b x), h1, h2, h3⟩
theorem KAtG.take {w : World} {F : Nat → Prop} {A : Option Addr} {l : List KyG} (h : KAtG w F A l) (n : Nat) : KAtG w F A (l.take n) := by
  intro j k hj
  rw [List.getElem?_take] at hj
  split at hj
  · exact h j k hj
  · cases hj

section
variable {H : Type} {enc : TypeId × Value → H} {w : World} {base : Nat} {held : Bool} {fuel : Nat}
end


/-- The kind of the first key of a name. -/
def kdG : List KyG → ByteArray → Option Int
  | [], _ => none
  | k :: r, s => if eqG k.nm s = true then some k.kd else kdG r s
theorem kdG_snoc : ∀ (l : List KyG) (k : KyG) (s : ByteArray), kdG (l ++ [k]) s = match kdG l s with | some x => some x | none => if eqG k.nm s = true then some k.kd else none
  | [], k, s => rfl
  | x :: r, k, s => by
    show (if eqG x.nm s = true then some x.kd else kdG (r ++ [k]) s) = _
    rw [kdG_snoc r k s, show kdG (x :: r) s = if eqG x.nm s = true then some x.kd else kdG r s from rfl]
    split <;> rfl
theorem eqG_iff {a b : ByteArray} : eqG a b = true ↔ a = b := by
  unfold eqG
  constructor
  · intro h
    have h1 : a.data.toList = b.data.toList := by simpa using h
    cases a; cases b
    congr
    exact Array.toList_inj.1 h1
  · rintro rfl; simp
/-- The key of a name in a map. -/
def klS (s : ByteArray) : Lit := .string s.data.toList
theorem klS_ne {a b : ByteArray} (h : eqG a b = false) : klS b ≠ klS a := by
  intro e
  unfold klS at e
  injection e with e
  have : eqG a b = true := by unfold eqG; rw [e]; simp
  rw [h] at this; cases this
theorem key_str {s : ByteArray} (h : s.size ≤ 9223372036854775807) : keyOf Tryz.prog 9 (.string s) = some (klS s) := WideMaps.keyOf_string_mk Tryz.underlying9 (by unfold maxLen; omega)
theorem lawStr : Keyed Tryz.prog 9 := string_keyed Tryz.underlying9
theorem zeroG (w : World) : (zeroValue 3).run Tryz.prog w = .ok (.int .i64 0) w := by kernel_rfl
def zdG : DataW Unit := .lit (.int .i64 0)
theorem zdG_int : plainElem (H := Unit) Tryz.prog 3 (.int .i64 0) = some (zdG, []) := plainElem_int Tryz.underlying3 (by decide)
/-- The map at block mb tells the kinds of the keys l. -/
def KM (w : World) (mb n : Nat) (l : List KyG) : Prop := ∃ D : DataW Unit, w.ownsMap Tryz.prog 9 (plainElem Tryz.prog 3) mb n D ∧ ∀ s : ByteArray, Maps.has D (klS s) = (kdG l s).isSome ∧ ∀ k, kdG l s = some k → D.atKey (klS s) zdG = .lit (.int .i64 k)
theorem KM.touch {w w' : World} {mb n : Nat} {l : List KyG} {F : Nat → Prop} (h : KM w mb n l) (t : Touch F w w') (hf : ¬ F mb) : KM w' mb n l := by
  obtain ⟨D, ⟨es, clock, hb, r⟩, r2⟩ := h
  exact ⟨D, ⟨es, clock, (t.block mb (blk_lt hb) hf).trans hb, r⟩, r2⟩
theorem KM.made (w : World) : KM (w.alloc (.map #[] 0)) w.heap.size 0 [] := ⟨.map [], World.ownsMap_made _ _ _ _, fun s => ⟨rfl, fun k h => by cases h⟩⟩
theorem KM.lt {w : World} {mb n : Nat} {l : List KyG} (h : KM w mb n l) : mb < w.heap.size := by obtain ⟨D, h, _⟩ := h; exact h.lt
/-- A look-up. -/
theorem KM.look {w : World} {mb n : Nat} {l : List KyG} (h : KM w mb n l) {s : ByteArray} (hs : s.size ≤ 9223372036854775807) :
    ∃ c : Int, (Instr.lookup 74 (.map (some mb)) (.string s) true).run Tryz.prog w = .ok (.tuple #[.int .i64 c, .bool (kdG l s).isSome]) w ∧ ∀ k, kdG l s = some k → c = k := by
  obtain ⟨D, hown, hD⟩ := h
  obtain ⟨v, ps, hrun, hv⟩ := hown.look_ok lawStr Tryz.underlying74 (zeroG w) zdG_int (key_str hs)
  obtain ⟨c, rfl, hc, -⟩ := plainElem_int_inv Tryz.underlying3 hv
  refine ⟨c, by rw [← (hD s).1]; exact hrun, fun k hk => ?_⟩
  have h1 := congrArg Prod.fst hc
  rw [(hD s).2 k hk] at h1
  simp at h1
  exact h1.symm
/-- A store of a name that is not there. -/
theorem KM.store {w : World} {mb n : Nat} {l : List KyG} (h : KM w mb n l) (hn : n < 9223372036854775807) {k : KyG} (hs : k.nm.size ≤ 9223372036854775807) (hk : W64 k.kd) (hno : kdG l k.nm = none) :
    ∃ w', (Instr.mapUpdate 74 (.map (some mb)) (.string k.nm) (.int .i64 k.kd)).run Tryz.prog w = .ok () w' ∧ KM w' mb (n + 1) (l ++ [k]) ∧ Touch (fun b => b = mb) w w' := by
  obtain ⟨D, hown, hD⟩ := h
  obtain ⟨w', hrun, hown', ht⟩ := hown.store lawStr Tryz.underlying74 (by unfold maxLen; omega) (key_str hs) (plainElem_int Tryz.underlying3 (w64_wf hk))
  have hmp := hown.isMap
  have hkl : WideAt.IsKeyLit (klS k.nm) := lawStr.key (key_str hs)
  refine ⟨w', hrun, ⟨_, hown', fun s => ?_⟩, (Touch.refl _ _).grown ht.grown (fun b e => by cases e; exact .inl rfl)⟩
  rw [kdG_snoc]
  cases he : eqG k.nm s with
  | true =>
    have e := eqG_iff.1 he
    subst e
    rw [hno]
    exact ⟨has_put_same hmp hkl _, fun x hx => by simp at hx; subst hx; exact atKey_put_same hmp hkl _ _⟩
  | false =>
    rw [has_put_other (klS_ne he), atKey_put_other (klS_ne he), (hD s).1]
    cases hx : kdG l s with
    | none => exact ⟨rfl, fun x hx => by simp at hx⟩
    | some y => exact ⟨rfl, fun x h2 => by simp at h2; subst h2; exact (hD s).2 _ hx⟩
theorem KM.same {w : World} {mb n m : Nat} {l l' : List KyG} (h : KM w mb n l) (hm : n ≤ m) (he : ∀ s, kdG l' s = kdG l s) : KM w mb m l' := by
  obtain ⟨D, hown, hD⟩ := h
  exact ⟨D, hown.mono hm, fun s => by rw [he s]; exact hD s⟩
end Go.Proofs.YtbikpbmknneabaaGreat
end
/-
  What package check's kindsOf returns. Conditions: those that each theorem names.
-/
section
namespace Go.Proofs.YtbikpbmknneabaaGreat
open Go.ChangeShapes Go.WideShapes Go.ChangeAt Go.RowKit Go.Maps
set_option maxRecDepth 100000
set_option maxHeartbeats 4000000

def KoRel (B n : Nat) (l : List KyG) (w : World) (v11 : Value) (wr : World) : Prop := ∃ i : Nat, i ≤ n ∧ v11 = .int .i64 i ∧ KM wr B i (l.take i) ∧ Touch NoB w wr
theorem kindsof_any (A : Option Addr) (n cap : Nat) (l : List KyG) (w : World) (hn : l.length = n) (hn2 : n ≤ 1000000) (h : KAtG w NoB A l) (hw : ∀ k ∈ l, W64 k.kd) :
    Calls Tryz.prog 22 #[.slice A n cap] w fun e w' => e = .returned (.map (some w.heap.size)) ∧ KM w' w.heap.size n l ∧ Touch NoB w w' := by
  have hmm := @run_makeMap Tryz.prog
  have HK := Lib.hid (And.intro h (And.intro hn hw))
  clear h hn hw
  go_enter Tryz.func22, Tryz.ntmps22
  go_wp2
  go_loopw [11] (fun v11 wr => KoRel w.heap.size n l w v11 wr) (fun v11 _ => n - (intOf v11).toNat)
  case atStart => exact ⟨0, Nat.zero_le _, rfl, KM.made w, (Touch.refl _ _).alloc _⟩
  case round =>
    obtain ⟨i, hi, rfl, hm, hT⟩ := hrel
    by_cases hlt : i < n
    · obtain ⟨k, hk⟩ : ∃ k, l[i]? = some k := ⟨l[i]'(by have := HK.out.2.1; omega), List.getElem?_eq_getElem _⟩
      have hkl := (List.getElem?_eq_some_iff.1 hk)
      have hw64 := HK.out.2.2 k (List.mem_of_getElem? hk)
      have htk : l.take (i + 1) = l.take i ++ [k] := by rw [List.take_add_one, hk]; rfl
      obtain ⟨hsz, b, off, rfl, hb, -, c0, c1, c2⟩ := (HK.out.1.touch hT) i k hk
      obtain ⟨nm, kd, sh⟩ := k
      simp only at hsz c0 c1 c2 hw64
      obtain ⟨W1, hW1⟩ : ∃ W, wr.alloc (.cells #[.string nm, .int .i64 kd, .bool sh] 57) = W := ⟨_, rfl⟩
      have t1 : Touch NoB wr W1 := by rw [← hW1]; exact (Touch.refl _ _).alloc _
      have hbk : W1.heap[wr.heap.size]? = some (.cells #[.string nm, .int .i64 kd, .bool sh] 57 (0, 0)) := by rw [← hW1]; exact alloc_blk _ _ _ rfl
      have q0 := cell_blk hbk 0
      have q1 := cell_blk hbk 1
      have q2 := cell_blk hbk 2
      have q3 := blk_lt hbk
      have hm1 := hm.touch t1 (fun f => f)
      obtain ⟨c, hrun, hc⟩ := hm1.look hsz
      have hB : w.heap.size ≤ w.heap.size := Nat.le_refl _
      have HTW := Lib.hid (hT.same t1)
      cases hf : kdG (l.take i) nm with
      | some x =>
        rw [hf] at hrun
        have HR : Hid (KM W1 w.heap.size (i + 1) (l.take (i + 1))) := Lib.hid (hm1.same (Nat.le_succ _) (fun s => by
          rw [htk, kdG_snoc]
          cases h1 : kdG (l.take i) s with
          | some y => rfl
          | none =>
            have : eqG nm s = false := by
              cases h2 : eqG nm s with
              | false => rfl
              | true => have := eqG_iff.1 h2; subst this; rw [hf] at h1; cases h1
            simp [this]))
        clear hm hm1 hbk htk hkl hk hf hc hT t1 hw64
        go_wp2
        go_roundw
        case rel => exact ⟨i + 1, by omega, by go_num, HR.out, HTW.out⟩
        case measure => simp [intOf]; omega
      | none =>
        rw [hf] at hrun
        obtain ⟨W2, hrun2, hm2, t2⟩ := hm1.store (k := ⟨nm, kd, sh⟩) (by omega) hsz hw64 hf
        rw [← htk] at hm2
        have HR := Lib.hid (And.intro hm2 (HTW.out.trans t2 (fun x hx => .inr (by subst hx; exact Nat.le_refl _))))
        clear hm hm1 hbk htk hkl hk hf hc hT t1 hw64 hm2 t2
        go_wp2
        go_roundw
        case rel => exact ⟨i + 1, by omega, by go_num, HR.out.1, HR.out.2⟩
        case measure => simp [intOf]; omega
    · obtain rfl : i = n := by omega
      have e : l.take i = l := by rw [← HK.out.2.1, List.take_length]
      rw [e] at hm
      have HR := Lib.hid (And.intro hm hT)
      clear hm hT e
      go_wp2
      go_ret
      exact ⟨rfl, HR.out.1, HR.out.2⟩
end Go.Proofs.YtbikpbmknneabaaGreat
end
