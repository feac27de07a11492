/-
  What stands at each label of package lex's divide: the frame, the memory, what is left of the text; a measure. No condition beyond those that each theorem names.
-/
import Derived.Test.YtmgmmbeldhleoaaDoorLb
import Derived.Test.YtmgmmbeldhleoaaDoorSj
import Derived.Deep.CutBlock
namespace Go.Proofs.YtmgmmbeldhleoaaDoor
open Go.ChangeShapes Go.WideShapes Go.ChangeAt Go.RowKit
set_option maxRecDepth 100000
set_option maxHeartbeats 4000000

/-! ### tokens in memory -/
def TkV (t : Tk) : List Value := [.int .i64 t.kd, .int .i64 t.n, .int .i64 t.pl, .string (bs t.tx)]
def tkC (ts : List Tk) : List Value := ts.flatMap TkV
theorem tkC_len (ts : List Tk) : (tkC ts).length = ts.length * 4 := by
  induction ts with
  | nil => rfl
  | cons t r ih =>
    show (TkV t ++ tkC r).length = _
    rw [List.length_append, ih]
    simp [TkV]; omega
theorem tkC_snoc (ts : List Tk) (t : Tk) : tkC (ts ++ [t]) = tkC ts ++ TkV t := by simp [tkC]
/-- A token in a block of its own, a list of tokens in a row of its own. -/
structure DI (w : World) (g : Nat) (ts : List Tk) (vl : Value) (wr : World) : Prop where
  t : Touch NoB w wr
  ge : w.heap.size ≤ g
  blk : ∃ x0 x1 x2 x3, wr.heap[g]? = some (.cells #[x0, x1, x2, x3] 35 (0, 0))
  row : wr.ownsRow w.heap.size 35 4 vl ts.length (tkC ts)
  ne : vl.ownBlock ≠ some g
theorem DI.touch {w wr wx : World} {g : Nat} {ts : List Tk} {vl : Value} (h : DI w g ts vl wr) (k : Touch NoB wr wx) : DI w g ts vl wx := by
  obtain ⟨x0, x1, x2, x3, hb⟩ := h.blk
  exact ⟨h.t.same k, h.ge, ⟨x0, x1, x2, x3, (k.block g (blk_lt hb) (fun x => x)).trans hb⟩, row_touch h.row k (fun _ _ x => x), h.ne⟩
theorem DI.lt {w wr : World} {g : Nat} {ts : List Tk} {vl : Value} (h : DI w g ts vl wr) : g < wr.heap.size := by
  obtain ⟨x0, x1, x2, x3, hb⟩ := h.blk
  exact blk_lt hb
/-- The token's block written anew. -/
theorem DI.put {w wr : World} {g : Nat} {ts : List Tk} {vl : Value} (h : DI w g ts vl wr) (y0 y1 y2 y3 : Value) :
    DI w g ts vl ((((wr.setCell ⟨g, 0, none⟩ y0).setCell ⟨g, 1, none⟩ y1).setCell ⟨g, 2, none⟩ y2).setCell ⟨g, 3, none⟩ y3) := by
  obtain ⟨x0, x1, x2, x3, hb⟩ := h.blk
  have tt := touch4 (F := fun b => b = g) (w0 := wr) (Touch.refl _ wr) (g := g) (.inl rfl) y0 y1 y2 y3
  exact ⟨touch4 h.t (.inr h.ge) _ _ _ _, h.ge, ⟨_, _, _, _, set4 hb y0 y1 y2 y3⟩, row_touch h.row tt (fun k hk e => h.ne (e ▸ hk)), h.ne⟩
/-- What Tokens returns of x, over memory that w had. -/
def LxPost (w : World) (len : Nat) (x : Lx) (e : Ending) (w' : World) : Prop := Touch NoB w w' ∧ match x with
  | .good ts => ∃ vl, e = .returned (.tuple #[vl, .int .i64 len, .int .i64 0]) ∧ w'.ownsRow w.heap.size 35 4 vl ts.length (tkC ts)
  | .bad p => e = .returned (.tuple #[.slice none 0 0, .int .i64 p, .int .i64 2])

/-! ### frames -/
def slot (a : Act) (i : Nat) : Value := a.tmps.toList.getD i undef
def slots (l : List Value) (i : Nat) : Value := l.getD i undef
theorem list_slots (l : List Value) : l = (List.range l.length).map (slots l) := by
  apply List.ext_getElem?
  intro i
  rw [List.getElem?_map]
  by_cases h : i < l.length
  · rw [List.getElem?_range h, List.getElem?_eq_getElem h]; simp [slots, List.getD, h]
  · rw [List.getElem?_eq_none (by omega), List.getElem?_eq_none (by simp; omega)]; rfl

theorem frame_slots {a : Act} (h : a.tmps.toList.length = 143) (hd : a.defers = []) : a = ⟨([slot a 0, slot a 1, slot a 2, slot a 3, slot a 4, slot a 5, slot a 6, slot a 7, slot a 8, slot a 9, slot a 10, slot a 11, slot a 12, slot a 13, slot a 14, slot a 15, slot a 16, slot a 17, slot a 18, slot a 19, slot a 20, slot a 21, slot a 22, slot a 23, slot a 24, slot a 25, slot a 26, slot a 27, slot a 28, slot a 29, slot a 30, slot a 31, slot a 32, slot a 33, slot a 34, slot a 35, slot a 36, slot a 37, slot a 38, slot a 39, slot a 40, slot a 41, slot a 42, slot a 43, slot a 44, slot a 45, slot a 46, slot a 47, slot a 48, slot a 49, slot a 50, slot a 51, slot a 52, slot a 53, slot a 54, slot a 55, slot a 56, slot a 57, slot a 58, slot a 59, slot a 60, slot a 61, slot a 62, slot a 63, slot a 64, slot a 65, slot a 66, slot a 67, slot a 68, slot a 69, slot a 70, slot a 71, slot a 72, slot a 73, slot a 74, slot a 75, slot a 76, slot a 77, slot a 78, slot a 79, slot a 80, slot a 81, slot a 82, slot a 83, slot a 84, slot a 85, slot a 86, slot a 87, slot a 88, slot a 89, slot a 90, slot a 91, slot a 92, slot a 93, slot a 94, slot a 95, slot a 96, slot a 97, slot a 98, slot a 99, slot a 100, slot a 101, slot a 102, slot a 103, slot a 104, slot a 105, slot a 106, slot a 107, slot a 108, slot a 109, slot a 110, slot a 111, slot a 112, slot a 113, slot a 114, slot a 115, slot a 116, slot a 117, slot a 118, slot a 119, slot a 120, slot a 121, slot a 122, slot a 123, slot a 124, slot a 125, slot a 126, slot a 127, slot a 128, slot a 129, slot a 130, slot a 131, slot a 132, slot a 133, slot a 134, slot a 135, slot a 136, slot a 137, slot a 138, slot a 139, slot a 140, slot a 141, slot a 142] : List Value).toArray, []⟩ := by
  obtain ⟨t, d⟩ := a
  subst hd
  have h1 := list_slots t.toList
  rw [h] at h1
  congr 1
  apply Array.toList_inj.1
  rw [h1]
  rfl

/-- The code from each label on. -/
noncomputable def divC : Code := match Tryd.f17.body with
  | some (.seq _ (.scope c)) => c
  | _ => .skip
noncomputable def divX (l : Nat) : Code := match findLabel divC l with
  | some (.seq .skip c) => c
  | _ => .skip
theorem divX0 : findLabel divC 0 = some (.seq .skip (divX 0)) := by kernel_rfl
theorem divX1 : findLabel divC 1 = some (.seq .skip (divX 1)) := by kernel_rfl
theorem divX2 : findLabel divC 2 = some (.seq .skip (divX 2)) := by kernel_rfl
theorem divX3 : findLabel divC 3 = some (.seq .skip (divX 3)) := by kernel_rfl
theorem divX4 : findLabel divC 4 = some (.seq .skip (divX 4)) := by kernel_rfl
theorem divX5 : findLabel divC 5 = some (.seq .skip (divX 5)) := by kernel_rfl
theorem divX_some (l : Nat) (h : l < 6) : findLabel divC l = some (.seq .skip (divX l)) := by
  have : l = 0 ∨ l = 1 ∨ l = 2 ∨ l = 3 ∨ l = 4 ∨ l = 5 := by omega
  rcases this with rfl | rfl | rfl | rfl | rfl | rfl
  · exact divX0
  · exact divX1
  · exact divX2
  · exact divX3
  · exact divX4
  · exact divX5

/-- What stands at label l: t tokens found, the token under way begins at place i, place k is read next; ok: what was told. -/
def DL (b : Bs) (g : Nat) (ts : List Tk) (i k : Nat) (v7 : Value) (wr : World) : Nat → Prop
  | 0 => Lx.pre ts (fromS false b k) = lexL b
  | 1 => Run (fun c => !decide (c.toNat = 10)) b i k ∧ (∃ c, b[i]? = some c ∧ c.toNat = 47) ∧ Lx.pre ts (fromS true b k) = lexL b
  | 2 => Run bW b i k ∧ (∃ c, b[i]? = some c ∧ bL c = true) ∧ Lx.pre ts (fromS false b i) = lexL b
  | 3 => Run bD b i k ∧ (∃ c, b[i]? = some c ∧ bD c = true) ∧ Lx.pre ts (fromS false b i) = lexL b
  | 4 => k = i ∧ (∃ c, b[i]? = some c ∧ bB c = false ∧ ¬ (c.toNat = 47 ∧ slash (b.drop (i + 1)) = true) ∧ bL c = false ∧ bD c = false) ∧ Lx.pre ts (fromS false b i) = lexL b
  | _ => (∃ c, b[i]? = some c ∧ bB c = false ∧ ¬ (c.toNat = 47 ∧ slash (b.drop (i + 1)) = true)) ∧ Lx.pre ts (fromS false b i) = lexL b ∧
    ((v7 = .bool false ∧ tokL i (b.drop i) = none) ∨ (v7 = .bool true ∧ ∃ t y, tokL i (b.drop i) = some (t, k - i) ∧ i < k ∧ wr.heap[g]? = some (.cells #[.int .i64 t.kd, .int .i64 t.n, y, .string (bs t.tx)] 35 (0, 0))))
def mu (n l : Nat) (a : Act) : Nat := (n + 10) * (n - (intOf (slot a (if l = 0 then 9 else 8))).toNat) + (match l with
  | 0 => n + 5
  | 4 => n + 4
  | 5 => 2
  | _ => (n - (intOf (slot a 9)).toNat) + 3)
/-- The place that bounds the number of tokens found. -/
def cn : Nat → Nat → Nat → Nat
  | 0, _, k => k
  | _, i, _ => i
/-- .. in the program's frame. -/
structure DF (A : Option Addr) (cap : Nat) (b : Bs) (w : World) (g : Nat) (l : Nat) (ts : List Tk) (vl v7 v8 : Value) (i k : Nat) (a : Act) (wr : World) : Prop where
  len : a.tmps.toList.length = 143
  dfr : a.defers = []
  s0 : slot a 0 = .slice A b.length cap
  s5 : slot a 5 = vl
  s6 : slot a 6 = .pointer (some ⟨g, 0, none⟩)
  s7 : slot a 7 = v7
  s8 : slot a 8 = v8
  s9 : slot a 9 = .int .i64 (k : Int)
  at8 : l ≠ 0 → v8 = .int .i64 (i : Int)
  le : k ≤ b.length
  ilt : l ≠ 0 → i < b.length
  cnt : ts.length ≤ cn l i k
  di : DI w g ts vl wr
  dl : DL b g ts i k v7 wr l
def DJ (A : Option Addr) (cap : Nat) (b : Bs) (w : World) (g : Nat) (l : Nat) (a : Act) (wr : World) : Prop :=
  l < 6 ∧ ∃ ts vl v7 v8 i k, DF A cap b w g l ts vl v7 v8 i k a wr
/-- A jump to label l, below a measure of M. -/
def DG (A : Option Addr) (cap : Nat) (b : Bs) (w : World) (g M : Nat) (l : Nat) (a : Act) (wr : World) : Prop := DJ A cap b w g l a wr ∧ mu b.length l a < M
def mv (n l i k : Nat) : Nat := (n + 10) * (n - (if l = 0 then k else i)) + (match l with
  | 0 => n + 5
  | 4 => n + 4
  | 5 => 2
  | _ => (n - k) + 3)
theorem DF.mu {A : Option Addr} {cap : Nat} {b : Bs} {w : World} {g l : Nat} {ts : List Tk} {vl v7 v8 : Value} {i k : Nat} {a : Act} {wr : World} (h : DF A cap b w g l ts vl v7 v8 i k a wr) : mu b.length l a = mv b.length l i k := by
  unfold Go.Proofs.YtmgmmbeldhleoaaDoor.mu mv
  by_cases h0 : l = 0
  · subst h0
    simp only [if_true, h.s9, intOf, Int.toNat_natCast]
  · have h8 := h.s8.trans (h.at8 h0)
    simp only [if_neg h0, h8, h.s9, intOf, Int.toNat_natCast]
theorem mul_step {n i k : Nat} (h1 : i < k) (h2 : k ≤ n) : (n + 10) * (n - k) + (n + 10) ≤ (n + 10) * (n - i) := by
  have : n - i = (n - k) + ((k - i - 1) + 1) := by omega
  rw [this, Nat.mul_add, Nat.mul_add]
  omega
/-- A frame, slot by slot. -/
theorem DG.mk {A : Option Addr} {cap : Nat} {b : Bs} {w : World} {g M l : Nat} {a : Act} {wr : World} (ts : List Tk) (vl v7 v8 : Value) (i k : Nat) (h : DF A cap b w g l ts vl v7 v8 i k a wr) (hl : l < 6) (hm : mv b.length l i k < M) : DG A cap b w g M l a wr :=
  ⟨⟨hl, ts, vl, v7, v8, i, k, h⟩, by rw [h.mu]; exact hm⟩
theorem hop_mono {J1 J2 : Nat → Act → World → Prop} {Q : Exit → Act → World → Prop} (h : ∀ l a w, J1 l a w → J2 l a w) : ∀ e a w, hop J1 Q e a w → hop J2 Q e a w := by
  intro e a w x
  cases e with
  | goto l => exact h l a w x
  | normal => exact x
  | exit id => exact x
  | ret => exact x
  | panic ch => exact x
  | outgrown => exact x
theorem DG.up {A : Option Addr} {cap : Nat} {b : Bs} {w : World} {g M M' l : Nat} {a : Act} {wr : World} (h : DG A cap b w g M l a wr) (hm : M ≤ M') : DG A cap b w g M' l a wr := ⟨h.1, Nat.lt_of_lt_of_le h.2 hm⟩
end Go.Proofs.YtmgmmbeldhleoaaDoor
