/-
  The lexer on lists of bytes, told place by place: what is left of a text from a place on, between tokens and within a remark. No program is named here; no condition beyond those that each theorem names.
-/
import Derived.Test.YtnphaaahdlkmhaaGreatZs2
import Derived.Test.YtnphaaahdlkmhaaGreatZs3
import Derived.Lib.SlBytesRow
import Derived.Deep.AppendLies
import Derived.WalkKit
import Derived.Shelf.Small.Strs
import Derived.Shelf.Strconv.AtoiAll
import Derived.Shelf.Bytes.Small
import Derived.Shelf.Strconv.AppendIntPublic10
import Derived.Deep.CutBlock
import Derived.Lib.ConvBytes
import Derived.Lib.AtoiErrMem
import Derived.Lib.SlBytesConst
import Derived.ChangeSlices
import Derived.Shelf.Bytes.SlSmallAll
import Derived.Test.YtnphaaahdlkmhaaGreatZs4
section
namespace Go.Proofs.YtnphaaahdlkmhaaGreat

/-- Tokens that were found ahead. -/
def Lx.pre (ts : List Tk) : Lx → Lx
  | .bad p => .bad p
  | .good us => .good (ts ++ us)
theorem Lx.pre_cons (ts : List Tk) (t : Tk) (x : Lx) : Lx.pre ts (Lx.cons t x) = Lx.pre (ts ++ [t]) x := by cases x <;> simp [Lx.pre, Lx.cons]
theorem Lx.pre_nil (x : Lx) : Lx.pre [] x = x := by cases x <;> rfl
/-- What b comes to from place a on; s: within a remark. -/
def fromS (s : Bool) (b : Bs) (a : Nat) : Lx := match skipL s (b.drop a) with
  | [] => .good [⟨0, 0, b.length, []⟩]
  | c :: r => match tokL (b.length - (c :: r).length) (c :: r) with
    | none => .bad (b.length - (c :: r).length)
    | some (t, n) => Lx.cons t (toksL (b.length + 1) (b.length - (c :: r).length + n) ((c :: r).drop n))
theorem from_toks (b : Bs) (a : Nat) (ha : a ≤ b.length) : toksL (b.length + 1) a (b.drop a) = fromS false b a := by
  have hsk := skip_len (b.drop a) false
  have hl : (b.drop a).length = b.length - a := List.length_drop
  unfold fromS
  rw [toksL]
  cases h : skipL false (b.drop a) with
  | nil =>
    simp only
    rw [hl, show a + (b.length - a) = b.length from by omega]
  | cons c r =>
    rw [h, hl] at hsk
    simp only [hl]
    rw [show a + (b.length - a - (c :: r).length) = b.length - (c :: r).length from by omega]
    cases ht : tokL (b.length - (c :: r).length) (c :: r) with
    | none => rfl
    | some x =>
      obtain ⟨t, n⟩ := x
      have hn := tok_len ht
      simp only
      congr 1
      refine toks_fuel _ _ _ ?_ _ ?_
      · simp only [List.length_drop] at hsk ⊢; omega
      · simp only [List.length_drop] at hsk ⊢; omega
theorem lex_from (b : Bs) : lexL b = fromS false b 0 := by
  unfold lexL
  have := from_toks b 0 (Nat.zero_le _)
  simpa using this
theorem drop_at {b : Bs} {a : Nat} {c : UInt8} (h : b[a]? = some c) : b.drop a = c :: b.drop (a + 1) := by
  obtain ⟨h1, h2⟩ := List.getElem?_eq_some_iff.1 h
  rw [List.drop_eq_getElem_cons h1, h2]
theorem from_end (s : Bool) (b : Bs) : fromS s b b.length = .good [⟨0, 0, b.length, []⟩] := by
  unfold fromS
  rw [List.drop_length]
  cases s <;> rfl
/-- A token. -/
theorem from_tok {b : Bs} {a : Nat} {c : UInt8} (h : b[a]? = some c) (hb : bB c = false) (hc : ¬ (c.toNat = 47 ∧ slash (b.drop (a + 1)) = true)) :
    fromS false b a = match tokL a (b.drop a) with
      | none => .bad a
      | some (t, n) => Lx.cons t (fromS false b (a + n)) := by
  have hlt := (List.getElem?_eq_some_iff.1 h).1
  have hd := drop_at h
  have hl : (c :: b.drop (a + 1)).length = b.length - a := by rw [← hd, List.length_drop]
  conv => lhs; unfold fromS
  rw [hd, skip_stay hb hc]
  simp only
  rw [hl, show b.length - (b.length - a) = a from by omega]
  cases ht : tokL a (c :: b.drop (a + 1)) with
  | none => rfl
  | some x =>
    obtain ⟨t, n⟩ := x
    have hn := tok_len ht
    simp only
    congr 1
    rw [← hd, List.drop_drop, from_toks b (a + n) (by omega)]

/-! ### what the code looks at, one by one -/
/-- A run of bytes from a on, of which all are P: it goes on. -/
def Run (P : UInt8 → Bool) (b : Bs) (a k : Nat) : Prop := a ≤ k ∧ k ≤ b.length ∧ ∀ (i : Nat) (c : UInt8), a ≤ i → i < k → b[i]? = some c → P c = true
theorem Run.start (P : UInt8 → Bool) {b : Bs} {a : Nat} (h : a ≤ b.length) : Run P b a a := ⟨Nat.le_refl _, h, fun i c h1 h2 => by omega⟩
theorem Run.next {P : UInt8 → Bool} {b : Bs} {a k : Nat} {c : UInt8} (h : Run P b a k) (hk : b[k]? = some c) (hc : P c = true) : Run P b a (k + 1) := by
  refine ⟨by have := h.1; omega, (List.getElem?_eq_some_iff.1 hk).1, fun i d h1 h2 hd => ?_⟩
  by_cases e : i = k
  · subst e; rw [hk] at hd; injection hd with hd; subst hd; exact hc
  · exact h.2.2 i d h1 (by omega) hd
theorem take_run {P : UInt8 → Bool} : ∀ {l : Bs} {n : Nat}, n ≤ l.length → (∀ (i : Nat) (c : UInt8), i < n → l[i]? = some c → P c = true) → (∀ c, l[n]? = some c → P c = false) → List.takeWhile P l = l.take n
  | [], n, _, _, _ => by simp
  | d :: l, 0, _, _, h => by
    have := h d rfl
    simp [this]
  | d :: l, n + 1, hn, h1, h2 => by
    have hd := h1 0 d (by omega) rfl
    rw [List.takeWhile_cons, if_pos hd, List.take_succ_cons, take_run (l := l) (n := n) (by simpa using hn) (fun i c hi hc => h1 (i + 1) c (by omega) (by simpa using hc)) (fun c hc => h2 c (by simpa using hc))]
/-- A run that has ended is what takeWhile takes. -/
theorem Run.end {P : UInt8 → Bool} {b : Bs} {a k : Nat} (h : Run P b a k) (he : ∀ c, b[k]? = some c → P c = false) : List.takeWhile P (b.drop a) = (b.drop a).take (k - a) := by
  obtain ⟨h1, h2, h3⟩ := h
  refine take_run (by rw [List.length_drop]; omega) (fun i c hi hc => ?_) (fun c hc => ?_)
  · rw [List.getElem?_drop] at hc
    exact h3 (a + i) c (by omega) (by omega) hc
  · rw [List.getElem?_drop, show a + (k - a) = k from by omega] at hc
    exact he c hc
theorem Run.len {P : UInt8 → Bool} {b : Bs} {a k : Nat} (h : Run P b a k) : ((b.drop a).take (k - a)).length = k - a := by
  have := h.1; have := h.2.1
  rw [List.length_take, List.length_drop]; omega
theorem Run.all {P : UInt8 → Bool} {b : Bs} {a k : Nat} (h : Run P b a k) : ((b.drop a).take (k - a)).all P = true := by
  rw [List.all_eq_true]
  intro x hx
  obtain ⟨i, hi⟩ := List.mem_iff_getElem?.1 hx
  rw [List.getElem?_take] at hi
  split at hi
  · rw [List.getElem?_drop] at hi
    exact h.2.2 (a + i) x (by omega) (by omega) hi
  · cases hi
/-- The text of a run. -/
def cut (b : Bs) (a k : Nat) : Bs := (b.drop a).take (k - a)
/-- A word or a name. -/
theorem tok_letters {b : Bs} {a k : Nat} {c : UInt8} (h : b[a]? = some c) (hl : bL c = true) (hr : Run bW b a k) (he : ∀ d, b[k]? = some d → bW d = false) :
    tokL a (b.drop a) = if kw.contains (cut b a k) = true then some (⟨2, 0, a, cut b a k⟩, k - a) else if (cut b a k).length ≤ 24 then some (⟨1, 0, a, cut b a k⟩, k - a) else none := by
  have hw := hr.end he
  have hn := hr.len
  rw [drop_at h] at hw
  rw [drop_at h]
  rw [tokL]
  rw [if_neg (by rw [L_not_D hl]; simp), if_pos hl, hw, ← drop_at h]
  unfold cut
  rw [hn]
/-- A sign, or none. -/
theorem tok_sign {b : Bs} {a : Nat} {c : UInt8} (h : b[a]? = some c) (h1 : bL c = false) (h2 : bD c = false) :
    tokL a (b.drop a) = if sgnL c (b.drop (a + 1)) = 0 then none else some (⟨4, 0, a, cut b a (a + sgnL c (b.drop (a + 1)))⟩, sgnL c (b.drop (a + 1))) := by
  rw [drop_at h]
  rw [tokL]
  rw [if_neg (by simp [h2]), if_neg (by simp [h1])]
  unfold cut
  rw [drop_at h, show a + sgnL c (b.drop (a + 1)) - a = sgnL c (b.drop (a + 1)) from by omega]
end Go.Proofs.YtnphaaahdlkmhaaGreat
end
/-
  Bytes in memory; what signLength, wordOrName and number of package lex return.
-/
section
namespace Go.Proofs.YtnphaaahdlkmhaaGreat
open Go.ChangeShapes Go.WideShapes Go.ChangeAt Go.RowKit
set_option maxRecDepth 100000
set_option maxHeartbeats 4000000

/-- Bytes as a string. -/
def bs (l : Bs) : ByteArray := ⟨l.toArray⟩
theorem bs_size (l : Bs) : (bs l).size = l.length := by simp [bs, ByteArray.size]
theorem bs_list (l : Bs) : (bs l).data.toList = l := by simp [bs]
theorem bs_toList (l : Bs) : (bs l).toList = l := by rw [ByteArray.toList_eq]; simp [bs]
theorem bs_at (l : Bs) (i : Nat) (h : i < (bs l).size) : l[i]? = some ((bs l)[i]'h) := by
  have h' : i < l.length := by rw [bs_size] at h; exact h
  rw [List.getElem?_eq_getElem h']
  simp [bs, ByteArray.getElem_eq_getElem_data]

/-- Bytes lie at A. -/
def BAt (w : World) (A : Option Addr) (l : Bs) : Prop := l ≠ [] → ∃ b off, A = some ⟨b, off, none⟩ ∧ b < w.heap.size ∧ ∀ (i : Nat) (c : UInt8), l[i]? = some c → w.cell? ⟨b, off + i, none⟩ = some (.int .u8 (c.toNat : Int))
theorem BAt.touch {w w' : World} {A : Option Addr} {l : Bs} (h : BAt w A l) (t : Touch NoB w w') : BAt w' A l := by
  intro hl
  obtain ⟨b, off, rfl, hb, hc⟩ := h hl
  exact ⟨b, off, rfl, Nat.lt_of_lt_of_le hb t.size, fun i c hi => (t.cell (p := ⟨b, off + i, none⟩) hb (fun x => x)).trans (hc i c hi)⟩
theorem BAt.nil (w : World) (A : Option Addr) : BAt w A [] := fun h => absurd rfl h
/-- The text of a slice of them. -/
theorem BAt.text {P : Program} {w : World} {b off : Nat} {l : Bs} (src e dst : TypeId) (hs : P.underlying src = some (.slice e)) (he : P.underlying e = some (.int .u8)) (hd : P.underlying dst = some .string)
    (hc : ∀ (i : Nat) (c : UInt8), l[i]? = some c → w.cell? ⟨b, off + i, none⟩ = some (.int .u8 (c.toNat : Int))) {a k : Nat} (hak : a ≤ k) (hk : k ≤ l.length) (cap : Nat) {n : Nat} (hn : n = k - a) :
    (convert src dst (.slice (some ⟨b, off + a, none⟩) n cap)).run P w = .ok (.string (bs (cut l a k))) w := by
  subst hn
  have hB : Lib.Bytes w b off (bs l) := fun i hi => hc i _ (bs_at l i hi)
  have := Lib.run_convert_window (P := P) w src e dst hs he hd b off (bs l) hB a (k - a) cap (by rw [bs_size]; omega)
  rw [this]
  congr 2
  apply ByteArray.ext
  apply Array.toList_inj.1
  unfold cut
  simp only [ByteArray.data_extract, bs, Array.toList_extract, List.extract_eq_take_drop]
  rw [show a + (k - a) - a = k - a from by omega]

/-! ### signs -/
theorem ret_int {a b : Int} (h : a = b) : Ending.returned (.int .i64 a) = .returned (.int .i64 b) := by rw [h]

/-! ### words and names -/
/-! ### numbers -/
def fold10 (v : Nat) (l : Bs) : Nat := l.foldl (fun v c => 10 * v + (c.toNat - 48)) v
theorem fold_ge : ∀ (l : Bs) (v : Nat), v ≤ fold10 v l
  | [], v => Nat.le_refl _
  | c :: r, v => Nat.le_trans (by omega) (fold_ge r (10 * v + (c.toNat - 48)))
theorem touch_of {w w' : World} (h : Below w.heap.size w w') : Touch NoB w w' := ⟨h.os, h.tape, h.output, h.size, fun k hk _ => h.block k hk⟩
/-- Four cells written, one by one. -/
theorem set4 {w : World} {g : Nat} {t : TypeId} {a b c d : Value} (h : w.heap[g]? = some (.cells #[a, b, c, d] t (0, 0))) (x0 x1 x2 x3 : Value) :
    ((((w.setCell ⟨g, 0, none⟩ x0).setCell ⟨g, 1, none⟩ x1).setCell ⟨g, 2, none⟩ x2).setCell ⟨g, 3, none⟩ x3).heap[g]? = some (.cells #[x0, x1, x2, x3] t (0, 0)) := by
  have h1 := set_blk h 0 x0
  have h2 := set_blk h1 1 x1
  have h3 := set_blk h2 2 x2
  have h4 := set_blk h3 3 x3
  rw [h4]
  rfl
theorem touch4 {F : Nat → Prop} {w0 w : World} {g : Nat} (h : Touch F w0 w) (hg : F g ∨ w0.heap.size ≤ g) (x0 x1 x2 x3 : Value) :
    Touch F w0 ((((w.setCell ⟨g, 0, none⟩ x0).setCell ⟨g, 1, none⟩ x1).setCell ⟨g, 2, none⟩ x2).setCell ⟨g, 3, none⟩ x3) :=
  (((h.setCell (p := ⟨g, 0, none⟩) hg _).setCell (p := ⟨g, 1, none⟩) hg _).setCell (p := ⟨g, 2, none⟩) hg _).setCell (p := ⟨g, 3, none⟩) hg _

end Go.Proofs.YtnphaaahdlkmhaaGreat
end
/-
  Lists of tokens in memory, what the document's own Tokens returns of a text. No condition beyond those that each theorem names.
-/
section
namespace Go.Proofs.YtnphaaahdlkmhaaGreat
open Go.ChangeShapes Go.WideShapes Go.ChangeAt Go.RowKit
set_option maxRecDepth 100000
set_option maxHeartbeats 4000000

def TkV (t : Tk) : List Value := [.int .i64 t.kd, .int .i64 t.n, .int .i64 t.pl, .string (bs t.tx)]
def tkC (ts : List Tk) : List Value := ts.flatMap TkV
theorem tkC_snoc (ts : List Tk) (t : Tk) : tkC (ts ++ [t]) = tkC ts ++ TkV t := by simp [tkC]
/-- What Tokens returns of x, over memory that w had. -/
def LxPost (w : World) (len : Nat) (x : Lx) (e : Ending) (w' : World) : Prop := Touch NoB w w' ∧ match x with
  | .good ts => ∃ vl, e = .returned (.tuple #[vl, .int .i64 len, .int .i64 0]) ∧ w'.ownsRow w.heap.size 52 4 vl ts.length (tkC ts)
  | .bad p => e = .returned (.tuple #[.slice none 0 0, .int .i64 p, .int .i64 2])

/-- A token read. -/
theorem from_told {b : Bs} {i k : Nat} {c : UInt8} {ts : List Tk} {t : Tk} (h : b[i]? = some c) (hb : bB c = false) (hc : ¬ (c.toNat = 47 ∧ slash (b.drop (i + 1)) = true)) (hik : i ≤ k)
    (ht : tokL i (b.drop i) = some (t, k - i)) : Lx.pre ts (fromS false b i) = Lx.pre (ts ++ [t]) (fromS false b k) := by
  rw [from_tok h hb hc, ht]
  simp only
  rw [Lx.pre_cons, show i + (k - i) = k from by omega]
theorem from_wrong {b : Bs} {i : Nat} {c : UInt8} {ts : List Tk} (h : b[i]? = some c) (hb : bB c = false) (hc : ¬ (c.toNat = 47 ∧ slash (b.drop (i + 1)) = true))
    (ht : tokL i (b.drop i) = none) : Lx.pre ts (fromS false b i) = .bad i := by
  rw [from_tok h hb hc, ht]; rfl
theorem info_tok : (Tryz.prog.info? 52).map (fun i => (i.zero, i.size, i.bytes)) = some (some (.agg #[.int .i64 0, .int .i64 0, .int .i64 0, .string ⟨#[]⟩]), 4, 40) := by kernel_rfl
theorem info_tok' : ∃ i0, Tryz.prog.info? 52 = some i0 ∧ i0.zero = some (.agg #[.int .i64 0, .int .i64 0, .int .i64 0, .string ⟨#[]⟩]) ∧ i0.size = 4 ∧ i0.bytes = 40 := by
  have h := info_tok
  cases hi : Tryz.prog.info? 52 with
  | none => rw [hi] at h; cases h
  | some i0 =>
    rw [hi] at h
    simp only [Option.map_some, Option.some.injEq, Prod.mk.injEq] at h
    exact ⟨i0, rfl, h.1, h.2.1, h.2.2⟩
theorem TkV_one (t : Tk) : ∀ u ∈ TkV t, u.oneCell' = true := by
  intro u hu
  simp [TkV] at hu
  rcases hu with rfl | rfl | rfl | rfl <;> rfl
/-- What package lex's Tokens returns. -/
def TokPost (w : World) (b : Bs) (e : Ending) (w' : World) : Prop :=
  if b.length ≤ 65536 then LxPost w b.length (lexL b) e w' else e = .returned (.tuple #[.slice none 0 0, .int .i64 0, .int .i64 3]) ∧ w = w'
theorem bat_at {w : World} {A : Option Addr} {b : Bs} (h : BAt w A b) {k : Nat} (hk : k < b.length) : ∃ blk off, A = some ⟨blk, off, none⟩ ∧ blk < w.heap.size ∧ (∃ c, b[k]? = some c ∧ w.cell? ⟨blk, off + k, none⟩ = some (.int .u8 (c.toNat : Int))) ∧ ∀ (i : Nat) (c : UInt8), b[i]? = some c → w.cell? ⟨blk, off + i, none⟩ = some (.int .u8 (c.toNat : Int)) := by
  obtain ⟨blk, off, h1, h2, h3⟩ := h (by intro e; subst e; simp at hk)
  exact ⟨blk, off, h1, h2, ⟨b[k], List.getElem?_eq_getElem hk, h3 k _ (List.getElem?_eq_getElem hk)⟩, h3⟩
theorem slice_win {P : Program} {t e : TypeId} (ht : P.underlying t = some (.slice e)) (hz : ∀ w, (Go.sizeOf e).run P w = .ok 1 w) (W : World) (b o len cap l h : Nat) (hl : l ≤ h) (hc : h ≤ cap) (hlc : l < cap) :
    (Instr.slice t (.slice (some ⟨b, o, none⟩) len cap) (some (.int .i64 (l : Int))) (some (.int .i64 (h : Int))) none).run P W = .ok (.slice (some ⟨b, o + l, none⟩) (h - l) (cap - l)) W := by
  have ht' : P.underlying t = some (.slice (P.elem t)) := by simp [Program.elem, ht]
  have he : P.elem t = e := by simp [Program.elem, ht]
  rw [run_slice_lh W t _ _ _ ht' .i64 .i64 _ _ (by omega) (by omega) (by omega), he, hz]
  have hne : ¬ cap = l := by omega
  simp [Result.andThen, sliced, Addr.add, hne]
theorem wrd_bs (l : Bs) : wrd (bs l) = kw.contains l := by unfold wrd; rw [bs_toList]
theorem bt_bs (l : Bs) (i : Nat) (c : UInt8) (h : l[i]? = some c) : bt (bs l) i = (c.toNat : Int) := by
  obtain ⟨h1, h2⟩ := List.getElem?_eq_some_iff.1 h
  have hs : i < (bs l).size := by rw [bs_size]; exact h1
  have h3 := bs_at l i hs
  rw [h] at h3
  injection h3 with h3
  unfold bt
  rw [dif_pos hs, ← h3]
theorem name_bs {l : Bs} {c : UInt8} (h0 : l[0]? = some c) (hc : bL c = true) (hw : l.all bW = true) : nameB (bs l) = decide (l.length ≤ 24) := by
  have h1 : 1 ≤ l.length := by have := (List.getElem?_eq_some_iff.1 h0).1; omega
  have hall : (List.range (bs l).size).all (fun i => okB (bt (bs l) i)) = true := by
    rw [List.all_eq_true]
    intro i hi
    rw [List.mem_range, bs_size] at hi
    have hg : l[i]? = some l[i] := List.getElem?_eq_getElem hi
    rw [bt_bs l i _ hg, okB_b]
    exact List.all_eq_true.1 hw _ (List.getElem_mem hi)
  unfold nameB
  rw [bt_bs l 0 c h0, letB_b, hc, hall, bs_size]
  simp [h1]
/-- Where a run has come to an end it has begun. -/
theorem run_lt {P : UInt8 → Bool} {b : Bs} {i k : Nat} {c : UInt8} (h : Run P b i k) (hc : b[i]? = some c) (hp : P c = true) (he : ∀ d, b[k]? = some d → P d = false) : i < k := by
  by_cases e : i = k
  · subst e; have := he c hc; rw [hp] at this; cases this
  · have := h.1; omega

end Go.Proofs.YtnphaaahdlkmhaaGreat
end
/-
  Lists of tokens in memory; what package lex's Tokens returns of a text that is right, that is wrong; bytes out of a string; the example of the document. Conditions: those that each theorem names.
-/
section
namespace Go.Proofs.YtnphaaahdlkmhaaGreat
open Go.ChangeShapes Go.WideShapes Go.ChangeAt Go.RowKit
set_option maxRecDepth 100000
set_option maxHeartbeats 4000000

/-- Tokens lie in block g from its start on. -/
structure TL (w : World) (g : Nat) (ts : List Tk) : Prop where
  lt : g < w.heap.size
  at_ : ∀ (k : Nat) (t : Tk), ts[k]? = some t → w.cell? ⟨g, k * 4, none⟩ = some (.int .i64 t.kd) ∧ w.cell? ⟨g, k * 4 + 1, none⟩ = some (.int .i64 t.n) ∧ w.cell? ⟨g, k * 4 + 2, none⟩ = some (.int .i64 t.pl) ∧ w.cell? ⟨g, k * 4 + 3, none⟩ = some (.string (bs t.tx))
theorem TL.touch {w w' : World} {g : Nat} {ts : List Tk} (h : TL w g ts) (t : Touch NoB w w') : TL w' g ts := by
  refine ⟨Nat.lt_of_lt_of_le h.lt t.size, fun k x hx => ?_⟩
  have e := fun j => t.cell (p := ⟨g, j, none⟩) h.lt (fun x => x)
  obtain ⟨a, b, c, d⟩ := h.at_ k x hx
  exact ⟨(e _).trans a, (e _).trans b, (e _).trans c, (e _).trans d⟩
theorem tkC_at (ts : List Tk) : ∀ (k : Nat) (t : Tk), ts[k]? = some t → (tkC ts)[k * 4]? = some (.int .i64 t.kd) ∧ (tkC ts)[k * 4 + 1]? = some (.int .i64 t.n) ∧ (tkC ts)[k * 4 + 2]? = some (.int .i64 t.pl) ∧ (tkC ts)[k * 4 + 3]? = some (.string (bs t.tx)) := by
  induction ts with
  | nil => intro k t h; cases h
  | cons a r ih =>
    intro k t h
    have e : tkC (a :: r) = TkV a ++ tkC r := rfl
    have hl : (TkV a).length = 4 := rfl
    cases k with
    | zero => simp only [List.getElem?_cons_zero, Option.some.injEq] at h; subst h; rw [e]; exact ⟨rfl, rfl, rfl, rfl⟩
    | succ k =>
      have := ih k t (by simpa using h)
      rw [e]
      refine ⟨?_, ?_, ?_, ?_⟩ <;> rw [List.getElem?_append_right (by rw [hl]; omega), hl]
      · rw [show (k + 1) * 4 - 4 = k * 4 from by omega]; exact this.1
      · rw [show (k + 1) * 4 + 1 - 4 = k * 4 + 1 from by omega]; exact this.2.1
      · rw [show (k + 1) * 4 + 2 - 4 = k * 4 + 2 from by omega]; exact this.2.2.1
      · rw [show (k + 1) * 4 + 3 - 4 = k * 4 + 3 from by omega]; exact this.2.2.2
theorem TL.of_row {w : World} {B : Nat} {v : Value} {ts : List Tk} (h : w.ownsRow B 52 4 v ts.length (tkC ts)) (hn : 0 < ts.length) : ∃ g cap, v = .slice (some ⟨g, 0, none⟩) ts.length cap ∧ TL w g ts := by
  obtain ⟨g, cap, rfl, -, -, hob⟩ := row_form h hn
  refine ⟨g, cap, rfl, row_lt h hob, fun k t hk => ?_⟩
  have hk1 := (List.getElem?_eq_some_iff.1 hk).1
  obtain ⟨a, b, c, d⟩ := tkC_at ts k t hk
  have e := fun j (hj : j < ts.length * 4) => h.cellAt j hj
  exact ⟨(e _ (by omega)).trans a, (e _ (by omega)).trans b, (e _ (by omega)).trans c, (e _ (by omega)).trans d⟩

theorem good_pos {b : Bs} {ts : List Tk} (h : lexL b = .good ts) : 0 < ts.length := by
  have := lex_places h
  cases ts with
  | nil => exact this.elim
  | cons t r => simp
/-- Bytes out of a string. -/
theorem conv_any (s : ByteArray) (hs : s.size ≤ 1000000) (W : World) : ∃ (cap : Nat) (w' : World), (convert 9 32 (.string s)).run Tryz.prog W = .ok (.slice (some ⟨W.heap.size, 0, none⟩) s.size cap) w' ∧
    s.size ≤ cap ∧ cap ≤ 9223372036854775807 ∧ Touch NoB W w' ∧ BAt w' (some ⟨W.heap.size, 0, none⟩) s.data.toList := by
  refine ⟨_, _, Lib.run_convert_string_bytes W 9 32 5 s Tryz.underlying9 Tryz.underlying32 Tryz.underlying5, grownCap_ge _ _ _ _, ?_, touch_of (Lib.bytesWorld_below _ _ _), ?_⟩
  · have := grownCap_le_maxLen W s.size 0 5 (by unfold maxLen; omega)
    unfold maxLen at this
    omega
  · intro _
    refine ⟨_, 0, rfl, by rw [Lib.bytesWorld_size]; omega, fun i c hi => ?_⟩
    have hi' : i < s.size := by have := (List.getElem?_eq_some_iff.1 hi).1; simpa using this
    rw [Nat.zero_add, Lib.bytesWorld_cell W _ s i hi']
    congr 2
    simp only [List.getD, hi, Option.getD_some]
end Go.Proofs.YtnphaaahdlkmhaaGreat
end
/-
  What is known of each token of a text that is right; a slice of bytes that came in, opened. Conditions: those that each theorem names.
-/
section
namespace Go.Proofs.YtnphaaahdlkmhaaGreat
open Go.ChangeShapes Go.WideShapes Go.ChangeAt Go.RowKit
set_option maxRecDepth 100000
set_option maxHeartbeats 4000000

section
variable {H : Type} {enc : TypeId × Value → H} {w : World} {base : Nat} {held : Bool} {fuel : Nat}
end
/-- A piece of the bytes, as a string. -/
theorem win_text {W0 : World} {A : Option Addr} {b : Bs} {n cap l h : Nat} (hb : BAt W0 A b) (hn : b.length = n) (hcap : n ≤ cap) (hl : l ≤ h) (hh : h ≤ n) : ∃ v, (∀ W, (Instr.slice 32 (.slice A n cap) (some (.int .i64 (l : Int))) (some (.int .i64 (h : Int))) none).run Tryz.prog W = .ok v W) ∧
    ∀ W, Touch NoB W0 W → (convert 32 9 v).run Tryz.prog W = .ok (.string (bs (cut b l h))) W := by
  by_cases e : l = h
  · subst e
    refine ⟨.slice (if cap = l then A else A.map (·.add (l * 1))) 0 (cap - l), fun W => ?_, fun W _ => ?_⟩
    · have ht' : Tryz.prog.underlying 32 = some (.slice (Tryz.prog.elem 32)) := by simp [Program.elem, Tryz.underlying32]
      have he : Tryz.prog.elem 32 = 5 := by simp [Program.elem, Tryz.underlying32]
      rw [run_slice_lh W 32 _ _ _ ht' .i64 .i64 _ _ (by omega) (by omega) (by omega), he, Tryz.sizeOf5]
      simp only [Result.andThen, sliced, Int.toNat_natCast, Nat.sub_self]
    · rw [show cut b l l = [] from by unfold cut; simp]
      exact Go.Proofs.run_convert_bytes_zero W 32 5 Tryz.underlying32 Tryz.underlying5 _ _ 9 Tryz.underlying9
  · obtain ⟨blk, off, rfl, hblk, hc⟩ := hb (by intro e2; subst e2; simp at hn; omega)
    refine ⟨_, fun W => slice_win (P := Tryz.prog) Tryz.underlying32 Tryz.sizeOf5 W blk off n cap l h (by omega) (by omega) (by omega), fun W hW => ?_⟩
    exact BAt.text 32 5 9 Tryz.underlying32 Tryz.underlying5 Tryz.underlying9 (fun i c hi => (hW.cell (p := ⟨blk, off + i, none⟩) hblk (fun x => x)).trans (hc i c hi)) hl (by omega) _ rfl
end Go.Proofs.YtnphaaahdlkmhaaGreat
end
/-
  A reader of tokens in memory (the head of a parser's block, of whatever type): what package tokens' Next returns. Conditions: those that each theorem names.
-/
section
namespace Go.Proofs.YtnphaaahdlkmhaaGreat
open Go.ChangeShapes Go.WideShapes Go.ChangeAt Go.RowKit
set_option maxRecDepth 100000
set_option maxHeartbeats 4000000

/-- A parser at place k with error e, in block gp; its tokens lie in block g. -/
structure PSt (T : TypeId) (w : World) (gp g n cp : Nat) (ts : List Tk) (k e : Nat) : Prop where
  blk : w.heap[gp]? = some (.cells #[.slice (some ⟨g, 0, none⟩) n cp, .int .i64 (k : Int), .int .i64 (e : Int)] T (0, 0))
  tl : TL w g ts
  ne : g ≠ gp
  len : ts.length = n
  le : k ≤ n
  small : n ≤ 100000
  txs : ∀ t ∈ ts, t.tx.length ≤ 100000
def AtB (gp : Nat) : Nat → Prop := fun b => b = gp
theorem TL.touchP {w w' : World} {g gp : Nat} {ts : List Tk} (h : TL w g ts) (t : Touch (AtB gp) w w') (hne : g ≠ gp) : TL w' g ts := by
  refine ⟨Nat.lt_of_lt_of_le h.lt t.size, fun k x hx => ?_⟩
  have e := fun j => t.cell (p := ⟨g, j, none⟩) h.lt hne
  obtain ⟨a, b, c, d⟩ := h.at_ k x hx
  exact ⟨(e _).trans a, (e _).trans b, (e _).trans c, (e _).trans d⟩
theorem PSt.touch {T : TypeId} {w w' : World} {gp g n cp : Nat} {ts : List Tk} {k e : Nat} (h : PSt T w gp g n cp ts k e) (t : Touch NoB w w') : PSt T w' gp g n cp ts k e :=
  ⟨(t.block gp (blk_lt h.blk) (fun x => x)).trans h.blk, h.tl.touch t, h.ne, h.len, h.le, h.small, h.txs⟩
theorem Touch.anyB {w w' : World} {F : Nat → Prop} (t : Touch NoB w w') : Touch F w w' := t.mono (fun _ x => x.elim)
/-- Its place written anew. -/
theorem PSt.setk {T : TypeId} {w : World} {gp g n cp : Nat} {ts : List Tk} {k e : Nat} (h : PSt T w gp g n cp ts k e) (j : Nat) (hj : j ≤ n) : PSt T (w.setCell ⟨gp, 1, none⟩ (.int .i64 (j : Int))) gp g n cp ts j e := by
  have tt : Touch (AtB gp) w (w.setCell ⟨gp, 1, none⟩ (.int .i64 (j : Int))) := (Touch.refl (AtB gp) w).setCell (p := ⟨gp, 1, none⟩) (.inl rfl) _
  exact ⟨set_blk h.blk 1 _, h.tl.touchP tt h.ne, h.ne, h.len, hj, h.small, h.txs⟩
theorem PSt.touchX {T : TypeId} {w w' : World} {gp g n cp : Nat} {ts : List Tk} {k e s : Nat} (h : PSt T w gp g n cp ts k e) (t : Touch (fun b => b = s) w w') (h1 : gp < s) (h2 : g < s) : PSt T w' gp g n cp ts k e := by
  refine ⟨(t.block gp (blk_lt h.blk) (by omega)).trans h.blk, ?_, h.ne, h.len, h.le, h.small, h.txs⟩
  refine ⟨Nat.lt_of_lt_of_le h.tl.lt t.size, fun k x hx => ?_⟩
  have hgs : ¬ g = s := by omega
  have e := fun j => t.cell (p := ⟨g, j, none⟩) h.tl.lt hgs
  obtain ⟨a, b, c, d⟩ := h.tl.at_ k x hx
  exact ⟨(e _).trans a, (e _).trans b, (e _).trans c, (e _).trans d⟩
/-- The token that comes. -/
def nxt (ts : List Tk) (k e : Nat) : Tk := if e = 0 then (ts[k]?).getD ⟨0, 0, 0, []⟩ else ⟨0, 0, 0, []⟩

theorem nxt_at {ts : List Tk} {k : Nat} {t : Tk} (h : ts[k]? = some t) : nxt ts k 0 = t := by simp [nxt, h]
theorem nxt_end {ts : List Tk} : nxt ts ts.length 0 = ⟨0, 0, 0, []⟩ := by simp [nxt]
theorem nxt_bad {ts : List Tk} {k e : Nat} (h : e ≠ 0) : nxt ts k e = ⟨0, 0, 0, []⟩ := by simp [nxt, h]
end Go.Proofs.YtnphaaahdlkmhaaGreat
end
