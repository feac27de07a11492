/-
  Lists of tokens in memory, what the document's own Tokens returns of a text. No condition beyond those that each theorem names.
-/
import Derived.Test.YtblcmgahgpnjmaaLb
import Derived.Deep.CutBlock
namespace Go.Proofs.Ytblcmgahgpnjmaa
open Go.ChangeShapes Go.WideShapes Go.ChangeAt Go.RowKit
set_option maxRecDepth 100000
set_option maxHeartbeats 4000000

def TkV (t : Tk) : List Value := [.int .i64 t.kd, .int .i64 t.n, .int .i64 t.pl, .string (bs t.tx)]
def tkC (ts : List Tk) : List Value := ts.flatMap TkV
theorem tkC_len (ts : List Tk) : (tkC ts).length = ts.length * 4 := by
  induction ts with
  | nil => rfl
  | cons t r ih =>
    show (TkV t ++ tkC r).length = _
    rw [List.length_append, ih]
    simp [TkV]; omega
theorem tkC_snoc (ts : List Tk) (t : Tk) : tkC (ts ++ [t]) = tkC ts ++ TkV t := by simp [tkC]
/-- A token read. -/
theorem from_told {b : Bs} {i k : Nat} {c : UInt8} {ts : List Tk} {t : Tk} (h : b[i]? = some c) (hb : bB c = false) (hc : ¬ (c.toNat = 47 ∧ slash (b.drop (i + 1)) = true)) (hik : i ≤ k)
    (ht : tokL i (b.drop i) = some (t, k - i)) : Lx.pre ts (fromS false b i) = Lx.pre (ts ++ [t]) (fromS false b k) := by
  rw [from_tok h hb hc, ht]
  simp only
  rw [Lx.pre_cons, show i + (k - i) = k from by omega]
theorem from_wrong {b : Bs} {i : Nat} {c : UInt8} {ts : List Tk} (h : b[i]? = some c) (hb : bB c = false) (hc : ¬ (c.toNat = 47 ∧ slash (b.drop (i + 1)) = true))
    (ht : tokL i (b.drop i) = none) : Lx.pre ts (fromS false b i) = .bad i := by
  rw [from_tok h hb hc, ht]; rfl
theorem TkV_one (t : Tk) : ∀ u ∈ TkV t, u.oneCell' = true := by
  intro u hu
  simp [TkV] at hu
  rcases hu with rfl | rfl | rfl | rfl <;> rfl
theorem bat_at {w : World} {A : Option Addr} {b : Bs} (h : BAt w A b) {k : Nat} (hk : k < b.length) : ∃ blk off, A = some ⟨blk, off, none⟩ ∧ blk < w.heap.size ∧ (∃ c, b[k]? = some c ∧ w.cell? ⟨blk, off + k, none⟩ = some (.int .u8 (c.toNat : Int))) ∧ ∀ (i : Nat) (c : UInt8), b[i]? = some c → w.cell? ⟨blk, off + i, none⟩ = some (.int .u8 (c.toNat : Int)) := by
  obtain ⟨blk, off, h1, h2, h3⟩ := h (by intro e; subst e; simp at hk)
  exact ⟨blk, off, h1, h2, ⟨b[k], List.getElem?_eq_getElem hk, h3 k _ (List.getElem?_eq_getElem hk)⟩, h3⟩
theorem slice_from {P : Program} {t e : TypeId} (ht : P.underlying t = some (.slice e)) (hz : ∀ w, (Go.sizeOf e).run P w = .ok 1 w) (W : World) (b o len cap l : Nat) (hl : l ≤ len) (hc : l < cap) :
    (Instr.slice t (.slice (some ⟨b, o, none⟩) len cap) (some (.int .i64 (l : Int))) none none).run P W = .ok (.slice (some ⟨b, o + l, none⟩) (len - l) (cap - l)) W := by
  have ht' : P.underlying t = some (.slice (P.elem t)) := by simp [Program.elem, ht]
  have he : P.elem t = e := by simp [Program.elem, ht]
  rw [run_slice_l W t _ _ _ ht' .i64 _ (by omega) (by omega), he, hz]
  have hne : ¬ cap = l := by omega
  simp [Result.andThen, sliced, Addr.add, hne]
theorem slice_win {P : Program} {t e : TypeId} (ht : P.underlying t = some (.slice e)) (hz : ∀ w, (Go.sizeOf e).run P w = .ok 1 w) (W : World) (b o len cap l h : Nat) (hl : l ≤ h) (hc : h ≤ cap) (hlc : l < cap) :
    (Instr.slice t (.slice (some ⟨b, o, none⟩) len cap) (some (.int .i64 (l : Int))) (some (.int .i64 (h : Int))) none).run P W = .ok (.slice (some ⟨b, o + l, none⟩) (h - l) (cap - l)) W := by
  have ht' : P.underlying t = some (.slice (P.elem t)) := by simp [Program.elem, ht]
  have he : P.elem t = e := by simp [Program.elem, ht]
  rw [run_slice_lh W t _ _ _ ht' .i64 .i64 _ _ (by omega) (by omega) (by omega), he, hz]
  have hne : ¬ cap = l := by omega
  simp [Result.andThen, sliced, Addr.add, hne]
theorem wrd_bs (l : Bs) : wrd (bs l) = kw.contains l := by unfold wrd; rw [bs_toList]
theorem bt_bs (l : Bs) (i : Nat) (c : UInt8) (h : l[i]? = some c) : bt (bs l) i = (c.toNat : Int) := by
  obtain ⟨h1, h2⟩ := List.getElem?_eq_some_iff.1 h
  have hs : i < (bs l).size := by rw [bs_size]; exact h1
  have h3 := bs_at l i hs
  rw [h] at h3
  injection h3 with h3
  unfold bt
  rw [dif_pos hs, ← h3]
theorem name_bs {l : Bs} {c : UInt8} (h0 : l[0]? = some c) (hc : bL c = true) (hw : l.all bW = true) : nameB (bs l) = decide (l.length ≤ 24) := by
  have h1 : 1 ≤ l.length := by have := (List.getElem?_eq_some_iff.1 h0).1; omega
  have hall : (List.range (bs l).size).all (fun i => okB (bt (bs l) i)) = true := by
    rw [List.all_eq_true]
    intro i hi
    rw [List.mem_range, bs_size] at hi
    have hg : l[i]? = some l[i] := List.getElem?_eq_getElem hi
    rw [bt_bs l i _ hg, okB_b]
    exact List.all_eq_true.1 hw _ (List.getElem_mem hi)
  unfold nameB
  rw [bt_bs l 0 c h0, letB_b, hc, hall, bs_size]
  simp [h1]
theorem cut_0 {b : Bs} {i k : Nat} {c : UInt8} (h : b[i]? = some c) (hik : i < k) : (cut b i k)[0]? = some c := by
  unfold cut
  rw [List.getElem?_take_of_lt (by omega), List.getElem?_drop]
  exact h
theorem cut_len {P : UInt8 → Bool} {b : Bs} {i k : Nat} (h : Run P b i k) : (cut b i k).length = k - i := h.len
theorem cut_cons {b : Bs} {i k : Nat} {c : UInt8} (h : b[i]? = some c) (hik : i < k) : ∃ r, cut b i k = c :: r := by
  have := cut_0 h hik
  cases hc : cut b i k with
  | nil => rw [hc] at this; cases this
  | cons d r => rw [hc] at this; injection this with this; subst this; exact ⟨r, rfl⟩
/-- Where a run has come to an end it has begun. -/
theorem run_lt {P : UInt8 → Bool} {b : Bs} {i k : Nat} {c : UInt8} (h : Run P b i k) (hc : b[i]? = some c) (hp : P c = true) (he : ∀ d, b[k]? = some d → P d = false) : i < k := by
  by_cases e : i = k
  · subst e; have := he c hc; rw [hp] at this; cases this
  · have := h.1; omega

/-- The end of a word: what was read is told. -/
theorem told_letters {b : Bs} {i k : Nat} {c : UInt8} (h : b[i]? = some c) (hl : bL c = true) (hr : Run bW b i k) (he : ∀ d, b[k]? = some d → bW d = false) :
    ((wrd (bs (cut b i k)) || nameB (bs (cut b i k))) = false ∧ tokL i (b.drop i) = none) ∨
    ((wrd (bs (cut b i k)) || nameB (bs (cut b i k))) = true ∧ tokL i (b.drop i) = some (⟨if wrd (bs (cut b i k)) = true then 2 else 1, 0, i, cut b i k⟩, k - i)) := by
  have hik := run_lt hr h (bW_L hl) he
  rw [tok_letters h hl hr he, wrd_bs, name_bs (cut_0 h hik) hl hr.all]
  by_cases h1 : kw.contains (cut b i k) = true
  · right; rw [if_pos h1, if_pos h1, h1]; exact ⟨rfl, rfl⟩
  · have h1' : kw.contains (cut b i k) = false := by simpa using h1
    rw [if_neg h1, if_neg h1, h1', Bool.false_or]
    by_cases h2 : (cut b i k).length ≤ 24
    · right; rw [if_pos h2]; exact ⟨by simpa using h2, rfl⟩
    · left; rw [if_neg h2]; exact ⟨by simpa using h2, rfl⟩

end Go.Proofs.Ytblcmgahgpnjmaa
