/-
  Bytes in memory; what signLength, wordOrName and number of package lex return.
-/
import Derived.Test.YtblcmgahgpnjmaaLa
import Derived.Test.YtblcmgahgpnjmaaLt
import Derived.Test.YtblcmgahgpnjmaaSh
import Derived.Lib.SlBytesRow
import Derived.Deep.AppendLies
namespace Go.Proofs.Ytblcmgahgpnjmaa
open Go.ChangeShapes Go.WideShapes Go.ChangeAt Go.RowKit
set_option maxRecDepth 100000
set_option maxHeartbeats 4000000

/-- Bytes as a string. -/
def bs (l : Bs) : ByteArray := ⟨l.toArray⟩
theorem bs_size (l : Bs) : (bs l).size = l.length := by simp [bs, ByteArray.size]
theorem bs_list (l : Bs) : (bs l).data.toList = l := by simp [bs]
theorem bs_toList (l : Bs) : (bs l).toList = l := by rw [ByteArray.toList_eq]; simp [bs]
theorem bs_of (s : ByteArray) : bs s.data.toList = s := by cases s; simp [bs]
theorem bs_at (l : Bs) (i : Nat) (h : i < (bs l).size) : l[i]? = some ((bs l)[i]'h) := by
  have h' : i < l.length := by rw [bs_size] at h; exact h
  rw [List.getElem?_eq_getElem h']
  simp [bs, ByteArray.getElem_eq_getElem_data]

/-- Bytes lie at A. -/
def BAt (w : World) (A : Option Addr) (l : Bs) : Prop := l ≠ [] → ∃ b off, A = some ⟨b, off, none⟩ ∧ b < w.heap.size ∧ ∀ (i : Nat) (c : UInt8), l[i]? = some c → w.cell? ⟨b, off + i, none⟩ = some (.int .u8 (c.toNat : Int))
theorem BAt.touch {w w' : World} {A : Option Addr} {l : Bs} (h : BAt w A l) (t : Touch NoB w w') : BAt w' A l := by
  intro hl
  obtain ⟨b, off, rfl, hb, hc⟩ := h hl
  exact ⟨b, off, rfl, Nat.lt_of_lt_of_le hb t.size, fun i c hi => (t.cell (p := ⟨b, off + i, none⟩) hb (fun x => x)).trans (hc i c hi)⟩
theorem BAt.nil (w : World) (A : Option Addr) : BAt w A [] := fun h => absurd rfl h
/-- The text of a slice of them. -/
theorem BAt.text {P : Program} {w : World} {b off : Nat} {l : Bs} (src e dst : TypeId) (hs : P.underlying src = some (.slice e)) (he : P.underlying e = some (.int .u8)) (hd : P.underlying dst = some .string)
    (hc : ∀ (i : Nat) (c : UInt8), l[i]? = some c → w.cell? ⟨b, off + i, none⟩ = some (.int .u8 (c.toNat : Int))) {a k : Nat} (hak : a ≤ k) (hk : k ≤ l.length) (cap : Nat) {n : Nat} (hn : n = k - a) :
    (convert src dst (.slice (some ⟨b, off + a, none⟩) n cap)).run P w = .ok (.string (bs (cut l a k))) w := by
  subst hn
  have hB : Lib.Bytes w b off (bs l) := fun i hi => hc i _ (bs_at l i hi)
  have := Lib.run_convert_window (P := P) w src e dst hs he hd b off (bs l) hB a (k - a) cap (by rw [bs_size]; omega)
  rw [this]
  congr 2
  apply ByteArray.ext
  apply Array.toList_inj.1
  unfold cut
  simp only [ByteArray.data_extract, bs, Array.toList_extract, List.extract_eq_take_drop]
  rw [show a + (k - a) - a = k - a from by omega]

/-! ### signs -/
theorem indexb_iff : ∀ (l : Bs) (c : UInt8), 0 ≤ Lib.indexByte l c ↔ l.contains c = true
  | [], c => by simp [Lib.indexByte]
  | b :: l, c => by
    have ih := indexb_iff l c
    have hge := Lib.indexByte_ge l c
    have e0 : Lib.indexByte (b :: l) c = if (b == c) = true then 0 else if (Lib.indexByte l c == -1) = true then -1 else Lib.indexByte l c + 1 := rfl
    rw [List.contains_cons, e0, Bool.or_eq_true, ← ih]
    by_cases h : b = c
    · subst h; simp
    · have h1 : ¬ (b == c) = true := by simpa using h
      have h2 : ¬ (c == b) = true := by simpa using fun e => h (Eq.symm e)
      rw [if_neg h1, eq_false h2, false_or]
      by_cases h3 : Lib.indexByte l c = -1
      · rw [if_pos (by simpa using h3)]; omega
      · rw [if_neg (by simpa using h3)]; omega
theorem indexb_some (l : Bs) (c : UInt8) : decide (0 ≤ Lib.indexByte l c) = l.contains c := by
  rw [Bool.eq_iff_iff, decide_eq_true_iff]; exact indexb_iff l c
def sg2 : Bs := [58, 60, 62, 61]
def sg1 : Bs := [123, 125, 40, 41, 59, 58, 61, 60, 43, 45, 42, 47, 44, 39]
theorem beq_nat (c k : UInt8) : (c == k) = decide (c.toNat = k.toNat) := by
  by_cases h : c = k
  · subst h; simp
  · have : ¬ c.toNat = k.toNat := fun e => h (UInt8.toNat_inj.1 e)
    simp [h, this]
theorem sgnL_eq (c : UInt8) (r : Bs) : sgnL c r = if (sg2.contains c && equal1 r) = true then 2 else if sg1.contains c = true then 1 else 0 := by
  unfold sgnL sg2 sg1
  simp only [List.contains_cons, List.contains_nil, beq_nat, Bool.or_false, Bool.and_eq_true, Bool.or_eq_true, decide_eq_true_eq]
  rfl
theorem ret_int {a b : Int} (h : a = b) : Ending.returned (.int .i64 a) = .returned (.int .i64 b) := by rw [h]

/-! ### words and names -/
/-! ### numbers -/
def fold10 (v : Nat) (l : Bs) : Nat := l.foldl (fun v c => 10 * v + (c.toNat - 48)) v
theorem fold_ge : ∀ (l : Bs) (v : Nat), v ≤ fold10 v l
  | [], v => Nat.le_refl _
  | c :: r, v => Nat.le_trans (by omega) (fold_ge r (10 * v + (c.toNat - 48)))
theorem parse_dig : ∀ (l : Bs) (v : Nat), v < 18446744073709551616 → l.all bD = true → Lib.parseUint10 v l = if fold10 v l < 18446744073709551616 then .ok (fold10 v l) else .range
  | [], v, hv, _ => by
    show Lib.NumEnd.ok v = _
    rw [if_pos (show fold10 v [] < _ from hv)]; rfl
  | c :: r, v, hv, hd => by
    simp only [List.all_cons, Bool.and_eq_true] at hd
    have hc := hd.1
    simp only [bD, decide_eq_true_eq] at hc
    have hge := fold_ge r (10 * v + (c.toNat - 48))
    have ef : fold10 v (c :: r) = fold10 (10 * v + (c.toNat - 48)) r := rfl
    rw [ef]
    simp only [Lib.parseUint10, if_pos hc]
    split
    · rw [if_neg (by omega)]
    · split
      · rw [if_neg (by omega)]
      · rw [show v * 10 + (c.toNat - 48) = 10 * v + (c.toNat - 48) from by omega]
        exact parse_dig r _ (by omega) hd.2
theorem atoi_dig {l : Bs} (hl : l ≠ []) (hd : l.all bD = true) : Lib.atoiAll l = if valL l ≤ 9223372036854775807 then .ok (valL l : Int) else .range := by
  cases l with
  | nil => exact absurd rfl hl
  | cons c r =>
    have hc := hd
    simp only [List.all_cons, Bool.and_eq_true] at hc
    have hc := hc.1
    simp only [bD, decide_eq_true_eq] at hc
    rw [Lib.atoiAll_plain c r (by omega) (by omega), Lib.parseMag, if_neg hl, parse_dig _ 0 (by decide) hd]
    have e : fold10 0 (c :: r) = valL (c :: r) := rfl
    rw [e]
    by_cases h1 : valL (c :: r) < 18446744073709551616
    · rw [if_pos h1]
      simp only [Lib.signless]
      by_cases h2 : valL (c :: r) ≤ 9223372036854775807
      · rw [if_pos h2, if_neg (by omega)]
      · rw [if_neg h2, if_pos (by omega)]
    · rw [if_neg h1, if_neg (by omega)]
      rfl
theorem touch_of {w w' : World} (h : Below w.heap.size w w') : Touch NoB w w' := ⟨h.os, h.tape, h.output, h.size, fun k hk _ => h.block k hk⟩
/-- Four cells written, one by one. -/
theorem set4 {w : World} {g : Nat} {t : TypeId} {a b c d : Value} (h : w.heap[g]? = some (.cells #[a, b, c, d] t (0, 0))) (x0 x1 x2 x3 : Value) :
    ((((w.setCell ⟨g, 0, none⟩ x0).setCell ⟨g, 1, none⟩ x1).setCell ⟨g, 2, none⟩ x2).setCell ⟨g, 3, none⟩ x3).heap[g]? = some (.cells #[x0, x1, x2, x3] t (0, 0)) := by
  have h1 := set_blk h 0 x0
  have h2 := set_blk h1 1 x1
  have h3 := set_blk h2 2 x2
  have h4 := set_blk h3 3 x3
  rw [h4]
  rfl
theorem touch4 {F : Nat → Prop} {w0 w : World} {g : Nat} (h : Touch F w0 w) (hg : F g ∨ w0.heap.size ≤ g) (x0 x1 x2 x3 : Value) :
    Touch F w0 ((((w.setCell ⟨g, 0, none⟩ x0).setCell ⟨g, 1, none⟩ x1).setCell ⟨g, 2, none⟩ x2).setCell ⟨g, 3, none⟩ x3) :=
  (((h.setCell (p := ⟨g, 0, none⟩) hg _).setCell (p := ⟨g, 1, none⟩) hg _).setCell (p := ⟨g, 2, none⟩) hg _).setCell (p := ⟨g, 3, none⟩) hg _

end Go.Proofs.Ytblcmgahgpnjmaa
