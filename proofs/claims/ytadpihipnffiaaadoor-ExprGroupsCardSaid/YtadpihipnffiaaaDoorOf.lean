/-
  ExprGroups: which of two operators binds more, in lists; every pair of the eight. No program is named here.
-/
import Derived.Test.YtadpihipnffiaaaDoorOc
namespace Go.Proofs.YtadpihipnffiaaaDoor
open Go.ChangeShapes Go.WideShapes Go.ChangeAt Go.RowKit
set_option maxRecDepth 100000
set_option maxHeartbeats 4000000

/-- What the statements' reader returns, and that it lies in new blocks. -/
theorem read_new {l : Bs} {x : Ex} {k : Nat} (h : txtE l = some (x, k)) (hlen : l.length ≤ 2000) (w : World) (hev : EN w) :
    Calls Tryd.prog 20 #[.string (bs l)] w fun e w' => ∃ (a b : Int) (s : ByteArray) (A : Option Addr) (m c : Nat), e = .returned (.tuple #[.agg #[.int .i64 a, .int .i64 b, .string s, .slice A m c], .int .i64 (k : Int)]) ∧ ET w' (fun b => w.heap.size ≤ b) x a b s A m c ∧ Touch NoB w w' := by
  obtain ⟨ts, hl, hp⟩ := txt_some h
  obtain ⟨m, hm⟩ : ∃ m, ts.length = m := ⟨_, rfl⟩
  have hmx : m ≤ 2001 := by have := pl_count l 0 ts (lex_places hl); omega
  have hpos : 0 < m := by
    rw [← hm]
    cases ts with
    | nil => exact (lex_places hl).elim
    | cons t r => simp
  obtain ⟨W0, hW0⟩ : ∃ W, w.alloc (.cells #[.int .i64 0, .int .i64 0, .string ⟨#[]⟩, .slice none 0 0] 29) = W := ⟨_, rfl⟩
  have t0 : Touch NoB w W0 := by rw [← hW0]; exact (Touch.refl _ _).alloc _
  have hb0 : XB W0 w.heap.size 0 0 ⟨#[]⟩ none 0 0 := by rw [← hW0]; exact XB.new w _ _ _ _ _ _ rfl
  obtain ⟨sx, hsx⟩ : ∃ sx, bs l = sx := ⟨_, rfl⟩
  have hsz : sx.size = l.length := by rw [← hsx, bs_size]
  obtain ⟨cap, W1, hcv, hc1, hc2, hT1, hB1⟩ := conv_any sx (by omega) W0
  rw [hsz] at hcv hc1
  have hsl : sx.data.toList = l := by rw [← hsx, bs_list]
  rw [hsl] at hB1
  have HTK := Lib.hid (rtoks_good (w := W1) (m := m) (n := l.length) hl hm rfl (by omega) hc1 hB1)
  obtain ⟨ln, hln⟩ : ∃ ln, l.length = ln := ⟨_, rfl⟩
  rw [hln] at hcv HTK
  rw [hsx]
  have HPP := Lib.hid (And.intro hm (And.intro hmx (And.intro hpos (And.intro (lex_oks hl) hp))))
  have HEV := Lib.hid (hev.touch (t0.same hT1))
  have HB0 := Lib.hid ((hT1.block _ (blk_lt hb0) (fun x => x)).trans hb0 : XB W1 w.heap.size 0 0 ⟨#[]⟩ none 0 0)
  have HT1 := Lib.hid (t0.same hT1)
  have HN := Lib.hid (fun n w => num_any n w)
  clear h hl hp hm hmx hpos t0 hb0 hsx hsz hc1 hc2 hT1 hB1 hsl hln hev hlen
  go_enter Tryd.func20, Tryd.ntmps20
  go_wp2_with fail
  refine HTK.out.mono ?_
  rintro e w2 ⟨g, cp, rfl, hTL, hT2⟩
  have HPA := Lib.hid (fun (B : Nat) (hB : LV w2 B) => parse_any (cp := cp) hTL HPP.out.1 HPP.out.2.2.1 (by have := HPP.out.2.1; omega) hB HPP.out.2.2.2.1.1 HPP.out.2.2.2.1.2)
  obtain ⟨⟨B, hB⟩, -⟩ := HEV.out.touch hT2
  have HPA := Lib.hid (HPA.out B hB)
  have HB2 := Lib.hid ((hT2.block _ (blk_lt HB0.out) (fun x => x)).trans HB0.out : XB w2 w.heap.size 0 0 ⟨#[]⟩ none 0 0)
  have HT2 := Lib.hid (HT1.out.same hT2)
  clear hTL hT2 hB hcv
  go_wp2_with fail
  refine HPA.out.mono ?_
  intro e w3 hP
  unfold ParPost at hP
  rw [HPP.out.2.2.2.2] at hP
  obtain ⟨hT3, a, b, s, A, m', c, rfl, het⟩ := hP
  obtain ⟨W3, hW3⟩ : ∃ W, w3.alloc (.cells #[.int .i64 a, .int .i64 b, .string s, .slice A m' c] 29) = W := ⟨_, rfl⟩
  have t3 : Touch NoB w3 W3 := by rw [← hW3]; exact (Touch.refl _ _).alloc _
  have hx7 : XB W3 w3.heap.size a b s A m' c := by rw [← hW3]; exact XB.new _ _ _ _ _ _ _ rfl
  have hb3 : XB W3 w.heap.size 0 0 ⟨#[]⟩ none 0 0 := ((hT3.same t3).block _ (blk_lt HB2.out) (fun x => x)).trans HB2.out
  have hlt : w.heap.size < w2.heap.size := blk_lt HB2.out
  have hlt3 : w2.heap.size ≤ w3.heap.size := hT3.size
  obtain ⟨p0, p1, p2, p3, p4⟩ := hx7.cells
  obtain ⟨z0, z1, z2, z3, z4⟩ := hb3.cells
  obtain ⟨f0, f1, f2, f3⟩ := hb3.free
  have HET := Lib.hid (het.touch0 t3)
  have HT3 := Lib.hid (HT2.out.same (hT3.same t3))
  clear het hT3 t3 hx7 hb3
  go_wp2_with (first | (go_at_call 17; refine (HN.out _ _).mono ?_; rintro e w' ⟨rfl, rfl⟩))
  have hTE := touch4 (F := NoB) HT3.out (.inr (Nat.le_refl w.heap.size)) (.int .i64 a) (.int .i64 b) (.string s) (.slice A m' c)
  have hTX := touch4 (F := fun b => b = w.heap.size) (Touch.refl _ W3) (.inl rfl) (.int .i64 a) (.int .i64 b) (.string s) (.slice A m' c)
  exact bodyPost_ret (v := .tuple #[.agg #[.int .i64 a, .int .i64 b, .string s, .slice A m' c], .int .i64 (k : Int)]) (by simp [results, Tryd.results20, go_sem, z0, z1, z2, z3]) rfl ⟨a, b, s, A, m', c, rfl, (HET.out.aside hTX (by omega)).via (fun b h1 _ => by omega), hTE⟩
def opB : List Bs := [[111, 114], [97, 110, 100], [61, 61], [60], [43], [45], [42], [47]]
def rkL : List Int := [0, 1, 2, 2, 3, 3, 4, 4]
def gr1 (p q : Bs) : Bs := [97, 32] ++ p ++ [32, 98, 32] ++ q ++ [32, 99]
def gr2 (p q : Bs) : Bs := [40, 97, 32] ++ p ++ [32, 98, 41, 32] ++ q ++ [32, 99]
def gr3 (p q : Bs) : Bs := [97, 32] ++ p ++ [32, 40, 98, 32] ++ q ++ [32, 99, 41]
def gr4 (p : Bs) : Bs := [97, 32] ++ p ++ [32, 98]
/-- What is claimed of two operators of ranks r, s. -/
def grF (p q : Bs) (r s : Int) : Bool := match txtE (gr1 p q), txtE (gr2 p q), txtE (gr3 p q), txtE (gr4 p) with
  | some (a, n), some (l, _), some (g, _), some (o, _) =>
    if r = 2 ∧ s = 2 then decide (n = 3) && a.same o
    else decide (n = 5) && !l.same g && (if s ≤ r then a.same l else a.same g)
  | _, _, _, _ => false
theorem gr_all : (List.range 8).all (fun i => (List.range 8).all fun j => grF (opB.getD i []) (opB.getD j []) (rkL.getD i 0) (rkL.getD j 0)) = true := by decide +kernel
theorem opB_len : opB.all (fun p => decide (p.length ≤ 3)) = true := by decide
/-- The same, of one pair. -/
structure GR (p q : Bs) (r s : Int) (a l g o : Ex) (n k2 k3 k4 : Nat) : Prop where
  t1 : txtE (gr1 p q) = some (a, n)
  t2 : txtE (gr2 p q) = some (l, k2)
  t3 : txtE (gr3 p q) = some (g, k3)
  t4 : txtE (gr4 p) = some (o, k4)
  two : r = 2 ∧ s = 2 → n = 3 ∧ a.same o = true
  els : ¬ (r = 2 ∧ s = 2) → n = 5 ∧ l.same g = false ∧ (s ≤ r → a.same l = true) ∧ (¬ s ≤ r → a.same g = true)
theorem gr_at {i j : Nat} (hi : i < 8) (hj : j < 8) : ∃ (p q : Bs) (r s : Int) (a l g o : Ex) (n k2 k3 k4 : Nat), opB[i]? = some p ∧ opB[j]? = some q ∧ rkL[i]? = some r ∧ rkL[j]? = some s ∧ p.length ≤ 3 ∧ q.length ≤ 3 ∧ (r = 2 ∨ r ≠ 2) ∧ GR p q r s a l g o n k2 k3 k4 := by
  have h := List.all_eq_true.1 (List.all_eq_true.1 gr_all i (List.mem_range.2 hi)) j (List.mem_range.2 hj)
  have hp : opB[i]? = some (opB.getD i []) := by rw [List.getD_eq_getElem?_getD, List.getElem?_eq_getElem (show i < opB.length from hi)]; rfl
  have hq : opB[j]? = some (opB.getD j []) := by rw [List.getD_eq_getElem?_getD, List.getElem?_eq_getElem (show j < opB.length from hj)]; rfl
  have hr : rkL[i]? = some (rkL.getD i 0) := by rw [List.getD_eq_getElem?_getD, List.getElem?_eq_getElem (show i < rkL.length from hi)]; rfl
  have hs : rkL[j]? = some (rkL.getD j 0) := by rw [List.getD_eq_getElem?_getD, List.getElem?_eq_getElem (show j < rkL.length from hj)]; rfl
  generalize opB.getD i [] = p at *
  generalize opB.getD j [] = q at *
  generalize rkL.getD i 0 = r at *
  generalize rkL.getD j 0 = s at *
  have lp : p.length ≤ 3 := by have := List.all_eq_true.1 opB_len p (List.mem_of_getElem? hp); simpa using this
  have lq : q.length ≤ 3 := by have := List.all_eq_true.1 opB_len q (List.mem_of_getElem? hq); simpa using this
  unfold grF at h
  split at h
  · rename_i a n l k2 g k3 o k4 h1 h2 h3 h4
    refine ⟨p, q, r, s, a, l, g, o, n, k2, k3, k4, hp, hq, hr, hs, lp, lq, by omega, h1, h2, h3, h4, fun e => ?_, fun e => ?_⟩
    · rw [if_pos e] at h
      simp only [Bool.and_eq_true, decide_eq_true_eq] at h
      exact h
    · rw [if_neg e] at h
      simp only [Bool.and_eq_true, decide_eq_true_eq, Bool.not_eq_true'] at h
      refine ⟨h.1.1, h.1.2, fun f => ?_, fun f => ?_⟩
      · have := h.2; rw [if_pos f] at this; exact this
      · have := h.2; rw [if_neg f] at this; exact this
  · cases h
end Go.Proofs.YtadpihipnffiaaaDoor
