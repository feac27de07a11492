/-
  Lists of tokens in memory; what package lex's Tokens returns of a text that is right, that is wrong; bytes out of a string; the example of the document. Conditions: those that each theorem names.
-/
import Derived.Test.YtmgmmbeldhleoaaDoorLj
import Derived.Lib.ConvBytes
import Derived.Lib.AtoiErrMem
import Derived.Lib.SlBytesConst
namespace Go.Proofs.YtmgmmbeldhleoaaDoor
open Go.ChangeShapes Go.WideShapes Go.ChangeAt Go.RowKit
set_option maxRecDepth 100000
set_option maxHeartbeats 4000000

/-- Tokens lie in block g from its start on. -/
structure TL (w : World) (g : Nat) (ts : List Tk) : Prop where
  lt : g < w.heap.size
  at_ : ∀ (k : Nat) (t : Tk), ts[k]? = some t → w.cell? ⟨g, k * 4, none⟩ = some (.int .i64 t.kd) ∧ w.cell? ⟨g, k * 4 + 1, none⟩ = some (.int .i64 t.n) ∧ w.cell? ⟨g, k * 4 + 2, none⟩ = some (.int .i64 t.pl) ∧ w.cell? ⟨g, k * 4 + 3, none⟩ = some (.string (bs t.tx))
theorem TL.touch {w w' : World} {g : Nat} {ts : List Tk} (h : TL w g ts) (t : Touch NoB w w') : TL w' g ts := by
  refine ⟨Nat.lt_of_lt_of_le h.lt t.size, fun k x hx => ?_⟩
  have e := fun j => t.cell (p := ⟨g, j, none⟩) h.lt (fun x => x)
  obtain ⟨a, b, c, d⟩ := h.at_ k x hx
  exact ⟨(e _).trans a, (e _).trans b, (e _).trans c, (e _).trans d⟩
theorem tkC_at (ts : List Tk) : ∀ (k : Nat) (t : Tk), ts[k]? = some t → (tkC ts)[k * 4]? = some (.int .i64 t.kd) ∧ (tkC ts)[k * 4 + 1]? = some (.int .i64 t.n) ∧ (tkC ts)[k * 4 + 2]? = some (.int .i64 t.pl) ∧ (tkC ts)[k * 4 + 3]? = some (.string (bs t.tx)) := by
  induction ts with
  | nil => intro k t h; cases h
  | cons a r ih =>
    intro k t h
    have e : tkC (a :: r) = TkV a ++ tkC r := rfl
    have hl : (TkV a).length = 4 := rfl
    cases k with
    | zero => simp only [List.getElem?_cons_zero, Option.some.injEq] at h; subst h; rw [e]; exact ⟨rfl, rfl, rfl, rfl⟩
    | succ k =>
      have := ih k t (by simpa using h)
      rw [e]
      refine ⟨?_, ?_, ?_, ?_⟩ <;> rw [List.getElem?_append_right (by rw [hl]; omega), hl]
      · rw [show (k + 1) * 4 - 4 = k * 4 from by omega]; exact this.1
      · rw [show (k + 1) * 4 + 1 - 4 = k * 4 + 1 from by omega]; exact this.2.1
      · rw [show (k + 1) * 4 + 2 - 4 = k * 4 + 2 from by omega]; exact this.2.2.1
      · rw [show (k + 1) * 4 + 3 - 4 = k * 4 + 3 from by omega]; exact this.2.2.2
theorem TL.of_row {w : World} {B : Nat} {v : Value} {ts : List Tk} (h : w.ownsRow B 35 4 v ts.length (tkC ts)) (hn : 0 < ts.length) : ∃ g cap, v = .slice (some ⟨g, 0, none⟩) ts.length cap ∧ TL w g ts := by
  obtain ⟨g, cap, rfl, -, -, hob⟩ := row_form h hn
  refine ⟨g, cap, rfl, row_lt h hob, fun k t hk => ?_⟩
  have hk1 := (List.getElem?_eq_some_iff.1 hk).1
  obtain ⟨a, b, c, d⟩ := tkC_at ts k t hk
  have e := fun j (hj : j < ts.length * 4) => h.cellAt j hj
  exact ⟨(e _ (by omega)).trans a, (e _ (by omega)).trans b, (e _ (by omega)).trans c, (e _ (by omega)).trans d⟩

theorem good_pos {b : Bs} {ts : List Tk} (h : lexL b = .good ts) : 0 < ts.length := by
  have := lex_places h
  cases ts with
  | nil => exact this.elim
  | cons t r => simp
/-- A text that is right. -/
theorem toks_good {A : Option Addr} {n cap m : Nat} {z : Int} {b : Bs} {w : World} {ts : List Tk} (h : lexL b = .good ts) (hm : ts.length = m) (hz : (n : Int) = z) (hn : b.length = n) (hmax : n ≤ 65536) (hcap : n ≤ cap) (hc63 : cap ≤ 9223372036854775807) (hb : BAt w A b) (hev : EV w) :
    Calls Tryd.prog 10 #[.slice A n cap] w fun e w' => ∃ g cp, e = .returned (.tuple #[.slice (some ⟨g, 0, none⟩) m cp, .int .i64 z, .int .i64 0]) ∧ TL w' g ts ∧ Touch NoB w w' := by
  refine (tokens_any A n cap b w hn hcap hc63 hb hev).mono ?_
  intro e w' hP
  unfold TokPost at hP
  rw [if_pos (by omega), h] at hP
  obtain ⟨hT, vl, rfl, ho⟩ := hP
  obtain ⟨g, cp, rfl, hTL⟩ := TL.of_row ho (good_pos h)
  exact ⟨g, cp, by rw [hn, hm, hz], hTL, hT⟩
/-- A text that is wrong at place p. -/
theorem toks_bad {A : Option Addr} {n cap : Nat} {b : Bs} {w : World} {p : Nat} (h : lexL b = .bad p) (hn : b.length = n) (hmax : n ≤ 65536) (hcap : n ≤ cap) (hc63 : cap ≤ 9223372036854775807) (hb : BAt w A b) (hev : EV w) :
    Calls Tryd.prog 10 #[.slice A n cap] w fun e w' => e = .returned (.tuple #[.slice none 0 0, .int .i64 p, .int .i64 2]) ∧ Touch NoB w w' := by
  refine (tokens_any A n cap b w hn hcap hc63 hb hev).mono ?_
  intro e w' hP
  unfold TokPost at hP
  rw [if_pos (by omega), h] at hP
  obtain ⟨hT, rfl⟩ := hP
  exact ⟨rfl, hT⟩
/-- Bytes laid as a literal. -/
theorem bat_const (w : World) (C : Array Value) (t : TypeId) (fr : Nat × Nat) (l : Bs) (hC : C.toList = l.map fun c => .int .u8 (c.toNat : Int)) {N : Nat} (hN : w.heap.size = N) : BAt (w.alloc (.cells C t fr)) (some ⟨N, 0, none⟩) l := by
  intro _
  subst hN
  refine ⟨w.heap.size, 0, rfl, by simp, fun i c hi => ?_⟩
  have h : (w.alloc (.cells C t fr)).heap[w.heap.size]? = some (.cells C t fr) := heap_alloc_new w _
  rw [cell_of_row _ _ _ _ _ _ h, Nat.zero_add, ← Array.getElem?_toList, hC, List.getElem?_map, hi]
  rfl
/-- Bytes out of a string. -/
theorem conv_any (s : ByteArray) (hs : s.size ≤ 1000000) (W : World) : ∃ (cap : Nat) (w' : World), (convert 9 22 (.string s)).run Tryd.prog W = .ok (.slice (some ⟨W.heap.size, 0, none⟩) s.size cap) w' ∧
    s.size ≤ cap ∧ cap ≤ 9223372036854775807 ∧ Touch NoB W w' ∧ BAt w' (some ⟨W.heap.size, 0, none⟩) s.data.toList := by
  refine ⟨_, _, Lib.run_convert_string_bytes W 9 22 5 s Tryd.underlying9 Tryd.underlying22 Tryd.underlying5, grownCap_ge _ _ _ _, ?_, touch_of (Lib.bytesWorld_below _ _ _), ?_⟩
  · have := grownCap_le_maxLen W s.size 0 5 (by unfold maxLen; omega)
    unfold maxLen at this
    omega
  · intro _
    refine ⟨_, 0, rfl, by rw [Lib.bytesWorld_size]; omega, fun i c hi => ?_⟩
    have hi' : i < s.size := by have := (List.getElem?_eq_some_iff.1 hi).1; simpa using this
    rw [Nat.zero_add, Lib.bytesWorld_cell W _ s i hi']
    congr 2
    simp only [List.getD, hi, Option.getD_some]
theorem num_any (n : Int) (w : World) :
    Calls Tryd.prog 13 #[.int .i64 n] w fun e w' => e = .returned (.int .i64 n) ∧ w = w' := by
  go_enter Tryd.func13, Tryd.ntmps13
  go_wp2
  go_ret
  exact ⟨rfl, rfl⟩
theorem alive_any (w : World) (hev : EV w) : Calls Tryd.prog 9 #[] w fun e w' => e = .returned (.bool true) ∧ Touch NoB w w' := by
  have HT1 := Lib.hid (toks_good (A := none) (n := 0) (cap := 0) (b := []) (w := w) lex_nil rfl rfl rfl (by decide) (by decide) (by decide) (BAt.nil _ _) hev)
  have HT2 := Lib.hid (fun W hE => toks_good (A := some ⟨W.heap.size, 0, none⟩) (n := 4) (cap := 4) (b := [97, 58, 61, 49]) (w := W.alloc (.cells #[.int .u8 97, .int .u8 58, .int .u8 61, .int .u8 49] 5 (4, 5))) lex_ex rfl rfl rfl (by decide) (by decide) (by decide) (bat_const W _ _ _ _ rfl rfl) hE)
  have HN := Lib.hid (fun n w => num_any n w)
  have HE := Lib.hid hev
  have hkc := fun (w : World) (C : Array Value) (n c : Nat) => Lib.run_convert_bytes_const w 22 5 C n c Tryd.underlying22 Tryd.underlying5
  clear hev
  go_enter Tryd.func9, Tryd.ntmps9
  go_wp2_with fail
  refine HT1.out.mono ?_
  rintro e w1 ⟨g1, cp1, rfl, -, hT1⟩
  have HE1 := Lib.hid (And.intro hT1 (HE.out.touch hT1))
  clear hT1
  go_wp2_with fail
  refine (HT2.out w1 (HE1.out.2.touch ((Touch.refl _ _).alloc _))).mono ?_
  rintro e w2 ⟨g2, cp2, rfl, hL, hT2⟩
  obtain ⟨-, -, -, k3⟩ := hL.at_ 1 ⟨4, 0, 1, [58, 61]⟩ rfl
  have hlt := hL.lt
  have HE2 := Lib.hid (HE1.out.1.same (Touch.same ((Touch.refl _ _).alloc _) hT2))
  clear hL hT2
  go_wp2_with (first | (go_at_call 13; refine (HN.out _ _).mono ?_; rintro e w' ⟨rfl, rfl⟩))
  go_ret
  exact ⟨ret_bool (by rw [bs_toList]; rfl), HE2.out⟩
end Go.Proofs.YtmgmmbeldhleoaaDoor
