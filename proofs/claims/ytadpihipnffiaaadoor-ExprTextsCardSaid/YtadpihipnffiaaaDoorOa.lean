/-
  What package expr's Print returns of a valid expression. Conditions: the library's table can be read; at most 900000 bytes.
-/
import Derived.Test.YtadpihipnffiaaaDoorQz
namespace Go.Proofs.YtadpihipnffiaaaDoor
open Go.ChangeShapes Go.WideShapes Go.ChangeAt Go.RowKit
set_option maxRecDepth 100000
set_option maxHeartbeats 4000000

theorem write_all : ∀ N : Nat, WriteOk N
  | 0 => fun x h => by cases x <;> simp [Ex.depth] at h
  | N + 1 => by
    have ih := write_all N
    intro x hN hv w B v l a b s A m c h hx hl
    cases x with
    | leaf k n q =>
      obtain ⟨rfl, rfl, rfl, rfl, rfl, rfl⟩ := hx
      rcases hv with ⟨rfl, h0, h1, rfl⟩ | ⟨rfl, h0, rfl⟩ | ⟨h0, rfl, h1⟩ | ⟨h0, rfl, rfl⟩
      · have e : prt (.leaf 0 b []) = Lib.itoa b := by unfold prt; rw [if_pos rfl]
        rw [e] at hl ⊢
        exact wr_int h h0 h1 (by omega)
      · have e : prt (.leaf 1 b []) = truB (decide (b = 1)) := by unfold prt; rw [if_neg (by decide), if_pos rfl]
        rw [e] at hl ⊢
        rcases h0 with rfl | rfl
        · exact wr_bool h (.inl rfl) (by have : (truB (decide ((0 : Int) = 1))).length = 5 := rfl; omega)
        · exact wr_bool h (.inr rfl) (by have : (truB (decide ((1 : Int) = 1))).length = 4 := rfl; omega)
      · rcases h0 with rfl | rfl
        · have e : prt (.leaf 2 0 q) = q := by unfold prt; rw [if_neg (by decide), if_neg (by decide), if_pos rfl]
          rw [e] at hl ⊢
          exact wr_name h hl
        · have e : prt (.leaf 3 0 q) = 39 :: q := by unfold prt; rw [if_neg (by decide), if_neg (by decide), if_neg (by decide), if_pos rfl]
          rw [e] at hl ⊢
          exact wr_sym h (by simp at hl; omega)
      · have e : prt (.leaf a 0 []) = wordB a := by unfold prt; rw [if_neg (by omega), if_neg (by omega), if_neg (by omega), if_neg (by omega)]
        rw [e] at hl ⊢
        exact wr_word h0 h hl
    | one k x =>
      have hk := hx.kid 0 x rfl
      obtain ⟨rfl, rfl, rfl, rfl, rfl, g, fr, a1, b1, t1, A1, m1, c1, ⟨rfl, hg⟩, -, -⟩ := hx
      obtain ⟨g', a2, b2, t2, A2, m2, c2, e, hk⟩ := hk
      injection e with e
      injection e with e
      subst e
      exact wr_one ih (by simp only [Ex.depth] at hN; omega) hv.2 hv.1 h hg hk hl
    | two k x y =>
      have hk0 := hx.kid 0 x rfl
      have hk1 := hx.kid 1 y rfl
      obtain ⟨rfl, rfl, rfl, rfl, rfl, g, fr, a1, b1, t1, A1, m1, c1, a2, b2, t2, A2, m2, c2, ⟨rfl, hg⟩, -, -, -⟩ := hx
      obtain ⟨g', a3, b3, t3, A3, m3, c3, e, hk0⟩ := hk0
      injection e with e
      injection e with e
      subst e
      obtain ⟨g', a4, b4, t4, A4, m4, c4, e, hk1⟩ := hk1
      injection e with e
      injection e with e
      subst e
      have hdx : x.depth ≤ N := by simp only [Ex.depth] at hN; omega
      have hdy : y.depth ≤ N := by simp only [Ex.depth] at hN; omega
      by_cases hk : a = 15 ∨ a = 19
      · have e : prt (.two a x y) = wordB a ++ ([40] ++ prt x ++ [44, 32] ++ prt y ++ [41]) := by rw [prt]; unfold ahd btw; rw [if_pos hk, if_pos hk]
        rw [e] at hl ⊢
        exact wr_far ih hdx hdy hv.2.1 hv.2.2 hk h hg hk0 hk1 hl
      · have e : prt (.two a x y) = [40] ++ prt x ++ ([32] ++ wordB a ++ [32]) ++ prt y ++ [41] := by rw [prt]; unfold ahd btw; rw [if_neg hk, if_neg hk]; rfl
        rw [e] at hl ⊢
        exact wr_bin ih hdx hdy hv.2.1 hv.2.2 (by have := hv.1; omega) h hg hk0 hk1 hl
theorem prt_ne : ∀ {x : Ex}, vE x → prt x ≠ []
  | .leaf k n q, hv => by
    rcases hv with ⟨rfl, h0, h1, rfl⟩ | ⟨rfl, h0, rfl⟩ | ⟨h0, rfl, h1⟩ | ⟨h0, rfl, rfl⟩
    · unfold prt; rw [if_pos rfl]; unfold Lib.itoa
      split
      · simp
      · rw [Lib.decDigits]; split <;> simp
    · rcases h0 with rfl | rfl <;> decide
    · rcases h0 with rfl | rfl
      · unfold prt
        rw [if_neg (by decide), if_neg (by decide), if_pos rfl]
        intro e
        subst e
        revert h1
        decide
      · unfold prt
        rw [if_neg (by decide), if_neg (by decide), if_neg (by decide), if_pos rfl]
        simp
    · rcases h0 with rfl | rfl <;> decide
  | .one k x, hv => by simp [prt]
  | .two k x y, hv => by simp [prt]
theorem conv_back {w : World} {B : Nat} {v : Value} {l : Bs} (h : BR w B v l) (hne : l ≠ []) : (convert 26 9 v).run Tryd.prog w = .ok (.string (bs l)) w := by
  obtain ⟨A, cap, rfl, -, -, hb⟩ := h.bat
  obtain ⟨blk, off, rfl, -, hc⟩ := hb hne
  exact run_convert_bytes_back w 26 9 5 ⟨blk, off, none⟩ cap l Tryd.underlying26 Tryd.underlying5 Tryd.underlying9 (fun j hj => by rw [add_plain]; exact hc j _ (List.getElem?_eq_getElem hj))
theorem print_any {x : Ex} (hd : x.depth ≤ 40) (hv : vE x) (hl : (prt x).length ≤ 900000) (w : World) (htab : Lib.TabIs Tryd.prog w "internal/strconv.uint64pow10" .u64 Lib.pow10Tab) {Q : Nat → Prop} {a b : Int} {s : ByteArray} {A : Option Addr} {m c : Nat} (hx : ET w Q x a b s A m c) :
    Calls Tryd.prog 18 #[.agg #[.int .i64 a, .int .i64 b, .string s, .slice A m c]] w fun e w' => e = .returned (.string (bs (prt x))) ∧ Touch NoB w w' := by
  obtain ⟨W0, hW0⟩ : ∃ W, w.alloc (.cells #[.int .i64 a, .int .i64 b, .string s, .slice A m c] 29) = W := ⟨_, rfl⟩
  have t0 : Touch NoB w W0 := by rw [← hW0]; exact (Touch.refl _ _).alloc _
  have hx0 : XB W0 w.heap.size a b s A m c := by rw [← hW0]; exact XB.new _ _ _ _ _ _ _ rfl
  have hs0 : W0.heap.size = w.heap.size + 1 := by rw [← hW0]; simp only [World.size_alloc]
  have HR := Lib.hid (Right_any hd hv W0 (hx.touch0 t0))
  have hx' : ET w (fun b => b < w.heap.size) x a b s A m c := hx.via (fun b _ h => h)
  have HWR := Lib.hid (fun (W : World) (t : Touch NoB w W) => write_all 40 x hd hv W w.heap.size (.slice none 0 0) [] _ _ _ _ _ _ ⟨BR.nil _ _, t.size, (Lib.tabBelow_of_tabIs htab).on (t.belowB (Nat.le_refl _))⟩ (hx'.touch0 t) (by simpa using hl))
  have HNE := Lib.hid (prt_ne hv)
  have HT0 := Lib.hid t0
  have HX0 := Lib.hid hx0
  obtain ⟨z0, z1, z2, z3, z4⟩ := hx0.cells
  clear hx hx' t0 hx0 hd hv hl htab
  go_enter Tryd.func18, Tryd.ntmps18
  go_wp2_with fail
  refine HR.out.mono ?_
  rintro r w1 ⟨rfl, hT1⟩
  have hx1 : XB w1 w.heap.size a b s A m c := (hT1.block _ (by omega) (fun x => x)).trans HX0.out
  obtain ⟨y0, y1, y2, y3, y4⟩ := hx1.cells
  have HC := Lib.hid (HWR.out w1 (HT0.out.same hT1))
  have HT1 := Lib.hid (HT0.out.same hT1)
  clear hT1 hx1
  go_wp2_with fail
  refine HC.out.mono ?_
  rintro r w2 ⟨v2, rfl, hs2, hb2⟩
  have hcv := conv_back hs2.row (by rw [List.nil_append]; exact HNE.out)
  rw [List.nil_append] at hcv
  have HE : Hid (Touch NoB w w2) := Lib.hid (touch_of ((HT1.out.below (fun b x => x.elim)).trans hb2))
  clear hs2 hb2
  go_wp2
  go_ret
  exact ⟨rfl, HE.out⟩
end Go.Proofs.YtadpihipnffiaaaDoor
