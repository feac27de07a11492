/-
  What package expr's Print returns of a valid expression. Conditions: the library's table can be read; at most 900000 bytes.
-/
import Derived.Test.YtkmbobfjoaldgaaGreatDoorZa5
import Derived.Test.YtkmbobfjoaldgaaGreatDoorZa3
import Derived.Deep.AppendLies
import Derived.Deep.DeepCutAuto
import Derived.Deep.RegionWith
namespace Go.Proofs.YtkmbobfjoaldgaaGreatDoor
open Go.ChangeShapes Go.WideShapes Go.ChangeAt Go.RowKit
set_option maxRecDepth 100000
set_option maxHeartbeats 4000000

theorem write_all : ∀ N : Nat, WriteOk N
  | 0 => fun x h => by cases x <;> simp [Ex.depth] at h
  | N + 1 => by
    have ih := write_all N
    intro x hN hv w B v l a b s A m c h hx hl
    cases x with
    | leaf k n q =>
      obtain ⟨rfl, rfl, rfl, rfl, rfl, rfl⟩ := hx
      rcases hv with ⟨rfl, h0, h1, rfl⟩ | ⟨rfl, h0, rfl⟩ | ⟨h0, rfl, h1⟩ | ⟨h0, rfl, rfl⟩
      · have e : prt (.leaf 0 b []) = Lib.itoa b := by unfold prt; rw [if_pos rfl]
        rw [e] at hl ⊢
        exact wr_int h h0 h1 (by omega)
      · have e : prt (.leaf 1 b []) = truB (decide (b = 1)) := by unfold prt; rw [if_neg (by decide), if_pos rfl]
        rw [e] at hl ⊢
        rcases h0 with rfl | rfl
        · exact wr_bool h (.inl rfl) (by have : (truB (decide ((0 : Int) = 1))).length = 5 := rfl; omega)
        · exact wr_bool h (.inr rfl) (by have : (truB (decide ((1 : Int) = 1))).length = 4 := rfl; omega)
      · rcases h0 with rfl | rfl
        · have e : prt (.leaf 2 0 q) = q := by unfold prt; rw [if_neg (by decide), if_neg (by decide), if_pos rfl]
          rw [e] at hl ⊢
          exact wr_name h hl
        · have e : prt (.leaf 3 0 q) = 39 :: q := by unfold prt; rw [if_neg (by decide), if_neg (by decide), if_neg (by decide), if_pos rfl]
          rw [e] at hl ⊢
          exact wr_sym h (by simp at hl; omega)
      · have e : prt (.leaf a 0 []) = wordB a := by unfold prt; rw [if_neg (by omega), if_neg (by omega), if_neg (by omega), if_neg (by omega)]
        rw [e] at hl ⊢
        exact wr_word h0 h hl
    | one k x =>
      have hk := hx.kid 0 x rfl
      obtain ⟨rfl, rfl, rfl, rfl, rfl, g, fr, a1, b1, t1, A1, m1, c1, ⟨rfl, hg⟩, -, -⟩ := hx
      obtain ⟨g', a2, b2, t2, A2, m2, c2, e, hk⟩ := hk
      injection e with e
      injection e with e
      subst e
      exact wr_one ih (by simp only [Ex.depth] at hN; omega) hv.2 hv.1 h hg hk hl
    | two k x y =>
      have hk0 := hx.kid 0 x rfl
      have hk1 := hx.kid 1 y rfl
      obtain ⟨rfl, rfl, rfl, rfl, rfl, g, fr, a1, b1, t1, A1, m1, c1, a2, b2, t2, A2, m2, c2, ⟨rfl, hg⟩, -, -, -⟩ := hx
      obtain ⟨g', a3, b3, t3, A3, m3, c3, e, hk0⟩ := hk0
      injection e with e
      injection e with e
      subst e
      obtain ⟨g', a4, b4, t4, A4, m4, c4, e, hk1⟩ := hk1
      injection e with e
      injection e with e
      subst e
      have hdx : x.depth ≤ N := by simp only [Ex.depth] at hN; omega
      have hdy : y.depth ≤ N := by simp only [Ex.depth] at hN; omega
      by_cases hk : a = 15 ∨ a = 19
      · have e : prt (.two a x y) = wordB a ++ ([40] ++ prt x ++ [44, 32] ++ prt y ++ [41]) := by rw [prt]; unfold ahd btw; rw [if_pos hk, if_pos hk]
        rw [e] at hl ⊢
        exact wr_far ih hdx hdy hv.2.1 hv.2.2 hk h hg hk0 hk1 hl
      · have e : prt (.two a x y) = [40] ++ prt x ++ ([32] ++ wordB a ++ [32]) ++ prt y ++ [41] := by rw [prt]; unfold ahd btw; rw [if_neg hk, if_neg hk]; rfl
        rw [e] at hl ⊢
        exact wr_bin ih hdx hdy hv.2.1 hv.2.2 (by have := hv.1; omega) h hg hk0 hk1 hl
theorem prt_ne : ∀ {x : Ex}, vE x → prt x ≠ []
  | .leaf k n q, hv => by
    rcases hv with ⟨rfl, h0, h1, rfl⟩ | ⟨rfl, h0, rfl⟩ | ⟨h0, rfl, h1⟩ | ⟨h0, rfl, rfl⟩
    · unfold prt; rw [if_pos rfl]; unfold Lib.itoa
      split
      · simp
      · rw [Lib.decDigits]; split <;> simp
    · rcases h0 with rfl | rfl <;> decide
    · rcases h0 with rfl | rfl
      · unfold prt
        rw [if_neg (by decide), if_neg (by decide), if_pos rfl]
        intro e
        subst e
        revert h1
        decide
      · unfold prt
        rw [if_neg (by decide), if_neg (by decide), if_neg (by decide), if_pos rfl]
        simp
    · rcases h0 with rfl | rfl <;> decide
  | .one k x, hv => by simp [prt]
  | .two k x y, hv => by simp [prt]
theorem conv_back {w : World} {B : Nat} {v : Value} {l : Bs} (h : BR w B v l) (hne : l ≠ []) : (convert 33 9 v).run Tryz.prog w = .ok (.string (bs l)) w := by
  obtain ⟨A, cap, rfl, -, -, hb⟩ := h.bat
  obtain ⟨blk, off, rfl, -, hc⟩ := hb hne
  exact run_convert_bytes_back w 33 9 5 ⟨blk, off, none⟩ cap l Tryz.underlying33 Tryz.underlying5 Tryz.underlying9 (fun j hj => by rw [add_plain]; exact hc j _ (List.getElem?_eq_getElem hj))
theorem print_any {x : Ex} (hd : x.depth ≤ 40) (hv : vE x) (hl : (prt x).length ≤ 900000) (w : World) (htab : Lib.TabIs Tryz.prog w "internal/strconv.uint64pow10" .u64 Lib.pow10Tab) {Q : Nat → Prop} {a b : Int} {s : ByteArray} {A : Option Addr} {m c : Nat} (hx : ET w Q x a b s A m c) :
    Calls Tryz.prog 133 #[.agg #[.int .i64 a, .int .i64 b, .string s, .slice A m c]] w fun e w' => e = .returned (.string (bs (prt x))) ∧ Touch NoB w w' := by
  obtain ⟨W0, hW0⟩ : ∃ W, w.alloc (.cells #[.int .i64 a, .int .i64 b, .string s, .slice A m c] 44) = W := ⟨_, rfl⟩
  have t0 : Touch NoB w W0 := by rw [← hW0]; exact (Touch.refl _ _).alloc _
  have hx0 : XB W0 w.heap.size a b s A m c := by rw [← hW0]; exact XB.new _ _ _ _ _ _ _ rfl
  have hs0 : W0.heap.size = w.heap.size + 1 := by rw [← hW0]; simp only [World.size_alloc]
  have HR := Lib.hid (Right_any hd hv W0 (hx.touch0 t0))
  have hx' : ET w (fun b => b < w.heap.size) x a b s A m c := hx.via (fun b _ h => h)
  have HWR := Lib.hid (fun (W : World) (t : Touch NoB w W) => write_all 40 x hd hv W w.heap.size (.slice none 0 0) [] _ _ _ _ _ _ ⟨BR.nil _ _, t.size, (Lib.tabBelow_of_tabIs htab).on (t.belowB (Nat.le_refl _))⟩ (hx'.touch0 t) (by simpa using hl))
  have HNE := Lib.hid (prt_ne hv)
  have HT0 := Lib.hid t0
  have HX0 := Lib.hid hx0
  obtain ⟨z0, z1, z2, z3, z4⟩ := hx0.cells
  clear hx hx' t0 hx0 hd hv hl htab
  go_enter Tryz.func133, Tryz.ntmps133
  go_wp2_with fail
  refine HR.out.mono ?_
  rintro r w1 ⟨rfl, hT1⟩
  have hx1 : XB w1 w.heap.size a b s A m c := (hT1.block _ (by omega) (fun x => x)).trans HX0.out
  obtain ⟨y0, y1, y2, y3, y4⟩ := hx1.cells
  have HC := Lib.hid (HWR.out w1 (HT0.out.same hT1))
  have HT1 := Lib.hid (HT0.out.same hT1)
  clear hT1 hx1
  go_wp2_with fail
  refine HC.out.mono ?_
  rintro r w2 ⟨v2, rfl, hs2, hb2⟩
  have hcv := conv_back hs2.row (by rw [List.nil_append]; exact HNE.out)
  rw [List.nil_append] at hcv
  have HE : Hid (Touch NoB w w2) := Lib.hid (touch_of ((HT1.out.below (fun b x => x.elim)).trans hb2))
  clear hs2 hb2
  go_wp2
  go_ret
  exact ⟨rfl, HE.out⟩
end Go.Proofs.YtkmbobfjoaldgaaGreatDoor

/-
  What package tree's another does with a parser and a node in memory, but for picks. Conditions: those that each theorem names.
-/
namespace Go.Proofs.YtkmbobfjoaldgaaGreatDoor
open Go.ChangeShapes Go.WideShapes Go.ChangeAt Go.RowKit
set_option maxRecDepth 100000
set_option maxHeartbeats 4000000

theorem another_few {w : World} {gp qn kd m kc : Nat} {kA : Option Addr} {v1 v2 v3 v4 v5 v6 v7 v9 : Value} (hk : kd ≤ 15) (hf : mostL kd ≤ 1) (hb : NB w qn (.int .i64 (kd : Int)) v1 v2 v3 v4 v5 v6 v7 (.slice kA m kc) v9) :
    Calls Tryz.prog 114 #[.pointer (some ⟨gp, 0, none⟩), .pointer (some ⟨qn, 0, none⟩)] w fun x w' => x = .returned (.bool (decide (m < mostL kd))) ∧ w = w' := by
  obtain ⟨c0, c1, c2, c3, c4, c5, c6, c7, c8, c9, cl⟩ := hb.cells
  have HM := Lib.hid (fun w => mostkids_any kd hk w)
  obtain ⟨mo, hmo⟩ : ∃ mo, mostL kd = mo := ⟨_, rfl⟩
  rw [hmo] at hf HM ⊢
  have h1 : decide ((mo : Int) ≤ 1) = true := by simp; omega
  have h1' : decide (mo ≤ 1) = true := by simp; omega
  obtain ⟨bb, hbb⟩ : ∃ bb, decide (m < mo) = bb := ⟨_, rfl⟩
  have h2 : decide ((m : Int) < (mo : Int)) = bb := by rw [← hbb]; congr 1; simp
  rw [hbb]
  clear hb hmo hk hf
  go_enter Tryz.func114, Tryz.ntmps114
  go_wp2_with fail
  refine (HM.out _).mono ?_
  rintro x w1 ⟨rfl, rfl⟩
  go_wp2
  go_ret
  exact ⟨rfl, rfl⟩
theorem another_shut {w : World} {gp g n cp qn kd m kc : Nat} {kA : Option Addr} {ts : List Tk} {σ : St} {v1 v2 v3 v4 v5 v6 v7 v9 : Value} (hk : kd ≤ 15) (hf : ¬ mostL kd ≤ 1) (hb : NB w qn (.int .i64 (kd : Int)) v1 v2 v3 v4 v5 v6 v7 (.slice kA m kc) v9)
    (h : PS2 57 w gp g n cp ts σ) (hm : 0 < m) (hi : isS ts [125] σ = true) :
    Calls Tryz.prog 114 #[.pointer (some ⟨gp, 0, none⟩), .pointer (some ⟨qn, 0, none⟩)] w fun x w' => x = .returned (.bool false) ∧ PS2 57 w' gp g n cp ts (acS ts [125] σ) ∧ Touch (AtB gp) w w' := by
  obtain ⟨c0, c1, c2, c3, c4, c5, c6, c7, c8, c9, cl⟩ := hb.cells
  have HM := Lib.hid (fun w => mostkids_any kd hk w)
  obtain ⟨mo, hmo⟩ : ∃ mo, mostL kd = mo := ⟨_, rfl⟩
  rw [hmo] at hf HM
  have h1 : decide ((mo : Int) ≤ 1) = false := by simp; omega
  have h1' : decide (mo ≤ 1) = false := by simp; omega
  have h2 : decide ((0 : Int) < (m : Int)) = true := by simp; omega
  have h2' : decide (0 < m) = true := by simp; omega
  have HA : Hid (Calls Tryz.prog 80 #[.pointer (some ⟨gp, 0, none⟩), .string ⟨#[125]⟩] w fun x w' => x = .returned (.bool true) ∧ PS2 57 w' gp g n cp ts (acS ts [125] σ) ∧ Touch (AtB gp) w w') := Lib.hid (accept_at (s := [125]) h hi)
  obtain ⟨st, hst⟩ : ∃ st, acS ts [125] σ = st := ⟨_, rfl⟩
  rw [hst] at HA ⊢
  clear hb hmo hk hf h hst hi hm
  go_enter Tryz.func114, Tryz.ntmps114
  go_wp2_with fail
  refine (HM.out _).mono ?_
  rintro x w1 ⟨rfl, rfl⟩
  go_wp2_with fail
  refine HA.out.mono ?_
  rintro x w2 ⟨rfl, p1, p2⟩
  have HE := Lib.hid (And.intro p1 p2)
  clear p1 p2
  go_wp2
  go_ret
  exact ⟨rfl, HE.out.1, HE.out.2⟩
/-- A further kid, of a node that is no pick. -/
theorem another_more {w : World} {gp g n cp qn kd m kc : Nat} {kA : Option Addr} {ts : List Tk} {σ : St} {v1 v2 v3 v4 v5 v6 v7 v9 : Value} (hk : kd ≤ 15) (hf : ¬ mostL kd ≤ 1) (hp : kd ≠ 11) (hb : NB w qn (.int .i64 (kd : Int)) v1 v2 v3 v4 v5 v6 v7 (.slice kA m kc) v9)
    (hqg : qn ≠ gp) (h : PS2 57 w gp g n cp ts σ) (hm : (decide (0 < m) && isS ts [125] σ) = false) :
    Calls Tryz.prog 114 #[.pointer (some ⟨gp, 0, none⟩), .pointer (some ⟨qn, 0, none⟩)] w fun x w' => x = .returned (.bool true) ∧ PS2 57 w' gp g n cp ts (if m = mostL kd then failS 9 σ else σ) ∧ Touch (AtB gp) w w' := by
  obtain ⟨c0, c1, c2, c3, c4, c5, c6, c7, c8, c9, cl⟩ := hb.cells
  have HM := Lib.hid (fun w => mostkids_any kd hk w)
  obtain ⟨mo, hmo⟩ : ∃ mo, mostL kd = mo := ⟨_, rfl⟩
  rw [hmo] at hf HM ⊢
  have h1 : decide ((mo : Int) ≤ 1) = false := by simp; omega
  have h1' : decide (mo ≤ 1) = false := by simp; omega
  have h11 : ((kd : Int) == 11) = false := by simp; omega
  have HF := Lib.hid (fun (W : World) (q : PS2 57 W gp g n cp ts σ) => fail_st q 9)
  have HB := Lib.hid hb
  have HP := Lib.hid h
  have HA := Lib.hid (fun (hi : isS ts [125] σ = false) => (by have := accept_at (s := [125]) h hi; rwa [acS_no hi] at this : Calls Tryz.prog 80 #[.pointer (some ⟨gp, 0, none⟩), .string ⟨#[125]⟩] w fun x w' => x = .returned (.bool false) ∧ PS2 57 w' gp g n cp ts σ ∧ Touch (AtB gp) w w'))
  clear hb hmo hk hf h hp
  by_cases h0 : 0 < m
  · have h2 : decide ((0 : Int) < (m : Int)) = true := by simp; omega
    have h2' : decide (0 < m) = true := by simp; omega
    rw [h2', Bool.true_and] at hm
    have HA := Lib.hid (HA.out hm)
    clear hm
    by_cases hmm : m = mo
    · have h3 : ((m : Int) == (mo : Int)) = true := by rw [hmm]; simp
      rw [if_pos hmm]
      clear hmm
      go_enter Tryz.func114, Tryz.ntmps114
      go_wp2_with fail
      refine (HM.out _).mono ?_
      rintro x w1 ⟨rfl, rfl⟩
      go_wp2_with fail
      refine HA.out.mono ?_
      rintro x w2 ⟨rfl, p1, p2⟩
      have HF := Lib.hid (HF.out w2 p1)
      have HB2 := Lib.hid (HB.out.go p2 hqg)
      have HT := Lib.hid p2
      clear p1 p2 c0 c1 c2 c3 c4 c5 c6 c7 c8 c9 cl
      obtain ⟨c0, c1, c2, c3, c4, c5, c6, c7, c8, c9, cl⟩ := HB2.out.cells
      go_wp2_with fail
      refine HF.out.mono ?_
      rintro x w3 ⟨rfl, p1, p2⟩
      have HB3 := Lib.hid (HB2.out.go p2 hqg)
      have HE := Lib.hid (And.intro p1 (HT.out.same p2))
      clear p1 p2 c0 c1 c2 c3 c4 c5 c6 c7 c8 c9 cl
      obtain ⟨c0, c1, c2, c3, c4, c5, c6, c7, c8, c9, cl⟩ := HB3.out.cells
      go_wp2
      go_ret
      exact ⟨rfl, HE.out.1, HE.out.2⟩
    · have h3 : ((m : Int) == (mo : Int)) = false := by simp; omega
      rw [if_neg hmm]
      clear hmm
      go_enter Tryz.func114, Tryz.ntmps114
      go_wp2_with fail
      refine (HM.out _).mono ?_
      rintro x w1 ⟨rfl, rfl⟩
      go_wp2_with fail
      refine HA.out.mono ?_
      rintro x w2 ⟨rfl, p1, p2⟩
      have HB2 := Lib.hid (HB.out.go p2 hqg)
      have HE := Lib.hid (And.intro p1 p2)
      clear p1 p2 c0 c1 c2 c3 c4 c5 c6 c7 c8 c9 cl
      obtain ⟨c0, c1, c2, c3, c4, c5, c6, c7, c8, c9, cl⟩ := HB2.out.cells
      go_wp2
      go_ret
      exact ⟨rfl, HE.out.1, HE.out.2⟩
  · have h2 : decide ((0 : Int) < (m : Int)) = false := by simp; omega
    have h2' : decide (0 < m) = false := by simp; omega
    have hmm : ¬ m = mo := by
      intro e
      simp at h1'
      omega
    have h3 : ((m : Int) == (mo : Int)) = false := by simp; omega
    rw [if_neg hmm]
    clear hmm h0 hm
    go_enter Tryz.func114, Tryz.ntmps114
    go_wp2_with fail
    refine (HM.out _).mono ?_
    rintro x w1 ⟨rfl, rfl⟩
    go_wp2
    go_ret
    exact ⟨rfl, HP.out, Touch.refl _ _⟩
end Go.Proofs.YtkmbobfjoaldgaaGreatDoor

/-
  An act's loop over lists, round by round; rows of conditions and makes. Lists alone but for the rows; no condition beyond those that each theorem names.
-/
namespace Go.Proofs.YtkmbobfjoaldgaaGreatDoor
open Go.ChangeShapes Go.WideShapes Go.ChangeAt Go.RowKit
set_option maxRecDepth 100000

/-! ### places go on -/
theorem acS_ge (ts : List Tk) (s : Bs) (σ : St) : σ.1 ≤ (acS ts s σ).1 := by unfold acS; simp only; split <;> omega
theorem acS_yes {ts : List Tk} {s : Bs} {σ : St} (h : isS ts s σ = true) : acS ts s σ = (σ.1 + 1, σ.2) := by unfold acS; rw [if_pos h]
theorem failS_at (c : Nat) (σ : St) : (failS c σ).1 = σ.1 := rfl
theorem exS_ge (ts : List Tk) (s : Bs) (σ : St) : σ.1 ≤ (exS ts s σ).1 := by unfold exS; simp only; split <;> omega
theorem nuS_ge (ts : List Tk) (σ : St) : σ.1 ≤ (nuS ts σ).1 := by unfold nuS stepK; simp only; split <;> omega
theorem naS_ge (ts : List Tk) (σ : St) : σ.1 ≤ (naS ts σ).1 := by unfold naS stepK; simp only; split <;> omega
theorem choS_ge (ts : List Tk) (ws : List Bs) (σ : St) : σ.1 ≤ (choS ts ws σ).1 := by unfold choS; split <;> simp [failS]
theorem siS_ge (ts : List Tk) (σ : St) : σ.1 ≤ (siS ts σ).1 := Nat.le_trans (acS_ge ts [45] σ) (nuS_ge ts _)
theorem keyS_ge (ts : List Tk) (σ : St) : σ.1 ≤ (keyS ts σ).1 := Nat.le_trans (choS_ge ts ownW σ) (Nat.le_trans (naS_ge ts _) (Nat.le_trans (choS_ge ts kindW _) (exS_ge ts [59] _)))
theorem varS_ge (ts : List Tk) (σ : St) : σ.1 ≤ (varS ts σ).1 := Nat.le_trans (naS_ge ts σ) (Nat.le_trans (siS_ge ts _) (Nat.le_trans (siS_ge ts _) (exS_ge ts [59] _)))
theorem cndS_ge (ts : List Tk) (σ : St) : σ.1 ≤ (cndS ts σ).1 := Nat.le_trans (naS_ge ts σ) (Nat.le_trans (choS_ge ts opW _) (Nat.le_trans (siS_ge ts _) (exS_ge ts [59] _)))
theorem mkeS_ge (ts : List Tk) (σ : St) : σ.1 ≤ (mkeS ts σ).1 := by
  unfold mkeS
  refine Nat.le_trans (naS_ge ts σ) (Nat.le_trans ?_ (exS_ge ts [59] _))
  split
  · exact Nat.le_trans (acS_ge ts [61] _) (siS_ge ts _)
  · split
    · exact Nat.le_trans (acS_ge ts [43] _) (nuS_ge ts _)
    · split
      · exact Nat.le_trans (acS_ge ts [45] _) (nuS_ge ts _)
      · exact Nat.le_refl _
theorem beS_at (ts : List Tk) (s : Bs) (a b : Nat) (σ : St) : (beS ts s a b σ).1 = σ.1 := by unfold beS; split <;> rfl
theorem beT_yes {ts : List Tk} {s : Bs} {a b : Nat} {σ : St} (h : beV ts s a b σ = true) : (beT ts s a b σ).1 = σ.1 + 1 := by unfold beT; rw [acS_yes h]; exact congrArg (· + 1) (beS_at ts s a b σ)
theorem beT_no {ts : List Tk} {s : Bs} {a b : Nat} {σ : St} (h : beV ts s a b σ = false) : (beT ts s a b σ).1 = σ.1 := by unfold beT; rw [acS_no h]; exact beS_at ts s a b σ
theorem failS_bad {c : Nat} (hc : c ≠ 0) (σ : St) : (failS c σ).2 ≠ 0 := by unfold failS; simp only; split <;> assumption
theorem wi_yes {ts : List Tk} {σ : St} (h : wiV ts σ = true) : σ.2 = 0 ∧ wiS ts σ = σ := by
  unfold wiV at h
  simp only [Bool.and_eq_true, decide_eq_true_eq, Bool.not_eq_true'] at h
  exact ⟨h.1, acS_no h.2⟩
/-- Enough fuel for what is left to read. -/
def Fu (f n : Nat) (σ : St) : Prop := 1 ≤ f ∧ (σ.2 = 0 → n - σ.1 + 2 ≤ f)
theorem Fu.next {f n : Nat} {σ τ : St} (h : Fu (f + 1) n σ) (h0 : σ.2 = 0) (hk : σ.1 < n) (hg : σ.1 + 1 ≤ τ.1) : Fu f n τ := by
  have := h.2 h0
  exact ⟨by omega, fun _ => by omega⟩
theorem Fu.stop {f n : Nat} {σ τ : St} (h : Fu (f + 1) n σ) (h0 : σ.2 = 0) (hb : τ.2 ≠ 0) : Fu f n τ := by
  have := h.2 h0
  exact ⟨by omega, fun h => absurd h hb⟩
/-- An act's loop, round by round. -/
theorem act_round {ts : List Tk} {f : Nat} {a : List Cn} {b : List Mk} {σ : St} {R0 : (List Cn × List Mk) × St} {n : Nat} (h : actR ts f a b σ = R0) (hf : Fu f n σ) :
    (wiV ts σ = false → R0 = ((a, b), wiS ts σ)) ∧
    (wiV ts σ = true → ∃ f', f = f' + 1 ∧ σ.2 = 0 ∧
      (beV ts needB a.length 8 σ = true → actR ts f' (a ++ [cndV ts (beT ts needB a.length 8 σ)]) b (cndS ts (beT ts needB a.length 8 σ)) = R0) ∧
      (beV ts needB a.length 8 σ = false → beV ts makeB b.length 8 (beT ts needB a.length 8 σ) = true → actR ts f' a (b ++ [mkeV ts (beT ts makeB b.length 8 (beT ts needB a.length 8 σ))]) (mkeS ts (beT ts makeB b.length 8 (beT ts needB a.length 8 σ))) = R0) ∧
      (beV ts needB a.length 8 σ = false → beV ts makeB b.length 8 (beT ts needB a.length 8 σ) = false → actR ts f' a b (failS 2 (beT ts makeB b.length 8 (beT ts needB a.length 8 σ))) = R0)) := by
  cases f with
  | zero => exact absurd hf.1 (by omega)
  | succ f =>
    unfold actR at h
    constructor
    · intro hw
      rw [if_neg (by rw [hw]; decide)] at h
      exact h.symm
    · intro hw
      obtain ⟨h0, hs⟩ := wi_yes hw
      rw [if_pos hw, hs] at h
      simp only at h
      refine ⟨f, rfl, h0, fun h1 => ?_, fun h1 h2 => ?_, fun h1 h2 => ?_⟩
      · rw [if_pos h1] at h; exact h
      · rw [if_neg (by rw [h1]; decide), if_pos h2] at h; exact h
      · rw [if_neg (by rw [h1]; decide), if_neg (by rw [h2]; decide)] at h; exact h
/-- The cells of conditions and makes. -/
def cnC (l : List Cn) : List Value := l.flatMap (fun c => [.string (bs c.nm), .int .i64 (c.op : Int), .int .i64 c.n])
def mkC (l : List Mk) : List Value := l.flatMap (fun c => [.string (bs c.nm), .bool c.add, .int .i64 c.n])
def vaC (l : List Va) : List Value := l.flatMap (fun c => [.string (bs c.nm), .int .i64 c.lo, .int .i64 c.hi])
def kyC (l : List Ky) : List Value := l.flatMap (fun c => [.string (bs c.nm), .int .i64 (c.kd : Int), .bool c.sh])
theorem cnC_snoc (l : List Cn) (c : Cn) : cnC (l ++ [c]) = cnC l ++ [.string (bs c.nm), .int .i64 (c.op : Int), .int .i64 c.n] := by simp [cnC]
theorem mkC_snoc (l : List Mk) (c : Mk) : mkC (l ++ [c]) = mkC l ++ [.string (bs c.nm), .bool c.add, .int .i64 c.n] := by simp [mkC]
theorem vaC_snoc (l : List Va) (c : Va) : vaC (l ++ [c]) = vaC l ++ [.string (bs c.nm), .int .i64 c.lo, .int .i64 c.hi] := by simp [vaC]
theorem kyC_snoc (l : List Ky) (c : Ky) : kyC (l ++ [c]) = kyC l ++ [.string (bs c.nm), .int .i64 (c.kd : Int), .bool c.sh] := by simp [kyC]
end Go.Proofs.YtkmbobfjoaldgaaGreatDoor

/-
  What package tree's act does with a parser in memory. Conditions: numbers among the tokens are such.
-/
namespace Go.Proofs.YtkmbobfjoaldgaaGreatDoor
open Go.ChangeShapes Go.WideShapes Go.ChangeAt Go.RowKit
set_option maxRecDepth 100000
set_option maxHeartbeats 4000000

theorem info_cond' : ∃ i0, Tryz.prog.info? 118 = some i0 ∧ i0.zero = some (.agg #[.string ⟨#[]⟩, .int .i64 0, .int .i64 0]) ∧ i0.size = 3 ∧ i0.bytes = 32 := by
  have h : (Tryz.prog.info? 118).map (fun i => (i.zero, i.size, i.bytes)) = some (some (.agg #[.string ⟨#[]⟩, .int .i64 0, .int .i64 0]), 3, 32) := by kernel_rfl
  cases hi : Tryz.prog.info? 118 with
  | none => rw [hi] at h; cases h
  | some i0 =>
    rw [hi] at h
    simp only [Option.map_some, Option.some.injEq, Prod.mk.injEq] at h
    exact ⟨i0, rfl, h.1, h.2.1, h.2.2⟩
theorem info_make' : ∃ i0, Tryz.prog.info? 131 = some i0 ∧ i0.zero = some (.agg #[.string ⟨#[]⟩, .bool false, .int .i64 0]) ∧ i0.size = 3 ∧ i0.bytes = 32 := by
  have h : (Tryz.prog.info? 131).map (fun i => (i.zero, i.size, i.bytes)) = some (some (.agg #[.string ⟨#[]⟩, .bool false, .int .i64 0]), 3, 32) := by kernel_rfl
  cases hi : Tryz.prog.info? 131 with
  | none => rw [hi] at h; cases h
  | some i0 =>
    rw [hi] at h
    simp only [Option.map_some, Option.some.injEq, Prod.mk.injEq] at h
    exact ⟨i0, rfl, h.1, h.2.1, h.2.2⟩
/-- A block of four cells of its own. -/
def B4 (w : World) (T : TypeId) (q : Nat) (a b c d : Value) : Prop := w.heap[q]? = some (.cells #[a, b, c, d] T (0, 0))
theorem B4.go {w w' : World} {T : TypeId} {gp q : Nat} {a b c d : Value} (h : B4 w T q a b c d) (t : Touch (AtB gp) w w') (hne : q ≠ gp) : B4 w' T q a b c d := (t.block q (blk_lt h) hne).trans h
theorem B4.new (w : World) (T : TypeId) (a b c d : Value) {N : Nat} (hN : w.heap.size = N) : B4 (w.alloc (.cells #[a, b, c, d] T)) T N a b c d := alloc_blk _ _ _ hN
theorem B4.cells {w : World} {T : TypeId} {q : Nat} {a b c d : Value} (h : B4 w T q a b c d) : w.cell? ⟨q, 0, none⟩ = some a ∧ w.cell? ⟨q, 1, none⟩ = some b ∧ w.cell? ⟨q, 2, none⟩ = some c ∧ w.cell? ⟨q, 3, none⟩ = some d ∧ q < w.heap.size := ⟨cell_blk h 0, cell_blk h 1, cell_blk h 2, cell_blk h 3, blk_lt h⟩
theorem B4.free {w : World} {T : TypeId} {q : Nat} {a b c d : Value} (h : B4 w T q a b c d) : w.frozen? ⟨q, 0, none⟩ = false ∧ w.frozen? ⟨q, 1, none⟩ = false ∧ w.frozen? ⟨q, 2, none⟩ = false ∧ w.frozen? ⟨q, 3, none⟩ = false := ⟨free_blk h 0, free_blk h 1, free_blk h 2, free_blk h 3⟩
theorem B4.aside {w : World} {T : TypeId} {q p i : Nat} {a b c d v : Value} (h : B4 w T q a b c d) (hne : q ≠ p) : B4 (w.setCell ⟨p, i, none⟩ v) T q a b c d :=
  (((Touch.refl (fun b => b = p) w).setCell (p := ⟨p, i, none⟩) (.inl rfl) v).block q (blk_lt h) hne).trans h
theorem B4.set2 {w : World} {T : TypeId} {q : Nat} {a b c d : Value} (h : B4 w T q a b c d) (v : Value) : B4 (w.setCell ⟨q, 2, none⟩ v) T q a b v d := set_blk h 2 v
theorem B4.set3 {w : World} {T : TypeId} {q : Nat} {a b c d : Value} (h : B4 w T q a b c d) (v : Value) : B4 (w.setCell ⟨q, 3, none⟩ v) T q a b c v := set_blk h 3 v
theorem B4.set1 {w : World} {T : TypeId} {q : Nat} {a b c d : Value} (h : B4 w T q a b c d) (v : Value) : B4 (w.setCell ⟨q, 1, none⟩ v) T q a v c d := set_blk h 1 v
/-- A row of one's own is left by a call, and by a store elsewhere. -/
theorem row_go {w w' : World} {base gp size m : Nat} {e : TypeId} {v : Value} {xs : List Value} (h : w.ownsRow base e size v m xs) (t : Touch (AtB gp) w w') (hb : gp < base) : w'.ownsRow base e size v m xs :=
  row_touch h t (fun k hk f => by have := (h.lt k hk).1; unfold AtB at f; omega)
theorem row_aside {w : World} {base q i size m : Nat} {e : TypeId} {v x : Value} {xs : List Value} (h : w.ownsRow base e size v m xs) (hq : v.ownBlock ≠ some q) : (w.setCell ⟨q, i, none⟩ x).ownsRow base e size v m xs :=
  row_touch h ((Touch.refl (fun b => b = q) w).setCell (p := ⟨q, i, none⟩) (.inl rfl) x) (fun k hk f => by subst f; exact hq hk)
structure ActRel (w : World) (gp g n cp q3 : Nat) (ts : List Tk) (R0 : (List Cn × List Mk) × St) (nm : ByteArray) (cost : Int) (f : Nat) (a : List Cn) (b : List Mk) (σ : St) (nv mv : Value) (wr : World) : Prop where
  t : Touch (AtB gp) w wr
  b2 : B4 wr 106 w.heap.size (.string ⟨#[]⟩) (.int .i64 0) (.slice none 0 0) (.slice none 0 0)
  b3 : B4 wr 106 q3 (.string nm) (.int .i64 cost) nv mv
  rn : wr.ownsRow w.heap.size 118 3 nv a.length (cnC a)
  rm : wr.ownsRow w.heap.size 131 3 mv b.length (mkC b)
  ps : PS2 57 wr gp g n cp ts σ
  md : actR ts f a b σ = R0
  fu : Fu f n σ
  la : a.length ≤ 8
  lb : b.length ≤ 8
/-- What an act's parser leaves. -/
def AcPost (w : World) (gp g n cp : Nat) (ts : List Tk) (v : Ac) (st : St) (x : Ending) (w' : World) : Prop := ∃ (nv mv : Value), x = .returned (.agg #[.string (bs v.nm), .int .i64 (v.cost : Int), nv, mv]) ∧
  w'.ownsRow w.heap.size 118 3 nv v.need.length (cnC v.need) ∧ w'.ownsRow w.heap.size 131 3 mv v.make.length (mkC v.make) ∧ PS2 57 w' gp g n cp ts st ∧ Touch (AtB gp) w w'
def meas2 (gp n : Nat) (wr : World) : Nat := 2 * (n - (intOf ((wr.cell? ⟨gp, 1, none⟩).getD undef)).toNat) + (if (intOf ((wr.cell? ⟨gp, 2, none⟩).getD undef)) = 0 then 1 else 0)
theorem meas2_at {T : TypeId} {w : World} {gp g n cp : Nat} {ts : List Tk} {σ : St} (h : PS2 T w gp g n cp ts σ) : meas2 gp n w = 2 * (n - σ.1) + (if σ.2 = 0 then 1 else 0) := by
  have h1 : w.cell? ⟨gp, 1, none⟩ = some (.int .i64 (σ.1 : Int)) := cell_blk h.blk 1
  have h2 : w.cell? ⟨gp, 2, none⟩ = some (.int .i64 (σ.2 : Int)) := cell_blk h.blk 2
  unfold meas2
  rw [h1, h2]
  simp [intOf]
theorem be_lt {ts : List Tk} {s : Bs} {a m : Nat} {σ : St} (h : beV ts s a m σ = true) (ha : a ≤ m) : a < m := by
  by_cases e : a = m
  · unfold beV beS at h
    split at h
    · rw [acS_bad (failS_bad (by decide) σ)] at h; cases h
    · rename_i hn
      exact absurd ⟨e, h⟩ hn
  · omega
/-- The way out of the loop. -/
theorem act_out {w V : World} {gp g n cp q3 : Nat} {ts : List Tk} {R0 : (List Cn × List Mk) × St} {nm : ByteArray} {cost : Int} {f : Nat} {a : List Cn} {b : List Mk} {σ st : St} {nv mv : Value} {wr : World} (h : ActRel w gp g n cp q3 ts R0 nm cost f a b σ nv mv wr) (t : Touch (AtB gp) wr V) (hp : PS2 57 V gp g n cp ts st)
    (hgp : gp < w.heap.size) (hgl : g < w.heap.size) :
    ∀ (x0 x1 x2 x3 : Value), let W := (((V.setCell ⟨w.heap.size, 0, none⟩ x0).setCell ⟨w.heap.size, 1, none⟩ x1).setCell ⟨w.heap.size, 2, none⟩ x2).setCell ⟨w.heap.size, 3, none⟩ x3
      W.ownsRow w.heap.size 118 3 nv a.length (cnC a) ∧ W.ownsRow w.heap.size 131 3 mv b.length (mkC b) ∧ PS2 57 W gp g n cp ts st ∧ Touch (AtB gp) w W := by
  intro x0 x1 x2 x3
  have hb2 := h.b2.go t (by omega)
  have r1 := row_go h.rn t hgp
  have r2 := row_go h.rm t hgp
  have n1 : nv.ownBlock ≠ some w.heap.size := row_ne r1 hb2 (by decide)
  have n2 : mv.ownBlock ≠ some w.heap.size := row_ne r2 hb2 (by decide)
  exact ⟨row_aside (row_aside (row_aside (row_aside r1 n1) n1) n1) n1, row_aside (row_aside (row_aside (row_aside r2 n2) n2) n2) n2, PSt.own (PSt.own (PSt.own (PSt.own hp hgp hgl) hgp hgl) hgp hgl) hgp hgl,
    touch4 (h.t.same t) (.inr (Nat.le_refl _)) x0 x1 x2 x3⟩
end Go.Proofs.YtkmbobfjoaldgaaGreatDoor

/-
  What package tree's act does with a parser in memory. Conditions: numbers among the tokens are such.
-/
namespace Go.Proofs.YtkmbobfjoaldgaaGreatDoor
open Go.ChangeShapes Go.WideShapes Go.ChangeAt Go.RowKit
set_option maxRecDepth 100000
set_option maxHeartbeats 4000000

/-- An append's target grows: what lies elsewhere stays. -/
theorem PSt.touchR {T : TypeId} {w w' : World} {gp g n cp base : Nat} {ts : List Tk} {k e : Nat} {v : Value} (h : PSt T w gp g n cp ts k e) (t : Touch (fun b => v.ownBlock = some b) w w') (hb : ∀ k, v.ownBlock = some k → base ≤ k) (h1 : gp < base) (h2 : g < base) : PSt T w' gp g n cp ts k e := by
  have e1 : v.ownBlock ≠ some gp := fun x => by have := hb _ x; omega
  have e2 : v.ownBlock ≠ some g := fun x => by have := hb _ x; omega
  refine ⟨(t.block gp (blk_lt h.blk) e1).trans h.blk, ?_, h.ne, h.len, h.le, h.small, h.txs⟩
  refine ⟨Nat.lt_of_lt_of_le h.tl.lt t.size, fun k x hx => ?_⟩
  have e := fun j => t.cell (p := ⟨g, j, none⟩) h.tl.lt e2
  obtain ⟨a, b, c, d⟩ := h.tl.at_ k x hx
  exact ⟨(e _).trans a, (e _).trans b, (e _).trans c, (e _).trans d⟩
theorem B4.goR {w w' : World} {T : TypeId} {q : Nat} {a b c d v : Value} (h : B4 w T q a b c d) (t : Touch (fun b => v.ownBlock = some b) w w') (hne : v.ownBlock ≠ some q) : B4 w' T q a b c d := (t.block q (blk_lt h) hne).trans h
theorem row_base {w : World} {base size n : Nat} {e : TypeId} {v : Value} {xs : List Value} (h : w.ownsRow base e size v n xs) : ∀ k, v.ownBlock = some k → base ≤ k := fun k hk => by
  rcases h.2 with ⟨rfl, _⟩ | ⟨g, cap, cur, rfl, hb, _⟩
  · simp [Value.ownBlock] at hk
  · have : g = k := by simpa [Value.ownBlock] using hk
    omega
theorem act_any {w : World} {gp g n cp : Nat} {ts : List Tk} {σ : St} (hnk : NumsOk ts) (h : PS2 57 w gp g n cp ts σ) :
    Calls Tryz.prog 87 #[.pointer (some ⟨gp, 0, none⟩)] w fun x w' => AcPost w gp g n cp ts (actV ts σ) (actS ts σ) x w' := by
  obtain ⟨W0, hW0⟩ : ∃ W, w.alloc (.cells #[.string ⟨#[]⟩, .int .i64 0, .slice none 0 0, .slice none 0 0] 106) = W := ⟨_, rfl⟩
  have t0 : Touch NoB w W0 := by rw [← hW0]; exact (Touch.refl _ _).alloc _
  have b2 : B4 W0 106 w.heap.size (.string ⟨#[]⟩) (.int .i64 0) (.slice none 0 0) (.slice none 0 0) := by rw [← hW0]; exact B4.new w _ _ _ _ _ rfl
  have hgp := blk_lt h.blk
  have hgl := h.tl.lt
  have hs0 : W0.heap.size = w.heap.size + 1 := by rw [← hW0]; simp only [World.size_alloc]
  have HP := Lib.hid (h.touch t0)
  have HB2 := Lib.hid b2
  have HT := Lib.hid (Touch.anyB (F := AtB gp) t0)
  have hln : ts.length = n := h.len
  obtain ⟨R0, hR0⟩ : ∃ z, actR ts (ts.length + 5) [] [] (actH ts σ) = z := ⟨_, rfl⟩
  unfold actV actS
  simp only [hR0]
  unfold actH at hR0
  obtain ⟨v1, hv1⟩ : ∃ z, naV ts σ = z := ⟨_, rfl⟩
  obtain ⟨s1, hs1⟩ : ∃ z, naS ts σ = z := ⟨_, rfl⟩
  have H1 := Lib.hid (fun (W : World) (q : PS2 57 W gp g n cp ts σ) => name_st q)
  simp only [hv1, hs1] at *
  obtain ⟨s2, hs2⟩ : ∃ z, exS ts [99, 111, 115, 116] s1 = z := ⟨_, rfl⟩
  have H2 : Hid (∀ (W : World), PS2 57 W gp g n cp ts s1 → Calls Tryz.prog 83 #[.pointer (some ⟨gp, 0, none⟩), .string ⟨#[99, 111, 115, 116]⟩] W fun x w' => x = .returned (.tuple #[]) ∧ PS2 57 w' gp g n cp ts s2 ∧ Touch (AtB gp) W w') := Lib.hid (fun W q => by rw [← hs2]; exact expect_st (s := [99, 111, 115, 116]) q)
  simp only [hs2] at *
  have H3 := Lib.hid (fun (W : World) (q : PS2 57 W gp g n cp ts s2) => number_st q)
  obtain ⟨v3, hv3⟩ : ∃ z, nuV ts s2 = z := ⟨_, rfl⟩
  obtain ⟨s3, hs3⟩ : ∃ z, nuS ts s2 = z := ⟨_, rfl⟩
  simp only [hv3, hs3] at *
  obtain ⟨s4, hs4⟩ : ∃ z, exS ts [123] s3 = z := ⟨_, rfl⟩
  have H4 : Hid (∀ (W : World), PS2 57 W gp g n cp ts s3 → Calls Tryz.prog 83 #[.pointer (some ⟨gp, 0, none⟩), .string ⟨#[123]⟩] W fun x w' => x = .returned (.tuple #[]) ∧ PS2 57 w' gp g n cp ts s4 ∧ Touch (AtB gp) W w') := Lib.hid (fun W q => by rw [← hs4]; exact expect_st (s := [123]) q)
  simp only [hs4] at *
  obtain ⟨n1, hn1⟩ : ∃ z, bs v1 = z := ⟨_, rfl⟩
  have HN1 := Lib.hid hn1
  rw [hn1] at H1
  have HR0 := Lib.hid hR0
  have HNK := Lib.hid hnk
  have HLN := Lib.hid hln
  clear hs4 hs3 hs1 hv1 h t0 b2 hs2 hv3 hn1 hR0 hnk hln
  have HC := Lib.hid (H1.out W0 HP.out)
  go_enter Tryz.func87, Tryz.ntmps87
  go_wp2_with fail
  refine HC.out.mono ?_
  rintro r w1 ⟨rfl, hp, hT⟩
  obtain ⟨X, hX⟩ : ∃ X, w1.alloc (.cells #[.string n1, .int .i64 0, .slice none 0 0, .slice none 0 0] 106) = X := ⟨_, rfl⟩
  have tx : Touch NoB w1 X := by rw [← hX]; exact (Touch.refl _ _).alloc _
  obtain ⟨q3, hq3⟩ : ∃ q3, w1.heap.size = q3 := ⟨_, rfl⟩
  have hsq : w.heap.size < q3 := by have := hT.size; omega
  have HB3 := Lib.hid (show B4 X 106 q3 (.string n1) (.int .i64 0) (.slice none 0 0) (.slice none 0 0) by rw [← hX]; exact B4.new _ _ _ _ _ _ hq3)
  have HB2 := Lib.hid ((HB2.out.go hT (by omega)).go (Touch.anyB (F := AtB gp) tx) (by omega))
  have HT := Lib.hid (HT.out.same (hT.same (Touch.anyB tx)))
  have HP := Lib.hid (hp.touch tx)
  clear hp hT tx
  subst hX
  have HC := Lib.hid (H2.out _ HP.out)
  go_wp2_with fail
  refine HC.out.mono ?_
  rintro r uy ⟨rfl, hp, hT⟩
  have HB3 := Lib.hid (HB3.out.go hT (by omega))
  have HB2 := Lib.hid (HB2.out.go hT (by omega))
  have HT := Lib.hid (HT.out.same hT)
  have HP := Lib.hid hp
  clear hp hT
  have HC := Lib.hid (H3.out uy HP.out)
  go_wp2_with fail
  refine HC.out.mono ?_
  rintro r un ⟨rfl, hp, hT⟩
  have HB3 := Lib.hid (HB3.out.go hT (by omega))
  have HB2 := Lib.hid (HB2.out.go hT (by omega))
  have HT := Lib.hid (HT.out.same hT)
  have HP := Lib.hid hp
  clear hp hT
  obtain ⟨x0, x1, x2, x3, xl⟩ := HB3.out.cells
  obtain ⟨y0, y1, y2, y3⟩ := HB3.out.free
  obtain ⟨V, hV⟩ : ∃ V, un.setCell ⟨q3, 1, none⟩ (.int .i64 (v3 : Int)) = V := ⟨_, rfl⟩
  have HP := Lib.hid (show PS2 57 V gp g n cp ts s3 by rw [← hV]; exact HP.out.own (by omega) (by omega))
  have HB3 := Lib.hid (show B4 V 106 q3 (.string n1) (.int .i64 (v3 : Int)) (.slice none 0 0) (.slice none 0 0) by rw [← hV]; exact HB3.out.set1 _)
  have HB2 := Lib.hid (show B4 V 106 w.heap.size (.string ⟨#[]⟩) (.int .i64 0) (.slice none 0 0) (.slice none 0 0) by rw [← hV]; exact HB2.out.aside (by omega))
  have HT := Lib.hid (show Touch (AtB gp) w V by rw [← hV]; exact HT.out.setCell (p := ⟨q3, 1, none⟩) (.inr (by simp only; omega)) _)
  have HC := Lib.hid (H4.out V HP.out)
  go_wp2_with fail
  refine HC.out.mono ?_
  rintro r ue ⟨rfl, hp, hT⟩
  have HB3 := Lib.hid (HB3.out.go hT (by omega))
  have HB2 := Lib.hid (HB2.out.go hT (by omega))
  have HT := Lib.hid (HT.out.same hT)
  have HP := Lib.hid hp
  clear hp hT
  have HR : Hid (∃ f a b τ nv mv, ActRel w gp g n cp q3 ts R0 n1 (v3 : Int) f a b τ nv mv ue) := Lib.hid ⟨ts.length + 5, [], [], s4, .slice none 0 0, .slice none 0 0, HT.out, HB2.out, HB3.out, World.ownsRow_nil _ _ _ _, World.ownsRow_nil _ _ _ _, HP.out, HR0.out, ⟨by omega, fun _ => by have := HLN.out; omega⟩, by simp, by simp⟩
  clear HC HT HP HB2 HB3 HR0 H1 H2 H3 H4 x0 x1 x2 x3 xl y0 y1 y2 y3 hV
  go_wp2_with fail
  go_loopw [] (fun wr => ∃ f a b τ nv mv, ActRel w gp g n cp q3 ts R0 n1 (v3 : Int) f a b τ nv mv wr) (fun wr => meas2 gp n wr)
  case atStart => exact HR.out
  case round =>
    clear HR
    obtain ⟨f, a, b, τ, nv, mv, hR⟩ := hrel
    obtain ⟨A1, kp1, rfl, hc1, hc2⟩ := row_any hR.rn
    obtain ⟨A2, kp2, rfl, hd1, hd2⟩ := row_any hR.rm
    have hrd := act_round hR.md hR.fu
    have hme := meas2_at hR.ps
    have HC := Lib.hid (within_st hR.ps)
    have HR := Lib.hid hR
    clear hR
    cases hw : wiV ts τ
    · rw [hw] at HC
      have he := hrd.1 hw
      clear hrd hme
      go_wp2_with fail
      refine HC.out.mono ?_
      rintro r V ⟨rfl, hp, hT⟩
      obtain ⟨z0, z1, z2, z3, zl⟩ := (HR.out.b2.go hT (by omega)).cells
      obtain ⟨f0, f1, f2, f3⟩ := (HR.out.b2.go hT (by omega)).free
      obtain ⟨p0, p1, p2, p3, pl⟩ := (HR.out.b3.go hT (by omega)).cells
      have HO := Lib.hid (act_out HR.out hT hp hgp hgl)
      have HE := Lib.hid he
      clear hT hp he
      go_wp2
      refine bodyPost_ret (v := .agg #[.string n1, .int .i64 (v3 : Int), .slice A1 a.length kp1, .slice A2 b.length kp2]) (by simp [results, Tryz.results87, go_sem, z0, z1, z2, z3]) rfl ?_
      rw [HE.out, ← HN1.out]
      exact ⟨_, _, rfl, HO.out _ _ _ _⟩
    · rw [hw] at HC
      obtain ⟨f', rfl, h0, r1, r2, r3⟩ := hrd.2 hw
      rw [(wi_yes hw).2] at HC
      clear hrd
      obtain ⟨tn, htn⟩ : ∃ z, beT ts needB a.length 8 τ = z := ⟨_, rfl⟩
      obtain ⟨bn, hbn⟩ : ∃ z, beV ts needB a.length 8 τ = z := ⟨_, rfl⟩
      have HBN : Hid (∀ (W : World), PS2 57 W gp g n cp ts τ → Calls Tryz.prog 40 #[.pointer (some ⟨gp, 0, none⟩), .string ⟨#[110, 101, 101, 100]⟩, .int .i64 (a.length : Int), .int .i64 8] W fun x w' => x = .returned (.bool bn) ∧ PS2 57 w' gp g n cp ts tn ∧ Touch (AtB gp) W w') := Lib.hid (fun W q => by rw [← htn, ← hbn]; exact begins_st (s := needB) (hv := a.length) (most := 8) q)
      have htn1 : bn = true → tn.1 = τ.1 + 1 ∧ a.length < 8 := fun e => by rw [← htn]; subst e; exact ⟨beT_yes hbn, be_lt hbn HR.out.la⟩
      have htn0 : bn = false → tn.1 = τ.1 := fun e => by rw [← htn]; subst e; exact beT_no hbn
      rw [htn, hbn] at r1 r2 r3
      have HK := Lib.hid (And.intro r1 (And.intro r2 (And.intro r3 (And.intro htn1 (And.intro htn0 (And.intro h0 hme))))))
      clear htn hbn htn1 htn0 r1 r2 r3 h0 hme hw
      go_wp2_with fail
      refine HC.out.mono ?_
      rintro r V ⟨rfl, hp, hT⟩
      obtain ⟨q0, q1, q2, q3', ql⟩ := (HR.out.b3.go hT (by omega)).cells
      have HT := Lib.hid (HR.out.t.same hT)
      have HB2 := Lib.hid (HR.out.b2.go hT (by omega))
      have HB3 := Lib.hid (HR.out.b3.go hT (by omega))
      have HRN := Lib.hid (row_go HR.out.rn hT hgp)
      have HRM := Lib.hid (row_go HR.out.rm hT hgp)
      have HC := Lib.hid (HBN.out V hp)
      clear hp hT
      go_wp2_with fail
      refine HC.out.mono ?_
      rintro r V2 ⟨rfl, hp, hT⟩
      have HT := Lib.hid (HT.out.same hT)
      have HB2 := Lib.hid (HB2.out.go hT (by omega))
      have HB3 := Lib.hid (HB3.out.go hT (by omega))
      have HRN := Lib.hid (row_go HRN.out hT hgp)
      have HRM := Lib.hid (row_go HRM.out hT hgp)
      have HP := Lib.hid hp
      clear hp hT q0 q1 q2 q3' ql
      cases bn
      · have htn0 := HK.out.2.2.2.2.1 rfl
        obtain ⟨q0, q1, q2, q3', ql⟩ := HB3.out.cells
        obtain ⟨um, hum⟩ : ∃ z, beT ts makeB b.length 8 tn = z := ⟨_, rfl⟩
        obtain ⟨bm, hbm⟩ : ∃ z, beV ts makeB b.length 8 tn = z := ⟨_, rfl⟩
        have HBM : Hid (∀ (W : World), PS2 57 W gp g n cp ts tn → Calls Tryz.prog 40 #[.pointer (some ⟨gp, 0, none⟩), .string ⟨#[109, 97, 107, 101]⟩, .int .i64 (b.length : Int), .int .i64 8] W fun x w' => x = .returned (.bool bm) ∧ PS2 57 w' gp g n cp ts um ∧ Touch (AtB gp) W w') := Lib.hid (fun W q => by rw [← hum, ← hbm]; exact begins_st (s := makeB) (hv := b.length) (most := 8) q)
        have hum1 : bm = true → um.1 = tn.1 + 1 ∧ b.length < 8 := fun e => by rw [← hum]; subst e; exact ⟨beT_yes hbm, be_lt hbm HR.out.lb⟩
        have hum0 : bm = false → um.1 = tn.1 := fun e => by rw [← hum]; subst e; exact beT_no hbm
        have r2 := HK.out.2.1 rfl
        have r3 := HK.out.2.2.1 rfl
        rw [hum, hbm] at r2 r3
        have HU := Lib.hid (And.intro r2 (And.intro r3 (And.intro hum1 (And.intro hum0 htn0))))
        clear hum hbm r2 r3 hum1 hum0
        have HC := Lib.hid (HBM.out V2 HP.out)
        go_wp2_with fail
        refine HC.out.mono ?_
        rintro r V3 ⟨rfl, hp, hT⟩
        have HT := Lib.hid (HT.out.same hT)
        have HB2 := Lib.hid (HB2.out.go hT (by omega))
        have HB3 := Lib.hid (HB3.out.go hT (by omega))
        have HRN := Lib.hid (row_go HRN.out hT hgp)
        have HRM := Lib.hid (row_go HRM.out hT hgp)
        have HP := Lib.hid hp
        clear hp hT q0 q1 q2 q3' ql
        cases bm
        · have hum0 := HU.out.2.2.2.1 rfl
          have HF := Lib.hid (fail_st HP.out 2)
          have hr3 := Lib.hid (HU.out.2.1 rfl)
          obtain ⟨fs, hfs⟩ : ∃ z, failS 2 um = z := ⟨_, rfl⟩
          have hf1 : fs.1 = um.1 := by rw [← hfs]; rfl
          have hf2 : fs.2 ≠ 0 := by rw [← hfs]; exact failS_bad (by decide) um
          rw [hfs] at HF hr3
          clear hfs
          go_wp2_with fail
          refine HF.out.mono ?_
          rintro r V4 ⟨rfl, hp, hT⟩
          have HT := Lib.hid (HT.out.same hT)
          have HB2 := Lib.hid (HB2.out.go hT (by omega))
          have HB3 := Lib.hid (HB3.out.go hT (by omega))
          have HRN := Lib.hid (row_go HRN.out hT hgp)
          have HRM := Lib.hid (row_go HRM.out hT hgp)
          have HP := Lib.hid hp
          clear hp hT
          go_wp2
          go_roundw
          case rel => exact ⟨f', a, b, fs, _, _, HT.out, HB2.out, HB3.out, HRN.out, HRM.out, HP.out, hr3.out, HR.out.fu.stop HK.out.2.2.2.2.2.1 hf2, HR.out.la, HR.out.lb⟩
          case measure =>
            have hme := HK.out.2.2.2.2.2.2
            rw [meas2_at HP.out, hme, if_pos HK.out.2.2.2.2.2.1, if_neg hf2]
            omega
        · obtain ⟨hum1, hla⟩ := HU.out.2.2.1 rfl
          obtain ⟨q0, q1, q2, q3', ql⟩ := HB3.out.cells
          obtain ⟨g0, g1, g2, g3⟩ := HB3.out.free
          have hr1 := HU.out.1 rfl
          obtain ⟨cv, hcv⟩ : ∃ z, mkeV ts um = z := ⟨_, rfl⟩
          obtain ⟨cs, hcs⟩ : ∃ z, mkeS ts um = z := ⟨_, rfl⟩
          have hge : um.1 ≤ cs.1 := by rw [← hcs]; exact mkeS_ge ts um
          have HCD := Lib.hid (fun (W : World) (q : PS2 57 W gp g n cp ts um) => change_st HNK.out q)
          rw [hcv, hcs] at hr1 HCD
          obtain ⟨cnm, hcnm⟩ : ∃ z, bs cv.nm = z := ⟨_, rfl⟩
          rw [hcnm] at HCD
          have HCV := Lib.hid hcnm
          have HR1 := Lib.hid hr1
          clear hcv hcs hcnm hr1
          obtain ⟨N, hN⟩ : ∃ z, b.length = z := ⟨_, rfl⟩
          rw [hN] at hla hd1 q3' HRM
          have HN := Lib.hid hN
          clear hN
          obtain ⟨i0, hi, hz0, hz1, hz2⟩ := info_make'
          unfold maxLen at hd2
          go_wp2_with fail
          go_region_law? (first
            | (go_simp; go_at_call 117
               refine (HCD.out _ (HP.out.touch (Touch.refl _ _).drew)).mono ?_
               rintro r w3 ⟨rfl, hp, hT0⟩
               have hT := (Touch.refl (AtB gp) V3).drew.same hT0
               have HB33 := Lib.hid (HB3.out.go hT (by omega))
               obtain ⟨j0, j1, j2, j3, jl⟩ := HB33.out.cells
               rw [HN.out] at j3
               obtain ⟨l0, l1, l2, l3⟩ := HB33.out.free
               have HRM3 := Lib.hid (row_go HRM.out hT hgp)
               have HX3 := Lib.hid (And.intro hp hT)
               clear hp hT0 hT)
            | (refine step_append_lies _ rfl (.tmp 48) (.tmp 51) 104 rfl w.heap.size 131 i0 (.agg #[.string ⟨#[]⟩, .bool false, .int .i64 0]) 3 32 Tryz.underlying104 hi hz0 hz1 hz2 rfl (by decide) (.slice A2 N kp2) N (mkC b) (by simp [Act.eval]) (by exact (HRM3.out.alloc _)) ⟨w3.heap.size, 0, none⟩ 1 1 [.string cnm, .bool cv.add, .int .i64 cv.n] (by simp [Act.eval]) rfl (by exact World.news_of_block (cs := #[.string cnm, .bool cv.add, .int .i64 cv.n]) (alloc_blk w3 _ 131 rfl)) (by intro u hu; simp at hu; rcases hu with rfl | rfl | rfl <;> rfl) (by decide) (by unfold maxLen; omega) (by omega) (by have := HX3.out.2.size; have := HT.out.size; simp only [World.size_alloc]; omega) (w3.heap.size + 1) (by simp) ?_
               intro gd cap2 wx hown hgrow hat hlt
               have TR : Touch (fun b => (Value.slice A2 N kp2).ownBlock = some b) w3 wx := ((Touch.refl _ w3).alloc _).grown hgrow (fun _ e => .inl e)
               have hbx := HB33.out.goR TR (row_ne HRM3.out HB33.out (by decide))
               obtain ⟨k0, k1, k2, k3, kl⟩ := hbx.cells
               obtain ⟨m0, m1, m2, m3⟩ := hbx.free
               have HX := Lib.hid (And.intro hown (And.intro hat (And.intro TR hbx)))
               clear hown hgrow hat TR hbx))
          all_goals
            go_wp2
            go_roundw
            case rel =>
              have hps := ((HX3.out.1.touchR HX.out.2.2.1 (row_base HRM3.out) hgp hgl).own (q := q3) (i := 3) (v := .slice (some ⟨gd, 0, none⟩) (N + 1) cap2) (by omega) (by omega))
              have hown := HX.out.1
              have TR := HX.out.2.2.1
              have hb2 := HB2.out.go HX3.out.2 (show w.heap.size ≠ gp by omega)
              have hrm := row_go HRN.out HX3.out.2 hgp
              have hrm2 := row_touch hrm TR (fun k hk f => row_row_ne HRM3.out hrm (by decide) f hk)
              refine ⟨f', a, b ++ [cv], cs, _, _, ((HT.out.same HX3.out.2).trans TR (fun k hk => .inr (row_base HRM3.out k hk))).setCell (p := ⟨q3, 3, none⟩) (.inr (by simp only; omega)) _, (hb2.goR TR (row_ne HRM3.out hb2 (by decide))).aside (by omega), HX.out.2.2.2.set3 _, row_aside hrm2 (row_ne hrm2 HX.out.2.2.2 (by decide)), ?_, hps, HR1.out, HR.out.fu.next HK.out.2.2.2.2.2.1 (by have := HP.out.le; omega) (by omega), HR.out.la, by rw [List.length_append, HN.out]; exact hla⟩
              rw [List.length_append, HN.out, mkC_snoc, HCV.out]
              exact row_aside hown (row_ne hown HX.out.2.2.2 (by decide))
            case measure =>
              have hps := ((HX3.out.1.touchR HX.out.2.2.1 (row_base HRM3.out) hgp hgl).own (q := q3) (i := 3) (v := .slice (some ⟨gd, 0, none⟩) (N + 1) cap2) (by omega) (by omega))
              have hme := HK.out.2.2.2.2.2.2
              rw [meas2_at hps, hme, if_pos HK.out.2.2.2.2.2.1]
              have := HP.out.le
              split <;> omega
      · obtain ⟨htn1, hla⟩ := HK.out.2.2.2.1 rfl
        obtain ⟨q0, q1, q2, q3', ql⟩ := HB3.out.cells
        obtain ⟨g0, g1, g2, g3⟩ := HB3.out.free
        have hr1 := HK.out.1 rfl
        obtain ⟨cv, hcv⟩ : ∃ z, cndV ts tn = z := ⟨_, rfl⟩
        obtain ⟨cs, hcs⟩ : ∃ z, cndS ts tn = z := ⟨_, rfl⟩
        have hge : tn.1 ≤ cs.1 := by rw [← hcs]; exact cndS_ge ts tn
        have HCD := Lib.hid (fun (W : World) (q : PS2 57 W gp g n cp ts tn) => cond_st HNK.out q)
        rw [hcv, hcs] at hr1 HCD
        obtain ⟨cnm, hcnm⟩ : ∃ z, bs cv.nm = z := ⟨_, rfl⟩
        rw [hcnm] at HCD
        have HCV := Lib.hid hcnm
        have HR1 := Lib.hid hr1
        clear hcv hcs hcnm hr1
        obtain ⟨N, hN⟩ : ∃ z, a.length = z := ⟨_, rfl⟩
        rw [hN] at hla hc1 q2 HRN
        have HN := Lib.hid hN
        clear hN
        obtain ⟨i0, hi, hz0, hz1, hz2⟩ := info_cond'
        unfold maxLen at hc2
        go_wp2_with fail
        go_region_law? (first
          | (go_simp; go_at_call 88
             refine (HCD.out _ (HP.out.touch (Touch.refl _ _).drew)).mono ?_
             rintro r w3 ⟨rfl, hp, hT0⟩
             have hT := (Touch.refl (AtB gp) V2).drew.same hT0
             have HB33 := Lib.hid (HB3.out.go hT (by omega))
             obtain ⟨j0, j1, j2, j3, jl⟩ := HB33.out.cells
             rw [HN.out] at j2
             obtain ⟨l0, l1, l2, l3⟩ := HB33.out.free
             have HRN3 := Lib.hid (row_go HRN.out hT hgp)
             have HX3 := Lib.hid (And.intro hp hT)
             clear hp hT0 hT)
          | (refine step_append_lies _ rfl (.tmp 35) (.tmp 38) 67 rfl w.heap.size 118 i0 (.agg #[.string ⟨#[]⟩, .int .i64 0, .int .i64 0]) 3 32 Tryz.underlying67 hi hz0 hz1 hz2 rfl (by decide) (.slice A1 N kp1) N (cnC a) (by simp [Act.eval]) (by exact (HRN3.out.alloc _)) ⟨w3.heap.size, 0, none⟩ 1 1 [.string cnm, .int .i64 (cv.op : Int), .int .i64 cv.n] (by simp [Act.eval]) rfl (by exact World.news_of_block (cs := #[.string cnm, .int .i64 (cv.op : Int), .int .i64 cv.n]) (alloc_blk w3 _ 118 rfl)) (by intro u hu; simp at hu; rcases hu with rfl | rfl | rfl <;> rfl) (by decide) (by unfold maxLen; omega) (by omega) (by have := HX3.out.2.size; have := HT.out.size; simp only [World.size_alloc]; omega) (w3.heap.size + 1) (by simp) ?_
             intro gd cap2 wx hown hgrow hat hlt
             have TR : Touch (fun b => (Value.slice A1 N kp1).ownBlock = some b) w3 wx := ((Touch.refl _ w3).alloc _).grown hgrow (fun _ e => .inl e)
             have hbx := HB33.out.goR TR (row_ne HRN3.out HB33.out (by decide))
             obtain ⟨k0, k1, k2, k3, kl⟩ := hbx.cells
             obtain ⟨m0, m1, m2, m3⟩ := hbx.free
             have HX := Lib.hid (And.intro hown (And.intro hat (And.intro TR hbx)))
             clear hown hgrow hat TR hbx))
        all_goals
          go_wp2
          go_roundw
          case rel =>
            have hps := ((HX3.out.1.touchR HX.out.2.2.1 (row_base HRN3.out) hgp hgl).own (q := q3) (i := 2) (v := .slice (some ⟨gd, 0, none⟩) (N + 1) cap2) (by omega) (by omega))
            have hown := HX.out.1
            have TR := HX.out.2.2.1
            have hb2 := HB2.out.go HX3.out.2 (show w.heap.size ≠ gp by omega)
            have hrm := row_go HRM.out HX3.out.2 hgp
            have hrm2 := row_touch hrm TR (fun k hk f => row_row_ne HRN3.out hrm (by decide) f hk)
            refine ⟨f', a ++ [cv], b, cs, _, _, ((HT.out.same HX3.out.2).trans TR (fun k hk => .inr (row_base HRN3.out k hk))).setCell (p := ⟨q3, 2, none⟩) (.inr (by simp only; omega)) _, (hb2.goR TR (row_ne HRN3.out hb2 (by decide))).aside (by omega), HX.out.2.2.2.set2 _, ?_, row_aside hrm2 (row_ne hrm2 HX.out.2.2.2 (by decide)), hps, HR1.out, HR.out.fu.next HK.out.2.2.2.2.2.1 (by have := HP.out.le; omega) (by omega), by rw [List.length_append, HN.out]; exact hla, HR.out.lb⟩
            rw [List.length_append, HN.out, cnC_snoc, HCV.out]
            exact row_aside hown (row_ne hown HX.out.2.2.2 (by decide))
          case measure =>
            have hps := ((HX3.out.1.touchR HX.out.2.2.1 (row_base HRN3.out) hgp hgl).own (q := q3) (i := 2) (v := .slice (some ⟨gd, 0, none⟩) (N + 1) cap2) (by omega) (by omega))
            have hme := HK.out.2.2.2.2.2.2
            rw [meas2_at hps, hme, if_pos HK.out.2.2.2.2.2.1]
            have := HP.out.le
            split <;> omega
end Go.Proofs.YtkmbobfjoaldgaaGreatDoor
