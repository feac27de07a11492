/-
  What package tree's another does with a parser and a node in memory, but for picks. Conditions: those that each theorem names.
-/
import Derived.Test.YtanecdpcenkoeaaDoorZar4
import Derived.Deep.AppendLies
import Derived.Deep.DeepCutAuto
import Derived.Deep.RegionWith
namespace Go.Proofs.YtanecdpcenkoeaaDoor
open Go.ChangeShapes Go.WideShapes Go.ChangeAt Go.RowKit
set_option maxRecDepth 100000
set_option maxHeartbeats 4000000

theorem another_few {w : World} {gp qn kd m kc : Nat} {kA : Option Addr} {v1 v2 v3 v4 v5 v6 v7 v9 : Value} (hk : kd ≤ 15) (hf : mostL kd ≤ 1) (hb : NB w qn (.int .i64 (kd : Int)) v1 v2 v3 v4 v5 v6 v7 (.slice kA m kc) v9) :
    Calls Tryd.prog 98 #[.pointer (some ⟨gp, 0, none⟩), .pointer (some ⟨qn, 0, none⟩)] w fun x w' => x = .returned (.bool (decide (m < mostL kd))) ∧ w = w' := by
  obtain ⟨c0, c1, c2, c3, c4, c5, c6, c7, c8, c9, cl⟩ := hb.cells
  have HM := Lib.hid (fun w => mostkids_any kd hk w)
  obtain ⟨mo, hmo⟩ : ∃ mo, mostL kd = mo := ⟨_, rfl⟩
  rw [hmo] at hf HM ⊢
  have h1 : decide ((mo : Int) ≤ 1) = true := by simp; omega
  have h1' : decide (mo ≤ 1) = true := by simp; omega
  obtain ⟨bb, hbb⟩ : ∃ bb, decide (m < mo) = bb := ⟨_, rfl⟩
  have h2 : decide ((m : Int) < (mo : Int)) = bb := by rw [← hbb]; congr 1; simp
  rw [hbb]
  clear hb hmo hk hf
  go_enter Tryd.func98, Tryd.ntmps98
  go_wp2_with fail
  refine (HM.out _).mono ?_
  rintro x w1 ⟨rfl, rfl⟩
  go_wp2
  go_ret
  exact ⟨rfl, rfl⟩
theorem another_shut {w : World} {gp g n cp qn kd m kc : Nat} {kA : Option Addr} {ts : List Tk} {σ : St} {v1 v2 v3 v4 v5 v6 v7 v9 : Value} (hk : kd ≤ 15) (hf : ¬ mostL kd ≤ 1) (hb : NB w qn (.int .i64 (kd : Int)) v1 v2 v3 v4 v5 v6 v7 (.slice kA m kc) v9)
    (h : PS2 59 w gp g n cp ts σ) (hm : 0 < m) (hi : isS ts [125] σ = true) :
    Calls Tryd.prog 98 #[.pointer (some ⟨gp, 0, none⟩), .pointer (some ⟨qn, 0, none⟩)] w fun x w' => x = .returned (.bool false) ∧ PS2 59 w' gp g n cp ts (acS ts [125] σ) ∧ Touch (AtB gp) w w' := by
  obtain ⟨c0, c1, c2, c3, c4, c5, c6, c7, c8, c9, cl⟩ := hb.cells
  have HM := Lib.hid (fun w => mostkids_any kd hk w)
  obtain ⟨mo, hmo⟩ : ∃ mo, mostL kd = mo := ⟨_, rfl⟩
  rw [hmo] at hf HM
  have h1 : decide ((mo : Int) ≤ 1) = false := by simp; omega
  have h1' : decide (mo ≤ 1) = false := by simp; omega
  have h2 : decide ((0 : Int) < (m : Int)) = true := by simp; omega
  have h2' : decide (0 < m) = true := by simp; omega
  have HA : Hid (Calls Tryd.prog 65 #[.pointer (some ⟨gp, 0, none⟩), .string ⟨#[125]⟩] w fun x w' => x = .returned (.bool true) ∧ PS2 59 w' gp g n cp ts (acS ts [125] σ) ∧ Touch (AtB gp) w w') := Lib.hid (accept_at (s := [125]) h hi)
  obtain ⟨st, hst⟩ : ∃ st, acS ts [125] σ = st := ⟨_, rfl⟩
  rw [hst] at HA ⊢
  clear hb hmo hk hf h hst hi hm
  go_enter Tryd.func98, Tryd.ntmps98
  go_wp2_with fail
  refine (HM.out _).mono ?_
  rintro x w1 ⟨rfl, rfl⟩
  go_wp2_with fail
  refine HA.out.mono ?_
  rintro x w2 ⟨rfl, p1, p2⟩
  have HE := Lib.hid (And.intro p1 p2)
  clear p1 p2
  go_wp2
  go_ret
  exact ⟨rfl, HE.out.1, HE.out.2⟩
/-- A further kid, of a node that is no pick. -/
theorem another_more {w : World} {gp g n cp qn kd m kc : Nat} {kA : Option Addr} {ts : List Tk} {σ : St} {v1 v2 v3 v4 v5 v6 v7 v9 : Value} (hk : kd ≤ 15) (hf : ¬ mostL kd ≤ 1) (hp : kd ≠ 11) (hb : NB w qn (.int .i64 (kd : Int)) v1 v2 v3 v4 v5 v6 v7 (.slice kA m kc) v9)
    (hqg : qn ≠ gp) (h : PS2 59 w gp g n cp ts σ) (hm : (decide (0 < m) && isS ts [125] σ) = false) :
    Calls Tryd.prog 98 #[.pointer (some ⟨gp, 0, none⟩), .pointer (some ⟨qn, 0, none⟩)] w fun x w' => x = .returned (.bool true) ∧ PS2 59 w' gp g n cp ts (if m = mostL kd then failS 9 σ else σ) ∧ Touch (AtB gp) w w' := by
  obtain ⟨c0, c1, c2, c3, c4, c5, c6, c7, c8, c9, cl⟩ := hb.cells
  have HM := Lib.hid (fun w => mostkids_any kd hk w)
  obtain ⟨mo, hmo⟩ : ∃ mo, mostL kd = mo := ⟨_, rfl⟩
  rw [hmo] at hf HM ⊢
  have h1 : decide ((mo : Int) ≤ 1) = false := by simp; omega
  have h1' : decide (mo ≤ 1) = false := by simp; omega
  have h11 : ((kd : Int) == 11) = false := by simp; omega
  have HF := Lib.hid (fun (W : World) (q : PS2 59 W gp g n cp ts σ) => fail_st q 9)
  have HB := Lib.hid hb
  have HP := Lib.hid h
  have HA := Lib.hid (fun (hi : isS ts [125] σ = false) => (by have := accept_at (s := [125]) h hi; rwa [acS_no hi] at this : Calls Tryd.prog 65 #[.pointer (some ⟨gp, 0, none⟩), .string ⟨#[125]⟩] w fun x w' => x = .returned (.bool false) ∧ PS2 59 w' gp g n cp ts σ ∧ Touch (AtB gp) w w'))
  clear hb hmo hk hf h hp
  by_cases h0 : 0 < m
  · have h2 : decide ((0 : Int) < (m : Int)) = true := by simp; omega
    have h2' : decide (0 < m) = true := by simp; omega
    rw [h2', Bool.true_and] at hm
    have HA := Lib.hid (HA.out hm)
    clear hm
    by_cases hmm : m = mo
    · have h3 : ((m : Int) == (mo : Int)) = true := by rw [hmm]; simp
      rw [if_pos hmm]
      clear hmm
      go_enter Tryd.func98, Tryd.ntmps98
      go_wp2_with fail
      refine (HM.out _).mono ?_
      rintro x w1 ⟨rfl, rfl⟩
      go_wp2_with fail
      refine HA.out.mono ?_
      rintro x w2 ⟨rfl, p1, p2⟩
      have HF := Lib.hid (HF.out w2 p1)
      have HB2 := Lib.hid (HB.out.go p2 hqg)
      have HT := Lib.hid p2
      clear p1 p2 c0 c1 c2 c3 c4 c5 c6 c7 c8 c9 cl
      obtain ⟨c0, c1, c2, c3, c4, c5, c6, c7, c8, c9, cl⟩ := HB2.out.cells
      go_wp2_with fail
      refine HF.out.mono ?_
      rintro x w3 ⟨rfl, p1, p2⟩
      have HB3 := Lib.hid (HB2.out.go p2 hqg)
      have HE := Lib.hid (And.intro p1 (HT.out.same p2))
      clear p1 p2 c0 c1 c2 c3 c4 c5 c6 c7 c8 c9 cl
      obtain ⟨c0, c1, c2, c3, c4, c5, c6, c7, c8, c9, cl⟩ := HB3.out.cells
      go_wp2
      go_ret
      exact ⟨rfl, HE.out.1, HE.out.2⟩
    · have h3 : ((m : Int) == (mo : Int)) = false := by simp; omega
      rw [if_neg hmm]
      clear hmm
      go_enter Tryd.func98, Tryd.ntmps98
      go_wp2_with fail
      refine (HM.out _).mono ?_
      rintro x w1 ⟨rfl, rfl⟩
      go_wp2_with fail
      refine HA.out.mono ?_
      rintro x w2 ⟨rfl, p1, p2⟩
      have HB2 := Lib.hid (HB.out.go p2 hqg)
      have HE := Lib.hid (And.intro p1 p2)
      clear p1 p2 c0 c1 c2 c3 c4 c5 c6 c7 c8 c9 cl
      obtain ⟨c0, c1, c2, c3, c4, c5, c6, c7, c8, c9, cl⟩ := HB2.out.cells
      go_wp2
      go_ret
      exact ⟨rfl, HE.out.1, HE.out.2⟩
  · have h2 : decide ((0 : Int) < (m : Int)) = false := by simp; omega
    have h2' : decide (0 < m) = false := by simp; omega
    have hmm : ¬ m = mo := by
      intro e
      simp at h1'
      omega
    have h3 : ((m : Int) == (mo : Int)) = false := by simp; omega
    rw [if_neg hmm]
    clear hmm h0 hm
    go_enter Tryd.func98, Tryd.ntmps98
    go_wp2_with fail
    refine (HM.out _).mono ?_
    rintro x w1 ⟨rfl, rfl⟩
    go_wp2
    go_ret
    exact ⟨rfl, HP.out, Touch.refl _ _⟩
end Go.Proofs.YtanecdpcenkoeaaDoor

/-
  An act's loop over lists, round by round; rows of conditions and makes. Lists alone but for the rows; no condition beyond those that each theorem names.
-/
namespace Go.Proofs.YtanecdpcenkoeaaDoor
open Go.ChangeShapes Go.WideShapes Go.ChangeAt Go.RowKit
set_option maxRecDepth 100000

/-! ### places go on -/
theorem acS_ge (ts : List Tk) (s : Bs) (σ : St) : σ.1 ≤ (acS ts s σ).1 := by unfold acS; simp only; split <;> omega
theorem acS_yes {ts : List Tk} {s : Bs} {σ : St} (h : isS ts s σ = true) : acS ts s σ = (σ.1 + 1, σ.2) := by unfold acS; rw [if_pos h]
theorem failS_at (c : Nat) (σ : St) : (failS c σ).1 = σ.1 := rfl
theorem exS_ge (ts : List Tk) (s : Bs) (σ : St) : σ.1 ≤ (exS ts s σ).1 := by unfold exS; simp only; split <;> omega
theorem nuS_ge (ts : List Tk) (σ : St) : σ.1 ≤ (nuS ts σ).1 := by unfold nuS stepK; simp only; split <;> omega
theorem naS_ge (ts : List Tk) (σ : St) : σ.1 ≤ (naS ts σ).1 := by unfold naS stepK; simp only; split <;> omega
theorem choS_ge (ts : List Tk) (ws : List Bs) (σ : St) : σ.1 ≤ (choS ts ws σ).1 := by unfold choS; split <;> simp [failS]
theorem siS_ge (ts : List Tk) (σ : St) : σ.1 ≤ (siS ts σ).1 := Nat.le_trans (acS_ge ts [45] σ) (nuS_ge ts _)
theorem keyS_ge (ts : List Tk) (σ : St) : σ.1 ≤ (keyS ts σ).1 := Nat.le_trans (choS_ge ts ownW σ) (Nat.le_trans (naS_ge ts _) (Nat.le_trans (choS_ge ts kindW _) (exS_ge ts [59] _)))
theorem varS_ge (ts : List Tk) (σ : St) : σ.1 ≤ (varS ts σ).1 := Nat.le_trans (naS_ge ts σ) (Nat.le_trans (siS_ge ts _) (Nat.le_trans (siS_ge ts _) (exS_ge ts [59] _)))
theorem cndS_ge (ts : List Tk) (σ : St) : σ.1 ≤ (cndS ts σ).1 := Nat.le_trans (naS_ge ts σ) (Nat.le_trans (choS_ge ts opW _) (Nat.le_trans (siS_ge ts _) (exS_ge ts [59] _)))
theorem mkeS_ge (ts : List Tk) (σ : St) : σ.1 ≤ (mkeS ts σ).1 := by
  unfold mkeS
  refine Nat.le_trans (naS_ge ts σ) (Nat.le_trans ?_ (exS_ge ts [59] _))
  split
  · exact Nat.le_trans (acS_ge ts [61] _) (siS_ge ts _)
  · split
    · exact Nat.le_trans (acS_ge ts [43] _) (nuS_ge ts _)
    · split
      · exact Nat.le_trans (acS_ge ts [45] _) (nuS_ge ts _)
      · exact Nat.le_refl _
theorem beS_at (ts : List Tk) (s : Bs) (a b : Nat) (σ : St) : (beS ts s a b σ).1 = σ.1 := by unfold beS; split <;> rfl
theorem beT_yes {ts : List Tk} {s : Bs} {a b : Nat} {σ : St} (h : beV ts s a b σ = true) : (beT ts s a b σ).1 = σ.1 + 1 := by unfold beT; rw [acS_yes h]; exact congrArg (· + 1) (beS_at ts s a b σ)
theorem beT_no {ts : List Tk} {s : Bs} {a b : Nat} {σ : St} (h : beV ts s a b σ = false) : (beT ts s a b σ).1 = σ.1 := by unfold beT; rw [acS_no h]; exact beS_at ts s a b σ
theorem failS_bad {c : Nat} (hc : c ≠ 0) (σ : St) : (failS c σ).2 ≠ 0 := by unfold failS; simp only; split <;> assumption
theorem wi_yes {ts : List Tk} {σ : St} (h : wiV ts σ = true) : σ.2 = 0 ∧ wiS ts σ = σ := by
  unfold wiV at h
  simp only [Bool.and_eq_true, decide_eq_true_eq, Bool.not_eq_true'] at h
  exact ⟨h.1, acS_no h.2⟩
/-- Enough fuel for what is left to read. -/
def Fu (f n : Nat) (σ : St) : Prop := 1 ≤ f ∧ (σ.2 = 0 → n - σ.1 + 2 ≤ f)
theorem Fu.next {f n : Nat} {σ τ : St} (h : Fu (f + 1) n σ) (h0 : σ.2 = 0) (hk : σ.1 < n) (hg : σ.1 + 1 ≤ τ.1) : Fu f n τ := by
  have := h.2 h0
  exact ⟨by omega, fun _ => by omega⟩
theorem Fu.stop {f n : Nat} {σ τ : St} (h : Fu (f + 1) n σ) (h0 : σ.2 = 0) (hb : τ.2 ≠ 0) : Fu f n τ := by
  have := h.2 h0
  exact ⟨by omega, fun h => absurd h hb⟩
/-- An act's loop, round by round. -/
theorem act_round {ts : List Tk} {f : Nat} {a : List Cn} {b : List Mk} {σ : St} {R0 : (List Cn × List Mk) × St} {n : Nat} (h : actR ts f a b σ = R0) (hf : Fu f n σ) :
    (wiV ts σ = false → R0 = ((a, b), wiS ts σ)) ∧
    (wiV ts σ = true → ∃ f', f = f' + 1 ∧ σ.2 = 0 ∧
      (beV ts needB a.length 8 σ = true → actR ts f' (a ++ [cndV ts (beT ts needB a.length 8 σ)]) b (cndS ts (beT ts needB a.length 8 σ)) = R0) ∧
      (beV ts needB a.length 8 σ = false → beV ts makeB b.length 8 (beT ts needB a.length 8 σ) = true → actR ts f' a (b ++ [mkeV ts (beT ts makeB b.length 8 (beT ts needB a.length 8 σ))]) (mkeS ts (beT ts makeB b.length 8 (beT ts needB a.length 8 σ))) = R0) ∧
      (beV ts needB a.length 8 σ = false → beV ts makeB b.length 8 (beT ts needB a.length 8 σ) = false → actR ts f' a b (failS 2 (beT ts makeB b.length 8 (beT ts needB a.length 8 σ))) = R0)) := by
  cases f with
  | zero => exact absurd hf.1 (by omega)
  | succ f =>
    unfold actR at h
    constructor
    · intro hw
      rw [if_neg (by rw [hw]; decide)] at h
      exact h.symm
    · intro hw
      obtain ⟨h0, hs⟩ := wi_yes hw
      rw [if_pos hw, hs] at h
      simp only at h
      refine ⟨f, rfl, h0, fun h1 => ?_, fun h1 h2 => ?_, fun h1 h2 => ?_⟩
      · rw [if_pos h1] at h; exact h
      · rw [if_neg (by rw [h1]; decide), if_pos h2] at h; exact h
      · rw [if_neg (by rw [h1]; decide), if_neg (by rw [h2]; decide)] at h; exact h
/-- The cells of conditions and makes. -/
def cnC (l : List Cn) : List Value := l.flatMap (fun c => [.string (bs c.nm), .int .i64 (c.op : Int), .int .i64 c.n])
def mkC (l : List Mk) : List Value := l.flatMap (fun c => [.string (bs c.nm), .bool c.add, .int .i64 c.n])
def vaC (l : List Va) : List Value := l.flatMap (fun c => [.string (bs c.nm), .int .i64 c.lo, .int .i64 c.hi])
def kyC (l : List Ky) : List Value := l.flatMap (fun c => [.string (bs c.nm), .int .i64 (c.kd : Int), .bool c.sh])
theorem cnC_snoc (l : List Cn) (c : Cn) : cnC (l ++ [c]) = cnC l ++ [.string (bs c.nm), .int .i64 (c.op : Int), .int .i64 c.n] := by simp [cnC]
theorem mkC_snoc (l : List Mk) (c : Mk) : mkC (l ++ [c]) = mkC l ++ [.string (bs c.nm), .bool c.add, .int .i64 c.n] := by simp [mkC]
theorem vaC_snoc (l : List Va) (c : Va) : vaC (l ++ [c]) = vaC l ++ [.string (bs c.nm), .int .i64 c.lo, .int .i64 c.hi] := by simp [vaC]
theorem kyC_snoc (l : List Ky) (c : Ky) : kyC (l ++ [c]) = kyC l ++ [.string (bs c.nm), .int .i64 (c.kd : Int), .bool c.sh] := by simp [kyC]
end Go.Proofs.YtanecdpcenkoeaaDoor

/-
  What package tree's act does with a parser in memory. Conditions: numbers among the tokens are such.
-/
namespace Go.Proofs.YtanecdpcenkoeaaDoor
open Go.ChangeShapes Go.WideShapes Go.ChangeAt Go.RowKit
set_option maxRecDepth 100000
set_option maxHeartbeats 4000000

theorem info_cond' : ∃ i0, Tryd.prog.info? 127 = some i0 ∧ i0.zero = some (.agg #[.string ⟨#[]⟩, .int .i64 0, .int .i64 0]) ∧ i0.size = 3 ∧ i0.bytes = 32 := by
  have h : (Tryd.prog.info? 127).map (fun i => (i.zero, i.size, i.bytes)) = some (some (.agg #[.string ⟨#[]⟩, .int .i64 0, .int .i64 0]), 3, 32) := by kernel_rfl
  cases hi : Tryd.prog.info? 127 with
  | none => rw [hi] at h; cases h
  | some i0 =>
    rw [hi] at h
    simp only [Option.map_some, Option.some.injEq, Prod.mk.injEq] at h
    exact ⟨i0, rfl, h.1, h.2.1, h.2.2⟩
theorem info_make' : ∃ i0, Tryd.prog.info? 149 = some i0 ∧ i0.zero = some (.agg #[.string ⟨#[]⟩, .bool false, .int .i64 0]) ∧ i0.size = 3 ∧ i0.bytes = 32 := by
  have h : (Tryd.prog.info? 149).map (fun i => (i.zero, i.size, i.bytes)) = some (some (.agg #[.string ⟨#[]⟩, .bool false, .int .i64 0]), 3, 32) := by kernel_rfl
  cases hi : Tryd.prog.info? 149 with
  | none => rw [hi] at h; cases h
  | some i0 =>
    rw [hi] at h
    simp only [Option.map_some, Option.some.injEq, Prod.mk.injEq] at h
    exact ⟨i0, rfl, h.1, h.2.1, h.2.2⟩
/-- A block of four cells of its own. -/
def B4 (w : World) (T : TypeId) (q : Nat) (a b c d : Value) : Prop := w.heap[q]? = some (.cells #[a, b, c, d] T (0, 0))
theorem B4.go {w w' : World} {T : TypeId} {gp q : Nat} {a b c d : Value} (h : B4 w T q a b c d) (t : Touch (AtB gp) w w') (hne : q ≠ gp) : B4 w' T q a b c d := (t.block q (blk_lt h) hne).trans h
theorem B4.new (w : World) (T : TypeId) (a b c d : Value) {N : Nat} (hN : w.heap.size = N) : B4 (w.alloc (.cells #[a, b, c, d] T)) T N a b c d := alloc_blk _ _ _ hN
theorem B4.cells {w : World} {T : TypeId} {q : Nat} {a b c d : Value} (h : B4 w T q a b c d) : w.cell? ⟨q, 0, none⟩ = some a ∧ w.cell? ⟨q, 1, none⟩ = some b ∧ w.cell? ⟨q, 2, none⟩ = some c ∧ w.cell? ⟨q, 3, none⟩ = some d ∧ q < w.heap.size := ⟨cell_blk h 0, cell_blk h 1, cell_blk h 2, cell_blk h 3, blk_lt h⟩
theorem B4.free {w : World} {T : TypeId} {q : Nat} {a b c d : Value} (h : B4 w T q a b c d) : w.frozen? ⟨q, 0, none⟩ = false ∧ w.frozen? ⟨q, 1, none⟩ = false ∧ w.frozen? ⟨q, 2, none⟩ = false ∧ w.frozen? ⟨q, 3, none⟩ = false := ⟨free_blk h 0, free_blk h 1, free_blk h 2, free_blk h 3⟩
theorem B4.aside {w : World} {T : TypeId} {q p i : Nat} {a b c d v : Value} (h : B4 w T q a b c d) (hne : q ≠ p) : B4 (w.setCell ⟨p, i, none⟩ v) T q a b c d :=
  (((Touch.refl (fun b => b = p) w).setCell (p := ⟨p, i, none⟩) (.inl rfl) v).block q (blk_lt h) hne).trans h
theorem B4.set2 {w : World} {T : TypeId} {q : Nat} {a b c d : Value} (h : B4 w T q a b c d) (v : Value) : B4 (w.setCell ⟨q, 2, none⟩ v) T q a b v d := set_blk h 2 v
theorem B4.set3 {w : World} {T : TypeId} {q : Nat} {a b c d : Value} (h : B4 w T q a b c d) (v : Value) : B4 (w.setCell ⟨q, 3, none⟩ v) T q a b c v := set_blk h 3 v
theorem B4.set1 {w : World} {T : TypeId} {q : Nat} {a b c d : Value} (h : B4 w T q a b c d) (v : Value) : B4 (w.setCell ⟨q, 1, none⟩ v) T q a v c d := set_blk h 1 v
/-- A row of one's own is left by a call, and by a store elsewhere. -/
theorem row_go {w w' : World} {base gp size m : Nat} {e : TypeId} {v : Value} {xs : List Value} (h : w.ownsRow base e size v m xs) (t : Touch (AtB gp) w w') (hb : gp < base) : w'.ownsRow base e size v m xs :=
  row_touch h t (fun k hk f => by have := (h.lt k hk).1; unfold AtB at f; omega)
theorem row_aside {w : World} {base q i size m : Nat} {e : TypeId} {v x : Value} {xs : List Value} (h : w.ownsRow base e size v m xs) (hq : v.ownBlock ≠ some q) : (w.setCell ⟨q, i, none⟩ x).ownsRow base e size v m xs :=
  row_touch h ((Touch.refl (fun b => b = q) w).setCell (p := ⟨q, i, none⟩) (.inl rfl) x) (fun k hk f => by subst f; exact hq hk)
structure ActRel (w : World) (gp g n cp q3 : Nat) (ts : List Tk) (R0 : (List Cn × List Mk) × St) (nm : ByteArray) (cost : Int) (f : Nat) (a : List Cn) (b : List Mk) (σ : St) (nv mv : Value) (wr : World) : Prop where
  t : Touch (AtB gp) w wr
  b2 : B4 wr 124 w.heap.size (.string ⟨#[]⟩) (.int .i64 0) (.slice none 0 0) (.slice none 0 0)
  b3 : B4 wr 124 q3 (.string nm) (.int .i64 cost) nv mv
  rn : wr.ownsRow w.heap.size 127 3 nv a.length (cnC a)
  rm : wr.ownsRow w.heap.size 149 3 mv b.length (mkC b)
  ps : PS2 59 wr gp g n cp ts σ
  md : actR ts f a b σ = R0
  fu : Fu f n σ
  la : a.length ≤ 8
  lb : b.length ≤ 8
/-- What an act's parser leaves. -/
def AcPost (w : World) (gp g n cp : Nat) (ts : List Tk) (v : Ac) (st : St) (x : Ending) (w' : World) : Prop := ∃ (nv mv : Value), x = .returned (.agg #[.string (bs v.nm), .int .i64 (v.cost : Int), nv, mv]) ∧
  w'.ownsRow w.heap.size 127 3 nv v.need.length (cnC v.need) ∧ w'.ownsRow w.heap.size 149 3 mv v.make.length (mkC v.make) ∧ PS2 59 w' gp g n cp ts st ∧ Touch (AtB gp) w w'
def meas2 (gp n : Nat) (wr : World) : Nat := 2 * (n - (intOf ((wr.cell? ⟨gp, 1, none⟩).getD undef)).toNat) + (if (intOf ((wr.cell? ⟨gp, 2, none⟩).getD undef)) = 0 then 1 else 0)
theorem meas2_at {T : TypeId} {w : World} {gp g n cp : Nat} {ts : List Tk} {σ : St} (h : PS2 T w gp g n cp ts σ) : meas2 gp n w = 2 * (n - σ.1) + (if σ.2 = 0 then 1 else 0) := by
  have h1 : w.cell? ⟨gp, 1, none⟩ = some (.int .i64 (σ.1 : Int)) := cell_blk h.blk 1
  have h2 : w.cell? ⟨gp, 2, none⟩ = some (.int .i64 (σ.2 : Int)) := cell_blk h.blk 2
  unfold meas2
  rw [h1, h2]
  simp [intOf]
theorem be_lt {ts : List Tk} {s : Bs} {a m : Nat} {σ : St} (h : beV ts s a m σ = true) (ha : a ≤ m) : a < m := by
  by_cases e : a = m
  · unfold beV beS at h
    split at h
    · rw [acS_bad (failS_bad (by decide) σ)] at h; cases h
    · rename_i hn
      exact absurd ⟨e, h⟩ hn
  · omega
/-- The way out of the loop. -/
theorem act_out {w V : World} {gp g n cp q3 : Nat} {ts : List Tk} {R0 : (List Cn × List Mk) × St} {nm : ByteArray} {cost : Int} {f : Nat} {a : List Cn} {b : List Mk} {σ st : St} {nv mv : Value} {wr : World} (h : ActRel w gp g n cp q3 ts R0 nm cost f a b σ nv mv wr) (t : Touch (AtB gp) wr V) (hp : PS2 59 V gp g n cp ts st)
    (hgp : gp < w.heap.size) (hgl : g < w.heap.size) :
    ∀ (x0 x1 x2 x3 : Value), let W := (((V.setCell ⟨w.heap.size, 0, none⟩ x0).setCell ⟨w.heap.size, 1, none⟩ x1).setCell ⟨w.heap.size, 2, none⟩ x2).setCell ⟨w.heap.size, 3, none⟩ x3
      W.ownsRow w.heap.size 127 3 nv a.length (cnC a) ∧ W.ownsRow w.heap.size 149 3 mv b.length (mkC b) ∧ PS2 59 W gp g n cp ts st ∧ Touch (AtB gp) w W := by
  intro x0 x1 x2 x3
  have hb2 := h.b2.go t (by omega)
  have r1 := row_go h.rn t hgp
  have r2 := row_go h.rm t hgp
  have n1 : nv.ownBlock ≠ some w.heap.size := row_ne r1 hb2 (by decide)
  have n2 : mv.ownBlock ≠ some w.heap.size := row_ne r2 hb2 (by decide)
  exact ⟨row_aside (row_aside (row_aside (row_aside r1 n1) n1) n1) n1, row_aside (row_aside (row_aside (row_aside r2 n2) n2) n2) n2, PSt.own (PSt.own (PSt.own (PSt.own hp hgp hgl) hgp hgl) hgp hgl) hgp hgl,
    touch4 (h.t.same t) (.inr (Nat.le_refl _)) x0 x1 x2 x3⟩
end Go.Proofs.YtanecdpcenkoeaaDoor

/-
  What package tree's act does with a parser in memory. Conditions: numbers among the tokens are such.
-/
namespace Go.Proofs.YtanecdpcenkoeaaDoor
open Go.ChangeShapes Go.WideShapes Go.ChangeAt Go.RowKit
set_option maxRecDepth 100000
set_option maxHeartbeats 4000000

/-- An append's target grows: what lies elsewhere stays. -/
theorem PSt.touchR {T : TypeId} {w w' : World} {gp g n cp base : Nat} {ts : List Tk} {k e : Nat} {v : Value} (h : PSt T w gp g n cp ts k e) (t : Touch (fun b => v.ownBlock = some b) w w') (hb : ∀ k, v.ownBlock = some k → base ≤ k) (h1 : gp < base) (h2 : g < base) : PSt T w' gp g n cp ts k e := by
  have e1 : v.ownBlock ≠ some gp := fun x => by have := hb _ x; omega
  have e2 : v.ownBlock ≠ some g := fun x => by have := hb _ x; omega
  refine ⟨(t.block gp (blk_lt h.blk) e1).trans h.blk, ?_, h.ne, h.len, h.le, h.small, h.txs⟩
  refine ⟨Nat.lt_of_lt_of_le h.tl.lt t.size, fun k x hx => ?_⟩
  have e := fun j => t.cell (p := ⟨g, j, none⟩) h.tl.lt e2
  obtain ⟨a, b, c, d⟩ := h.tl.at_ k x hx
  exact ⟨(e _).trans a, (e _).trans b, (e _).trans c, (e _).trans d⟩
theorem B4.goR {w w' : World} {T : TypeId} {q : Nat} {a b c d v : Value} (h : B4 w T q a b c d) (t : Touch (fun b => v.ownBlock = some b) w w') (hne : v.ownBlock ≠ some q) : B4 w' T q a b c d := (t.block q (blk_lt h) hne).trans h
theorem row_base {w : World} {base size n : Nat} {e : TypeId} {v : Value} {xs : List Value} (h : w.ownsRow base e size v n xs) : ∀ k, v.ownBlock = some k → base ≤ k := fun k hk => by
  rcases h.2 with ⟨rfl, _⟩ | ⟨g, cap, cur, rfl, hb, _⟩
  · simp [Value.ownBlock] at hk
  · have : g = k := by simpa [Value.ownBlock] using hk
    omega
theorem act_any {w : World} {gp g n cp : Nat} {ts : List Tk} {σ : St} (hnk : NumsOk ts) (h : PS2 59 w gp g n cp ts σ) :
    Calls Tryd.prog 74 #[.pointer (some ⟨gp, 0, none⟩)] w fun x w' => AcPost w gp g n cp ts (actV ts σ) (actS ts σ) x w' := by
  obtain ⟨W0, hW0⟩ : ∃ W, w.alloc (.cells #[.string ⟨#[]⟩, .int .i64 0, .slice none 0 0, .slice none 0 0] 124) = W := ⟨_, rfl⟩
  have t0 : Touch NoB w W0 := by rw [← hW0]; exact (Touch.refl _ _).alloc _
  have b2 : B4 W0 124 w.heap.size (.string ⟨#[]⟩) (.int .i64 0) (.slice none 0 0) (.slice none 0 0) := by rw [← hW0]; exact B4.new w _ _ _ _ _ rfl
  have hgp := blk_lt h.blk
  have hgl := h.tl.lt
  have hs0 : W0.heap.size = w.heap.size + 1 := by rw [← hW0]; simp only [World.size_alloc]
  have HP := Lib.hid (h.touch t0)
  have HB2 := Lib.hid b2
  have HT := Lib.hid (Touch.anyB (F := AtB gp) t0)
  have hln : ts.length = n := h.len
  obtain ⟨R0, hR0⟩ : ∃ z, actR ts (ts.length + 5) [] [] (actH ts σ) = z := ⟨_, rfl⟩
  unfold actV actS
  simp only [hR0]
  unfold actH at hR0
  obtain ⟨v1, hv1⟩ : ∃ z, naV ts σ = z := ⟨_, rfl⟩
  obtain ⟨s1, hs1⟩ : ∃ z, naS ts σ = z := ⟨_, rfl⟩
  have H1 := Lib.hid (fun (W : World) (q : PS2 59 W gp g n cp ts σ) => name_st q)
  simp only [hv1, hs1] at *
  obtain ⟨s2, hs2⟩ : ∃ z, exS ts [99, 111, 115, 116] s1 = z := ⟨_, rfl⟩
  have H2 : Hid (∀ (W : World), PS2 59 W gp g n cp ts s1 → Calls Tryd.prog 70 #[.pointer (some ⟨gp, 0, none⟩), .string ⟨#[99, 111, 115, 116]⟩] W fun x w' => x = .returned (.tuple #[]) ∧ PS2 59 w' gp g n cp ts s2 ∧ Touch (AtB gp) W w') := Lib.hid (fun W q => by rw [← hs2]; exact expect_st (s := [99, 111, 115, 116]) q)
  simp only [hs2] at *
  have H3 := Lib.hid (fun (W : World) (q : PS2 59 W gp g n cp ts s2) => number_st q)
  obtain ⟨v3, hv3⟩ : ∃ z, nuV ts s2 = z := ⟨_, rfl⟩
  obtain ⟨s3, hs3⟩ : ∃ z, nuS ts s2 = z := ⟨_, rfl⟩
  simp only [hv3, hs3] at *
  obtain ⟨s4, hs4⟩ : ∃ z, exS ts [123] s3 = z := ⟨_, rfl⟩
  have H4 : Hid (∀ (W : World), PS2 59 W gp g n cp ts s3 → Calls Tryd.prog 70 #[.pointer (some ⟨gp, 0, none⟩), .string ⟨#[123]⟩] W fun x w' => x = .returned (.tuple #[]) ∧ PS2 59 w' gp g n cp ts s4 ∧ Touch (AtB gp) W w') := Lib.hid (fun W q => by rw [← hs4]; exact expect_st (s := [123]) q)
  simp only [hs4] at *
  obtain ⟨n1, hn1⟩ : ∃ z, bs v1 = z := ⟨_, rfl⟩
  have HN1 := Lib.hid hn1
  rw [hn1] at H1
  have HR0 := Lib.hid hR0
  have HNK := Lib.hid hnk
  have HLN := Lib.hid hln
  clear hs4 hs3 hs1 hv1 h t0 b2 hs2 hv3 hn1 hR0 hnk hln
  have HC := Lib.hid (H1.out W0 HP.out)
  go_enter Tryd.func74, Tryd.ntmps74
  go_wp2_with fail
  refine HC.out.mono ?_
  rintro r w1 ⟨rfl, hp, hT⟩
  obtain ⟨X, hX⟩ : ∃ X, w1.alloc (.cells #[.string n1, .int .i64 0, .slice none 0 0, .slice none 0 0] 124) = X := ⟨_, rfl⟩
  have tx : Touch NoB w1 X := by rw [← hX]; exact (Touch.refl _ _).alloc _
  obtain ⟨q3, hq3⟩ : ∃ q3, w1.heap.size = q3 := ⟨_, rfl⟩
  have hsq : w.heap.size < q3 := by have := hT.size; omega
  have HB3 := Lib.hid (show B4 X 124 q3 (.string n1) (.int .i64 0) (.slice none 0 0) (.slice none 0 0) by rw [← hX]; exact B4.new _ _ _ _ _ _ hq3)
  have HB2 := Lib.hid ((HB2.out.go hT (by omega)).go (Touch.anyB (F := AtB gp) tx) (by omega))
  have HT := Lib.hid (HT.out.same (hT.same (Touch.anyB tx)))
  have HP := Lib.hid (hp.touch tx)
  clear hp hT tx
  subst hX
  have HC := Lib.hid (H2.out _ HP.out)
  go_wp2_with fail
  refine HC.out.mono ?_
  rintro r uy ⟨rfl, hp, hT⟩
  have HB3 := Lib.hid (HB3.out.go hT (by omega))
  have HB2 := Lib.hid (HB2.out.go hT (by omega))
  have HT := Lib.hid (HT.out.same hT)
  have HP := Lib.hid hp
  clear hp hT
  have HC := Lib.hid (H3.out uy HP.out)
  go_wp2_with fail
  refine HC.out.mono ?_
  rintro r un ⟨rfl, hp, hT⟩
  have HB3 := Lib.hid (HB3.out.go hT (by omega))
  have HB2 := Lib.hid (HB2.out.go hT (by omega))
  have HT := Lib.hid (HT.out.same hT)
  have HP := Lib.hid hp
  clear hp hT
  obtain ⟨x0, x1, x2, x3, xl⟩ := HB3.out.cells
  obtain ⟨y0, y1, y2, y3⟩ := HB3.out.free
  obtain ⟨V, hV⟩ : ∃ V, un.setCell ⟨q3, 1, none⟩ (.int .i64 (v3 : Int)) = V := ⟨_, rfl⟩
  have HP := Lib.hid (show PS2 59 V gp g n cp ts s3 by rw [← hV]; exact HP.out.own (by omega) (by omega))
  have HB3 := Lib.hid (show B4 V 124 q3 (.string n1) (.int .i64 (v3 : Int)) (.slice none 0 0) (.slice none 0 0) by rw [← hV]; exact HB3.out.set1 _)
  have HB2 := Lib.hid (show B4 V 124 w.heap.size (.string ⟨#[]⟩) (.int .i64 0) (.slice none 0 0) (.slice none 0 0) by rw [← hV]; exact HB2.out.aside (by omega))
  have HT := Lib.hid (show Touch (AtB gp) w V by rw [← hV]; exact HT.out.setCell (p := ⟨q3, 1, none⟩) (.inr (by simp only; omega)) _)
  have HC := Lib.hid (H4.out V HP.out)
  go_wp2_with fail
  refine HC.out.mono ?_
  rintro r ue ⟨rfl, hp, hT⟩
  have HB3 := Lib.hid (HB3.out.go hT (by omega))
  have HB2 := Lib.hid (HB2.out.go hT (by omega))
  have HT := Lib.hid (HT.out.same hT)
  have HP := Lib.hid hp
  clear hp hT
  have HR : Hid (∃ f a b τ nv mv, ActRel w gp g n cp q3 ts R0 n1 (v3 : Int) f a b τ nv mv ue) := Lib.hid ⟨ts.length + 5, [], [], s4, .slice none 0 0, .slice none 0 0, HT.out, HB2.out, HB3.out, World.ownsRow_nil _ _ _ _, World.ownsRow_nil _ _ _ _, HP.out, HR0.out, ⟨by omega, fun _ => by have := HLN.out; omega⟩, by simp, by simp⟩
  clear HC HT HP HB2 HB3 HR0 H1 H2 H3 H4 x0 x1 x2 x3 xl y0 y1 y2 y3 hV
  go_wp2_with fail
  go_loopw [] (fun wr => ∃ f a b τ nv mv, ActRel w gp g n cp q3 ts R0 n1 (v3 : Int) f a b τ nv mv wr) (fun wr => meas2 gp n wr)
  case atStart => exact HR.out
  case round =>
    clear HR
    obtain ⟨f, a, b, τ, nv, mv, hR⟩ := hrel
    obtain ⟨A1, kp1, rfl, hc1, hc2⟩ := row_any hR.rn
    obtain ⟨A2, kp2, rfl, hd1, hd2⟩ := row_any hR.rm
    have hrd := act_round hR.md hR.fu
    have hme := meas2_at hR.ps
    have HC := Lib.hid (within_st hR.ps)
    have HR := Lib.hid hR
    clear hR
    cases hw : wiV ts τ
    · rw [hw] at HC
      have he := hrd.1 hw
      clear hrd hme
      go_wp2_with fail
      refine HC.out.mono ?_
      rintro r V ⟨rfl, hp, hT⟩
      obtain ⟨z0, z1, z2, z3, zl⟩ := (HR.out.b2.go hT (by omega)).cells
      obtain ⟨f0, f1, f2, f3⟩ := (HR.out.b2.go hT (by omega)).free
      obtain ⟨p0, p1, p2, p3, pl⟩ := (HR.out.b3.go hT (by omega)).cells
      have HO := Lib.hid (act_out HR.out hT hp hgp hgl)
      have HE := Lib.hid he
      clear hT hp he
      go_wp2
      refine bodyPost_ret (v := .agg #[.string n1, .int .i64 (v3 : Int), .slice A1 a.length kp1, .slice A2 b.length kp2]) (by simp [results, Tryd.results74, go_sem, z0, z1, z2, z3]) rfl ?_
      rw [HE.out, ← HN1.out]
      exact ⟨_, _, rfl, HO.out _ _ _ _⟩
    · rw [hw] at HC
      obtain ⟨f', rfl, h0, r1, r2, r3⟩ := hrd.2 hw
      rw [(wi_yes hw).2] at HC
      clear hrd
      obtain ⟨tn, htn⟩ : ∃ z, beT ts needB a.length 8 τ = z := ⟨_, rfl⟩
      obtain ⟨bn, hbn⟩ : ∃ z, beV ts needB a.length 8 τ = z := ⟨_, rfl⟩
      have HBN : Hid (∀ (W : World), PS2 59 W gp g n cp ts τ → Calls Tryd.prog 30 #[.pointer (some ⟨gp, 0, none⟩), .string ⟨#[110, 101, 101, 100]⟩, .int .i64 (a.length : Int), .int .i64 8] W fun x w' => x = .returned (.bool bn) ∧ PS2 59 w' gp g n cp ts tn ∧ Touch (AtB gp) W w') := Lib.hid (fun W q => by rw [← htn, ← hbn]; exact begins_st (s := needB) (hv := a.length) (most := 8) q)
      have htn1 : bn = true → tn.1 = τ.1 + 1 ∧ a.length < 8 := fun e => by rw [← htn]; subst e; exact ⟨beT_yes hbn, be_lt hbn HR.out.la⟩
      have htn0 : bn = false → tn.1 = τ.1 := fun e => by rw [← htn]; subst e; exact beT_no hbn
      rw [htn, hbn] at r1 r2 r3
      have HK := Lib.hid (And.intro r1 (And.intro r2 (And.intro r3 (And.intro htn1 (And.intro htn0 (And.intro h0 hme))))))
      clear htn hbn htn1 htn0 r1 r2 r3 h0 hme hw
      go_wp2_with fail
      refine HC.out.mono ?_
      rintro r V ⟨rfl, hp, hT⟩
      obtain ⟨q0, q1, q2, q3', ql⟩ := (HR.out.b3.go hT (by omega)).cells
      have HT := Lib.hid (HR.out.t.same hT)
      have HB2 := Lib.hid (HR.out.b2.go hT (by omega))
      have HB3 := Lib.hid (HR.out.b3.go hT (by omega))
      have HRN := Lib.hid (row_go HR.out.rn hT hgp)
      have HRM := Lib.hid (row_go HR.out.rm hT hgp)
      have HC := Lib.hid (HBN.out V hp)
      clear hp hT
      go_wp2_with fail
      refine HC.out.mono ?_
      rintro r V2 ⟨rfl, hp, hT⟩
      have HT := Lib.hid (HT.out.same hT)
      have HB2 := Lib.hid (HB2.out.go hT (by omega))
      have HB3 := Lib.hid (HB3.out.go hT (by omega))
      have HRN := Lib.hid (row_go HRN.out hT hgp)
      have HRM := Lib.hid (row_go HRM.out hT hgp)
      have HP := Lib.hid hp
      clear hp hT q0 q1 q2 q3' ql
      cases bn
      · have htn0 := HK.out.2.2.2.2.1 rfl
        obtain ⟨q0, q1, q2, q3', ql⟩ := HB3.out.cells
        obtain ⟨um, hum⟩ : ∃ z, beT ts makeB b.length 8 tn = z := ⟨_, rfl⟩
        obtain ⟨bm, hbm⟩ : ∃ z, beV ts makeB b.length 8 tn = z := ⟨_, rfl⟩
        have HBM : Hid (∀ (W : World), PS2 59 W gp g n cp ts tn → Calls Tryd.prog 30 #[.pointer (some ⟨gp, 0, none⟩), .string ⟨#[109, 97, 107, 101]⟩, .int .i64 (b.length : Int), .int .i64 8] W fun x w' => x = .returned (.bool bm) ∧ PS2 59 w' gp g n cp ts um ∧ Touch (AtB gp) W w') := Lib.hid (fun W q => by rw [← hum, ← hbm]; exact begins_st (s := makeB) (hv := b.length) (most := 8) q)
        have hum1 : bm = true → um.1 = tn.1 + 1 ∧ b.length < 8 := fun e => by rw [← hum]; subst e; exact ⟨beT_yes hbm, be_lt hbm HR.out.lb⟩
        have hum0 : bm = false → um.1 = tn.1 := fun e => by rw [← hum]; subst e; exact beT_no hbm
        have r2 := HK.out.2.1 rfl
        have r3 := HK.out.2.2.1 rfl
        rw [hum, hbm] at r2 r3
        have HU := Lib.hid (And.intro r2 (And.intro r3 (And.intro hum1 (And.intro hum0 htn0))))
        clear hum hbm r2 r3 hum1 hum0
        have HC := Lib.hid (HBM.out V2 HP.out)
        go_wp2_with fail
        refine HC.out.mono ?_
        rintro r V3 ⟨rfl, hp, hT⟩
        have HT := Lib.hid (HT.out.same hT)
        have HB2 := Lib.hid (HB2.out.go hT (by omega))
        have HB3 := Lib.hid (HB3.out.go hT (by omega))
        have HRN := Lib.hid (row_go HRN.out hT hgp)
        have HRM := Lib.hid (row_go HRM.out hT hgp)
        have HP := Lib.hid hp
        clear hp hT q0 q1 q2 q3' ql
        cases bm
        · have hum0 := HU.out.2.2.2.1 rfl
          have HF := Lib.hid (fail_st HP.out 2)
          have hr3 := Lib.hid (HU.out.2.1 rfl)
          obtain ⟨fs, hfs⟩ : ∃ z, failS 2 um = z := ⟨_, rfl⟩
          have hf1 : fs.1 = um.1 := by rw [← hfs]; rfl
          have hf2 : fs.2 ≠ 0 := by rw [← hfs]; exact failS_bad (by decide) um
          rw [hfs] at HF hr3
          clear hfs
          go_wp2_with fail
          refine HF.out.mono ?_
          rintro r V4 ⟨rfl, hp, hT⟩
          have HT := Lib.hid (HT.out.same hT)
          have HB2 := Lib.hid (HB2.out.go hT (by omega))
          have HB3 := Lib.hid (HB3.out.go hT (by omega))
          have HRN := Lib.hid (row_go HRN.out hT hgp)
          have HRM := Lib.hid (row_go HRM.out hT hgp)
          have HP := Lib.hid hp
          clear hp hT
          go_wp2
          go_roundw
          case rel => exact ⟨f', a, b, fs, _, _, HT.out, HB2.out, HB3.out, HRN.out, HRM.out, HP.out, hr3.out, HR.out.fu.stop HK.out.2.2.2.2.2.1 hf2, HR.out.la, HR.out.lb⟩
          case measure =>
            have hme := HK.out.2.2.2.2.2.2
            rw [meas2_at HP.out, hme, if_pos HK.out.2.2.2.2.2.1, if_neg hf2]
            omega
        · obtain ⟨hum1, hla⟩ := HU.out.2.2.1 rfl
          obtain ⟨q0, q1, q2, q3', ql⟩ := HB3.out.cells
          obtain ⟨g0, g1, g2, g3⟩ := HB3.out.free
          have hr1 := HU.out.1 rfl
          obtain ⟨cv, hcv⟩ : ∃ z, mkeV ts um = z := ⟨_, rfl⟩
          obtain ⟨cs, hcs⟩ : ∃ z, mkeS ts um = z := ⟨_, rfl⟩
          have hge : um.1 ≤ cs.1 := by rw [← hcs]; exact mkeS_ge ts um
          have HCD := Lib.hid (fun (W : World) (q : PS2 59 W gp g n cp ts um) => change_st HNK.out q)
          rw [hcv, hcs] at hr1 HCD
          obtain ⟨cnm, hcnm⟩ : ∃ z, bs cv.nm = z := ⟨_, rfl⟩
          rw [hcnm] at HCD
          have HCV := Lib.hid hcnm
          have HR1 := Lib.hid hr1
          clear hcv hcs hcnm hr1
          obtain ⟨N, hN⟩ : ∃ z, b.length = z := ⟨_, rfl⟩
          rw [hN] at hla hd1 q3' HRM
          have HN := Lib.hid hN
          clear hN
          obtain ⟨i0, hi, hz0, hz1, hz2⟩ := info_make'
          unfold maxLen at hd2
          go_wp2_with fail
          go_region_law? (first
            | (go_simp; go_at_call 101
               refine (HCD.out _ (HP.out.touch (Touch.refl _ _).drew)).mono ?_
               rintro r w3 ⟨rfl, hp, hT0⟩
               have hT := (Touch.refl (AtB gp) V3).drew.same hT0
               have HB33 := Lib.hid (HB3.out.go hT (by omega))
               obtain ⟨j0, j1, j2, j3, jl⟩ := HB33.out.cells
               rw [HN.out] at j3
               obtain ⟨l0, l1, l2, l3⟩ := HB33.out.free
               have HRM3 := Lib.hid (row_go HRM.out hT hgp)
               have HX3 := Lib.hid (And.intro hp hT)
               clear hp hT0 hT)
            | (refine step_append_lies _ rfl (.tmp 48) (.tmp 51) 122 rfl w.heap.size 149 i0 (.agg #[.string ⟨#[]⟩, .bool false, .int .i64 0]) 3 32 Tryd.underlying122 hi hz0 hz1 hz2 rfl (by decide) (.slice A2 N kp2) N (mkC b) (by simp [Act.eval]) (by exact (HRM3.out.alloc _)) ⟨w3.heap.size, 0, none⟩ 1 1 [.string cnm, .bool cv.add, .int .i64 cv.n] (by simp [Act.eval]) rfl (by exact World.news_of_block (cs := #[.string cnm, .bool cv.add, .int .i64 cv.n]) (alloc_blk w3 _ 149 rfl)) (by intro u hu; simp at hu; rcases hu with rfl | rfl | rfl <;> rfl) (by decide) (by unfold maxLen; omega) (by omega) (by have := HX3.out.2.size; have := HT.out.size; simp only [World.size_alloc]; omega) (w3.heap.size + 1) (by simp) ?_
               intro gd cap2 wx hown hgrow hat hlt
               have TR : Touch (fun b => (Value.slice A2 N kp2).ownBlock = some b) w3 wx := ((Touch.refl _ w3).alloc _).grown hgrow (fun _ e => .inl e)
               have hbx := HB33.out.goR TR (row_ne HRM3.out HB33.out (by decide))
               obtain ⟨k0, k1, k2, k3, kl⟩ := hbx.cells
               obtain ⟨m0, m1, m2, m3⟩ := hbx.free
               have HX := Lib.hid (And.intro hown (And.intro hat (And.intro TR hbx)))
               clear hown hgrow hat TR hbx))
          all_goals
            go_wp2
            go_roundw
            case rel =>
              have hps := ((HX3.out.1.touchR HX.out.2.2.1 (row_base HRM3.out) hgp hgl).own (q := q3) (i := 3) (v := .slice (some ⟨gd, 0, none⟩) (N + 1) cap2) (by omega) (by omega))
              have hown := HX.out.1
              have TR := HX.out.2.2.1
              have hb2 := HB2.out.go HX3.out.2 (show w.heap.size ≠ gp by omega)
              have hrm := row_go HRN.out HX3.out.2 hgp
              have hrm2 := row_touch hrm TR (fun k hk f => row_row_ne HRM3.out hrm (by decide) f hk)
              refine ⟨f', a, b ++ [cv], cs, _, _, ((HT.out.same HX3.out.2).trans TR (fun k hk => .inr (row_base HRM3.out k hk))).setCell (p := ⟨q3, 3, none⟩) (.inr (by simp only; omega)) _, (hb2.goR TR (row_ne HRM3.out hb2 (by decide))).aside (by omega), HX.out.2.2.2.set3 _, row_aside hrm2 (row_ne hrm2 HX.out.2.2.2 (by decide)), ?_, hps, HR1.out, HR.out.fu.next HK.out.2.2.2.2.2.1 (by have := HP.out.le; omega) (by omega), HR.out.la, by rw [List.length_append, HN.out]; exact hla⟩
              rw [List.length_append, HN.out, mkC_snoc, HCV.out]
              exact row_aside hown (row_ne hown HX.out.2.2.2 (by decide))
            case measure =>
              have hps := ((HX3.out.1.touchR HX.out.2.2.1 (row_base HRM3.out) hgp hgl).own (q := q3) (i := 3) (v := .slice (some ⟨gd, 0, none⟩) (N + 1) cap2) (by omega) (by omega))
              have hme := HK.out.2.2.2.2.2.2
              rw [meas2_at hps, hme, if_pos HK.out.2.2.2.2.2.1]
              have := HP.out.le
              split <;> omega
      · obtain ⟨htn1, hla⟩ := HK.out.2.2.2.1 rfl
        obtain ⟨q0, q1, q2, q3', ql⟩ := HB3.out.cells
        obtain ⟨g0, g1, g2, g3⟩ := HB3.out.free
        have hr1 := HK.out.1 rfl
        obtain ⟨cv, hcv⟩ : ∃ z, cndV ts tn = z := ⟨_, rfl⟩
        obtain ⟨cs, hcs⟩ : ∃ z, cndS ts tn = z := ⟨_, rfl⟩
        have hge : tn.1 ≤ cs.1 := by rw [← hcs]; exact cndS_ge ts tn
        have HCD := Lib.hid (fun (W : World) (q : PS2 59 W gp g n cp ts tn) => cond_st HNK.out q)
        rw [hcv, hcs] at hr1 HCD
        obtain ⟨cnm, hcnm⟩ : ∃ z, bs cv.nm = z := ⟨_, rfl⟩
        rw [hcnm] at HCD
        have HCV := Lib.hid hcnm
        have HR1 := Lib.hid hr1
        clear hcv hcs hcnm hr1
        obtain ⟨N, hN⟩ : ∃ z, a.length = z := ⟨_, rfl⟩
        rw [hN] at hla hc1 q2 HRN
        have HN := Lib.hid hN
        clear hN
        obtain ⟨i0, hi, hz0, hz1, hz2⟩ := info_cond'
        unfold maxLen at hc2
        go_wp2_with fail
        go_region_law? (first
          | (go_simp; go_at_call 75
             refine (HCD.out _ (HP.out.touch (Touch.refl _ _).drew)).mono ?_
             rintro r w3 ⟨rfl, hp, hT0⟩
             have hT := (Touch.refl (AtB gp) V2).drew.same hT0
             have HB33 := Lib.hid (HB3.out.go hT (by omega))
             obtain ⟨j0, j1, j2, j3, jl⟩ := HB33.out.cells
             rw [HN.out] at j2
             obtain ⟨l0, l1, l2, l3⟩ := HB33.out.free
             have HRN3 := Lib.hid (row_go HRN.out hT hgp)
             have HX3 := Lib.hid (And.intro hp hT)
             clear hp hT0 hT)
          | (refine step_append_lies _ rfl (.tmp 35) (.tmp 38) 88 rfl w.heap.size 127 i0 (.agg #[.string ⟨#[]⟩, .int .i64 0, .int .i64 0]) 3 32 Tryd.underlying88 hi hz0 hz1 hz2 rfl (by decide) (.slice A1 N kp1) N (cnC a) (by simp [Act.eval]) (by exact (HRN3.out.alloc _)) ⟨w3.heap.size, 0, none⟩ 1 1 [.string cnm, .int .i64 (cv.op : Int), .int .i64 cv.n] (by simp [Act.eval]) rfl (by exact World.news_of_block (cs := #[.string cnm, .int .i64 (cv.op : Int), .int .i64 cv.n]) (alloc_blk w3 _ 127 rfl)) (by intro u hu; simp at hu; rcases hu with rfl | rfl | rfl <;> rfl) (by decide) (by unfold maxLen; omega) (by omega) (by have := HX3.out.2.size; have := HT.out.size; simp only [World.size_alloc]; omega) (w3.heap.size + 1) (by simp) ?_
             intro gd cap2 wx hown hgrow hat hlt
             have TR : Touch (fun b => (Value.slice A1 N kp1).ownBlock = some b) w3 wx := ((Touch.refl _ w3).alloc _).grown hgrow (fun _ e => .inl e)
             have hbx := HB33.out.goR TR (row_ne HRN3.out HB33.out (by decide))
             obtain ⟨k0, k1, k2, k3, kl⟩ := hbx.cells
             obtain ⟨m0, m1, m2, m3⟩ := hbx.free
             have HX := Lib.hid (And.intro hown (And.intro hat (And.intro TR hbx)))
             clear hown hgrow hat TR hbx))
        all_goals
          go_wp2
          go_roundw
          case rel =>
            have hps := ((HX3.out.1.touchR HX.out.2.2.1 (row_base HRN3.out) hgp hgl).own (q := q3) (i := 2) (v := .slice (some ⟨gd, 0, none⟩) (N + 1) cap2) (by omega) (by omega))
            have hown := HX.out.1
            have TR := HX.out.2.2.1
            have hb2 := HB2.out.go HX3.out.2 (show w.heap.size ≠ gp by omega)
            have hrm := row_go HRM.out HX3.out.2 hgp
            have hrm2 := row_touch hrm TR (fun k hk f => row_row_ne HRN3.out hrm (by decide) f hk)
            refine ⟨f', a ++ [cv], b, cs, _, _, ((HT.out.same HX3.out.2).trans TR (fun k hk => .inr (row_base HRN3.out k hk))).setCell (p := ⟨q3, 2, none⟩) (.inr (by simp only; omega)) _, (hb2.goR TR (row_ne HRN3.out hb2 (by decide))).aside (by omega), HX.out.2.2.2.set2 _, ?_, row_aside hrm2 (row_ne hrm2 HX.out.2.2.2 (by decide)), hps, HR1.out, HR.out.fu.next HK.out.2.2.2.2.2.1 (by have := HP.out.le; omega) (by omega), by rw [List.length_append, HN.out]; exact hla, HR.out.lb⟩
            rw [List.length_append, HN.out, cnC_snoc, HCV.out]
            exact row_aside hown (row_ne hown HX.out.2.2.2 (by decide))
          case measure =>
            have hps := ((HX3.out.1.touchR HX.out.2.2.1 (row_base HRN3.out) hgp hgl).own (q := q3) (i := 2) (v := .slice (some ⟨gd, 0, none⟩) (N + 1) cap2) (by omega) (by omega))
            have hme := HK.out.2.2.2.2.2.2
            rw [meas2_at hps, hme, if_pos HK.out.2.2.2.2.2.1]
            have := HP.out.le
            split <;> omega
end Go.Proofs.YtanecdpcenkoeaaDoor

/-
  A domain's and a program's loops over lists, round by round; lists of a program's finished parts in memory. No condition beyond those that each theorem names.
-/
namespace Go.Proofs.YtanecdpcenkoeaaDoor
open Go.ChangeShapes Go.WideShapes Go.ChangeAt Go.RowKit
set_option maxRecDepth 100000

/-! ### places go on -/
theorem wiS_ge (ts : List Tk) (σ : St) : σ.1 ≤ (wiS ts σ).1 := by unfold wiS; exact acS_ge ts _ σ
theorem beT_ge (ts : List Tk) (s : Bs) (a b : Nat) (σ : St) : σ.1 ≤ (beT ts s a b σ).1 := by unfold beT; exact Nat.le_trans (Nat.le_of_eq (beS_at ts s a b σ).symm) (acS_ge ts s _)
theorem actR_ge (ts : List Tk) : ∀ (f : Nat) (a : List Cn) (b : List Mk) (σ : St), σ.1 ≤ (actR ts f a b σ).2.1
  | 0, _, _, _ => Nat.le_refl _
  | f + 1, a, b, σ => by
    unfold actR
    split
    · simp only
      split
      · exact Nat.le_trans (Nat.le_trans (wiS_ge ts σ) (Nat.le_trans (beT_ge ts _ _ _ _) (cndS_ge ts _))) (actR_ge ts f _ _ _)
      · split
        · exact Nat.le_trans (Nat.le_trans (wiS_ge ts σ) (Nat.le_trans (beT_ge ts _ _ _ _) (Nat.le_trans (beT_ge ts _ _ _ _) (mkeS_ge ts _)))) (actR_ge ts f _ _ _)
        · exact Nat.le_trans (Nat.le_trans (wiS_ge ts σ) (Nat.le_trans (beT_ge ts needB a.length 8 _) (beT_ge ts makeB b.length 8 _))) (Nat.le_trans (Nat.le_of_eq (failS_at 2 _).symm) (actR_ge ts f a b _))
    · exact wiS_ge ts σ
theorem actS_ge (ts : List Tk) (σ : St) : σ.1 ≤ (actS ts σ).1 := by
  unfold actS
  refine Nat.le_trans ?_ (actR_ge ts _ _ _ _)
  unfold actH
  exact Nat.le_trans (naS_ge ts σ) (Nat.le_trans (exS_ge ts _ _) (Nat.le_trans (nuS_ge ts _) (exS_ge ts _ _)))
theorem domR_ge (ts : List Tk) : ∀ (f : Nat) (a : List Va) (b : List Ac) (c : List Cn) (σ : St), σ.1 ≤ (domR ts f a b c σ).2.1
  | 0, _, _, _, _ => Nat.le_refl _
  | f + 1, a, b, c, σ => by
    unfold domR
    split
    · simp only
      have e1 := Nat.le_trans (wiS_ge ts σ) (beT_ge ts varB a.length 8 _)
      have e2 := Nat.le_trans e1 (beT_ge ts actB b.length 20 _)
      have e3 := Nat.le_trans e2 (beT_ge ts goalB c.length 8 _)
      split
      · exact Nat.le_trans (Nat.le_trans e1 (varS_ge ts _)) (domR_ge ts f _ _ _ _)
      · split
        · exact Nat.le_trans (Nat.le_trans e2 (actS_ge ts _)) (domR_ge ts f _ _ _ _)
        · split
          · exact Nat.le_trans (Nat.le_trans e3 (cndS_ge ts _)) (domR_ge ts f _ _ _ _)
          · exact Nat.le_trans e3 (Nat.le_trans (Nat.le_of_eq (failS_at 2 _).symm) (domR_ge ts f _ _ _ _))
    · exact wiS_ge ts σ
theorem domS_ge (ts : List Tk) (σ : St) : σ.1 ≤ (domS ts σ).1 := by
  unfold domS
  exact Nat.le_trans (Nat.le_trans (naS_ge ts σ) (exS_ge ts _ _)) (domR_ge ts _ _ _ _ _)
/-- A domain's loop, round by round. -/
theorem dom_round {ts : List Tk} {f : Nat} {a : List Va} {b : List Ac} {c : List Cn} {σ : St} {R0 : (List Va × List Ac × List Cn) × St} {n : Nat} (h : domR ts f a b c σ = R0) (hf : Fu f n σ) :
    (wiV ts σ = false → R0 = ((a, b, c), wiS ts σ)) ∧
    (wiV ts σ = true → ∃ f', f = f' + 1 ∧ σ.2 = 0 ∧ ∃ s1 s2 s3, beT ts varB a.length 8 σ = s1 ∧ beT ts actB b.length 20 s1 = s2 ∧ beT ts goalB c.length 8 s2 = s3 ∧
      (beV ts varB a.length 8 σ = true → domR ts f' (a ++ [varV ts s1]) b c (varS ts s1) = R0) ∧
      (beV ts varB a.length 8 σ = false → beV ts actB b.length 20 s1 = true → domR ts f' a (b ++ [actV ts s2]) c (actS ts s2) = R0) ∧
      (beV ts varB a.length 8 σ = false → beV ts actB b.length 20 s1 = false → beV ts goalB c.length 8 s2 = true → domR ts f' a b (c ++ [cndV ts s3]) (cndS ts s3) = R0) ∧
      (beV ts varB a.length 8 σ = false → beV ts actB b.length 20 s1 = false → beV ts goalB c.length 8 s2 = false → domR ts f' a b c (failS 2 s3) = R0)) := by
  cases f with
  | zero => exact absurd hf.1 (by omega)
  | succ f =>
    unfold domR at h
    constructor
    · intro hw
      rw [if_neg (by rw [hw]; decide)] at h
      exact h.symm
    · intro hw
      obtain ⟨h0, hs⟩ := wi_yes hw
      rw [if_pos hw, hs] at h
      simp only at h
      refine ⟨f, rfl, h0, _, _, _, rfl, rfl, rfl, fun h1 => ?_, fun h1 h2 => ?_, fun h1 h2 h3 => ?_, fun h1 h2 h3 => ?_⟩
      · rw [if_pos h1] at h; exact h
      · rw [if_neg (by rw [h1]; decide), if_pos h2] at h; exact h
      · rw [if_neg (by rw [h1]; decide), if_neg (by rw [h2]; decide), if_pos h3] at h; exact h
      · rw [if_neg (by rw [h1]; decide), if_neg (by rw [h2]; decide), if_neg (by rw [h3]; decide)] at h; exact h
/-- A program's loop, round by round. -/
theorem prg_round {ts : List Tk} {f : Nat} {a : List Ky} {b : List Tr} {c : List Dm} {σ : St} {R0 : (List Ky × List Tr × List Dm) × St} {n : Nat} (h : prgR ts f a b c σ = R0) (hf : Fu f n σ) :
    ((nxS ts σ).kd = 0 → R0 = ((a, b, c), σ)) ∧
    ((nxS ts σ).kd ≠ 0 → ∃ f', f = f' + 1 ∧ ∃ s1 s2 s3, beT ts keyB a.length 100 σ = s1 ∧ beT ts treeB b.length 100 s1 = s2 ∧ beT ts domB c.length 100 s2 = s3 ∧
      (beV ts keyB a.length 100 σ = true → prgR ts f' (a ++ [keyV ts s1]) b c (keyS ts s1) = R0) ∧
      (beV ts keyB a.length 100 σ = false → beV ts treeB b.length 100 s1 = true → prgR ts f' a (b ++ [treV ts s2]) c (treS ts s2) = R0) ∧
      (beV ts keyB a.length 100 σ = false → beV ts treeB b.length 100 s1 = false → beV ts domB c.length 100 s2 = true → prgR ts f' a b (c ++ [domV ts s3]) (domS ts s3) = R0) ∧
      (beV ts keyB a.length 100 σ = false → beV ts treeB b.length 100 s1 = false → beV ts domB c.length 100 s2 = false → prgR ts f' a b c (failS 2 s3) = R0)) := by
  cases f with
  | zero => exact absurd hf.1 (by omega)
  | succ f =>
    unfold prgR at h
    constructor
    · intro hw
      rw [if_neg (fun z => z hw)] at h
      exact h.symm
    · intro hw
      rw [if_pos hw] at h
      simp only at h
      refine ⟨f, rfl, _, _, _, rfl, rfl, rfl, fun h1 => ?_, fun h1 h2 => ?_, fun h1 h2 h3 => ?_, fun h1 h2 h3 => ?_⟩
      · rw [if_pos h1] at h; exact h
      · rw [if_neg (by rw [h1]; decide), if_pos h2] at h; exact h
      · rw [if_neg (by rw [h1]; decide), if_neg (by rw [h2]; decide), if_pos h3] at h; exact h
      · rw [if_neg (by rw [h1]; decide), if_neg (by rw [h2]; decide), if_neg (by rw [h3]; decide)] at h; exact h

/-! ### what is finished -/
/-- A row's cells lie in blocks of Q: to be read, no longer to be appended to. -/
def SlAt (w : World) (Q : Nat → Prop) (v : Value) (n : Nat) (xs : List Value) : Prop :=
  ∃ A c, v = .slice A n c ∧ ∀ (j : Nat) (x : Value), xs[j]? = some x → ∃ b, A = some ⟨b, 0, none⟩ ∧ Q b ∧ b < w.heap.size ∧ w.cell? ⟨b, j, none⟩ = some x
theorem SlAt.touch {w w' : World} {Q F : Nat → Prop} {v : Value} {n : Nat} {xs : List Value} (h : SlAt w Q v n xs) (t : Touch F w w') (hq : ∀ b, Q b → ¬ F b) : SlAt w' Q v n xs := by
  obtain ⟨A, c, rfl, hx⟩ := h
  refine ⟨A, c, rfl, fun j x hj => ?_⟩
  obtain ⟨b, rfl, h1, h2, h3⟩ := hx j x hj
  exact ⟨b, rfl, h1, Nat.lt_of_lt_of_le h2 t.size, (t.cell (p := ⟨b, j, none⟩) h2 (hq b h1)).trans h3⟩
theorem SlAt.via {w : World} {Q R : Nat → Prop} {v : Value} {n : Nat} {xs : List Value} (h : SlAt w Q v n xs) (hq : ∀ b, Q b → b < w.heap.size → R b) : SlAt w R v n xs := by
  obtain ⟨A, c, rfl, hx⟩ := h
  refine ⟨A, c, rfl, fun j x hj => ?_⟩
  obtain ⟨b, rfl, h1, h2, h3⟩ := hx j x hj
  exact ⟨b, rfl, hq b h1 h2, h2, h3⟩
theorem slat_of {w : World} {base size n : Nat} {e : TypeId} {v : Value} {xs : List Value} (h : w.ownsRow base e size v n xs) : SlAt w (fun b => base ≤ b) v n xs := by
  have hb := row_base h
  rcases h.2 with ⟨rfl, h0⟩ | ⟨g, cap, cur, rfl, h1, hh, hc, hm, hs, ht⟩
  · refine ⟨none, 0, by rw [h0], fun j x hj => ?_⟩
    have : xs = [] := List.eq_nil_of_length_eq_zero (by rw [h.1, h0]; simp)
    rw [this] at hj
    simp at hj
  · refine ⟨some ⟨g, 0, none⟩, cap, rfl, fun j x hj => ⟨g, rfl, h1, blk_lt hh, ?_⟩⟩
    rw [cell_of_row w g j _ _ _ hh]
    rw [← ht] at hj
    rw [List.getElem?_take] at hj
    split at hj
    · simpa using hj
    · cases hj
/-- An act's cells, its rows finished. -/
def AcAt (w : World) (Q : Nat → Prop) (a : Ac) (l : List Value) : Prop := ∃ v1 v2, l = [.string (bs a.nm), .int .i64 (a.cost : Int), v1, v2] ∧ SlAt w Q v1 a.need.length (cnC a.need) ∧ SlAt w Q v2 a.make.length (mkC a.make)
theorem AcAt.touch {w w' : World} {Q F : Nat → Prop} {a : Ac} {l : List Value} (h : AcAt w Q a l) (t : Touch F w w') (hq : ∀ b, Q b → ¬ F b) : AcAt w' Q a l := by
  obtain ⟨v1, v2, rfl, h1, h2⟩ := h
  exact ⟨v1, v2, rfl, h1.touch t hq, h2.touch t hq⟩
theorem AcAt.via {w : World} {Q R : Nat → Prop} {a : Ac} {l : List Value} (h : AcAt w Q a l) (hq : ∀ b, Q b → b < w.heap.size → R b) : AcAt w R a l := by
  obtain ⟨v1, v2, rfl, h1, h2⟩ := h
  exact ⟨v1, v2, rfl, h1.via hq, h2.via hq⟩
/-- A list's cells, part by part. -/
inductive LsAt {α : Type} (P : α → List Value → Prop) : List α → List Value → Prop where
  | nil : LsAt P [] []
  | snoc {l : List α} {a : α} {xs ys : List Value} (h : LsAt P l xs) (ha : P a ys) : LsAt P (l ++ [a]) (xs ++ ys)
theorem LsAt.mono {α : Type} {P P' : α → List Value → Prop} {l : List α} {xs : List Value} (h : LsAt P l xs) (hp : ∀ a ys, P a ys → P' a ys) : LsAt P' l xs := by
  induction h with
  | nil => exact .nil
  | snoc _ ha ih => exact .snoc ih (hp _ _ ha)
end Go.Proofs.YtanecdpcenkoeaaDoor

/-
  What stands in memory while package tree's domain reads. No condition beyond those that each theorem names.
-/
namespace Go.Proofs.YtanecdpcenkoeaaDoor
open Go.ChangeShapes Go.WideShapes Go.ChangeAt Go.RowKit
set_option maxRecDepth 100000
set_option maxHeartbeats 4000000

theorem info_var' : ∃ i0, Tryd.prog.info? 120 = some i0 ∧ i0.zero = some (.agg #[.string ⟨#[]⟩, .int .i64 0, .int .i64 0]) ∧ i0.size = 3 ∧ i0.bytes = 32 := by
  have h : (Tryd.prog.info? 120).map (fun i => (i.zero, i.size, i.bytes)) = some (some (.agg #[.string ⟨#[]⟩, .int .i64 0, .int .i64 0]), 3, 32) := by kernel_rfl
  cases hi : Tryd.prog.info? 120 with
  | none => rw [hi] at h; cases h
  | some i0 =>
    rw [hi] at h
    simp only [Option.map_some, Option.some.injEq, Prod.mk.injEq] at h
    exact ⟨i0, rfl, h.1, h.2.1, h.2.2⟩
theorem info_act' : ∃ i0, Tryd.prog.info? 124 = some i0 ∧ i0.zero = some (.agg #[.string ⟨#[]⟩, .int .i64 0, .slice none 0 0, .slice none 0 0]) ∧ i0.size = 4 ∧ i0.bytes = 72 := by
  have h : (Tryd.prog.info? 124).map (fun i => (i.zero, i.size, i.bytes)) = some (some (.agg #[.string ⟨#[]⟩, .int .i64 0, .slice none 0 0, .slice none 0 0]), 4, 72) := by kernel_rfl
  cases hi : Tryd.prog.info? 124 with
  | none => rw [hi] at h; cases h
  | some i0 =>
    rw [hi] at h
    simp only [Option.map_some, Option.some.injEq, Prod.mk.injEq] at h
    exact ⟨i0, rfl, h.1, h.2.1, h.2.2⟩
/-- A domain that is being read, at block q3; Q: the blocks of its finished acts. -/
structure DM (w wr : World) (gp q3 : Nat) (Q : Nat → Prop) (nm : ByteArray) (a : List Va) (b : List Ac) (c : List Cn) (vv va vg : Value) (xs : List Value) : Prop where
  t : Touch (AtB gp) w wr
  b2 : B4 wr 90 w.heap.size (.string ⟨#[]⟩) (.slice none 0 0) (.slice none 0 0) (.slice none 0 0)
  b3 : B4 wr 90 q3 (.string nm) vv va vg
  rv : wr.ownsRow w.heap.size 120 3 vv a.length (vaC a)
  ra : wr.ownsRow w.heap.size 124 4 va b.length xs
  ls : LsAt (AcAt wr Q) b xs
  rg : wr.ownsRow w.heap.size 127 3 vg c.length (cnC c)
  hQ : ∀ k, Q k → w.heap.size < k ∧ k < wr.heap.size ∧ k ≠ q3 ∧ vv.ownBlock ≠ some k ∧ va.ownBlock ≠ some k ∧ vg.ownBlock ≠ some k
theorem DM.go {w wr V : World} {gp q3 : Nat} {Q : Nat → Prop} {nm : ByteArray} {a : List Va} {b : List Ac} {c : List Cn} {vv va vg : Value} {xs : List Value} (h : DM w wr gp q3 Q nm a b c vv va vg xs) (t : Touch (AtB gp) wr V) (hgp : gp < w.heap.size) (hsq : w.heap.size < q3) : DM w V gp q3 Q nm a b c vv va vg xs :=
  ⟨h.t.same t, h.b2.go t (by omega), h.b3.go t (by omega), row_go h.rv t hgp, row_go h.ra t hgp, h.ls.mono (fun x ys hx => hx.touch t (fun k hk f => by have := (h.hQ k hk).1; unfold AtB at f; omega)), row_go h.rg t hgp,
    fun k hk => ⟨(h.hQ k hk).1, Nat.lt_of_lt_of_le (h.hQ k hk).2.1 t.size, (h.hQ k hk).2.2⟩⟩
/-- What a call has made new is finished. -/
theorem DM.widen {w wr V : World} {gp q3 : Nat} {Q : Nat → Prop} {nm : ByteArray} {a : List Va} {b : List Ac} {c : List Cn} {vv va vg : Value} {xs : List Value} (h : DM w wr gp q3 Q nm a b c vv va vg xs) (t : Touch (AtB gp) wr V) (hgp : gp < w.heap.size) (hsq : w.heap.size < q3) :
    DM w V gp q3 (fun k => Q k ∨ (wr.heap.size ≤ k ∧ k < V.heap.size)) nm a b c vv va vg xs := by
  have h3 := h.go t hgp hsq
  have hb2 := blk_lt h.b2
  have hb3 := blk_lt h.b3
  refine ⟨h3.t, h3.b2, h3.b3, h3.rv, h3.ra, h3.ls.mono (fun x ys hx => hx.via (fun k hk _ => .inl hk)), h3.rg, fun k hk => ?_⟩
  rcases hk with hk | ⟨h1, h2⟩
  · exact h3.hQ k hk
  · exact ⟨by omega, h2, by omega, fun e => by have := (h.rv.lt k e).2; omega, fun e => by have := (h.ra.lt k e).2; omega, fun e => by have := (h.rg.lt k e).2; omega⟩
section
variable {w w3 wx : World} {gp q3 gd cap : Nat} {Q : Nat → Prop} {nm : ByteArray} {a : List Va} {b : List Ac} {c : List Cn} {vv va vg : Value} {xs : List Value}
theorem DM.addV {v : Va} (h : DM w w3 gp q3 Q nm a b c vv va vg xs) (hsq : w.heap.size < q3) (TR : Touch (fun b => vv.ownBlock = some b) w3 wx)
    (hown : wx.ownsRow w.heap.size 120 3 (.slice (some ⟨gd, 0, none⟩) (a.length + 1) cap) (a.length + 1) (vaC a ++ [.string (bs v.nm), .int .i64 v.lo, .int .i64 v.hi])) (hat : vv.ownBlock = some gd ∨ gd = w3.heap.size + 1) :
    DM w (wx.setCell ⟨q3, 1, none⟩ (.slice (some ⟨gd, 0, none⟩) (a.length + 1) cap)) gp q3 Q nm (a ++ [v]) b c (.slice (some ⟨gd, 0, none⟩) (a.length + 1) cap) va vg xs := by
  have hb2 := h.b2.goR TR (row_ne h.rv h.b2 (by decide))
  have hb3 := h.b3.goR TR (row_ne h.rv h.b3 (by decide))
  have ra := row_touch h.ra TR (fun k hk f => row_row_ne h.rv h.ra (by decide) f hk)
  have rg := row_touch h.rg TR (fun k hk f => row_row_ne h.rv h.rg (by decide) f hk)
  have tS := (Touch.refl (fun b => b = q3) wx).setCell (p := ⟨q3, 1, none⟩) (.inl rfl) (.slice (some ⟨gd, 0, none⟩) (a.length + 1) cap)
  refine ⟨(h.t.trans TR (fun k hk => .inr (row_base h.rv k hk))).setCell (p := ⟨q3, 1, none⟩) (.inr (by simp only; omega)) _, hb2.aside (by omega), hb3.set1 _, ?_, row_aside ra (row_ne ra hb3 (by decide)), ?_, row_aside rg (row_ne rg hb3 (by decide)), fun k hk => ?_⟩
  · rw [List.length_append, vaC_snoc]
    exact row_aside hown (row_ne hown hb3 (by decide))
  · exact h.ls.mono (fun x ys hx => (hx.touch TR (fun k hk => (h.hQ k hk).2.2.2.1)).touch tS (fun k hk => (h.hQ k hk).2.2.1))
  · obtain ⟨q1, q2, q3', q4, q5, q6⟩ := h.hQ k hk
    refine ⟨q1, Nat.lt_of_lt_of_le q2 (Nat.le_trans TR.size tS.size), q3', fun e => ?_, q5, q6⟩
    have e1 : gd = k := by simpa [Value.ownBlock] using e
    subst e1
    rcases hat with e | e
    · exact q4 e
    · omega
theorem DM.addG {v : Cn} (h : DM w w3 gp q3 Q nm a b c vv va vg xs) (hsq : w.heap.size < q3) (TR : Touch (fun b => vg.ownBlock = some b) w3 wx)
    (hown : wx.ownsRow w.heap.size 127 3 (.slice (some ⟨gd, 0, none⟩) (c.length + 1) cap) (c.length + 1) (cnC c ++ [.string (bs v.nm), .int .i64 (v.op : Int), .int .i64 v.n])) (hat : vg.ownBlock = some gd ∨ gd = w3.heap.size + 1) :
    DM w (wx.setCell ⟨q3, 3, none⟩ (.slice (some ⟨gd, 0, none⟩) (c.length + 1) cap)) gp q3 Q nm a b (c ++ [v]) vv va (.slice (some ⟨gd, 0, none⟩) (c.length + 1) cap) xs := by
  have hb2 := h.b2.goR TR (row_ne h.rg h.b2 (by decide))
  have hb3 := h.b3.goR TR (row_ne h.rg h.b3 (by decide))
  have ra := row_touch h.ra TR (fun k hk f => row_row_ne h.rg h.ra (by decide) f hk)
  have rv := row_touch h.rv TR (fun k hk f => row_row_ne h.rg h.rv (by decide) f hk)
  have tS := (Touch.refl (fun b => b = q3) wx).setCell (p := ⟨q3, 3, none⟩) (.inl rfl) (.slice (some ⟨gd, 0, none⟩) (c.length + 1) cap)
  refine ⟨(h.t.trans TR (fun k hk => .inr (row_base h.rg k hk))).setCell (p := ⟨q3, 3, none⟩) (.inr (by simp only; omega)) _, hb2.aside (by omega), hb3.set3 _, row_aside rv (row_ne rv hb3 (by decide)), row_aside ra (row_ne ra hb3 (by decide)), ?_, ?_, fun k hk => ?_⟩
  · exact h.ls.mono (fun x ys hx => (hx.touch TR (fun k hk => (h.hQ k hk).2.2.2.2.2)).touch tS (fun k hk => (h.hQ k hk).2.2.1))
  · rw [List.length_append, cnC_snoc]
    exact row_aside hown (row_ne hown hb3 (by decide))
  · obtain ⟨q1, q2, q3', q4, q5, q6⟩ := h.hQ k hk
    refine ⟨q1, Nat.lt_of_lt_of_le q2 (Nat.le_trans TR.size tS.size), q3', q4, q5, fun e => ?_⟩
    have e1 : gd = k := by simpa [Value.ownBlock] using e
    subst e1
    rcases hat with e | e
    · exact q6 e
    · omega
theorem DM.addA {v : Ac} {ys : List Value} (h : DM w w3 gp q3 Q nm a b c vv va vg xs) (hsq : w.heap.size < q3) (hv : AcAt w3 Q v ys) (TR : Touch (fun b => va.ownBlock = some b) w3 wx)
    (hown : wx.ownsRow w.heap.size 124 4 (.slice (some ⟨gd, 0, none⟩) (b.length + 1) cap) (b.length + 1) (xs ++ ys)) (hat : va.ownBlock = some gd ∨ gd = w3.heap.size + 1) :
    DM w (wx.setCell ⟨q3, 2, none⟩ (.slice (some ⟨gd, 0, none⟩) (b.length + 1) cap)) gp q3 Q nm a (b ++ [v]) c vv (.slice (some ⟨gd, 0, none⟩) (b.length + 1) cap) vg (xs ++ ys) := by
  have hb2 := h.b2.goR TR (row_ne h.ra h.b2 (by decide))
  have hb3 := h.b3.goR TR (row_ne h.ra h.b3 (by decide))
  have rg := row_touch h.rg TR (fun k hk f => row_row_ne h.ra h.rg (by decide) f hk)
  have rv := row_touch h.rv TR (fun k hk f => row_row_ne h.ra h.rv (by decide) f hk)
  have tS := (Touch.refl (fun b => b = q3) wx).setCell (p := ⟨q3, 2, none⟩) (.inl rfl) (.slice (some ⟨gd, 0, none⟩) (b.length + 1) cap)
  refine ⟨(h.t.trans TR (fun k hk => .inr (row_base h.ra k hk))).setCell (p := ⟨q3, 2, none⟩) (.inr (by simp only; omega)) _, hb2.aside (by omega), hb3.set2 _, row_aside rv (row_ne rv hb3 (by decide)), ?_, ?_, row_aside rg (row_ne rg hb3 (by decide)), fun k hk => ?_⟩
  · rw [List.length_append]
    exact row_aside hown (row_ne hown hb3 (by decide))
  · exact (LsAt.snoc h.ls hv).mono (fun x ys hx => (hx.touch TR (fun k hk => (h.hQ k hk).2.2.2.2.1)).touch tS (fun k hk => (h.hQ k hk).2.2.1))
  · obtain ⟨q1, q2, q3', q4, q5, q6⟩ := h.hQ k hk
    refine ⟨q1, Nat.lt_of_lt_of_le q2 (Nat.le_trans TR.size tS.size), q3', q4, fun e => ?_, q6⟩
    have e1 : gd = k := by simpa [Value.ownBlock] using e
    subst e1
    rcases hat with e | e
    · exact q5 e
    · omega
end
/-- A domain's cells, its lists finished. -/
def DmAt (w : World) (Q : Nat → Prop) (d : Dm) (l : List Value) : Prop := ∃ v1 v2 v3 xs, l = [.string (bs d.nm), v1, v2, v3] ∧ SlAt w Q v1 d.vars.length (vaC d.vars) ∧ SlAt w Q v2 d.acts.length xs ∧ LsAt (AcAt w Q) d.acts xs ∧ SlAt w Q v3 d.goal.length (cnC d.goal)
end Go.Proofs.YtanecdpcenkoeaaDoor
