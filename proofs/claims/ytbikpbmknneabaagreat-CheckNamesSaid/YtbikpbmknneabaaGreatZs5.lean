/-
  A parser's place stays at or ahead of the last token, which is the end's. Lists alone.
-/
import Derived.Test.YtbikpbmknneabaaGreatZs4
import Derived.WalkKit
import Derived.Scope
import Derived.WalkMore
section
namespace Go.Proofs.YtbikpbmknneabaaGreat
set_option maxRecDepth 100000

/-- The end's token stands at place L. -/
def EnT (ts : List Tk) (L : Nat) : Prop := ∃ t, ts[L]? = some t ∧ t.kd = 0
section
variable {ts : List Tk} {L : Nat} (hE0 : EnT ts L)
include hE0
theorem sg_nL {k : Nat} {s : Bs} (h : sg ts k s = true) : k ≠ L := by
  intro e
  subst e
  obtain ⟨t, ht, h0⟩ := hE0
  unfold sg at h
  rw [ht] at h
  simp [h0] at h
theorem opk_nL {lv k : Nat} {c : Int} (h : opk ts lv k = some c) : k ≠ L := by
  unfold opk at h
  split at h <;> repeat' split at h
  all_goals first | (cases h; done) | (rename_i h0; exact sg_nL hE0 h0) | skip
theorem prek_nL {k : Nat} {c : Int} (h : prek ts k = some c) : k ≠ L := by
  unfold prek at h
  repeat' split at h
  all_goals first | (cases h; done) | (rename_i h0; exact sg_nL hE0 h0) | skip
theorem num_nL {k n : Nat} (h : numAt ts k = some n) : k ≠ L := by
  intro e
  subst e
  obtain ⟨t, ht, h0⟩ := hE0
  unfold numAt at h
  rw [ht] at h
  simp [h0] at h
theorem nam_nL {k : Nat} {s : Bs} (h : nameAt ts k = some s) : k ≠ L := by
  intro e
  subst e
  obtain ⟨t, ht, h0⟩ := hE0
  unfold nameAt at h
  rw [ht] at h
  simp [h0] at h
theorem nxt_end0 (e : Nat) : (nxt ts L e).kd = 0 := by
  obtain ⟨t, ht, h0⟩ := hE0
  by_cases he : e = 0
  · rw [he, nxt_at ht]; exact h0
  · rw [nxt_bad he]
end
theorem loop_fwL {ts : List Tk} {L : Nat} (hE0 : EnT ts L) {lv : Nat} {sub : Nat → Rs} (hs : ∀ k, k ≤ L → (sub k).fwd L k) : ∀ (f : Nat) (x : Ex) (k k0 : Nat), k0 < k → k ≤ L → (loopL ts lv sub f x k).fwd L k0
  | 0, x, k, k0, h0, h1 => ⟨h0, h1⟩
  | f + 1, x, k, k0, h0, h1 => by
    unfold loopL
    cases ho : opk ts lv k with
    | none => exact ⟨h0, h1⟩
    | some kd =>
      have hlt := opk_nL hE0 ho
      have h2 := hs (k + 1) (by omega)
      simp only
      cases hr : sub (k + 1) with
      | er e j => rw [hr] at h2; exact ⟨by have := h2.1; omega, h2.2⟩
      | ok y j =>
        rw [hr] at h2
        simp only
        have h3 := mk_fwd (n := L) (k := k0) (x := .two kd x y) (j := j) (by have := h2.1; omega) h2.2
        cases hm : mk (.two kd x y) j with
        | er e i => rw [hm] at h3; exact h3
        | ok z i =>
          rw [hm] at h3
          simp only
          split
          · exact h3
          · exact loop_fwL hE0 hs f z i k0 h3.1 h3.2
theorem bin_fwL {ts : List Tk} {L : Nat} (hE0 : EnT ts L) {u : Nat → Rs} (hu : ∀ k, k ≤ L → (u k).fwd L k) : ∀ (j k : Nat), k ≤ L → (binL ts u j k).fwd L k
  | 0, k, h => hu k h
  | j + 1, k, h => by
    unfold binL
    have ih := bin_fwL hE0 hu j
    have h2 := ih k h
    cases hr : binL ts u j k with
    | er e i => rw [hr] at h2; exact h2
    | ok x i => rw [hr] at h2; exact loop_fwL hE0 ih _ x i k h2.1 h2.2
theorem pair_fwL {ts : List Tk} {L : Nat} (hE0 : EnT ts L) {E : Nat → Rs} (hE : ∀ k, k ≤ L → (E k).fwd L k) (kd : Int) (x : Ex) (j k0 : Nat) (h0 : k0 < j) (h1 : j ≤ L) : (pairL ts E kd x j).fwd L k0 := by
  unfold pairL
  split
  · rename_i hc
    have hlt := sg_nL hE0 hc
    have h2 := hE (j + 1) (by omega)
    cases hr : E (j + 1) with
    | er e i => rw [hr] at h2; exact ⟨by have := h2.1; omega, h2.2⟩
    | ok y i =>
      rw [hr] at h2
      simp only
      split
      · rename_i hd
        have := sg_nL hE0 hd
        exact mk_fwd (by have := h2.1; omega) (by have := h2.2; omega)
      · exact ⟨by have := h2.1; omega, h2.2, .inl rfl⟩
  · exact ⟨by omega, h1, .inl rfl⟩
theorem prim_fwL {ts : List Tk} {L : Nat} (hE0 : EnT ts L) {E : Nat → Rs} (hE : ∀ k, k ≤ L → (E k).fwd L k) (k : Nat) (h : k ≤ L) : (primL ts E k).fwd L k := by
  unfold primL
  cases hn : numAt ts k with
  | some n => have := num_nL hE0 hn; exact ⟨by omega, by omega⟩
  | none =>
    simp only
    cases hs : nameAt ts k with
    | some s => have := nam_nL hE0 hs; exact ⟨by omega, by omega⟩
    | none =>
      simp only
      split
      · rename_i h0
        have := sg_nL hE0 h0
        cases hb : nameAt ts (k + 1) with
        | some s => have := nam_nL hE0 hb; exact ⟨by omega, by omega⟩
        | none => exact ⟨by omega, by omega, .inl rfl⟩
      · split
        · rename_i h0; have := sg_nL hE0 h0; exact ⟨by omega, by omega⟩
        · split
          · rename_i h0; have := sg_nL hE0 h0; exact ⟨by omega, by omega⟩
          · split
            · rename_i h0; have := sg_nL hE0 h0; exact ⟨by omega, by omega⟩
            · split
              · rename_i h0; have := sg_nL hE0 h0; exact ⟨by omega, by omega⟩
              · split
                · rename_i h0
                  have := sg_nL hE0 h0
                  have h2 := hE (k + 1) (by omega)
                  cases hr : E (k + 1) with
                  | er e i => rw [hr] at h2; exact ⟨by have := h2.1; omega, h2.2⟩
                  | ok x i =>
                    rw [hr] at h2
                    simp only
                    split
                    · rename_i hc; have := sg_nL hE0 hc; exact ⟨by have := h2.1; omega, by have := h2.2; omega⟩
                    · exact pair_fwL hE0 hE 15 x i k (by have := h2.1; omega) h2.2
                · split
                  · rename_i h0
                    have := sg_nL hE0 h0
                    split
                    · rename_i h1
                      have := sg_nL hE0 h1
                      have h2 := hE (k + 2) (by omega)
                      cases hr : E (k + 2) with
                      | er e i => rw [hr] at h2; exact ⟨by have := h2.1; omega, h2.2⟩
                      | ok x i =>
                        rw [hr] at h2
                        exact pair_fwL hE0 hE 19 x i k (by have := h2.1; omega) h2.2
                    · exact ⟨by omega, by omega, .inl rfl⟩
                  · exact ⟨Nat.le_refl _, h, .inl rfl⟩
theorem una_fwL {ts : List Tk} {L : Nat} (hE0 : EnT ts L) : ∀ (m k : Nat), k ≤ L → (unaL ts m k).fwd L k
  | 0, k, h => ⟨Nat.le_refl _, h, .inr rfl⟩
  | m + 1, k, h => by
    have ih := una_fwL hE0 m
    unfold unaL
    cases hp : prek ts k with
    | some kd =>
      have hlt := prek_nL hE0 hp
      have h2 := ih (k + 1) (by omega)
      simp only
      cases hr : unaL ts m (k + 1) with
      | er e i => rw [hr] at h2; exact ⟨by have := h2.1; omega, h2.2⟩
      | ok x i => rw [hr] at h2; exact mk_fwd (by have := h2.1; omega) h2.2
    | none =>
      simp only
      split
      · rename_i h0
        have := sg_nL hE0 h0
        cases hb : numAt ts (k + 1) with
        | some s => have := num_nL hE0 hb; exact ⟨by omega, by omega⟩
        | none => exact ⟨by omega, by omega, .inl rfl⟩
      · exact prim_fwL hE0 (bin_fwL hE0 ih 5) k h
theorem ful_fwL {ts : List Tk} {L : Nat} (hE0 : EnT ts L) (m j k : Nat) (h : k ≤ L) : (binL ts (unaL ts m) j k).fwd L k := bin_fwL hE0 (una_fwL hE0 m) j k h
section
variable {ts : List Tk} {L : Nat} (hE0 : EnT ts L)
include hE0
theorem par_fwL (k : Nat) (h : k ≤ L) : (parL ts k).fwd L k := by
  have hL : L < ts.length := by obtain ⟨t, ht, _⟩ := hE0; exact (List.getElem?_eq_some_iff.1 ht).1
  unfold parL
  rw [if_pos (by omega)]
  exact ful_fwL hE0 40 5 k h
theorem isS_nL {s : Bs} {σ : St} (h : isS ts s σ = true) : σ.1 ≠ L := by
  intro e
  unfold isS nxS acc at h
  rw [e] at h
  rw [nxt_end0 hE0] at h
  simp at h
theorem stepK_nL {c : Nat} (hc : c ≠ 0) {σ : St} (h : σ.1 ≤ L) : stepK (nxS ts σ) c σ.1 ≤ L := by
  unfold stepK nxS
  split
  · rename_i hk
    have : σ.1 ≠ L := fun e => by rw [e, nxt_end0 hE0] at hk; exact hc hk.symm
    omega
  · exact h
theorem acS_L {s : Bs} {σ : St} (h : σ.1 ≤ L) : (acS ts s σ).1 ≤ L := by
  unfold acS
  simp only
  split
  · rename_i hi; have := isS_nL hE0 hi; omega
  · exact h
theorem exS_L {s : Bs} {σ : St} (h : σ.1 ≤ L) : (exS ts s σ).1 ≤ L := by
  unfold exS
  simp only
  split
  · rename_i hi; have := isS_nL hE0 hi; omega
  · exact h
theorem nuS_L {σ : St} (h : σ.1 ≤ L) : (nuS ts σ).1 ≤ L := stepK_nL hE0 (by decide) h
theorem naS_L {σ : St} (h : σ.1 ≤ L) : (naS ts σ).1 ≤ L := stepK_nL hE0 (by decide) h
theorem eqS_L {σ : St} (h : σ.1 ≤ L) : (eqS ts σ).1 ≤ L := by
  unfold eqS
  split
  · have hf := par_fwL hE0 σ.1 h
    cases hp : parL ts σ.1 with
    | ok y k => rw [hp] at hf; exact hf.2
    | er e k => rw [hp] at hf; exact hf.2.1
  · exact h
end
end Go.Proofs.YtbikpbmknneabaaGreat
end
/-
  Nodes and programs over lists: places go on, and stay at or ahead of the end's token. Lists alone.
-/
section
namespace Go.Proofs.YtbikpbmknneabaaGreat
set_option maxRecDepth 100000

theorem eqS_ge {ts : List Tk} {σ : St} (h : σ.1 ≤ ts.length) : σ.1 ≤ (eqS ts σ).1 := by
  unfold eqS
  split
  · have hf := ful_fwd ts 40 5 σ.1 h
    rw [← par_bin h] at hf
    cases hp : parL ts σ.1 with
    | ok y k => rw [hp] at hf; exact Nat.le_of_lt hf.1
    | er e k => rw [hp] at hf; exact hf.1
  · exact Nat.le_refl _
section
variable {ts : List Tk} {L : Nat} (hE0 : EnT ts L)
include hE0
end
end Go.Proofs.YtbikpbmknneabaaGreat
end
/-
  The document's own sameness of a program's parts, of two that lie apart in memory: conditions. Conditions: those that each theorem names.
-/
section
namespace Go.Proofs.YtbikpbmknneabaaGreat
open Go.ChangeShapes Go.WideShapes Go.ChangeAt Go.RowKit
set_option maxRecDepth 100000
set_option maxHeartbeats 4000000

theorem cnC_at : ∀ (l : List Cn) (k : Nat) (c : Cn), l[k]? = some c → (cnC l)[k * 3]? = some (.string (bs c.nm)) ∧ (cnC l)[k * 3 + 1]? = some (.int .i64 (c.op : Int)) ∧ (cnC l)[k * 3 + 2]? = some (.int .i64 c.n)
  | [], k, c, h => by cases h
  | x :: l, 0, c, h => by
    simp only [List.getElem?_cons_zero, Option.some.injEq] at h
    subst h
    simp [cnC]
  | x :: l, k + 1, c, h => by
    rw [List.getElem?_cons_succ] at h
    obtain ⟨a, b, d⟩ := cnC_at l k c h
    have e : cnC (x :: l) = [.string (bs x.nm), .int .i64 (x.op : Int), .int .i64 x.n] ++ cnC l := by simp [cnC]
    have r : ∀ j, (cnC (x :: l))[k * 3 + j + 3]? = (cnC l)[k * 3 + j]? := fun j => by rw [e]; rfl
    refine ⟨?_, ?_, ?_⟩
    · exact (congrArg (fun z => (cnC (x :: l))[z]?) (show (k + 1) * 3 = k * 3 + 0 + 3 by omega)).trans ((r 0).trans a)
    · exact (congrArg (fun z => (cnC (x :: l))[z]?) (show (k + 1) * 3 + 1 = k * 3 + 1 + 3 by omega)).trans ((r 1).trans b)
    · exact (congrArg (fun z => (cnC (x :: l))[z]?) (show (k + 1) * 3 + 2 = k * 3 + 2 + 3 by omega)).trans ((r 2).trans d)
end Go.Proofs.YtbikpbmknneabaaGreat
end
/-
  The document's own sameness of a program's parts, of two that lie apart in memory: acts. Conditions: those that each theorem names.
-/
section
namespace Go.Proofs.YtbikpbmknneabaaGreat
open Go.ChangeShapes Go.WideShapes Go.ChangeAt Go.RowKit
set_option maxRecDepth 100000
set_option maxHeartbeats 4000000

theorem mkC_at : ∀ (l : List Mk) (k : Nat) (c : Mk), l[k]? = some c → (mkC l)[k * 3]? = some (.string (bs c.nm)) ∧ (mkC l)[k * 3 + 1]? = some (.bool c.add) ∧ (mkC l)[k * 3 + 2]? = some (.int .i64 c.n)
  | [], k, c, h => by cases h
  | x :: l, 0, c, h => by
    simp only [List.getElem?_cons_zero, Option.some.injEq] at h
    subst h
    simp [mkC]
  | x :: l, k + 1, c, h => by
    rw [List.getElem?_cons_succ] at h
    obtain ⟨a, b, d⟩ := mkC_at l k c h
    have e : mkC (x :: l) = [.string (bs x.nm), .bool x.add, .int .i64 x.n] ++ mkC l := by simp [mkC]
    have r : ∀ j, (mkC (x :: l))[k * 3 + j + 3]? = (mkC l)[k * 3 + j]? := fun j => by rw [e]; rfl
    refine ⟨?_, ?_, ?_⟩
    · exact (congrArg (fun z => (mkC (x :: l))[z]?) (show (k + 1) * 3 = k * 3 + 0 + 3 by omega)).trans ((r 0).trans a)
    · exact (congrArg (fun z => (mkC (x :: l))[z]?) (show (k + 1) * 3 + 1 = k * 3 + 1 + 3 by omega)).trans ((r 1).trans b)
    · exact (congrArg (fun z => (mkC (x :: l))[z]?) (show (k + 1) * 3 + 2 = k * 3 + 2 + 3 by omega)).trans ((r 2).trans d)
end Go.Proofs.YtbikpbmknneabaaGreat
end
/-
  The document's own sameness of a program's parts, of two that lie apart in memory: lists part by part, variables. Conditions: those that each theorem names.
-/
section
namespace Go.Proofs.YtbikpbmknneabaaGreat
open Go.ChangeShapes Go.WideShapes Go.ChangeAt Go.RowKit
set_option maxRecDepth 100000
set_option maxHeartbeats 4000000

theorem LsAt.len {α : Type} {P : α → List Value → Prop} {l : List α} {xs : List Value} {s : Nat} (h : LsAt P l xs) (hs : ∀ a ys, P a ys → ys.length = s) : xs.length = l.length * s := by
  induction h with
  | nil => simp
  | snoc _ ha ih => rw [List.length_append, List.length_append, ih, hs _ _ ha]; simp [Nat.add_mul]
theorem LsAt.at_ {α : Type} {P : α → List Value → Prop} {l : List α} {xs : List Value} {s : Nat} (h : LsAt P l xs) (hs : ∀ a ys, P a ys → ys.length = s) :
    ∀ (i : Nat) (a : α), l[i]? = some a → ∃ ys, P a ys ∧ ∀ j, j < s → xs[i * s + j]? = ys[j]? := by
  induction h with
  | nil => intro i a hi; cases hi
  | @snoc l b xs ys h ha ih =>
    intro i a hi
    have hl := h.len hs
    by_cases hlt : i < l.length
    · rw [List.getElem?_append_left hlt] at hi
      obtain ⟨zs, hz, hj⟩ := ih i a hi
      refine ⟨zs, hz, fun j hjs => ?_⟩
      have hb : i * s + j < xs.length := by
        have h1 : (i + 1) * s ≤ l.length * s := Nat.mul_le_mul_right s hlt
        rw [Nat.add_mul] at h1
        omega
      rw [List.getElem?_append_left hb]
      exact hj j hjs
    · have hi2 := (List.getElem?_eq_some_iff.1 hi).1
      simp at hi2
      have e : i = l.length := by omega
      subst e
      rw [List.getElem?_append_right (Nat.le_refl _)] at hi
      simp at hi
      subst hi
      refine ⟨ys, ha, fun j hjs => ?_⟩
      rw [List.getElem?_append_right (by omega), hl]
      congr 1
      omega
theorem AcAt.len {w : World} {Q : Nat → Prop} {a : Ac} {l : List Value} (h : AcAt w Q a l) : l.length = 4 := by
  obtain ⟨v1, v2, rfl, -, -⟩ := h
  rfl
theorem vaC_at : ∀ (l : List Va) (k : Nat) (c : Va), l[k]? = some c → (vaC l)[k * 3]? = some (.string (bs c.nm)) ∧ (vaC l)[k * 3 + 1]? = some (.int .i64 c.lo) ∧ (vaC l)[k * 3 + 2]? = some (.int .i64 c.hi)
  | [], k, c, h => by cases h
  | x :: l, 0, c, h => by
    simp only [List.getElem?_cons_zero, Option.some.injEq] at h
    subst h
    simp [vaC]
  | x :: l, k + 1, c, h => by
    rw [List.getElem?_cons_succ] at h
    obtain ⟨a, b, d⟩ := vaC_at l k c h
    have e : vaC (x :: l) = [.string (bs x.nm), .int .i64 x.lo, .int .i64 x.hi] ++ vaC l := by simp [vaC]
    have r : ∀ j, (vaC (x :: l))[k * 3 + j + 3]? = (vaC l)[k * 3 + j]? := fun j => by rw [e]; rfl
    refine ⟨?_, ?_, ?_⟩
    · exact (congrArg (fun z => (vaC (x :: l))[z]?) (show (k + 1) * 3 = k * 3 + 0 + 3 by omega)).trans ((r 0).trans a)
    · exact (congrArg (fun z => (vaC (x :: l))[z]?) (show (k + 1) * 3 + 1 = k * 3 + 1 + 3 by omega)).trans ((r 1).trans b)
    · exact (congrArg (fun z => (vaC (x :: l))[z]?) (show (k + 1) * 3 + 2 = k * 3 + 2 + 3 by omega)).trans ((r 2).trans d)
end Go.Proofs.YtbikpbmknneabaaGreat
end
/-
  The document's own sameness of a program's parts, of two that lie apart in memory: domains. Conditions: those that each theorem names.
-/
section
namespace Go.Proofs.YtbikpbmknneabaaGreat
open Go.ChangeShapes Go.WideShapes Go.ChangeAt Go.RowKit
set_option maxRecDepth 100000
set_option maxHeartbeats 4000000

theorem SlAt.cells4 {w : World} {Q : Nat → Prop} {A : Option Addr} {n c i : Nat} {xs : List Value} {a b d e : Value} (h : SlAt w Q (.slice A n c) n xs) (h0 : xs[i * 4]? = some a) (h1 : xs[i * 4 + 1]? = some b) (h2 : xs[i * 4 + 2]? = some d) (h3 : xs[i * 4 + 3]? = some e) :
    ∃ g, A = some ⟨g, 0, none⟩ ∧ w.cell? ⟨g, i * 4, none⟩ = some a ∧ w.cell? ⟨g, i * 4 + 1, none⟩ = some b ∧ w.cell? ⟨g, i * 4 + 2, none⟩ = some d ∧ w.cell? ⟨g, i * 4 + 3, none⟩ = some e := by
  obtain ⟨A', c', e0, hx⟩ := h
  injection e0 with e1 e2 e3
  subst e1
  obtain ⟨g, hg, -, -, k0⟩ := hx _ _ h0
  obtain ⟨g1, hg1, -, -, k1⟩ := hx _ _ h1
  obtain ⟨g2, hg2, -, -, k2⟩ := hx _ _ h2
  obtain ⟨g3, hg3, -, -, k3⟩ := hx _ _ h3
  rw [hg] at hg1 hg2 hg3
  injection hg1 with hg1
  injection hg1 with hg1
  injection hg2 with hg2
  injection hg2 with hg2
  injection hg3 with hg3
  injection hg3 with hg3
  subst hg1 hg2 hg3
  exact ⟨_, hg, k0, k1, k2, k3⟩
end Go.Proofs.YtbikpbmknneabaaGreat
end
/-
  Nodes in memory: finished ones, open ones, the stack of those that wait for a kid. Blocks bear labels: 1 finished, 2 the stack's row, 3 + 2 i and 4 + 2 i the rows of the open node at place i. No condition beyond those that each theorem names.
-/
section
namespace Go.Proofs.YtbikpbmknneabaaGreat
open Go.ChangeShapes Go.WideShapes Go.ChangeAt Go.RowKit
set_option maxRecDepth 100000
set_option maxHeartbeats 4000000

def Nd.a : Nd → Nat | .mk _ a _ _ _ _ _ => a
def Nd.b : Nd → Nat | .mk _ _ b _ _ _ _ => b
def Nd.nm : Nd → Bs | .mk _ _ _ s _ _ _ => s
def Nd.ex : Nd → Ex | .mk _ _ _ _ x _ _ => x
/-- An expression's four cells. -/
def XAt (w : World) (Q : Nat → Prop) (x : Ex) (l : List Value) : Prop := ∃ (a b : Int) (s : ByteArray) (A : Option Addr) (m c : Nat), l = [.int .i64 a, .int .i64 b, .string s, .slice A m c] ∧ ET w Q x a b s A m c
theorem ET.far {w w' : World} {F Q : Nat → Prop} (t : Touch F w w') (hF : ∀ b, Q b → ¬ F b) {x : Ex} {a b : Int} {s : ByteArray} {A : Option Addr} {m c : Nat} (h : ET w Q x a b s A m c) : ET w' Q x a b s A m c := ET.touch t (fun b _ _ hf hq _ => hF b hq hf) h
theorem XAt.touch {w w' : World} {F Q : Nat → Prop} {x : Ex} {l : List Value} (h : XAt w Q x l) (t : Touch F w w') (hF : ∀ b, Q b → ¬ F b) : XAt w' Q x l := by
  obtain ⟨a, b, s, A, m, c, rfl, h1⟩ := h
  exact ⟨a, b, s, A, m, c, rfl, h1.far t hF⟩
theorem XAt.via {w : World} {Q R : Nat → Prop} {x : Ex} {l : List Value} (h : XAt w Q x l) (hQ : ∀ b, Q b → b < w.heap.size → R b) : XAt w R x l := by
  obtain ⟨a, b, s, A, m, c, rfl, h1⟩ := h
  exact ⟨a, b, s, A, m, c, rfl, h1.via hQ⟩
theorem XAt.len {w : World} {Q : Nat → Prop} {x : Ex} {l : List Value} (h : XAt w Q x l) : l.length = 4 := by
  obtain ⟨a, b, s, A, m, c, rfl, -⟩ := h
  rfl
/-- A finished node's ten cells; it is less than D deep. -/
def NT (w : World) (Q : Nat → Prop) : Nat → Nd → List Value → Prop
  | 0, _, _ => False
  | D + 1, n, l => ∃ (a b : Int) (s : ByteArray) (A : Option Addr) (m c : Nat) (kv wv : Value) (xs ys : List Value),
      l = [.int .i64 (n.kd : Int), .int .i64 (n.a : Int), .int .i64 (n.b : Int), .string (bs n.nm), .int .i64 a, .int .i64 b, .string s, .slice A m c, kv, wv] ∧ ET w Q n.ex a b s A m c ∧
      SlAt w Q kv n.ks.length xs ∧ LsAt (NT w Q D) n.ks xs ∧ SlAt w Q wv n.ws.length ys ∧ LsAt (XAt w Q) n.ws ys
theorem NT.touch {w w' : World} {F Q : Nat → Prop} (t : Touch F w w') (hF : ∀ b, Q b → ¬ F b) : ∀ (D : Nat) (n : Nd) (l : List Value), NT w Q D n l → NT w' Q D n l
  | 0, _, _, h => h
  | D + 1, n, l, h => by
    obtain ⟨a, b, s, A, m, c, kv, wv, xs, ys, e, h1, h2, h3, h4, h5⟩ := h
    exact ⟨a, b, s, A, m, c, kv, wv, xs, ys, e, h1.far t hF, h2.touch t hF, h3.mono (NT.touch t hF D), h4.touch t hF, h5.mono (fun x ys hx => hx.touch t hF)⟩
theorem NT.via {w : World} {Q R : Nat → Prop} (hQ : ∀ b, Q b → b < w.heap.size → R b) : ∀ (D : Nat) (n : Nd) (l : List Value), NT w Q D n l → NT w R D n l
  | 0, _, _, h => h
  | D + 1, n, l, h => by
    obtain ⟨a, b, s, A, m, c, kv, wv, xs, ys, e, h1, h2, h3, h4, h5⟩ := h
    exact ⟨a, b, s, A, m, c, kv, wv, xs, ys, e, h1.via hQ, h2.via hQ, h3.mono (NT.via hQ D), h4.via hQ, h5.mono (fun x ys hx => hx.via hQ)⟩
theorem NT.len {w : World} {Q : Nat → Prop} : ∀ {D : Nat} {n : Nd} {l : List Value}, NT w Q D n l → l.length = 10
  | 0, _, _, h => h.elim
  | D + 1, n, l, h => by
    obtain ⟨a, b, s, A, m, c, kv, wv, xs, ys, rfl, -⟩ := h
    rfl
def Fin1 (φ : Nat → Nat) (b : Nat) : Prop := φ b = 1
/-- An open node's ten cells, at place i. -/
structure OnC (w : World) (base : Nat) (φ : Nat → Nat) (i : Nat) (n : Nd) (e0 e1 : Int) (e2 : ByteArray) (A : Option Addr) (m c : Nat) (kv wv : Value) (D : Nat) (xs ys : List Value) : Prop where
  ex : ET w (Fin1 φ) n.ex e0 e1 e2 A m c
  rk : w.ownsRow base 62 10 kv n.ks.length xs
  lk : LsAt (NT w (Fin1 φ) D) n.ks xs
  rw_ : w.ownsRow base 44 4 wv n.ws.length ys
  lw : LsAt (XAt w (Fin1 φ)) n.ws ys
  fk : ∀ b, kv.ownBlock = some b → φ b = 3 + 2 * i
  fw : ∀ b, wv.ownBlock = some b → φ b = 4 + 2 * i
def onL (n : Nd) (e0 e1 : Int) (e2 : ByteArray) (A : Option Addr) (m c : Nat) (kv wv : Value) : List Value :=
  [.int .i64 (n.kd : Int), .int .i64 (n.a : Int), .int .i64 (n.b : Int), .string (bs n.nm), .int .i64 e0, .int .i64 e1, .string e2, .slice A m c, kv, wv]
def ON (w : World) (base : Nat) (φ : Nat → Nat) (i : Nat) (n : Nd) (l : List Value) : Prop := ∃ (e0 e1 : Int) (e2 : ByteArray) (A : Option Addr) (m c : Nat) (kv wv : Value) (D : Nat) (xs ys : List Value),
  l = onL n e0 e1 e2 A m c kv wv ∧ OnC w base φ i n e0 e1 e2 A m c kv wv D xs ys
theorem slat_own {w : World} {base size n : Nat} {e : TypeId} {v : Value} {xs : List Value} (h : w.ownsRow base e size v n xs) : SlAt w (fun b => v.ownBlock = some b) v n xs := by
  obtain ⟨A, c, rfl, hx⟩ := slat_of h
  refine ⟨A, c, rfl, fun j x hj => ?_⟩
  obtain ⟨b, rfl, -, h2, h3⟩ := hx j x hj
  exact ⟨b, rfl, rfl, h2, h3⟩
section
variable {w w' : World} {base i : Nat} {φ ψ : Nat → Nat} {n : Nd} {e0 e1 : Int} {e2 : ByteArray} {A : Option Addr} {m c : Nat} {kv wv : Value} {D : Nat} {xs ys l : List Value} {F : Nat → Prop}
theorem OnC.touch (h : OnC w base φ i n e0 e1 e2 A m c kv wv D xs ys) (t : Touch F w w') (hF : ∀ b, F b → φ b ≠ 1 ∧ φ b ≠ 3 + 2 * i ∧ φ b ≠ 4 + 2 * i) : OnC w' base φ i n e0 e1 e2 A m c kv wv D xs ys := by
  have q : ∀ b, Fin1 φ b → ¬ F b := fun b h1 f => (hF b f).1 h1
  exact ⟨h.ex.far t q, row_touch h.rk t (fun k hk f => (hF k f).2.1 (h.fk k hk)), h.lk.mono (NT.touch t q D), row_touch h.rw_ t (fun k hk f => (hF k f).2.2 (h.fw k hk)), h.lw.mono (fun x ys hx => hx.touch t q), h.fk, h.fw⟩
theorem ON.touch (h : ON w base φ i n l) (t : Touch F w w') (hF : ∀ b, F b → φ b ≠ 1 ∧ φ b ≠ 3 + 2 * i ∧ φ b ≠ 4 + 2 * i) : ON w' base φ i n l := by
  obtain ⟨e0, e1, e2, A, m, c, kv, wv, D, xs, ys, rfl, h⟩ := h
  exact ⟨e0, e1, e2, A, m, c, kv, wv, D, xs, ys, rfl, h.touch t hF⟩
theorem OnC.label (h : OnC w base φ i n e0 e1 e2 A m c kv wv D xs ys) (h1 : ∀ b, φ b = 1 → ψ b = 1) (h2 : ∀ b, φ b = 3 + 2 * i ∨ φ b = 4 + 2 * i → ψ b = φ b) : OnC w base ψ i n e0 e1 e2 A m c kv wv D xs ys := by
  have q : ∀ b, Fin1 φ b → b < w.heap.size → Fin1 ψ b := fun b hb _ => h1 b hb
  exact ⟨h.ex.via q, h.rk, h.lk.mono (NT.via q D), h.rw_, h.lw.mono (fun x ys hx => hx.via q), fun b hb => by rw [h2 b (.inl (h.fk b hb))]; exact h.fk b hb, fun b hb => by rw [h2 b (.inr (h.fw b hb))]; exact h.fw b hb⟩
theorem ON.label (h : ON w base φ i n l) (h1 : ∀ b, φ b = 1 → ψ b = 1) (h2 : ∀ b, φ b = 3 + 2 * i ∨ φ b = 4 + 2 * i → ψ b = φ b) : ON w base ψ i n l := by
  obtain ⟨e0, e1, e2, A, m, c, kv, wv, D, xs, ys, rfl, h⟩ := h
  exact ⟨e0, e1, e2, A, m, c, kv, wv, D, xs, ys, rfl, h.label h1 h2⟩
/-- An open node is finished. -/
theorem OnC.done (h : OnC w base φ i n e0 e1 e2 A m c kv wv D xs ys) (h1 : ∀ b, φ b = 1 ∨ φ b = 3 + 2 * i ∨ φ b = 4 + 2 * i → ψ b = 1) : NT w (Fin1 ψ) (D + 1) n (onL n e0 e1 e2 A m c kv wv) := by
  have q : ∀ b, Fin1 φ b → b < w.heap.size → Fin1 ψ b := fun b hb _ => h1 b (.inl hb)
  refine ⟨e0, e1, e2, A, m, c, kv, wv, xs, ys, rfl, h.ex.via q, ?_, h.lk.mono (NT.via q D), ?_, h.lw.mono (fun x ys hx => hx.via q)⟩
  · exact (slat_own h.rk).via (fun b hb _ => h1 b (.inr (.inl (h.fk b hb))))
  · exact (slat_own h.rw_).via (fun b hb _ => h1 b (.inr (.inr (h.fw b hb))))
theorem ON.done (h : ON w base φ i n l) (h1 : ∀ b, φ b = 1 ∨ φ b = 3 + 2 * i ∨ φ b = 4 + 2 * i → ψ b = 1) : ∃ D, NT w (Fin1 ψ) D n l := by
  obtain ⟨e0, e1, e2, A, m, c, kv, wv, D, xs, ys, rfl, h⟩ := h
  exact ⟨D + 1, h.done h1⟩
theorem ON.len (h : ON w base φ i n l) : l.length = 10 := by
  obtain ⟨e0, e1, e2, A, m, c, kv, wv, D, xs, ys, rfl, h⟩ := h
  rfl
end
/-- The open nodes of a stack, the outermost one at place 0; their cells one behind another. -/
def StAt (w : World) (base : Nat) (φ : Nat → Nat) : List Nd → List Value → Prop
  | [], cs => cs = []
  | n :: r, cs => ∃ xs l, cs = xs ++ l ∧ StAt w base φ r xs ∧ ON w base φ r.length n l
theorem StAt.len {w : World} {base : Nat} {φ : Nat → Nat} : ∀ {op : List Nd} {cs : List Value}, StAt w base φ op cs → cs.length = op.length * 10
  | [], cs, h => by rw [show cs = [] from h]; rfl
  | n :: r, cs, h => by
    obtain ⟨xs, l, rfl, h1, h2⟩ := h
    rw [List.length_append, h1.len, h2.len, List.length_cons]
    omega
theorem StAt.touch {w w' : World} {base : Nat} {φ : Nat → Nat} {F : Nat → Prop} (t : Touch F w w') : ∀ {op : List Nd} {cs : List Value}, StAt w base φ op cs → (∀ b, F b → φ b ≠ 1 ∧ ∀ i, i < op.length → φ b ≠ 3 + 2 * i ∧ φ b ≠ 4 + 2 * i) → StAt w' base φ op cs
  | [], cs, h, _ => h
  | n :: r, cs, h, hF => by
    obtain ⟨xs, l, rfl, h1, h2⟩ := h
    exact ⟨xs, l, rfl, StAt.touch t h1 (fun b f => ⟨(hF b f).1, fun i hi => (hF b f).2 i (by simp only [List.length_cons]; omega)⟩), h2.touch t (fun b f => ⟨(hF b f).1, (hF b f).2 r.length (by simp)⟩)⟩
theorem StAt.label {w : World} {base : Nat} {φ ψ : Nat → Nat} (h1 : ∀ b, φ b = 1 → ψ b = 1) : ∀ {op : List Nd} {cs : List Value}, StAt w base φ op cs → (∀ b i, i < op.length → φ b = 3 + 2 * i ∨ φ b = 4 + 2 * i → ψ b = φ b) → StAt w base ψ op cs
  | [], cs, h, _ => h
  | n :: r, cs, h, h2 => by
    obtain ⟨xs, l, rfl, h3, h4⟩ := h
    exact ⟨xs, l, rfl, StAt.label h1 h3 (fun b i hi => h2 b i (by simp only [List.length_cons]; omega)), h4.label h1 (fun b => h2 b r.length (by simp))⟩
end Go.Proofs.YtbikpbmknneabaaGreat
end
/-
  A scope in which the run jumps between many labels: what holds at every jump to each of them, and a measure that every pass from a label lowers. No program is named here; no condition beyond those that the theorem names.
-/
section
namespace Go.Proofs.YtbikpbmknneabaaGreat

/-- As Q; by a goto: what J says of its label. -/
def hop (J : Nat → Act → World → Prop) (Q : Exit → Act → World → Prop) : Exit → Act → World → Prop
  | .goto l, a, w => J l a w
  | e, a, w => Q e a w
section
variable {P : Program} {a : Act} {w : World} {Q : Exit → Act → World → Prop} {J : Nat → Act → World → Prop}
end
end Go.Proofs.YtbikpbmknneabaaGreat
end
