/-
  A parser's place stays at or ahead of the last token, which is the end's. Lists alone.
-/
import Derived.Test.YtkmbobfjoaldgaaGreatDoorZa7
namespace Go.Proofs.YtkmbobfjoaldgaaGreatDoor
set_option maxRecDepth 100000

/-- The end's token stands at place L. -/
def EnT (ts : List Tk) (L : Nat) : Prop := ∃ t, ts[L]? = some t ∧ t.kd = 0
section
variable {ts : List Tk} {L : Nat} (hE0 : EnT ts L)
include hE0
theorem sg_nL {k : Nat} {s : Bs} (h : sg ts k s = true) : k ≠ L := by
  intro e
  subst e
  obtain ⟨t, ht, h0⟩ := hE0
  unfold sg at h
  rw [ht] at h
  simp [h0] at h
theorem opk_nL {lv k : Nat} {c : Int} (h : opk ts lv k = some c) : k ≠ L := by
  unfold opk at h
  split at h <;> repeat' split at h
  all_goals first | (cases h; done) | (rename_i h0; exact sg_nL hE0 h0) | skip
theorem prek_nL {k : Nat} {c : Int} (h : prek ts k = some c) : k ≠ L := by
  unfold prek at h
  repeat' split at h
  all_goals first | (cases h; done) | (rename_i h0; exact sg_nL hE0 h0) | skip
theorem num_nL {k n : Nat} (h : numAt ts k = some n) : k ≠ L := by
  intro e
  subst e
  obtain ⟨t, ht, h0⟩ := hE0
  unfold numAt at h
  rw [ht] at h
  simp [h0] at h
theorem nam_nL {k : Nat} {s : Bs} (h : nameAt ts k = some s) : k ≠ L := by
  intro e
  subst e
  obtain ⟨t, ht, h0⟩ := hE0
  unfold nameAt at h
  rw [ht] at h
  simp [h0] at h
theorem nxt_end0 (e : Nat) : (nxt ts L e).kd = 0 := by
  obtain ⟨t, ht, h0⟩ := hE0
  by_cases he : e = 0
  · rw [he, nxt_at ht]; exact h0
  · rw [nxt_bad he]
end
theorem loop_fwL {ts : List Tk} {L : Nat} (hE0 : EnT ts L) {lv : Nat} {sub : Nat → Rs} (hs : ∀ k, k ≤ L → (sub k).fwd L k) : ∀ (f : Nat) (x : Ex) (k k0 : Nat), k0 < k → k ≤ L → (loopL ts lv sub f x k).fwd L k0
  | 0, x, k, k0, h0, h1 => ⟨h0, h1⟩
  | f + 1, x, k, k0, h0, h1 => by
    unfold loopL
    cases ho : opk ts lv k with
    | none => exact ⟨h0, h1⟩
    | some kd =>
      have hlt := opk_nL hE0 ho
      have h2 := hs (k + 1) (by omega)
      simp only
      cases hr : sub (k + 1) with
      | er e j => rw [hr] at h2; exact ⟨by have := h2.1; omega, h2.2⟩
      | ok y j =>
        rw [hr] at h2
        simp only
        have h3 := mk_fwd (n := L) (k := k0) (x := .two kd x y) (j := j) (by have := h2.1; omega) h2.2
        cases hm : mk (.two kd x y) j with
        | er e i => rw [hm] at h3; exact h3
        | ok z i =>
          rw [hm] at h3
          simp only
          split
          · exact h3
          · exact loop_fwL hE0 hs f z i k0 h3.1 h3.2
theorem bin_fwL {ts : List Tk} {L : Nat} (hE0 : EnT ts L) {u : Nat → Rs} (hu : ∀ k, k ≤ L → (u k).fwd L k) : ∀ (j k : Nat), k ≤ L → (binL ts u j k).fwd L k
  | 0, k, h => hu k h
  | j + 1, k, h => by
    unfold binL
    have ih := bin_fwL hE0 hu j
    have h2 := ih k h
    cases hr : binL ts u j k with
    | er e i => rw [hr] at h2; exact h2
    | ok x i => rw [hr] at h2; exact loop_fwL hE0 ih _ x i k h2.1 h2.2
theorem pair_fwL {ts : List Tk} {L : Nat} (hE0 : EnT ts L) {E : Nat → Rs} (hE : ∀ k, k ≤ L → (E k).fwd L k) (kd : Int) (x : Ex) (j k0 : Nat) (h0 : k0 < j) (h1 : j ≤ L) : (pairL ts E kd x j).fwd L k0 := by
  unfold pairL
  split
  · rename_i hc
    have hlt := sg_nL hE0 hc
    have h2 := hE (j + 1) (by omega)
    cases hr : E (j + 1) with
    | er e i => rw [hr] at h2; exact ⟨by have := h2.1; omega, h2.2⟩
    | ok y i =>
      rw [hr] at h2
      simp only
      split
      · rename_i hd
        have := sg_nL hE0 hd
        exact mk_fwd (by have := h2.1; omega) (by have := h2.2; omega)
      · exact ⟨by have := h2.1; omega, h2.2, .inl rfl⟩
  · exact ⟨by omega, h1, .inl rfl⟩
theorem prim_fwL {ts : List Tk} {L : Nat} (hE0 : EnT ts L) {E : Nat → Rs} (hE : ∀ k, k ≤ L → (E k).fwd L k) (k : Nat) (h : k ≤ L) : (primL ts E k).fwd L k := by
  unfold primL
  cases hn : numAt ts k with
  | some n => have := num_nL hE0 hn; exact ⟨by omega, by omega⟩
  | none =>
    simp only
    cases hs : nameAt ts k with
    | some s => have := nam_nL hE0 hs; exact ⟨by omega, by omega⟩
    | none =>
      simp only
      split
      · rename_i h0
        have := sg_nL hE0 h0
        cases hb : nameAt ts (k + 1) with
        | some s => have := nam_nL hE0 hb; exact ⟨by omega, by omega⟩
        | none => exact ⟨by omega, by omega, .inl rfl⟩
      · split
        · rename_i h0; have := sg_nL hE0 h0; exact ⟨by omega, by omega⟩
        · split
          · rename_i h0; have := sg_nL hE0 h0; exact ⟨by omega, by omega⟩
          · split
            · rename_i h0; have := sg_nL hE0 h0; exact ⟨by omega, by omega⟩
            · split
              · rename_i h0; have := sg_nL hE0 h0; exact ⟨by omega, by omega⟩
              · split
                · rename_i h0
                  have := sg_nL hE0 h0
                  have h2 := hE (k + 1) (by omega)
                  cases hr : E (k + 1) with
                  | er e i => rw [hr] at h2; exact ⟨by have := h2.1; omega, h2.2⟩
                  | ok x i =>
                    rw [hr] at h2
                    simp only
                    split
                    · rename_i hc; have := sg_nL hE0 hc; exact ⟨by have := h2.1; omega, by have := h2.2; omega⟩
                    · exact pair_fwL hE0 hE 15 x i k (by have := h2.1; omega) h2.2
                · split
                  · rename_i h0
                    have := sg_nL hE0 h0
                    split
                    · rename_i h1
                      have := sg_nL hE0 h1
                      have h2 := hE (k + 2) (by omega)
                      cases hr : E (k + 2) with
                      | er e i => rw [hr] at h2; exact ⟨by have := h2.1; omega, h2.2⟩
                      | ok x i =>
                        rw [hr] at h2
                        exact pair_fwL hE0 hE 19 x i k (by have := h2.1; omega) h2.2
                    · exact ⟨by omega, by omega, .inl rfl⟩
                  · exact ⟨Nat.le_refl _, h, .inl rfl⟩
theorem una_fwL {ts : List Tk} {L : Nat} (hE0 : EnT ts L) : ∀ (m k : Nat), k ≤ L → (unaL ts m k).fwd L k
  | 0, k, h => ⟨Nat.le_refl _, h, .inr rfl⟩
  | m + 1, k, h => by
    have ih := una_fwL hE0 m
    unfold unaL
    cases hp : prek ts k with
    | some kd =>
      have hlt := prek_nL hE0 hp
      have h2 := ih (k + 1) (by omega)
      simp only
      cases hr : unaL ts m (k + 1) with
      | er e i => rw [hr] at h2; exact ⟨by have := h2.1; omega, h2.2⟩
      | ok x i => rw [hr] at h2; exact mk_fwd (by have := h2.1; omega) h2.2
    | none =>
      simp only
      split
      · rename_i h0
        have := sg_nL hE0 h0
        cases hb : numAt ts (k + 1) with
        | some s => have := num_nL hE0 hb; exact ⟨by omega, by omega⟩
        | none => exact ⟨by omega, by omega, .inl rfl⟩
      · exact prim_fwL hE0 (bin_fwL hE0 ih 5) k h
theorem ful_fwL {ts : List Tk} {L : Nat} (hE0 : EnT ts L) (m j k : Nat) (h : k ≤ L) : (binL ts (unaL ts m) j k).fwd L k := bin_fwL hE0 (una_fwL hE0 m) j k h
section
variable {ts : List Tk} {L : Nat} (hE0 : EnT ts L)
include hE0
theorem par_fwL (k : Nat) (h : k ≤ L) : (parL ts k).fwd L k := by
  have hL : L < ts.length := by obtain ⟨t, ht, _⟩ := hE0; exact (List.getElem?_eq_some_iff.1 ht).1
  unfold parL
  rw [if_pos (by omega)]
  exact ful_fwL hE0 40 5 k h
theorem isS_nL {s : Bs} {σ : St} (h : isS ts s σ = true) : σ.1 ≠ L := by
  intro e
  unfold isS nxS acc at h
  rw [e] at h
  rw [nxt_end0 hE0] at h
  simp at h
theorem stepK_nL {c : Nat} (hc : c ≠ 0) {σ : St} (h : σ.1 ≤ L) : stepK (nxS ts σ) c σ.1 ≤ L := by
  unfold stepK nxS
  split
  · rename_i hk
    have : σ.1 ≠ L := fun e => by rw [e, nxt_end0 hE0] at hk; exact hc hk.symm
    omega
  · exact h
theorem acS_L {s : Bs} {σ : St} (h : σ.1 ≤ L) : (acS ts s σ).1 ≤ L := by
  unfold acS
  simp only
  split
  · rename_i hi; have := isS_nL hE0 hi; omega
  · exact h
theorem exS_L {s : Bs} {σ : St} (h : σ.1 ≤ L) : (exS ts s σ).1 ≤ L := by
  unfold exS
  simp only
  split
  · rename_i hi; have := isS_nL hE0 hi; omega
  · exact h
theorem nuS_L {σ : St} (h : σ.1 ≤ L) : (nuS ts σ).1 ≤ L := stepK_nL hE0 (by decide) h
theorem naS_L {σ : St} (h : σ.1 ≤ L) : (naS ts σ).1 ≤ L := stepK_nL hE0 (by decide) h
theorem choF_nL {σ : St} : ∀ (ws : List Bs) (d i : Nat), choF ts σ ws d = some i → σ.1 ≠ L
  | [], d, i, h => by cases h
  | s :: r, d, i, h => by
    unfold choF at h
    split at h
    · rename_i hi; exact isS_nL hE0 hi
    · exact choF_nL r _ i h
theorem choS_L {ws : List Bs} {σ : St} (h : σ.1 ≤ L) : (choS ts ws σ).1 ≤ L := by
  unfold choS
  split
  · rename_i i hi; have := choF_nL hE0 ws 0 i hi; simp only; omega
  · exact h
theorem siS_L {σ : St} (h : σ.1 ≤ L) : (siS ts σ).1 ≤ L := nuS_L hE0 (acS_L hE0 h)
theorem keyS_L {σ : St} (h : σ.1 ≤ L) : (keyS ts σ).1 ≤ L := exS_L hE0 (choS_L hE0 (naS_L hE0 (choS_L hE0 h)))
theorem varS_L {σ : St} (h : σ.1 ≤ L) : (varS ts σ).1 ≤ L := exS_L hE0 (siS_L hE0 (siS_L hE0 (naS_L hE0 h)))
theorem cndS_L {σ : St} (h : σ.1 ≤ L) : (cndS ts σ).1 ≤ L := exS_L hE0 (siS_L hE0 (choS_L hE0 (naS_L hE0 h)))
theorem mkeS_L {σ : St} (h : σ.1 ≤ L) : (mkeS ts σ).1 ≤ L := by
  have h1 := naS_L hE0 h
  unfold mkeS
  refine exS_L hE0 ?_
  split
  · exact siS_L hE0 (acS_L hE0 h1)
  · split
    · exact nuS_L hE0 (acS_L hE0 h1)
    · split
      · exact nuS_L hE0 (acS_L hE0 h1)
      · exact h1
theorem beT_L {s : Bs} {a b : Nat} {σ : St} (h : σ.1 ≤ L) : (beT ts s a b σ).1 ≤ L := by unfold beT; exact acS_L hE0 (by rw [beS_at]; exact h)
theorem wiS_L {σ : St} (h : σ.1 ≤ L) : (wiS ts σ).1 ≤ L := acS_L hE0 h
theorem eqS_L {σ : St} (h : σ.1 ≤ L) : (eqS ts σ).1 ≤ L := by
  unfold eqS
  split
  · have hf := par_fwL hE0 σ.1 h
    cases hp : parL ts σ.1 with
    | ok y k => rw [hp] at hf; exact hf.2
    | er e k => rw [hp] at hf; exact hf.2.1
  · exact h
theorem actR_L : ∀ (f : Nat) (a : List Cn) (b : List Mk) (σ : St), σ.1 ≤ L → (actR ts f a b σ).2.1 ≤ L
  | 0, _, _, _, h => h
  | f + 1, a, b, σ, h => by
    unfold actR
    have hw := wiS_L hE0 h
    split
    · simp only
      split
      · exact actR_L f _ _ _ (cndS_L hE0 (beT_L hE0 hw))
      · split
        · exact actR_L f _ _ _ (mkeS_L hE0 (beT_L hE0 (beT_L hE0 hw)))
        · exact actR_L f _ _ (failS 2 _) (beT_L hE0 (beT_L hE0 hw))
    · exact hw
theorem actS_L {σ : St} (h : σ.1 ≤ L) : (actS ts σ).1 ≤ L := actR_L hE0 _ _ _ _ (exS_L hE0 (nuS_L hE0 (exS_L hE0 (naS_L hE0 h))))
theorem domR_L : ∀ (f : Nat) (a : List Va) (b : List Ac) (c : List Cn) (σ : St), σ.1 ≤ L → (domR ts f a b c σ).2.1 ≤ L
  | 0, _, _, _, _, h => h
  | f + 1, a, b, c, σ, h => by
    unfold domR
    have hw := wiS_L hE0 h
    split
    · simp only
      split
      · exact domR_L f _ _ _ _ (varS_L hE0 (beT_L hE0 hw))
      · split
        · exact domR_L f _ _ _ _ (actS_L hE0 (beT_L hE0 (beT_L hE0 hw)))
        · split
          · exact domR_L f _ _ _ _ (cndS_L hE0 (beT_L hE0 (beT_L hE0 (beT_L hE0 hw))))
          · exact domR_L f _ _ _ (failS 2 _) (beT_L hE0 (beT_L hE0 (beT_L hE0 hw)))
    · exact hw
theorem domS_L {σ : St} (h : σ.1 ≤ L) : (domS ts σ).1 ≤ L := domR_L hE0 _ _ _ _ _ (exS_L hE0 (naS_L hE0 h))
end
end Go.Proofs.YtkmbobfjoaldgaaGreatDoor

/-
  Nodes and programs over lists: places go on, and stay at or ahead of the end's token. Lists alone.
-/
namespace Go.Proofs.YtkmbobfjoaldgaaGreatDoor
set_option maxRecDepth 100000

theorem eqS_ge {ts : List Tk} {σ : St} (h : σ.1 ≤ ts.length) : σ.1 ≤ (eqS ts σ).1 := by
  unfold eqS
  split
  · have hf := ful_fwd ts 40 5 σ.1 h
    rw [← par_bin h] at hf
    cases hp : parL ts σ.1 with
    | ok y k => rw [hp] at hf; exact Nat.le_of_lt hf.1
    | er e k => rw [hp] at hf; exact hf.1
  · exact Nat.le_refl _
section
variable {ts : List Tk} {L : Nat} (hE0 : EnT ts L)
include hE0
theorem headT_L {kd : Nat} {s : St} (h : s.1 ≤ L) : (headT ts kd s).2.1 ≤ L := by
  unfold headT
  repeat' split
  all_goals first
    | exact nuS_L hE0 (nuS_L hE0 h)
    | exact nuS_L hE0 h
    | exact eqS_L hE0 (exS_L hE0 (naS_L hE0 h))
    | exact eqS_L hE0 h
    | exact naS_L hE0 h
    | exact h
theorem headE_L {kd : Nat} {s : St} (h : s.1 ≤ L) : (headE ts kd s).1 ≤ L := by
  unfold headE
  split
  · exact exS_L hE0 h
  · split
    · exact exS_L hE0 h
    · exact h
theorem headS_L {σ : St} (h : σ.1 ≤ L) : (headS ts σ).1 ≤ L := headE_L hE0 (headT_L hE0 (choS_L hE0 h))
omit hE0 in
theorem anoF_L {n : Nd} {σ : St} (h : σ.1 ≤ L) : (anoF n σ).1 ≤ L := by unfold anoF; split <;> exact h
theorem anoS_L {n : Nd} {σ : St} (h : σ.1 ≤ L) : (anoS ts n σ).1 ≤ L := by
  unfold anoS
  split
  · exact h
  · split
    · exact acS_L hE0 h
    · split
      · exact exS_L hE0 (eqS_L hE0 (anoF_L h))
      · exact anoF_L h
theorem nodR_L : ∀ (f : Nat) (op : List Nd) (o : Option Nd) (σ : St), σ.1 ≤ L → (nodR ts f op o σ).2.1 ≤ L
  | 0, _, _, _, h => by unfold nodR; exact h
  | f + 1, op, none, σ, h => by
    unfold nodR
    refine nodR_L f _ _ _ (headS_L hE0 ?_)
    unfold begS
    split <;> exact h
  | f + 1, op, some n, σ, h => by
    unfold nodR
    split
    · exact h
    · split
      · exact nodR_L f _ _ _ (anoS_L hE0 h)
      · cases op with
        | nil => exact anoS_L hE0 h
        | cons p r => exact nodR_L f _ _ _ (anoS_L hE0 h)
theorem treS_L {σ : St} (h : σ.1 ≤ L) : (treS ts σ).1 ≤ L := exS_L hE0 (nodR_L hE0 _ _ _ _ (exS_L hE0 (naS_L hE0 h)))
theorem prgR_L : ∀ (f : Nat) (a : List Ky) (b : List Tr) (c : List Dm) (σ : St), σ.1 ≤ L → (prgR ts f a b c σ).2.1 ≤ L
  | 0, _, _, _, _, h => h
  | f + 1, a, b, c, σ, h => by
    unfold prgR
    split
    · simp only
      split
      · exact prgR_L f _ _ _ _ (keyS_L hE0 (beT_L hE0 h))
      · split
        · exact prgR_L f _ _ _ _ (treS_L hE0 (beT_L hE0 (beT_L hE0 h)))
        · split
          · exact prgR_L f _ _ _ _ (domS_L hE0 (beT_L hE0 (beT_L hE0 (beT_L hE0 h))))
          · exact prgR_L f _ _ _ (failS 2 _) (beT_L hE0 (beT_L hE0 (beT_L hE0 h)))
    · exact h
theorem prgG_L : (prgG ts).2.1 ≤ L := prgR_L hE0 _ _ _ _ _ (Nat.zero_le _)
end
end Go.Proofs.YtkmbobfjoaldgaaGreatDoor

/-
  The document's own sameness of a program's parts, of two that lie apart in memory: conditions. Conditions: those that each theorem names.
-/
namespace Go.Proofs.YtkmbobfjoaldgaaGreatDoor
open Go.ChangeShapes Go.WideShapes Go.ChangeAt Go.RowKit
set_option maxRecDepth 100000
set_option maxHeartbeats 4000000

theorem cnC_at : ∀ (l : List Cn) (k : Nat) (c : Cn), l[k]? = some c → (cnC l)[k * 3]? = some (.string (bs c.nm)) ∧ (cnC l)[k * 3 + 1]? = some (.int .i64 (c.op : Int)) ∧ (cnC l)[k * 3 + 2]? = some (.int .i64 c.n)
  | [], k, c, h => by cases h
  | x :: l, 0, c, h => by
    simp only [List.getElem?_cons_zero, Option.some.injEq] at h
    subst h
    simp [cnC]
  | x :: l, k + 1, c, h => by
    rw [List.getElem?_cons_succ] at h
    obtain ⟨a, b, d⟩ := cnC_at l k c h
    have e : cnC (x :: l) = [.string (bs x.nm), .int .i64 (x.op : Int), .int .i64 x.n] ++ cnC l := by simp [cnC]
    have r : ∀ j, (cnC (x :: l))[k * 3 + j + 3]? = (cnC l)[k * 3 + j]? := fun j => by rw [e]; rfl
    refine ⟨?_, ?_, ?_⟩
    · exact (congrArg (fun z => (cnC (x :: l))[z]?) (show (k + 1) * 3 = k * 3 + 0 + 3 by omega)).trans ((r 0).trans a)
    · exact (congrArg (fun z => (cnC (x :: l))[z]?) (show (k + 1) * 3 + 1 = k * 3 + 1 + 3 by omega)).trans ((r 1).trans b)
    · exact (congrArg (fun z => (cnC (x :: l))[z]?) (show (k + 1) * 3 + 2 = k * 3 + 2 + 3 by omega)).trans ((r 2).trans d)
theorem SlAt.cells3 {w : World} {Q : Nat → Prop} {A : Option Addr} {n c i : Nat} {xs : List Value} {a b d : Value} (h : SlAt w Q (.slice A n c) n xs) (h0 : xs[i * 3]? = some a) (h1 : xs[i * 3 + 1]? = some b) (h2 : xs[i * 3 + 2]? = some d) :
    ∃ g, A = some ⟨g, 0, none⟩ ∧ w.cell? ⟨g, i * 3, none⟩ = some a ∧ w.cell? ⟨g, i * 3 + 1, none⟩ = some b ∧ w.cell? ⟨g, i * 3 + 2, none⟩ = some d := by
  obtain ⟨A', c', e, hx⟩ := h
  injection e with e1 e2 e3
  subst e1
  obtain ⟨g, hg, -, -, k0⟩ := hx _ _ h0
  obtain ⟨g1, hg1, -, -, k1⟩ := hx _ _ h1
  obtain ⟨g2, hg2, -, -, k2⟩ := hx _ _ h2
  rw [hg] at hg1 hg2
  injection hg1 with hg1
  injection hg1 with hg1
  injection hg2 with hg2
  injection hg2 with hg2
  subst hg1 hg2
  exact ⟨_, hg, k0, k1, k2⟩
def SrRel (m : Nat) (w : World) (v5 : Value) (wr : World) : Prop := ∃ i : Nat, i ≤ m ∧ v5 = .int .i64 i ∧ Touch NoB w wr
theorem sameconds_any {A1 A2 : Option Addr} {c1 c2 m : Nat} {l : List Cn} {w : World} {Q1 Q2 : Nat → Prop} (hm : l.length = m) (hm2 : m ≤ 100000) (h1 : SlAt w Q1 (.slice A1 m c1) m (cnC l)) (h2 : SlAt w Q2 (.slice A2 m c2) m (cnC l)) :
    Calls Tryz.prog 47 #[.slice A1 m c1, .slice A2 m c2] w fun e w' => e = .returned (.bool true) ∧ Touch NoB w w' := by
  have H1 := Lib.hid h1
  have H2 := Lib.hid h2
  have HM := Lib.hid hm
  clear h1 h2 hm
  go_enter Tryz.func47, Tryz.ntmps47
  go_wp2
  go_loopw [5] (fun v5 wr => SrRel m w v5 wr) (fun v5 _ => m - (intOf v5).toNat)
  case atStart => exact ⟨0, Nat.zero_le _, rfl, Touch.refl _ _⟩
  case round =>
    obtain ⟨i, hi, rfl, hTr⟩ := hrel
    by_cases hlt : i < m
    · obtain ⟨t, ht⟩ : ∃ t, l[i]? = some t := ⟨l[i]'(by rw [HM.out]; exact hlt), List.getElem?_eq_getElem _⟩
      obtain ⟨e0, e1, e2⟩ := cnC_at l i t ht
      obtain ⟨g1, rfl, a0, a1, a2⟩ := (H1.out.touch hTr (fun _ _ x => x)).cells3 e0 e1 e2
      obtain ⟨g2, rfl, b0, b1, b2⟩ := (H2.out.touch hTr (fun _ _ x => x)).cells3 e0 e1 e2
      obtain ⟨sx, hsx⟩ : ∃ sx, bs t.nm = sx := ⟨_, rfl⟩
      rw [hsx] at a0 b0
      obtain ⟨kd, hkd⟩ : ∃ kd, t.op = kd := ⟨_, rfl⟩
      rw [hkd] at a1 b1
      obtain ⟨nn, hnn⟩ : ∃ nn, t.n = nn := ⟨_, rfl⟩
      rw [hnn] at a2 b2
      have p0 : wr.drew.cell? ⟨g1, i * 3, none⟩ = some (.string sx) := a0
      have p1 : wr.drew.cell? ⟨g1, i * 3 + 1, none⟩ = some (.int .i64 kd) := a1
      have p2 : wr.drew.cell? ⟨g1, i * 3 + 2, none⟩ = some (.int .i64 nn) := a2
      have q0 : wr.drew.cell? ⟨g2, i * 3, none⟩ = some (.string sx) := b0
      have q1 : wr.drew.cell? ⟨g2, i * 3 + 1, none⟩ = some (.int .i64 kd) := b1
      have q2 : wr.drew.cell? ⟨g2, i * 3 + 2, none⟩ = some (.int .i64 nn) := b2
      have d0 : ((kd : Int) == (kd : Int)) = true := by simp
      have d1 : (nn == nn) = true := by simp
      have d3 : (sx.toList == sx.toList) = true := by simp
      have HT := Lib.hid hTr
      clear hTr ht a0 a1 a2 b0 b1 b2 hsx hkd hnn e0 e1 e2
      go_wp2
      go_region
      go_wp2
      go_roundw
      case rel => exact ⟨i + 1, by omega, by go_num, HT.out.drew⟩
      case measure => simp [intOf]; omega
    · obtain rfl : i = m := by omega
      have HT := Lib.hid hTr
      clear hTr
      go_wp2
      go_ret
      exact ⟨rfl, HT.out⟩
end Go.Proofs.YtkmbobfjoaldgaaGreatDoor

/-
  The document's own sameness of a program's parts, of two that lie apart in memory: acts. Conditions: those that each theorem names.
-/
namespace Go.Proofs.YtkmbobfjoaldgaaGreatDoor
open Go.ChangeShapes Go.WideShapes Go.ChangeAt Go.RowKit
set_option maxRecDepth 100000
set_option maxHeartbeats 4000000

theorem mkC_at : ∀ (l : List Mk) (k : Nat) (c : Mk), l[k]? = some c → (mkC l)[k * 3]? = some (.string (bs c.nm)) ∧ (mkC l)[k * 3 + 1]? = some (.bool c.add) ∧ (mkC l)[k * 3 + 2]? = some (.int .i64 c.n)
  | [], k, c, h => by cases h
  | x :: l, 0, c, h => by
    simp only [List.getElem?_cons_zero, Option.some.injEq] at h
    subst h
    simp [mkC]
  | x :: l, k + 1, c, h => by
    rw [List.getElem?_cons_succ] at h
    obtain ⟨a, b, d⟩ := mkC_at l k c h
    have e : mkC (x :: l) = [.string (bs x.nm), .bool x.add, .int .i64 x.n] ++ mkC l := by simp [mkC]
    have r : ∀ j, (mkC (x :: l))[k * 3 + j + 3]? = (mkC l)[k * 3 + j]? := fun j => by rw [e]; rfl
    refine ⟨?_, ?_, ?_⟩
    · exact (congrArg (fun z => (mkC (x :: l))[z]?) (show (k + 1) * 3 = k * 3 + 0 + 3 by omega)).trans ((r 0).trans a)
    · exact (congrArg (fun z => (mkC (x :: l))[z]?) (show (k + 1) * 3 + 1 = k * 3 + 1 + 3 by omega)).trans ((r 1).trans b)
    · exact (congrArg (fun z => (mkC (x :: l))[z]?) (show (k + 1) * 3 + 2 = k * 3 + 2 + 3 by omega)).trans ((r 2).trans d)
theorem sameact_any {A1 A2 B1 B2 : Option Addr} {c1 c2 d1 d2 m k : Nat} {nm : ByteArray} {cost : Int} {l : List Cn} {r : List Mk} {w : World} {Q1 Q2 : Nat → Prop} (hm : l.length = m) (hm2 : m ≤ 100000) (hk : r.length = k) (hk2 : k ≤ 100000)
    (h1 : SlAt w Q1 (.slice A1 m c1) m (cnC l)) (h2 : SlAt w Q2 (.slice A2 m c2) m (cnC l)) (h3 : SlAt w Q1 (.slice B1 k d1) k (mkC r)) (h4 : SlAt w Q2 (.slice B2 k d2) k (mkC r)) :
    Calls Tryz.prog 48 #[.agg #[.string nm, .int .i64 cost, .slice A1 m c1, .slice B1 k d1], .agg #[.string nm, .int .i64 cost, .slice A2 m c2, .slice B2 k d2]] w fun e w' => e = .returned (.bool true) ∧ Touch NoB w w' := by
  have HC := Lib.hid (fun (W : World) (t : Touch NoB w W) => sameconds_any hm hm2 (h1.touch t (fun _ _ x => x)) (h2.touch t (fun _ _ x => x)))
  have H3 := Lib.hid h3
  have H4 := Lib.hid h4
  have HK := Lib.hid hk
  have d0 : (nm.toList == nm.toList) = true := by simp
  have d1' : (cost == cost) = true := by simp
  obtain ⟨W0, hW0⟩ : ∃ W, (w.alloc (.cells #[.string nm, .int .i64 cost, .slice A1 m c1, .slice B1 k d1] 106)).alloc (.cells #[.string nm, .int .i64 cost, .slice A2 m c2, .slice B2 k d2] 106) = W := ⟨_, rfl⟩
  have t0 : Touch NoB w W0 := by rw [← hW0]; exact ((Touch.refl _ _).alloc _).alloc _
  have hA : B4 W0 106 w.heap.size (.string nm) (.int .i64 cost) (.slice A1 m c1) (.slice B1 k d1) := by
    rw [← hW0]
    have hx := B4.new w 106 (.string nm) (.int .i64 cost) (.slice A1 m c1) (.slice B1 k d1) rfl
    exact (((Touch.refl NoB _).alloc _).block _ (blk_lt hx) (fun x => x)).trans hx
  have hB : B4 W0 106 (w.heap.size + 1) (.string nm) (.int .i64 cost) (.slice A2 m c2) (.slice B2 k d2) := by
    rw [← hW0]
    exact B4.new _ _ _ _ _ _ (by simp only [World.size_alloc])
  have HT0 := Lib.hid t0
  have HBB := Lib.hid (And.intro hA hB)
  have cs : ∀ {W : World}, Touch NoB W0 W → (W.cell? ⟨w.heap.size, 2, none⟩ = some (.slice A1 m c1) ∧ W.cell? ⟨w.heap.size, 3, none⟩ = some (.slice B1 k d1) ∧ w.heap.size < W.heap.size) ∧ (W.cell? ⟨w.heap.size + 1, 2, none⟩ = some (.slice A2 m c2) ∧ W.cell? ⟨w.heap.size + 1, 3, none⟩ = some (.slice B2 k d2)) := fun {W} t => by
    have ha : B4 W 106 w.heap.size (.string nm) (.int .i64 cost) (.slice A1 m c1) (.slice B1 k d1) := (t.block _ (blk_lt hA) (fun x => x)).trans hA
    have hb : B4 W 106 (w.heap.size + 1) (.string nm) (.int .i64 cost) (.slice A2 m c2) (.slice B2 k d2) := (t.block _ (blk_lt hB) (fun x => x)).trans hB
    exact ⟨⟨ha.cells.2.2.1, ha.cells.2.2.2.1, blk_lt ha⟩, hb.cells.2.2.1, hb.cells.2.2.2.1⟩
  have HCS := Lib.hid (fun W t => @cs W t)
  obtain ⟨aa0, aa1, aa2, aa3, aal⟩ := hA.cells
  obtain ⟨bb0, bb1, bb2, bb3, bbl⟩ := hB.cells
  clear h1 h2 h3 h4 hm hk cs t0 hA hB
  go_enter Tryz.func48, Tryz.ntmps48
  go_wp2_with fail
  try rw [hW0]
  refine (HC.out _ HT0.out).mono ?_
  rintro x w1 ⟨rfl, hT⟩
  have HT1 := Lib.hid hT
  obtain ⟨⟨u2, u3, ul⟩, v2, v3⟩ := HCS.out w1 hT
  clear hT
  go_wp2
  go_loopw [5] (fun v5 wr => SrRel k W0 v5 wr) (fun v5 _ => k - (intOf v5).toNat)
  case atStart => exact ⟨0, Nat.zero_le _, rfl, HT1.out⟩
  case round =>
    obtain ⟨i, hi, rfl, hTr⟩ := hrel
    obtain ⟨⟨x2, x3, xl⟩, y2, y3⟩ := HCS.out wr hTr
    have x3' : wr.drew.cell? ⟨w.heap.size, 3, none⟩ = some (.slice B1 k d1) := x3
    have y3' : wr.drew.cell? ⟨w.heap.size + 1, 3, none⟩ = some (.slice B2 k d2) := y3
    by_cases hlt : i < k
    · obtain ⟨t, ht⟩ : ∃ t, r[i]? = some t := ⟨r[i]'(by rw [HK.out]; exact hlt), List.getElem?_eq_getElem _⟩
      obtain ⟨e0, e1, e2⟩ := mkC_at r i t ht
      obtain ⟨g1, rfl, a0, a1, a2⟩ := (H3.out.touch (HT0.out.same hTr) (fun _ _ x => x)).cells3 e0 e1 e2
      obtain ⟨g2, rfl, b0, b1, b2⟩ := (H4.out.touch (HT0.out.same hTr) (fun _ _ x => x)).cells3 e0 e1 e2
      obtain ⟨sx, hsx⟩ : ∃ sx, bs t.nm = sx := ⟨_, rfl⟩
      rw [hsx] at a0 b0
      obtain ⟨kd, hkd⟩ : ∃ kd, t.add = kd := ⟨_, rfl⟩
      rw [hkd] at a1 b1
      obtain ⟨nn, hnn⟩ : ∃ nn, t.n = nn := ⟨_, rfl⟩
      rw [hnn] at a2 b2
      have p0 : wr.drew.cell? ⟨g1, i * 3, none⟩ = some (.string sx) := a0
      have p1 : wr.drew.cell? ⟨g1, i * 3 + 1, none⟩ = some (.bool kd) := a1
      have p2 : wr.drew.cell? ⟨g1, i * 3 + 2, none⟩ = some (.int .i64 nn) := a2
      have q0 : wr.drew.cell? ⟨g2, i * 3, none⟩ = some (.string sx) := b0
      have q1 : wr.drew.cell? ⟨g2, i * 3 + 1, none⟩ = some (.bool kd) := b1
      have q2 : wr.drew.cell? ⟨g2, i * 3 + 2, none⟩ = some (.int .i64 nn) := b2
      have e3 : (kd == kd) = true := by simp
      have e4 : (nn == nn) = true := by simp
      have e5 : (sx.toList == sx.toList) = true := by simp
      have HT := Lib.hid hTr
      clear hTr ht a0 a1 a2 b0 b1 b2 hsx hkd hnn e0 e1 e2
      go_wp2
      go_region
      go_wp2
      go_roundw
      case rel => exact ⟨i + 1, by omega, by go_num, HT.out.drew⟩
      case measure => simp [intOf]; omega
    · obtain rfl : i = k := by omega
      have HT := Lib.hid hTr
      clear hTr
      go_wp2
      go_ret
      exact ⟨rfl, HT0.out.same HT.out⟩
end Go.Proofs.YtkmbobfjoaldgaaGreatDoor

/-
  The document's own sameness of a program's parts, of two that lie apart in memory: lists part by part, variables. Conditions: those that each theorem names.
-/
namespace Go.Proofs.YtkmbobfjoaldgaaGreatDoor
open Go.ChangeShapes Go.WideShapes Go.ChangeAt Go.RowKit
set_option maxRecDepth 100000
set_option maxHeartbeats 4000000

theorem LsAt.len {α : Type} {P : α → List Value → Prop} {l : List α} {xs : List Value} {s : Nat} (h : LsAt P l xs) (hs : ∀ a ys, P a ys → ys.length = s) : xs.length = l.length * s := by
  induction h with
  | nil => simp
  | snoc _ ha ih => rw [List.length_append, List.length_append, ih, hs _ _ ha]; simp [Nat.add_mul]
theorem LsAt.at_ {α : Type} {P : α → List Value → Prop} {l : List α} {xs : List Value} {s : Nat} (h : LsAt P l xs) (hs : ∀ a ys, P a ys → ys.length = s) :
    ∀ (i : Nat) (a : α), l[i]? = some a → ∃ ys, P a ys ∧ ∀ j, j < s → xs[i * s + j]? = ys[j]? := by
  induction h with
  | nil => intro i a hi; cases hi
  | @snoc l b xs ys h ha ih =>
    intro i a hi
    have hl := h.len hs
    by_cases hlt : i < l.length
    · rw [List.getElem?_append_left hlt] at hi
      obtain ⟨zs, hz, hj⟩ := ih i a hi
      refine ⟨zs, hz, fun j hjs => ?_⟩
      have hb : i * s + j < xs.length := by
        have h1 : (i + 1) * s ≤ l.length * s := Nat.mul_le_mul_right s hlt
        rw [Nat.add_mul] at h1
        omega
      rw [List.getElem?_append_left hb]
      exact hj j hjs
    · have hi2 := (List.getElem?_eq_some_iff.1 hi).1
      simp at hi2
      have e : i = l.length := by omega
      subst e
      rw [List.getElem?_append_right (Nat.le_refl _)] at hi
      simp at hi
      subst hi
      refine ⟨ys, ha, fun j hjs => ?_⟩
      rw [List.getElem?_append_right (by omega), hl]
      congr 1
      omega
theorem AcAt.len {w : World} {Q : Nat → Prop} {a : Ac} {l : List Value} (h : AcAt w Q a l) : l.length = 4 := by
  obtain ⟨v1, v2, rfl, -, -⟩ := h
  rfl
theorem vaC_at : ∀ (l : List Va) (k : Nat) (c : Va), l[k]? = some c → (vaC l)[k * 3]? = some (.string (bs c.nm)) ∧ (vaC l)[k * 3 + 1]? = some (.int .i64 c.lo) ∧ (vaC l)[k * 3 + 2]? = some (.int .i64 c.hi)
  | [], k, c, h => by cases h
  | x :: l, 0, c, h => by
    simp only [List.getElem?_cons_zero, Option.some.injEq] at h
    subst h
    simp [vaC]
  | x :: l, k + 1, c, h => by
    rw [List.getElem?_cons_succ] at h
    obtain ⟨a, b, d⟩ := vaC_at l k c h
    have e : vaC (x :: l) = [.string (bs x.nm), .int .i64 x.lo, .int .i64 x.hi] ++ vaC l := by simp [vaC]
    have r : ∀ j, (vaC (x :: l))[k * 3 + j + 3]? = (vaC l)[k * 3 + j]? := fun j => by rw [e]; rfl
    refine ⟨?_, ?_, ?_⟩
    · exact (congrArg (fun z => (vaC (x :: l))[z]?) (show (k + 1) * 3 = k * 3 + 0 + 3 by omega)).trans ((r 0).trans a)
    · exact (congrArg (fun z => (vaC (x :: l))[z]?) (show (k + 1) * 3 + 1 = k * 3 + 1 + 3 by omega)).trans ((r 1).trans b)
    · exact (congrArg (fun z => (vaC (x :: l))[z]?) (show (k + 1) * 3 + 2 = k * 3 + 2 + 3 by omega)).trans ((r 2).trans d)
end Go.Proofs.YtkmbobfjoaldgaaGreatDoor

/-
  The document's own sameness of a program's parts, of two that lie apart in memory: domains. Conditions: those that each theorem names.
-/
namespace Go.Proofs.YtkmbobfjoaldgaaGreatDoor
open Go.ChangeShapes Go.WideShapes Go.ChangeAt Go.RowKit
set_option maxRecDepth 100000
set_option maxHeartbeats 4000000

theorem SlAt.cells4 {w : World} {Q : Nat → Prop} {A : Option Addr} {n c i : Nat} {xs : List Value} {a b d e : Value} (h : SlAt w Q (.slice A n c) n xs) (h0 : xs[i * 4]? = some a) (h1 : xs[i * 4 + 1]? = some b) (h2 : xs[i * 4 + 2]? = some d) (h3 : xs[i * 4 + 3]? = some e) :
    ∃ g, A = some ⟨g, 0, none⟩ ∧ w.cell? ⟨g, i * 4, none⟩ = some a ∧ w.cell? ⟨g, i * 4 + 1, none⟩ = some b ∧ w.cell? ⟨g, i * 4 + 2, none⟩ = some d ∧ w.cell? ⟨g, i * 4 + 3, none⟩ = some e := by
  obtain ⟨A', c', e0, hx⟩ := h
  injection e0 with e1 e2 e3
  subst e1
  obtain ⟨g, hg, -, -, k0⟩ := hx _ _ h0
  obtain ⟨g1, hg1, -, -, k1⟩ := hx _ _ h1
  obtain ⟨g2, hg2, -, -, k2⟩ := hx _ _ h2
  obtain ⟨g3, hg3, -, -, k3⟩ := hx _ _ h3
  rw [hg] at hg1 hg2 hg3
  injection hg1 with hg1
  injection hg1 with hg1
  injection hg2 with hg2
  injection hg2 with hg2
  injection hg3 with hg3
  injection hg3 with hg3
  subst hg1 hg2 hg3
  exact ⟨_, hg, k0, k1, k2, k3⟩
/-- An act among others. -/
theorem act_at {w : World} {Q : Nat → Prop} {A : Option Addr} {n c i : Nat} {la : List Ac} {xs : List Value} {t : Ac} (h : SlAt w Q (.slice A n c) n xs) (hl : LsAt (AcAt w Q) la xs) (ht : la[i]? = some t) :
    ∃ g A1 c1 A2 c2, A = some ⟨g, 0, none⟩ ∧ w.cell? ⟨g, i * 4, none⟩ = some (.string (bs t.nm)) ∧ w.cell? ⟨g, i * 4 + 1, none⟩ = some (.int .i64 (t.cost : Int)) ∧ w.cell? ⟨g, i * 4 + 2, none⟩ = some (.slice A1 t.need.length c1) ∧ w.cell? ⟨g, i * 4 + 3, none⟩ = some (.slice A2 t.make.length c2) ∧
      SlAt w Q (.slice A1 t.need.length c1) t.need.length (cnC t.need) ∧ SlAt w Q (.slice A2 t.make.length c2) t.make.length (mkC t.make) := by
  obtain ⟨ys, ⟨v1, v2, rfl, s1, s2⟩, hj⟩ := hl.at_ (s := 4) (fun a ys hy => hy.len) i t ht
  obtain ⟨A1, c1, rfl, r1⟩ := s1
  obtain ⟨A2, c2, rfl, r2⟩ := s2
  obtain ⟨g, rfl, k0, k1, k2, k3⟩ := h.cells4 (i := i) (hj 0 (by decide)) (hj 1 (by decide)) (hj 2 (by decide)) (hj 3 (by decide))
  exact ⟨g, A1, c1, A2, c2, rfl, k0, k1, k2, k3, ⟨A1, c1, rfl, r1⟩, ⟨A2, c2, rfl, r2⟩⟩
theorem samedom_any {A1 A2 B1 B2 G1 G2 : Option Addr} {c1 c2 d1 d2 e1 e2 m k p : Nat} {nm : ByteArray} {lv : List Va} {la : List Ac} {lg : List Cn} {xs1 xs2 : List Value} {w : World} {Q1 Q2 : Nat → Prop} (hm : lv.length = m) (hm2 : m ≤ 100000) (hk : la.length = k) (hk2 : k ≤ 100000) (hp : lg.length = p) (hp2 : p ≤ 100000)
    (hsm : ∀ a ∈ la, a.need.length ≤ 100000 ∧ a.make.length ≤ 100000)
    (h1 : SlAt w Q1 (.slice A1 m c1) m (vaC lv)) (h2 : SlAt w Q2 (.slice A2 m c2) m (vaC lv)) (h3 : SlAt w Q1 (.slice B1 k d1) k xs1) (h4 : SlAt w Q2 (.slice B2 k d2) k xs2) (h5 : LsAt (AcAt w Q1) la xs1) (h6 : LsAt (AcAt w Q2) la xs2)
    (h7 : SlAt w Q1 (.slice G1 p e1) p (cnC lg)) (h8 : SlAt w Q2 (.slice G2 p e2) p (cnC lg)) :
    Calls Tryz.prog 19 #[.agg #[.string nm, .slice A1 m c1, .slice B1 k d1, .slice G1 p e1], .agg #[.string nm, .slice A2 m c2, .slice B2 k d2, .slice G2 p e2]] w fun e w' => e = .returned (.bool true) ∧ Touch NoB w w' := by
  have HC := Lib.hid (fun (W : World) (t : Touch NoB w W) => sameconds_any hp hp2 (h7.touch t (fun _ _ x => x)) (h8.touch t (fun _ _ x => x)))
  have HH := Lib.hid (And.intro h1 (And.intro h2 (And.intro h3 (And.intro h4 (And.intro h5 (And.intro h6 hsm))))))
  have HM := Lib.hid hm
  have HK := Lib.hid hk
  have d0 : (nm.toList == nm.toList) = true := by simp
  obtain ⟨W0, hW0⟩ : ∃ W, (w.alloc (.cells #[.string nm, .slice A1 m c1, .slice B1 k d1, .slice G1 p e1] 69)).alloc (.cells #[.string nm, .slice A2 m c2, .slice B2 k d2, .slice G2 p e2] 69) = W := ⟨_, rfl⟩
  have t0 : Touch NoB w W0 := by rw [← hW0]; exact ((Touch.refl _ _).alloc _).alloc _
  have hA : B4 W0 69 w.heap.size (.string nm) (.slice A1 m c1) (.slice B1 k d1) (.slice G1 p e1) := by
    rw [← hW0]
    have hx := B4.new w 69 (.string nm) (.slice A1 m c1) (.slice B1 k d1) (.slice G1 p e1) rfl
    exact (((Touch.refl NoB _).alloc _).block _ (blk_lt hx) (fun x => x)).trans hx
  have hB : B4 W0 69 (w.heap.size + 1) (.string nm) (.slice A2 m c2) (.slice B2 k d2) (.slice G2 p e2) := by
    rw [← hW0]
    exact B4.new _ _ _ _ _ _ (by simp only [World.size_alloc])
  have HT0 := Lib.hid t0
  have cs : ∀ {W : World}, Touch NoB W0 W → (W.cell? ⟨w.heap.size, 1, none⟩ = some (.slice A1 m c1) ∧ W.cell? ⟨w.heap.size, 2, none⟩ = some (.slice B1 k d1) ∧ w.heap.size < W.heap.size) ∧ (W.cell? ⟨w.heap.size + 1, 1, none⟩ = some (.slice A2 m c2) ∧ W.cell? ⟨w.heap.size + 1, 2, none⟩ = some (.slice B2 k d2)) := fun {W} t => by
    have ha : B4 W 69 w.heap.size (.string nm) (.slice A1 m c1) (.slice B1 k d1) (.slice G1 p e1) := (t.block _ (blk_lt hA) (fun x => x)).trans hA
    have hb : B4 W 69 (w.heap.size + 1) (.string nm) (.slice A2 m c2) (.slice B2 k d2) (.slice G2 p e2) := (t.block _ (blk_lt hB) (fun x => x)).trans hB
    exact ⟨⟨ha.cells.2.1, ha.cells.2.2.1, blk_lt ha⟩, hb.cells.2.1, hb.cells.2.2.1⟩
  have HCS := Lib.hid (fun W t => @cs W t)
  obtain ⟨aa0, aa1, aa2, aa3, aal⟩ := hA.cells
  obtain ⟨bb0, bb1, bb2, bb3, bbl⟩ := hB.cells
  clear h1 h2 h3 h4 h5 h6 h7 h8 hsm hm hk hp cs t0 hA hB
  go_enter Tryz.func19, Tryz.ntmps19
  go_wp2_with fail
  try rw [hW0]
  refine (HC.out _ HT0.out).mono ?_
  rintro x w1 ⟨rfl, hT⟩
  have HT1 := Lib.hid hT
  obtain ⟨⟨u2, u3, ul⟩, v2, v3⟩ := HCS.out w1 hT
  clear hT
  go_wp2
  go_loopw [5] (fun v5 wr => SrRel m W0 v5 wr) (fun v5 _ => m - (intOf v5).toNat)
  case atStart => exact ⟨0, Nat.zero_le _, rfl, HT1.out⟩
  case round =>
    obtain ⟨i, hi, rfl, hTr⟩ := hrel
    obtain ⟨⟨x2, x3, xl⟩, y2, y3⟩ := HCS.out wr hTr
    by_cases hlt : i < m
    · have x2' : wr.drew.cell? ⟨w.heap.size, 1, none⟩ = some (.slice A1 m c1) := x2
      have y2' : wr.drew.cell? ⟨w.heap.size + 1, 1, none⟩ = some (.slice A2 m c2) := y2
      obtain ⟨t, ht⟩ : ∃ t, lv[i]? = some t := ⟨lv[i]'(by rw [HM.out]; exact hlt), List.getElem?_eq_getElem _⟩
      obtain ⟨e0, e1', e2'⟩ := vaC_at lv i t ht
      obtain ⟨g1, rfl, a0, a1, a2⟩ := (HH.out.1.touch (HT0.out.same hTr) (fun _ _ x => x)).cells3 e0 e1' e2'
      obtain ⟨g2, rfl, b0, b1, b2⟩ := (HH.out.2.1.touch (HT0.out.same hTr) (fun _ _ x => x)).cells3 e0 e1' e2'
      obtain ⟨sx, hsx⟩ : ∃ sx, bs t.nm = sx := ⟨_, rfl⟩
      rw [hsx] at a0 b0
      obtain ⟨kd, hkd⟩ : ∃ kd, t.lo = kd := ⟨_, rfl⟩
      rw [hkd] at a1 b1
      obtain ⟨nn, hnn⟩ : ∃ nn, t.hi = nn := ⟨_, rfl⟩
      rw [hnn] at a2 b2
      have p0 : wr.drew.cell? ⟨g1, i * 3, none⟩ = some (.string sx) := a0
      have p1 : wr.drew.cell? ⟨g1, i * 3 + 1, none⟩ = some (.int .i64 kd) := a1
      have p2 : wr.drew.cell? ⟨g1, i * 3 + 2, none⟩ = some (.int .i64 nn) := a2
      have q0 : wr.drew.cell? ⟨g2, i * 3, none⟩ = some (.string sx) := b0
      have q1 : wr.drew.cell? ⟨g2, i * 3 + 1, none⟩ = some (.int .i64 kd) := b1
      have q2 : wr.drew.cell? ⟨g2, i * 3 + 2, none⟩ = some (.int .i64 nn) := b2
      have e3 : (kd == kd) = true := by simp
      have e4 : (nn == nn) = true := by simp
      have e5 : (sx.toList == sx.toList) = true := by simp
      have HT := Lib.hid hTr
      clear hTr ht a0 a1 a2 b0 b1 b2 hsx hkd hnn e0 e1' e2'
      go_wp2
      go_region
      go_wp2
      go_roundw
      case rel => exact ⟨i + 1, by omega, by go_num, HT.out.drew⟩
      case measure => simp [intOf]; omega
    · obtain rfl : i = m := by omega
      have HT := Lib.hid hTr
      clear hTr
      go_wp2
      go_loopw [6] (fun v6 wr => SrRel k W0 v6 wr) (fun v6 _ => k - (intOf v6).toNat)
      case atStart => exact ⟨0, Nat.zero_le _, rfl, HT.out⟩
      case round =>
        obtain ⟨i, hi, rfl, hTr⟩ := hrel
        obtain ⟨⟨x2, x3, xl⟩, y2, y3⟩ := HCS.out wr hTr
        by_cases hlt : i < k
        · have x3' : wr.drew.cell? ⟨w.heap.size, 2, none⟩ = some (.slice B1 k d1) := x3
          have y3' : wr.drew.cell? ⟨w.heap.size + 1, 2, none⟩ = some (.slice B2 k d2) := y3
          obtain ⟨t, ht⟩ : ∃ t, la[i]? = some t := ⟨la[i]'(by rw [HK.out]; exact hlt), List.getElem?_eq_getElem _⟩
          have tw := HT0.out.same hTr
          obtain ⟨g1, N1, n1, M1, m1, rfl, a0, a1, a2, a3, s1, s2⟩ := act_at (HH.out.2.2.1.touch tw (fun _ _ x => x)) (HH.out.2.2.2.2.1.mono (fun x ys hx => hx.touch tw (fun _ _ x => x))) ht
          obtain ⟨g2, N2, n2, M2, m2, rfl, b0, b1, b2, b3, s3, s4⟩ := act_at (HH.out.2.2.2.1.touch tw (fun _ _ x => x)) (HH.out.2.2.2.2.2.1.mono (fun x ys hx => hx.touch tw (fun _ _ x => x))) ht
          obtain ⟨l1, l2⟩ := HH.out.2.2.2.2.2.2 t (List.mem_of_getElem? ht)
          have HS := Lib.hid (fun (W : World) (tt : Touch NoB wr W) => sameact_any (nm := bs t.nm) (cost := (t.cost : Int)) rfl l1 rfl l2 (s1.touch tt (fun _ _ x => x)) (s3.touch tt (fun _ _ x => x)) (s2.touch tt (fun _ _ x => x)) (s4.touch tt (fun _ _ x => x)))
          have p0 : wr.drew.cell? ⟨g1, i * 4, none⟩ = some (.string (bs t.nm)) := a0
          have p1 : wr.drew.cell? ⟨g1, i * 4 + 1, none⟩ = some (.int .i64 (t.cost : Int)) := a1
          have p2 : wr.drew.cell? ⟨g1, i * 4 + 2, none⟩ = some (.slice N1 t.need.length n1) := a2
          have p3 : wr.drew.cell? ⟨g1, i * 4 + 3, none⟩ = some (.slice M1 t.make.length m1) := a3
          have q0 : wr.drew.cell? ⟨g2, i * 4, none⟩ = some (.string (bs t.nm)) := b0
          have q1 : wr.drew.cell? ⟨g2, i * 4 + 1, none⟩ = some (.int .i64 (t.cost : Int)) := b1
          have q2 : wr.drew.cell? ⟨g2, i * 4 + 2, none⟩ = some (.slice N2 t.need.length n2) := b2
          have q3 : wr.drew.cell? ⟨g2, i * 4 + 3, none⟩ = some (.slice M2 t.make.length m2) := b3
          have HT := Lib.hid hTr
          clear hTr ht s1 s2 s3 s4 l1 l2 tw
          go_wp2_with fail
          go_region_law
            (go_simp
             go_at_call 48
             refine (HS.out _ (Touch.refl _ _).drew).mono ?_
             rintro x w3 ⟨rfl, hT0⟩
             have HT3 := Lib.hid ((HT.out.same (Touch.refl _ _).drew).same hT0)
             clear hT0)
          all_goals
            go_wp2
            go_roundw
            case rel => exact ⟨i + 1, by omega, by go_num, HT3.out⟩
            case measure => simp [intOf]; omega
        · obtain rfl : i = k := by omega
          have HT := Lib.hid hTr
          clear hTr
          go_wp2
          go_ret
          exact ⟨rfl, HT0.out.same HT.out⟩
end Go.Proofs.YtkmbobfjoaldgaaGreatDoor
