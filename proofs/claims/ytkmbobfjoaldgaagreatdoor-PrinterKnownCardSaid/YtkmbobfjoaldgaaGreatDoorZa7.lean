/-
  A domain's and a program's loops over lists, round by round; lists of a program's finished parts in memory. No condition beyond those that each theorem names.
-/
import Derived.Test.YtkmbobfjoaldgaaGreatDoorZa6
namespace Go.Proofs.YtkmbobfjoaldgaaGreatDoor
open Go.ChangeShapes Go.WideShapes Go.ChangeAt Go.RowKit
set_option maxRecDepth 100000

/-! ### places go on -/
theorem wiS_ge (ts : List Tk) (σ : St) : σ.1 ≤ (wiS ts σ).1 := by unfold wiS; exact acS_ge ts _ σ
theorem beT_ge (ts : List Tk) (s : Bs) (a b : Nat) (σ : St) : σ.1 ≤ (beT ts s a b σ).1 := by unfold beT; exact Nat.le_trans (Nat.le_of_eq (beS_at ts s a b σ).symm) (acS_ge ts s _)
theorem actR_ge (ts : List Tk) : ∀ (f : Nat) (a : List Cn) (b : List Mk) (σ : St), σ.1 ≤ (actR ts f a b σ).2.1
  | 0, _, _, _ => Nat.le_refl _
  | f + 1, a, b, σ => by
    unfold actR
    split
    · simp only
      split
      · exact Nat.le_trans (Nat.le_trans (wiS_ge ts σ) (Nat.le_trans (beT_ge ts _ _ _ _) (cndS_ge ts _))) (actR_ge ts f _ _ _)
      · split
        · exact Nat.le_trans (Nat.le_trans (wiS_ge ts σ) (Nat.le_trans (beT_ge ts _ _ _ _) (Nat.le_trans (beT_ge ts _ _ _ _) (mkeS_ge ts _)))) (actR_ge ts f _ _ _)
        · exact Nat.le_trans (Nat.le_trans (wiS_ge ts σ) (Nat.le_trans (beT_ge ts needB a.length 8 _) (beT_ge ts makeB b.length 8 _))) (Nat.le_trans (Nat.le_of_eq (failS_at 2 _).symm) (actR_ge ts f a b _))
    · exact wiS_ge ts σ
theorem actS_ge (ts : List Tk) (σ : St) : σ.1 ≤ (actS ts σ).1 := by
  unfold actS
  refine Nat.le_trans ?_ (actR_ge ts _ _ _ _)
  unfold actH
  exact Nat.le_trans (naS_ge ts σ) (Nat.le_trans (exS_ge ts _ _) (Nat.le_trans (nuS_ge ts _) (exS_ge ts _ _)))
theorem domR_ge (ts : List Tk) : ∀ (f : Nat) (a : List Va) (b : List Ac) (c : List Cn) (σ : St), σ.1 ≤ (domR ts f a b c σ).2.1
  | 0, _, _, _, _ => Nat.le_refl _
  | f + 1, a, b, c, σ => by
    unfold domR
    split
    · simp only
      have e1 := Nat.le_trans (wiS_ge ts σ) (beT_ge ts varB a.length 8 _)
      have e2 := Nat.le_trans e1 (beT_ge ts actB b.length 20 _)
      have e3 := Nat.le_trans e2 (beT_ge ts goalB c.length 8 _)
      split
      · exact Nat.le_trans (Nat.le_trans e1 (varS_ge ts _)) (domR_ge ts f _ _ _ _)
      · split
        · exact Nat.le_trans (Nat.le_trans e2 (actS_ge ts _)) (domR_ge ts f _ _ _ _)
        · split
          · exact Nat.le_trans (Nat.le_trans e3 (cndS_ge ts _)) (domR_ge ts f _ _ _ _)
          · exact Nat.le_trans e3 (Nat.le_trans (Nat.le_of_eq (failS_at 2 _).symm) (domR_ge ts f _ _ _ _))
    · exact wiS_ge ts σ
theorem domS_ge (ts : List Tk) (σ : St) : σ.1 ≤ (domS ts σ).1 := by
  unfold domS
  exact Nat.le_trans (Nat.le_trans (naS_ge ts σ) (exS_ge ts _ _)) (domR_ge ts _ _ _ _ _)
/-- A domain's loop, round by round. -/
theorem dom_round {ts : List Tk} {f : Nat} {a : List Va} {b : List Ac} {c : List Cn} {σ : St} {R0 : (List Va × List Ac × List Cn) × St} {n : Nat} (h : domR ts f a b c σ = R0) (hf : Fu f n σ) :
    (wiV ts σ = false → R0 = ((a, b, c), wiS ts σ)) ∧
    (wiV ts σ = true → ∃ f', f = f' + 1 ∧ σ.2 = 0 ∧ ∃ s1 s2 s3, beT ts varB a.length 8 σ = s1 ∧ beT ts actB b.length 20 s1 = s2 ∧ beT ts goalB c.length 8 s2 = s3 ∧
      (beV ts varB a.length 8 σ = true → domR ts f' (a ++ [varV ts s1]) b c (varS ts s1) = R0) ∧
      (beV ts varB a.length 8 σ = false → beV ts actB b.length 20 s1 = true → domR ts f' a (b ++ [actV ts s2]) c (actS ts s2) = R0) ∧
      (beV ts varB a.length 8 σ = false → beV ts actB b.length 20 s1 = false → beV ts goalB c.length 8 s2 = true → domR ts f' a b (c ++ [cndV ts s3]) (cndS ts s3) = R0) ∧
      (beV ts varB a.length 8 σ = false → beV ts actB b.length 20 s1 = false → beV ts goalB c.length 8 s2 = false → domR ts f' a b c (failS 2 s3) = R0)) := by
  cases f with
  | zero => exact absurd hf.1 (by omega)
  | succ f =>
    unfold domR at h
    constructor
    · intro hw
      rw [if_neg (by rw [hw]; decide)] at h
      exact h.symm
    · intro hw
      obtain ⟨h0, hs⟩ := wi_yes hw
      rw [if_pos hw, hs] at h
      simp only at h
      refine ⟨f, rfl, h0, _, _, _, rfl, rfl, rfl, fun h1 => ?_, fun h1 h2 => ?_, fun h1 h2 h3 => ?_, fun h1 h2 h3 => ?_⟩
      · rw [if_pos h1] at h; exact h
      · rw [if_neg (by rw [h1]; decide), if_pos h2] at h; exact h
      · rw [if_neg (by rw [h1]; decide), if_neg (by rw [h2]; decide), if_pos h3] at h; exact h
      · rw [if_neg (by rw [h1]; decide), if_neg (by rw [h2]; decide), if_neg (by rw [h3]; decide)] at h; exact h
/-- A program's loop, round by round. -/
theorem prg_round {ts : List Tk} {f : Nat} {a : List Ky} {b : List Tr} {c : List Dm} {σ : St} {R0 : (List Ky × List Tr × List Dm) × St} {n : Nat} (h : prgR ts f a b c σ = R0) (hf : Fu f n σ) :
    ((nxS ts σ).kd = 0 → R0 = ((a, b, c), σ)) ∧
    ((nxS ts σ).kd ≠ 0 → ∃ f', f = f' + 1 ∧ ∃ s1 s2 s3, beT ts keyB a.length 100 σ = s1 ∧ beT ts treeB b.length 100 s1 = s2 ∧ beT ts domB c.length 100 s2 = s3 ∧
      (beV ts keyB a.length 100 σ = true → prgR ts f' (a ++ [keyV ts s1]) b c (keyS ts s1) = R0) ∧
      (beV ts keyB a.length 100 σ = false → beV ts treeB b.length 100 s1 = true → prgR ts f' a (b ++ [treV ts s2]) c (treS ts s2) = R0) ∧
      (beV ts keyB a.length 100 σ = false → beV ts treeB b.length 100 s1 = false → beV ts domB c.length 100 s2 = true → prgR ts f' a b (c ++ [domV ts s3]) (domS ts s3) = R0) ∧
      (beV ts keyB a.length 100 σ = false → beV ts treeB b.length 100 s1 = false → beV ts domB c.length 100 s2 = false → prgR ts f' a b c (failS 2 s3) = R0)) := by
  cases f with
  | zero => exact absurd hf.1 (by omega)
  | succ f =>
    unfold prgR at h
    constructor
    · intro hw
      rw [if_neg (fun z => z hw)] at h
      exact h.symm
    · intro hw
      rw [if_pos hw] at h
      simp only at h
      refine ⟨f, rfl, _, _, _, rfl, rfl, rfl, fun h1 => ?_, fun h1 h2 => ?_, fun h1 h2 h3 => ?_, fun h1 h2 h3 => ?_⟩
      · rw [if_pos h1] at h; exact h
      · rw [if_neg (by rw [h1]; decide), if_pos h2] at h; exact h
      · rw [if_neg (by rw [h1]; decide), if_neg (by rw [h2]; decide), if_pos h3] at h; exact h
      · rw [if_neg (by rw [h1]; decide), if_neg (by rw [h2]; decide), if_neg (by rw [h3]; decide)] at h; exact h

/-! ### what is finished -/
/-- A row's cells lie in blocks of Q: to be read, no longer to be appended to. -/
def SlAt (w : World) (Q : Nat → Prop) (v : Value) (n : Nat) (xs : List Value) : Prop :=
  ∃ A c, v = .slice A n c ∧ ∀ (j : Nat) (x : Value), xs[j]? = some x → ∃ b, A = some ⟨b, 0, none⟩ ∧ Q b ∧ b < w.heap.size ∧ w.cell? ⟨b, j, none⟩ = some x
theorem SlAt.touch {w w' : World} {Q F : Nat → Prop} {v : Value} {n : Nat} {xs : List Value} (h : SlAt w Q v n xs) (t : Touch F w w') (hq : ∀ b, Q b → ¬ F b) : SlAt w' Q v n xs := by
  obtain ⟨A, c, rfl, hx⟩ := h
  refine ⟨A, c, rfl, fun j x hj => ?_⟩
  obtain ⟨b, rfl, h1, h2, h3⟩ := hx j x hj
  exact ⟨b, rfl, h1, Nat.lt_of_lt_of_le h2 t.size, (t.cell (p := ⟨b, j, none⟩) h2 (hq b h1)).trans h3⟩
theorem SlAt.via {w : World} {Q R : Nat → Prop} {v : Value} {n : Nat} {xs : List Value} (h : SlAt w Q v n xs) (hq : ∀ b, Q b → b < w.heap.size → R b) : SlAt w R v n xs := by
  obtain ⟨A, c, rfl, hx⟩ := h
  refine ⟨A, c, rfl, fun j x hj => ?_⟩
  obtain ⟨b, rfl, h1, h2, h3⟩ := hx j x hj
  exact ⟨b, rfl, hq b h1 h2, h2, h3⟩
theorem slat_of {w : World} {base size n : Nat} {e : TypeId} {v : Value} {xs : List Value} (h : w.ownsRow base e size v n xs) : SlAt w (fun b => base ≤ b) v n xs := by
  have hb := row_base h
  rcases h.2 with ⟨rfl, h0⟩ | ⟨g, cap, cur, rfl, h1, hh, hc, hm, hs, ht⟩
  · refine ⟨none, 0, by rw [h0], fun j x hj => ?_⟩
    have : xs = [] := List.eq_nil_of_length_eq_zero (by rw [h.1, h0]; simp)
    rw [this] at hj
    simp at hj
  · refine ⟨some ⟨g, 0, none⟩, cap, rfl, fun j x hj => ⟨g, rfl, h1, blk_lt hh, ?_⟩⟩
    rw [cell_of_row w g j _ _ _ hh]
    rw [← ht] at hj
    rw [List.getElem?_take] at hj
    split at hj
    · simpa using hj
    · cases hj
/-- An act's cells, its rows finished. -/
def AcAt (w : World) (Q : Nat → Prop) (a : Ac) (l : List Value) : Prop := ∃ v1 v2, l = [.string (bs a.nm), .int .i64 (a.cost : Int), v1, v2] ∧ SlAt w Q v1 a.need.length (cnC a.need) ∧ SlAt w Q v2 a.make.length (mkC a.make)
theorem AcAt.touch {w w' : World} {Q F : Nat → Prop} {a : Ac} {l : List Value} (h : AcAt w Q a l) (t : Touch F w w') (hq : ∀ b, Q b → ¬ F b) : AcAt w' Q a l := by
  obtain ⟨v1, v2, rfl, h1, h2⟩ := h
  exact ⟨v1, v2, rfl, h1.touch t hq, h2.touch t hq⟩
theorem AcAt.via {w : World} {Q R : Nat → Prop} {a : Ac} {l : List Value} (h : AcAt w Q a l) (hq : ∀ b, Q b → b < w.heap.size → R b) : AcAt w R a l := by
  obtain ⟨v1, v2, rfl, h1, h2⟩ := h
  exact ⟨v1, v2, rfl, h1.via hq, h2.via hq⟩
/-- A list's cells, part by part. -/
inductive LsAt {α : Type} (P : α → List Value → Prop) : List α → List Value → Prop where
  | nil : LsAt P [] []
  | snoc {l : List α} {a : α} {xs ys : List Value} (h : LsAt P l xs) (ha : P a ys) : LsAt P (l ++ [a]) (xs ++ ys)
theorem LsAt.mono {α : Type} {P P' : α → List Value → Prop} {l : List α} {xs : List Value} (h : LsAt P l xs) (hp : ∀ a ys, P a ys → P' a ys) : LsAt P' l xs := by
  induction h with
  | nil => exact .nil
  | snoc _ ha ih => exact .snoc ih (hp _ _ ha)
end Go.Proofs.YtkmbobfjoaldgaaGreatDoor

/-
  What stands in memory while package tree's domain reads. No condition beyond those that each theorem names.
-/
namespace Go.Proofs.YtkmbobfjoaldgaaGreatDoor
open Go.ChangeShapes Go.WideShapes Go.ChangeAt Go.RowKit
set_option maxRecDepth 100000
set_option maxHeartbeats 4000000

theorem info_var' : ∃ i0, Tryz.prog.info? 102 = some i0 ∧ i0.zero = some (.agg #[.string ⟨#[]⟩, .int .i64 0, .int .i64 0]) ∧ i0.size = 3 ∧ i0.bytes = 32 := by
  have h : (Tryz.prog.info? 102).map (fun i => (i.zero, i.size, i.bytes)) = some (some (.agg #[.string ⟨#[]⟩, .int .i64 0, .int .i64 0]), 3, 32) := by kernel_rfl
  cases hi : Tryz.prog.info? 102 with
  | none => rw [hi] at h; cases h
  | some i0 =>
    rw [hi] at h
    simp only [Option.map_some, Option.some.injEq, Prod.mk.injEq] at h
    exact ⟨i0, rfl, h.1, h.2.1, h.2.2⟩
theorem info_act' : ∃ i0, Tryz.prog.info? 106 = some i0 ∧ i0.zero = some (.agg #[.string ⟨#[]⟩, .int .i64 0, .slice none 0 0, .slice none 0 0]) ∧ i0.size = 4 ∧ i0.bytes = 72 := by
  have h : (Tryz.prog.info? 106).map (fun i => (i.zero, i.size, i.bytes)) = some (some (.agg #[.string ⟨#[]⟩, .int .i64 0, .slice none 0 0, .slice none 0 0]), 4, 72) := by kernel_rfl
  cases hi : Tryz.prog.info? 106 with
  | none => rw [hi] at h; cases h
  | some i0 =>
    rw [hi] at h
    simp only [Option.map_some, Option.some.injEq, Prod.mk.injEq] at h
    exact ⟨i0, rfl, h.1, h.2.1, h.2.2⟩
/-- A domain that is being read, at block q3; Q: the blocks of its finished acts. -/
structure DM (w wr : World) (gp q3 : Nat) (Q : Nat → Prop) (nm : ByteArray) (a : List Va) (b : List Ac) (c : List Cn) (vv va vg : Value) (xs : List Value) : Prop where
  t : Touch (AtB gp) w wr
  b2 : B4 wr 69 w.heap.size (.string ⟨#[]⟩) (.slice none 0 0) (.slice none 0 0) (.slice none 0 0)
  b3 : B4 wr 69 q3 (.string nm) vv va vg
  rv : wr.ownsRow w.heap.size 102 3 vv a.length (vaC a)
  ra : wr.ownsRow w.heap.size 106 4 va b.length xs
  ls : LsAt (AcAt wr Q) b xs
  rg : wr.ownsRow w.heap.size 118 3 vg c.length (cnC c)
  hQ : ∀ k, Q k → w.heap.size < k ∧ k < wr.heap.size ∧ k ≠ q3 ∧ vv.ownBlock ≠ some k ∧ va.ownBlock ≠ some k ∧ vg.ownBlock ≠ some k
theorem DM.go {w wr V : World} {gp q3 : Nat} {Q : Nat → Prop} {nm : ByteArray} {a : List Va} {b : List Ac} {c : List Cn} {vv va vg : Value} {xs : List Value} (h : DM w wr gp q3 Q nm a b c vv va vg xs) (t : Touch (AtB gp) wr V) (hgp : gp < w.heap.size) (hsq : w.heap.size < q3) : DM w V gp q3 Q nm a b c vv va vg xs :=
  ⟨h.t.same t, h.b2.go t (by omega), h.b3.go t (by omega), row_go h.rv t hgp, row_go h.ra t hgp, h.ls.mono (fun x ys hx => hx.touch t (fun k hk f => by have := (h.hQ k hk).1; unfold AtB at f; omega)), row_go h.rg t hgp,
    fun k hk => ⟨(h.hQ k hk).1, Nat.lt_of_lt_of_le (h.hQ k hk).2.1 t.size, (h.hQ k hk).2.2⟩⟩
/-- What a call has made new is finished. -/
theorem DM.widen {w wr V : World} {gp q3 : Nat} {Q : Nat → Prop} {nm : ByteArray} {a : List Va} {b : List Ac} {c : List Cn} {vv va vg : Value} {xs : List Value} (h : DM w wr gp q3 Q nm a b c vv va vg xs) (t : Touch (AtB gp) wr V) (hgp : gp < w.heap.size) (hsq : w.heap.size < q3) :
    DM w V gp q3 (fun k => Q k ∨ (wr.heap.size ≤ k ∧ k < V.heap.size)) nm a b c vv va vg xs := by
  have h3 := h.go t hgp hsq
  have hb2 := blk_lt h.b2
  have hb3 := blk_lt h.b3
  refine ⟨h3.t, h3.b2, h3.b3, h3.rv, h3.ra, h3.ls.mono (fun x ys hx => hx.via (fun k hk _ => .inl hk)), h3.rg, fun k hk => ?_⟩
  rcases hk with hk | ⟨h1, h2⟩
  · exact h3.hQ k hk
  · exact ⟨by omega, h2, by omega, fun e => by have := (h.rv.lt k e).2; omega, fun e => by have := (h.ra.lt k e).2; omega, fun e => by have := (h.rg.lt k e).2; omega⟩
section
variable {w w3 wx : World} {gp q3 gd cap : Nat} {Q : Nat → Prop} {nm : ByteArray} {a : List Va} {b : List Ac} {c : List Cn} {vv va vg : Value} {xs : List Value}
theorem DM.addV {v : Va} (h : DM w w3 gp q3 Q nm a b c vv va vg xs) (hsq : w.heap.size < q3) (TR : Touch (fun b => vv.ownBlock = some b) w3 wx)
    (hown : wx.ownsRow w.heap.size 102 3 (.slice (some ⟨gd, 0, none⟩) (a.length + 1) cap) (a.length + 1) (vaC a ++ [.string (bs v.nm), .int .i64 v.lo, .int .i64 v.hi])) (hat : vv.ownBlock = some gd ∨ gd = w3.heap.size + 1) :
    DM w (wx.setCell ⟨q3, 1, none⟩ (.slice (some ⟨gd, 0, none⟩) (a.length + 1) cap)) gp q3 Q nm (a ++ [v]) b c (.slice (some ⟨gd, 0, none⟩) (a.length + 1) cap) va vg xs := by
  have hb2 := h.b2.goR TR (row_ne h.rv h.b2 (by decide))
  have hb3 := h.b3.goR TR (row_ne h.rv h.b3 (by decide))
  have ra := row_touch h.ra TR (fun k hk f => row_row_ne h.rv h.ra (by decide) f hk)
  have rg := row_touch h.rg TR (fun k hk f => row_row_ne h.rv h.rg (by decide) f hk)
  have tS := (Touch.refl (fun b => b = q3) wx).setCell (p := ⟨q3, 1, none⟩) (.inl rfl) (.slice (some ⟨gd, 0, none⟩) (a.length + 1) cap)
  refine ⟨(h.t.trans TR (fun k hk => .inr (row_base h.rv k hk))).setCell (p := ⟨q3, 1, none⟩) (.inr (by simp only; omega)) _, hb2.aside (by omega), hb3.set1 _, ?_, row_aside ra (row_ne ra hb3 (by decide)), ?_, row_aside rg (row_ne rg hb3 (by decide)), fun k hk => ?_⟩
  · rw [List.length_append, vaC_snoc]
    exact row_aside hown (row_ne hown hb3 (by decide))
  · exact h.ls.mono (fun x ys hx => (hx.touch TR (fun k hk => (h.hQ k hk).2.2.2.1)).touch tS (fun k hk => (h.hQ k hk).2.2.1))
  · obtain ⟨q1, q2, q3', q4, q5, q6⟩ := h.hQ k hk
    refine ⟨q1, Nat.lt_of_lt_of_le q2 (Nat.le_trans TR.size tS.size), q3', fun e => ?_, q5, q6⟩
    have e1 : gd = k := by simpa [Value.ownBlock] using e
    subst e1
    rcases hat with e | e
    · exact q4 e
    · omega
theorem DM.addG {v : Cn} (h : DM w w3 gp q3 Q nm a b c vv va vg xs) (hsq : w.heap.size < q3) (TR : Touch (fun b => vg.ownBlock = some b) w3 wx)
    (hown : wx.ownsRow w.heap.size 118 3 (.slice (some ⟨gd, 0, none⟩) (c.length + 1) cap) (c.length + 1) (cnC c ++ [.string (bs v.nm), .int .i64 (v.op : Int), .int .i64 v.n])) (hat : vg.ownBlock = some gd ∨ gd = w3.heap.size + 1) :
    DM w (wx.setCell ⟨q3, 3, none⟩ (.slice (some ⟨gd, 0, none⟩) (c.length + 1) cap)) gp q3 Q nm a b (c ++ [v]) vv va (.slice (some ⟨gd, 0, none⟩) (c.length + 1) cap) xs := by
  have hb2 := h.b2.goR TR (row_ne h.rg h.b2 (by decide))
  have hb3 := h.b3.goR TR (row_ne h.rg h.b3 (by decide))
  have ra := row_touch h.ra TR (fun k hk f => row_row_ne h.rg h.ra (by decide) f hk)
  have rv := row_touch h.rv TR (fun k hk f => row_row_ne h.rg h.rv (by decide) f hk)
  have tS := (Touch.refl (fun b => b = q3) wx).setCell (p := ⟨q3, 3, none⟩) (.inl rfl) (.slice (some ⟨gd, 0, none⟩) (c.length + 1) cap)
  refine ⟨(h.t.trans TR (fun k hk => .inr (row_base h.rg k hk))).setCell (p := ⟨q3, 3, none⟩) (.inr (by simp only; omega)) _, hb2.aside (by omega), hb3.set3 _, row_aside rv (row_ne rv hb3 (by decide)), row_aside ra (row_ne ra hb3 (by decide)), ?_, ?_, fun k hk => ?_⟩
  · exact h.ls.mono (fun x ys hx => (hx.touch TR (fun k hk => (h.hQ k hk).2.2.2.2.2)).touch tS (fun k hk => (h.hQ k hk).2.2.1))
  · rw [List.length_append, cnC_snoc]
    exact row_aside hown (row_ne hown hb3 (by decide))
  · obtain ⟨q1, q2, q3', q4, q5, q6⟩ := h.hQ k hk
    refine ⟨q1, Nat.lt_of_lt_of_le q2 (Nat.le_trans TR.size tS.size), q3', q4, q5, fun e => ?_⟩
    have e1 : gd = k := by simpa [Value.ownBlock] using e
    subst e1
    rcases hat with e | e
    · exact q6 e
    · omega
theorem DM.addA {v : Ac} {ys : List Value} (h : DM w w3 gp q3 Q nm a b c vv va vg xs) (hsq : w.heap.size < q3) (hv : AcAt w3 Q v ys) (TR : Touch (fun b => va.ownBlock = some b) w3 wx)
    (hown : wx.ownsRow w.heap.size 106 4 (.slice (some ⟨gd, 0, none⟩) (b.length + 1) cap) (b.length + 1) (xs ++ ys)) (hat : va.ownBlock = some gd ∨ gd = w3.heap.size + 1) :
    DM w (wx.setCell ⟨q3, 2, none⟩ (.slice (some ⟨gd, 0, none⟩) (b.length + 1) cap)) gp q3 Q nm a (b ++ [v]) c vv (.slice (some ⟨gd, 0, none⟩) (b.length + 1) cap) vg (xs ++ ys) := by
  have hb2 := h.b2.goR TR (row_ne h.ra h.b2 (by decide))
  have hb3 := h.b3.goR TR (row_ne h.ra h.b3 (by decide))
  have rg := row_touch h.rg TR (fun k hk f => row_row_ne h.ra h.rg (by decide) f hk)
  have rv := row_touch h.rv TR (fun k hk f => row_row_ne h.ra h.rv (by decide) f hk)
  have tS := (Touch.refl (fun b => b = q3) wx).setCell (p := ⟨q3, 2, none⟩) (.inl rfl) (.slice (some ⟨gd, 0, none⟩) (b.length + 1) cap)
  refine ⟨(h.t.trans TR (fun k hk => .inr (row_base h.ra k hk))).setCell (p := ⟨q3, 2, none⟩) (.inr (by simp only; omega)) _, hb2.aside (by omega), hb3.set2 _, row_aside rv (row_ne rv hb3 (by decide)), ?_, ?_, row_aside rg (row_ne rg hb3 (by decide)), fun k hk => ?_⟩
  · rw [List.length_append]
    exact row_aside hown (row_ne hown hb3 (by decide))
  · exact (LsAt.snoc h.ls hv).mono (fun x ys hx => (hx.touch TR (fun k hk => (h.hQ k hk).2.2.2.2.1)).touch tS (fun k hk => (h.hQ k hk).2.2.1))
  · obtain ⟨q1, q2, q3', q4, q5, q6⟩ := h.hQ k hk
    refine ⟨q1, Nat.lt_of_lt_of_le q2 (Nat.le_trans TR.size tS.size), q3', q4, fun e => ?_, q6⟩
    have e1 : gd = k := by simpa [Value.ownBlock] using e
    subst e1
    rcases hat with e | e
    · exact q5 e
    · omega
end
/-- A domain's cells, its lists finished. -/
def DmAt (w : World) (Q : Nat → Prop) (d : Dm) (l : List Value) : Prop := ∃ v1 v2 v3 xs, l = [.string (bs d.nm), v1, v2, v3] ∧ SlAt w Q v1 d.vars.length (vaC d.vars) ∧ SlAt w Q v2 d.acts.length xs ∧ LsAt (AcAt w Q) d.acts xs ∧ SlAt w Q v3 d.goal.length (cnC d.goal)
end Go.Proofs.YtkmbobfjoaldgaaGreatDoor

/-
  What package tree's domain does with a parser in memory. Conditions: numbers among the tokens are such.
-/
namespace Go.Proofs.YtkmbobfjoaldgaaGreatDoor
open Go.ChangeShapes Go.WideShapes Go.ChangeAt Go.RowKit
set_option maxRecDepth 100000
set_option maxHeartbeats 4000000

def DomPost (w : World) (gp g n cp : Nat) (ts : List Tk) (v : Dm) (st : St) (x : Ending) (w' : World) : Prop := ∃ v1 v2 v3, x = .returned (.agg #[.string (bs v.nm), v1, v2, v3]) ∧
  DmAt w' (fun k => w.heap.size ≤ k) v [.string (bs v.nm), v1, v2, v3] ∧ PS2 57 w' gp g n cp ts st ∧ Touch (AtB gp) w w'
structure DR (ts : List Tk) (R0 : (List Va × List Ac × List Cn) × St) (n f : Nat) (a : List Va) (b : List Ac) (c : List Cn) (σ : St) : Prop where
  md : domR ts f a b c σ = R0
  fu : Fu f n σ
  la : a.length ≤ 8
  lb : b.length ≤ 20
  lc : c.length ≤ 8
/-- The way out of the loop. -/
theorem dom_out {w V : World} {gp g n cp q3 : Nat} {Q : Nat → Prop} {ts : List Tk} {nm : Bs} {a : List Va} {b : List Ac} {c : List Cn} {vv va vg : Value} {xs : List Value} {st : St} (h : DM w V gp q3 Q (bs nm) a b c vv va vg xs) (hp : PS2 57 V gp g n cp ts st) (hgp : gp < w.heap.size) (hgl : g < w.heap.size) :
    ∀ (x0 x1 x2 x3 : Value), let W := (((V.setCell ⟨w.heap.size, 0, none⟩ x0).setCell ⟨w.heap.size, 1, none⟩ x1).setCell ⟨w.heap.size, 2, none⟩ x2).setCell ⟨w.heap.size, 3, none⟩ x3
      DmAt W (fun k => w.heap.size ≤ k) ⟨nm, a, b, c⟩ [.string (bs nm), vv, va, vg] ∧ PS2 57 W gp g n cp ts st ∧ Touch (AtB gp) w W := by
  intro x0 x1 x2 x3
  have n1 := row_ne h.rv h.b2 (by decide)
  have n2 := row_ne h.ra h.b2 (by decide)
  have n3 := row_ne h.rg h.b2 (by decide)
  have tX := touch4 (F := fun k => k = w.heap.size) (Touch.refl _ V) (.inl rfl) x0 x1 x2 x3
  have r1 := row_aside (row_aside (row_aside (row_aside (i := 0) (x := x0) h.rv n1) n1 (i := 1) (x := x1)) n1 (i := 2) (x := x2)) n1 (i := 3) (x := x3)
  have r2 := row_aside (row_aside (row_aside (row_aside (i := 0) (x := x0) h.ra n2) n2 (i := 1) (x := x1)) n2 (i := 2) (x := x2)) n2 (i := 3) (x := x3)
  have r3 := row_aside (row_aside (row_aside (row_aside (i := 0) (x := x0) h.rg n3) n3 (i := 1) (x := x1)) n3 (i := 2) (x := x2)) n3 (i := 3) (x := x3)
  exact ⟨⟨_, _, _, xs, rfl, slat_of r1, slat_of r2, h.ls.mono (fun x ys hx => (hx.touch tX (fun k hk => by have := (h.hQ k hk).1; omega)).via (fun k hk _ => Nat.le_of_lt (h.hQ k hk).1)), slat_of r3⟩, PSt.own (PSt.own (PSt.own (PSt.own hp hgp hgl) hgp hgl) hgp hgl) hgp hgl, touch4 h.t (.inr (Nat.le_refl _)) x0 x1 x2 x3⟩
theorem domain_any {w : World} {gp g n cp : Nat} {ts : List Tk} {σ : St} (hnk : NumsOk ts) (h : PS2 57 w gp g n cp ts σ) :
    Calls Tryz.prog 43 #[.pointer (some ⟨gp, 0, none⟩)] w fun x w' => DomPost w gp g n cp ts (domV ts σ) (domS ts σ) x w' := by
  obtain ⟨W0, hW0⟩ : ∃ W, w.alloc (.cells #[.string ⟨#[]⟩, .slice none 0 0, .slice none 0 0, .slice none 0 0] 69) = W := ⟨_, rfl⟩
  have t0 : Touch NoB w W0 := by rw [← hW0]; exact (Touch.refl _ _).alloc _
  have b2 : B4 W0 69 w.heap.size (.string ⟨#[]⟩) (.slice none 0 0) (.slice none 0 0) (.slice none 0 0) := by rw [← hW0]; exact B4.new w _ _ _ _ _ rfl
  have hgp := blk_lt h.blk
  have hgl := h.tl.lt
  have hs0 : W0.heap.size = w.heap.size + 1 := by rw [← hW0]; simp only [World.size_alloc]
  have HP := Lib.hid (h.touch t0)
  have HB2 := Lib.hid b2
  have HT := Lib.hid (Touch.anyB (F := AtB gp) t0)
  have hln : ts.length = n := h.len
  obtain ⟨R0, hR0⟩ : ∃ z, domR ts (ts.length + 5) [] [] [] (exS ts [123] (naS ts σ)) = z := ⟨_, rfl⟩
  unfold domV domS
  simp only [hR0]
  obtain ⟨v1, hv1⟩ : ∃ z, naV ts σ = z := ⟨_, rfl⟩
  obtain ⟨s1, hs1⟩ : ∃ z, naS ts σ = z := ⟨_, rfl⟩
  have H1 := Lib.hid (fun (W : World) (q : PS2 57 W gp g n cp ts σ) => name_st q)
  simp only [hv1, hs1] at *
  obtain ⟨s4, hs4⟩ : ∃ z, exS ts [123] s1 = z := ⟨_, rfl⟩
  have H4 : Hid (∀ (W : World), PS2 57 W gp g n cp ts s1 → Calls Tryz.prog 83 #[.pointer (some ⟨gp, 0, none⟩), .string ⟨#[123]⟩] W fun x w' => x = .returned (.tuple #[]) ∧ PS2 57 w' gp g n cp ts s4 ∧ Touch (AtB gp) W w') := Lib.hid (fun W q => by rw [← hs4]; exact expect_st (s := [123]) q)
  simp only [hs4] at *
  obtain ⟨n1, hn1⟩ : ∃ z, bs v1 = z := ⟨_, rfl⟩
  have HN1 := Lib.hid hn1
  rw [hn1] at H1
  have HR0 := Lib.hid hR0
  have HNK := Lib.hid hnk
  have HLN := Lib.hid hln
  clear hs4 hs1 hv1 h t0 b2 hn1 hR0 hnk hln
  have HC := Lib.hid (H1.out W0 HP.out)
  go_enter Tryz.func43, Tryz.ntmps43
  go_wp2_with fail
  refine HC.out.mono ?_
  rintro r w1 ⟨rfl, hp, hT⟩
  obtain ⟨X, hX⟩ : ∃ X, w1.alloc (.cells #[.string n1, .slice none 0 0, .slice none 0 0, .slice none 0 0] 69) = X := ⟨_, rfl⟩
  have tx : Touch NoB w1 X := by rw [← hX]; exact (Touch.refl _ _).alloc _
  obtain ⟨q3, hq3⟩ : ∃ q3, w1.heap.size = q3 := ⟨_, rfl⟩
  have hsq : w.heap.size < q3 := by have := hT.size; omega
  have HB3 := Lib.hid (show B4 X 69 q3 (.string n1) (.slice none 0 0) (.slice none 0 0) (.slice none 0 0) by rw [← hX]; exact B4.new _ _ _ _ _ _ hq3)
  have HB2 := Lib.hid ((HB2.out.go hT (by omega)).go (Touch.anyB (F := AtB gp) tx) (by omega))
  have HT := Lib.hid (HT.out.same (hT.same (Touch.anyB tx)))
  have HP := Lib.hid (hp.touch tx)
  clear hp hT tx
  subst hX
  have HC := Lib.hid (H4.out _ HP.out)
  go_wp2_with fail
  refine HC.out.mono ?_
  rintro r ue ⟨rfl, hp, hT⟩
  have HB3 := Lib.hid (HB3.out.go hT (by omega))
  have HB2 := Lib.hid (HB2.out.go hT (by omega))
  have HT := Lib.hid (HT.out.same hT)
  have HR : Hid (∃ f a b c τ vv va vg xs Q, DM w ue gp q3 Q n1 a b c vv va vg xs ∧ PS2 57 ue gp g n cp ts τ ∧ DR ts R0 n f a b c τ) := Lib.hid ⟨ts.length + 5, [], [], [], s4, .slice none 0 0, .slice none 0 0, .slice none 0 0, [], fun _ => False, ⟨HT.out, HB2.out, HB3.out, World.ownsRow_nil _ _ _ _, World.ownsRow_nil _ _ _ _, .nil, World.ownsRow_nil _ _ _ _, fun _ hk => hk.elim⟩, hp, ⟨HR0.out, ⟨by omega, fun _ => by have := HLN.out; omega⟩, by simp, by simp, by simp⟩⟩
  clear HC HT HP HB2 HB3 HR0 H1 H4 hp hT
  go_wp2_with fail
  go_loopw [] (fun wr => ∃ f a b c τ vv va vg xs Q, DM w wr gp q3 Q n1 a b c vv va vg xs ∧ PS2 57 wr gp g n cp ts τ ∧ DR ts R0 n f a b c τ) (fun wr => meas2 gp n wr)
  case atStart => exact HR.out
  case round =>
    clear HR
    obtain ⟨f, a, b, c, τ, vv, va, vg, xs, Q, hD, hps, hdr⟩ := hrel
    obtain ⟨A1, kp1, rfl, hc1, hc2⟩ := row_any hD.rv
    obtain ⟨A2, kp2, rfl, hd1, hd2⟩ := row_any hD.ra
    obtain ⟨A3, kp3, rfl, he1, he2⟩ := row_any hD.rg
    have hrd := dom_round hdr.md hdr.fu
    have hme := meas2_at hps
    have HC := Lib.hid (within_st hps)
    have HD := Lib.hid hD
    have HDR := Lib.hid hdr
    clear hD hps hdr
    cases hw : wiV ts τ
    · rw [hw] at HC
      have he := hrd.1 hw
      clear hrd hme
      go_wp2_with fail
      refine HC.out.mono ?_
      rintro r V ⟨rfl, hp, hT⟩
      have HD := Lib.hid (HD.out.go hT hgp hsq)
      obtain ⟨z0, z1, z2, z3, zl⟩ := HD.out.b2.cells
      obtain ⟨f0, f1, f2, f3⟩ := HD.out.b2.free
      obtain ⟨p0, p1, p2, p3, pl⟩ := HD.out.b3.cells
      have HE := Lib.hid he
      have HO := Lib.hid (show DM w V gp q3 Q (bs v1) a b c _ _ _ xs from by rw [HN1.out]; exact HD.out)
      have HO := Lib.hid (dom_out HO.out hp hgp hgl)
      clear hT hp he
      go_wp2
      refine bodyPost_ret (v := .agg #[.string n1, .slice A1 a.length kp1, .slice A2 b.length kp2, .slice A3 c.length kp3]) (by simp [results, Tryz.results43, go_sem, z0, z1, z2, z3]) rfl ?_
      rw [HE.out, ← HN1.out]
      exact ⟨_, _, _, rfl, HO.out _ _ _ _⟩
    · rw [hw] at HC
      obtain ⟨f', rfl, h0, s1, s2, s3, hs1, hs2, hs3, r1, r2, r3, r4⟩ := hrd.2 hw
      rw [(wi_yes hw).2] at HC
      clear hrd hw
      obtain ⟨bn1, hbn1⟩ : ∃ z, beV ts varB a.length 8 τ = z := ⟨_, rfl⟩
      obtain ⟨bn2, hbn2⟩ : ∃ z, beV ts actB b.length 20 s1 = z := ⟨_, rfl⟩
      obtain ⟨bn3, hbn3⟩ : ∃ z, beV ts goalB c.length 8 s2 = z := ⟨_, rfl⟩
      have HBN1 : Hid (∀ (W : World), PS2 57 W gp g n cp ts τ → Calls Tryz.prog 40 #[.pointer (some ⟨gp, 0, none⟩), .string ⟨#[118, 97, 114]⟩, .int .i64 (a.length : Int), .int .i64 8] W fun x w' => x = .returned (.bool bn1) ∧ PS2 57 w' gp g n cp ts s1 ∧ Touch (AtB gp) W w') := Lib.hid (fun W q => by rw [← hs1, ← hbn1]; exact begins_st (s := varB) (hv := a.length) (most := 8) q)
      have HBN2 : Hid (∀ (W : World), PS2 57 W gp g n cp ts s1 → Calls Tryz.prog 40 #[.pointer (some ⟨gp, 0, none⟩), .string ⟨#[97, 99, 116]⟩, .int .i64 (b.length : Int), .int .i64 20] W fun x w' => x = .returned (.bool bn2) ∧ PS2 57 w' gp g n cp ts s2 ∧ Touch (AtB gp) W w') := Lib.hid (fun W q => by rw [← hs2, ← hbn2]; exact begins_st (s := actB) (hv := b.length) (most := 20) q)
      have HBN3 : Hid (∀ (W : World), PS2 57 W gp g n cp ts s2 → Calls Tryz.prog 40 #[.pointer (some ⟨gp, 0, none⟩), .string ⟨#[103, 111, 97, 108]⟩, .int .i64 (c.length : Int), .int .i64 8] W fun x w' => x = .returned (.bool bn3) ∧ PS2 57 w' gp g n cp ts s3 ∧ Touch (AtB gp) W w') := Lib.hid (fun W q => by rw [← hs3, ← hbn3]; exact begins_st (s := goalB) (hv := c.length) (most := 8) q)
      have hy1 : bn1 = true → s1.1 = τ.1 + 1 ∧ a.length < 8 := fun e => by rw [← hs1]; subst e; exact ⟨beT_yes hbn1, be_lt hbn1 HDR.out.la⟩
      have hy2 : bn2 = true → s2.1 = s1.1 + 1 ∧ b.length < 20 := fun e => by rw [← hs2]; subst e; exact ⟨beT_yes hbn2, be_lt hbn2 HDR.out.lb⟩
      have hy3 : bn3 = true → s3.1 = s2.1 + 1 ∧ c.length < 8 := fun e => by rw [← hs3]; subst e; exact ⟨beT_yes hbn3, be_lt hbn3 HDR.out.lc⟩
      have hz1 : bn1 = false → s1.1 = τ.1 := fun e => by rw [← hs1]; subst e; exact beT_no hbn1
      have hz2 : bn2 = false → s2.1 = s1.1 := fun e => by rw [← hs2]; subst e; exact beT_no hbn2
      have hz3 : bn3 = false → s3.1 = s2.1 := fun e => by rw [← hs3]; subst e; exact beT_no hbn3
      rw [hbn1] at r1 r2 r3 r4
      rw [hbn2] at r2 r3 r4
      rw [hbn3] at r3 r4
      have HR1 := Lib.hid r1
      have HR2 := Lib.hid r2
      have HR3 := Lib.hid r3
      have HR4 := Lib.hid r4
      have HY1 := Lib.hid hy1
      have HY2 := Lib.hid hy2
      have HY3 := Lib.hid hy3
      have HZ1 := Lib.hid hz1
      have HZ2 := Lib.hid hz2
      have HZ3 := Lib.hid hz3
      have H0 := Lib.hid h0
      have HME := Lib.hid hme
      clear hs1 hs2 hs3 hbn1 hbn2 hbn3 hy1 hy2 hy3 hz1 hz2 hz3 r1 r2 r3 r4 h0 hme
      go_wp2_with fail
      refine HC.out.mono ?_
      rintro r V0 ⟨rfl, hp, hT⟩
      have HD := Lib.hid (HD.out.go hT hgp hsq)
      have HP := Lib.hid hp
      clear hp hT
      obtain ⟨q0, q1, q2, q3', ql⟩ := HD.out.b3.cells
      have HC := Lib.hid (HBN1.out _ HP.out)
      go_wp2_with fail
      refine HC.out.mono ?_
      rintro r V1 ⟨rfl, hp, hT⟩
      have HD := Lib.hid (HD.out.go hT hgp hsq)
      have HP := Lib.hid hp
      clear hp hT q0 q1 q2 q3' ql
      cases bn1
      · skip
        obtain ⟨q0, q1, q2, q3', ql⟩ := HD.out.b3.cells
        have HC := Lib.hid (HBN2.out _ HP.out)
        go_wp2_with fail
        refine HC.out.mono ?_
        rintro r V2 ⟨rfl, hp, hT⟩
        have HD := Lib.hid (HD.out.go hT hgp hsq)
        have HP := Lib.hid hp
        clear hp hT q0 q1 q2 q3' ql
        cases bn2
        · skip
          obtain ⟨q0, q1, q2, q3', ql⟩ := HD.out.b3.cells
          have HC := Lib.hid (HBN3.out _ HP.out)
          go_wp2_with fail
          refine HC.out.mono ?_
          rintro r V3 ⟨rfl, hp, hT⟩
          have HD := Lib.hid (HD.out.go hT hgp hsq)
          have HP := Lib.hid hp
          clear hp hT q0 q1 q2 q3' ql
          cases bn3
          · have hz1 := HZ1.out (by trivial)
            have hz2 := HZ2.out (by trivial)
            have hz3 := HZ3.out (by trivial)
            have HF := Lib.hid (fail_st HP.out 2)
            have hr3 := Lib.hid (HR4.out (by trivial) (by trivial) (by trivial))
            obtain ⟨fs, hfs⟩ : ∃ z, failS 2 s3 = z := ⟨_, rfl⟩
            have hf1 : fs.1 = s3.1 := by rw [← hfs]; rfl
            have hf2 : fs.2 ≠ 0 := by rw [← hfs]; exact failS_bad (by decide) s3
            rw [hfs] at HF hr3
            clear hfs
            go_wp2_with fail
            refine HF.out.mono ?_
            rintro r V4 ⟨rfl, hp, hT⟩
            have HD := Lib.hid (HD.out.go hT hgp hsq)
            have HP := Lib.hid hp
            clear hp hT
            go_wp2
            go_roundw
            case rel => exact ⟨f', a, b, c, fs, _, _, _, _, _, HD.out, HP.out, hr3.out, HDR.out.fu.stop H0.out hf2, HDR.out.la, HDR.out.lb, HDR.out.lc⟩
            case measure =>
              rw [meas2_at HP.out, HME.out, if_pos H0.out, if_neg hf2]
              omega
          · obtain ⟨hy, hla⟩ := HY3.out (by trivial)
            have hz1 := HZ1.out (by trivial)
            have hz2 := HZ2.out (by trivial)
            obtain ⟨q0, q1, q2, q3', ql⟩ := HD.out.b3.cells
            obtain ⟨g0, g1, g2, g3⟩ := HD.out.b3.free
            have hr1 := HR3.out (by trivial) (by trivial) (by trivial)
            obtain ⟨cv, hcv⟩ : ∃ z, cndV ts s3 = z := ⟨_, rfl⟩
            obtain ⟨cs, hcs⟩ : ∃ z, cndS ts s3 = z := ⟨_, rfl⟩
            have hge : s3.1 ≤ cs.1 := by rw [← hcs]; exact cndS_ge ts s3
            have HCD := Lib.hid (fun (W : World) (q : PS2 57 W gp g n cp ts s3) => cond_st HNK.out q)
            rw [hcv, hcs] at hr1 HCD
            obtain ⟨cnm, hcnm⟩ : ∃ z, bs cv.nm = z := ⟨_, rfl⟩
            rw [hcnm] at HCD
            have HCV := Lib.hid hcnm
            have HRR := Lib.hid hr1
            clear hcv hcs hcnm hr1
            obtain ⟨i0, hi, hz0, hz1', hz2'⟩ := info_cond'
            unfold maxLen at he2
            go_wp2_with fail
            go_region_law? (first
              | (go_simp; go_at_call 88
                 refine (HCD.out _ (HP.out.touch (Touch.refl _ _).drew)).mono ?_
                 rintro r w3 ⟨rfl, hp, hT0⟩
                 have hT := (Touch.refl (AtB gp) V3).drew.same hT0
                 have HD3 := Lib.hid (HD.out.go hT hgp hsq)
                 obtain ⟨j0, j1, j2, j3, jl⟩ := HD3.out.b3.cells
                 obtain ⟨l0, l1, l2, l3⟩ := HD3.out.b3.free
                 have HX3 := Lib.hid (And.intro hp (And.intro hT trivial))
                 clear hp hT0 hT)
              | (refine step_append_lies _ rfl (.tmp 52) (.tmp 55) 67 rfl w.heap.size 118 i0 (.agg #[.string ⟨#[]⟩, .int .i64 0, .int .i64 0]) 3 32 Tryz.underlying67 hi hz0 hz1' hz2' rfl (by decide) (.slice A3 c.length kp3) c.length (cnC c) (by simp [Act.eval]) (by exact (HD3.out.rg.alloc _)) ⟨w3.heap.size, 0, none⟩ 1 1 [.string cnm, .int .i64 (cv.op : Int), .int .i64 cv.n] (by simp [Act.eval]) rfl (by exact World.news_of_block (cs := #[.string cnm, .int .i64 (cv.op : Int), .int .i64 cv.n]) (alloc_blk w3 _ 118 rfl)) (by intro u hu; simp at hu; rcases hu with rfl | rfl | rfl <;> rfl) (by decide) (by unfold maxLen; omega) (by omega) (by have := HX3.out.2.1.size; have := HD.out.t.size; simp only [World.size_alloc]; omega) (w3.heap.size + 1) (by simp) ?_
                 intro gd cap2 wx hown hgrow hat hlt
                 have TR : Touch (fun k9 => (Value.slice A3 c.length kp3).ownBlock = some k9) w3 wx := ((Touch.refl _ w3).alloc _).grown hgrow (fun _ e => .inl e)
                 have hbx := HD3.out.b3.goR TR (row_ne HD3.out.rg HD3.out.b3 (by decide))
                 obtain ⟨k0, k1', k2', k3, kl⟩ := hbx.cells
                 obtain ⟨m0, m1, m2, m3⟩ := hbx.free
                 have HX := Lib.hid (And.intro (HX3.out.1.touchR TR (row_base HD3.out.rg) hgp hgl) (HD3.out.addG (v := cv) hsq TR (by rw [HCV.out]; exact hown) hat))
                 clear hown hgrow hat TR hbx))
            all_goals
              go_wp2
              go_roundw
              case rel => exact ⟨f', a, b, c ++ [cv], cs, _, _, _, _, _, HX.out.2, HX.out.1.own (by omega) (by omega), HRR.out, HDR.out.fu.next H0.out (by have := HP.out.le; omega) (by omega), HDR.out.la, HDR.out.lb, by rw [List.length_append]; exact hla⟩
              case measure =>
                have hps := HX.out.1.own (q := q3) (i := 3) (v := .slice (some ⟨gd, 0, none⟩) (c.length + 1) cap2) (by omega) (by omega)
                rw [meas2_at hps, HME.out, if_pos H0.out]
                have := HP.out.le
                split <;> omega
        · obtain ⟨hy, hla⟩ := HY2.out (by trivial)
          have hz1 := HZ1.out (by trivial)
          obtain ⟨q0, q1, q2, q3', ql⟩ := HD.out.b3.cells
          obtain ⟨g0, g1, g2, g3⟩ := HD.out.b3.free
          have hr1 := HR2.out (by trivial) (by trivial)
          obtain ⟨cv, hcv⟩ : ∃ z, actV ts s2 = z := ⟨_, rfl⟩
          obtain ⟨cs, hcs⟩ : ∃ z, actS ts s2 = z := ⟨_, rfl⟩
          have hge : s2.1 ≤ cs.1 := by rw [← hcs]; exact actS_ge ts s2
          have HCD := Lib.hid (fun (W : World) (q : PS2 57 W gp g n cp ts s2) => act_any HNK.out q)
          rw [hcv, hcs] at hr1 HCD
          obtain ⟨cnm, hcnm⟩ : ∃ z, bs cv.nm = z := ⟨_, rfl⟩
          have HCV := Lib.hid hcnm
          have HRR := Lib.hid hr1
          clear hcv hcs hcnm hr1
          obtain ⟨i0, hi, hz0, hz1', hz2'⟩ := info_act'
          unfold maxLen at hd2
          go_wp2_with fail
          go_region_law? (first
            | (go_simp; go_at_call 87
               refine (HCD.out _ (HP.out.touch (Touch.refl _ _).drew)).mono ?_
               rintro r w3 ⟨nv, mv, rfl, hn, hm, hp, hT0⟩
               obtain ⟨B1, k1, rfl, -, -⟩ := row_any hn
               obtain ⟨B2, k2, rfl, -, -⟩ := row_any hm
               try rw [HCV.out]
               have hT := (Touch.refl (AtB gp) V2).drew.same hT0
               have HD3 := Lib.hid (HD.out.widen hT hgp hsq)
               have hav : AcAt w3 (fun k => Q k ∨ (V2.heap.size ≤ k ∧ k < w3.heap.size)) cv [.string cnm, .int .i64 (cv.cost : Int), .slice B1 cv.need.length k1, .slice B2 cv.make.length k2] := ⟨_, _, by rw [HCV.out], (slat_of hn).via (fun k h1 h2 => .inr ⟨h1, h2⟩), (slat_of hm).via (fun k h1 h2 => .inr ⟨h1, h2⟩)⟩
               obtain ⟨j0, j1, j2, j3, jl⟩ := HD3.out.b3.cells
               obtain ⟨l0, l1, l2, l3⟩ := HD3.out.b3.free
               have HX3 := Lib.hid (And.intro hp (And.intro hT hav))
               clear hp hT0 hT hn hm hav)
            | (refine step_append_lies _ rfl (.tmp 39) (.tmp 42) 66 rfl w.heap.size 106 i0 (.agg #[.string ⟨#[]⟩, .int .i64 0, .slice none 0 0, .slice none 0 0]) 4 72 Tryz.underlying66 hi hz0 hz1' hz2' rfl (by decide) (.slice A2 b.length kp2) b.length xs (by simp [Act.eval]) (by exact (HD3.out.ra.alloc _)) ⟨w3.heap.size, 0, none⟩ 1 1 [.string cnm, .int .i64 (cv.cost : Int), .slice B1 cv.need.length k1, .slice B2 cv.make.length k2] (by simp [Act.eval]) rfl (by exact World.news_of_block (cs := #[.string cnm, .int .i64 (cv.cost : Int), .slice B1 cv.need.length k1, .slice B2 cv.make.length k2]) (alloc_blk w3 _ 106 rfl)) (by intro u hu; simp at hu; rcases hu with rfl | rfl | rfl | rfl <;> rfl) (by decide) (by unfold maxLen; omega) (by omega) (by have := HX3.out.2.1.size; have := HD.out.t.size; simp only [World.size_alloc]; omega) (w3.heap.size + 1) (by simp) ?_
               intro gd cap2 wx hown hgrow hat hlt
               have TR : Touch (fun k9 => (Value.slice A2 b.length kp2).ownBlock = some k9) w3 wx := ((Touch.refl _ w3).alloc _).grown hgrow (fun _ e => .inl e)
               have hbx := HD3.out.b3.goR TR (row_ne HD3.out.ra HD3.out.b3 (by decide))
               obtain ⟨k0, k1', k2', k3, kl⟩ := hbx.cells
               obtain ⟨m0, m1, m2, m3⟩ := hbx.free
               have HX := Lib.hid (And.intro (HX3.out.1.touchR TR (row_base HD3.out.ra) hgp hgl) (HD3.out.addA hsq HX3.out.2.2 TR hown hat))
               clear hown hgrow hat TR hbx))
          all_goals
            go_wp2
            go_roundw
            case rel => exact ⟨f', a, b ++ [cv], c, cs, _, _, _, _, _, HX.out.2, HX.out.1.own (by omega) (by omega), HRR.out, HDR.out.fu.next H0.out (by have := HP.out.le; omega) (by omega), HDR.out.la, by rw [List.length_append]; exact hla, HDR.out.lc⟩
            case measure =>
              have hps := HX.out.1.own (q := q3) (i := 2) (v := .slice (some ⟨gd, 0, none⟩) (b.length + 1) cap2) (by omega) (by omega)
              rw [meas2_at hps, HME.out, if_pos H0.out]
              have := HP.out.le
              split <;> omega
      · obtain ⟨hy, hla⟩ := HY1.out (by trivial)
        obtain ⟨q0, q1, q2, q3', ql⟩ := HD.out.b3.cells
        obtain ⟨g0, g1, g2, g3⟩ := HD.out.b3.free
        have hr1 := HR1.out (by trivial)
        obtain ⟨cv, hcv⟩ : ∃ z, varV ts s1 = z := ⟨_, rfl⟩
        obtain ⟨cs, hcs⟩ : ∃ z, varS ts s1 = z := ⟨_, rfl⟩
        have hge : s1.1 ≤ cs.1 := by rw [← hcs]; exact varS_ge ts s1
        have HCD := Lib.hid (fun (W : World) (q : PS2 57 W gp g n cp ts s1) => variable_st HNK.out q)
        rw [hcv, hcs] at hr1 HCD
        obtain ⟨cnm, hcnm⟩ : ∃ z, bs cv.nm = z := ⟨_, rfl⟩
        rw [hcnm] at HCD
        have HCV := Lib.hid hcnm
        have HRR := Lib.hid hr1
        clear hcv hcs hcnm hr1
        obtain ⟨i0, hi, hz0, hz1', hz2'⟩ := info_var'
        unfold maxLen at hc2
        go_wp2_with fail
        go_region_law? (first
          | (go_simp; go_at_call 86
             refine (HCD.out _ (HP.out.touch (Touch.refl _ _).drew)).mono ?_
             rintro r w3 ⟨rfl, hp, hT0⟩
             have hT := (Touch.refl (AtB gp) V1).drew.same hT0
             have HD3 := Lib.hid (HD.out.go hT hgp hsq)
             obtain ⟨j0, j1, j2, j3, jl⟩ := HD3.out.b3.cells
             obtain ⟨l0, l1, l2, l3⟩ := HD3.out.b3.free
             have HX3 := Lib.hid (And.intro hp (And.intro hT trivial))
             clear hp hT0 hT)
          | (refine step_append_lies _ rfl (.tmp 26) (.tmp 29) 65 rfl w.heap.size 102 i0 (.agg #[.string ⟨#[]⟩, .int .i64 0, .int .i64 0]) 3 32 Tryz.underlying65 hi hz0 hz1' hz2' rfl (by decide) (.slice A1 a.length kp1) a.length (vaC a) (by simp [Act.eval]) (by exact (HD3.out.rv.alloc _)) ⟨w3.heap.size, 0, none⟩ 1 1 [.string cnm, .int .i64 cv.lo, .int .i64 cv.hi] (by simp [Act.eval]) rfl (by exact World.news_of_block (cs := #[.string cnm, .int .i64 cv.lo, .int .i64 cv.hi]) (alloc_blk w3 _ 102 rfl)) (by intro u hu; simp at hu; rcases hu with rfl | rfl | rfl <;> rfl) (by decide) (by unfold maxLen; omega) (by omega) (by have := HX3.out.2.1.size; have := HD.out.t.size; simp only [World.size_alloc]; omega) (w3.heap.size + 1) (by simp) ?_
             intro gd cap2 wx hown hgrow hat hlt
             have TR : Touch (fun k9 => (Value.slice A1 a.length kp1).ownBlock = some k9) w3 wx := ((Touch.refl _ w3).alloc _).grown hgrow (fun _ e => .inl e)
             have hbx := HD3.out.b3.goR TR (row_ne HD3.out.rv HD3.out.b3 (by decide))
             obtain ⟨k0, k1', k2', k3, kl⟩ := hbx.cells
             obtain ⟨m0, m1, m2, m3⟩ := hbx.free
             have HX := Lib.hid (And.intro (HX3.out.1.touchR TR (row_base HD3.out.rv) hgp hgl) (HD3.out.addV (v := cv) hsq TR (by rw [HCV.out]; exact hown) hat))
             clear hown hgrow hat TR hbx))
        all_goals
          go_wp2
          go_roundw
          case rel => exact ⟨f', a ++ [cv], b, c, cs, _, _, _, _, _, HX.out.2, HX.out.1.own (by omega) (by omega), HRR.out, HDR.out.fu.next H0.out (by have := HP.out.le; omega) (by omega), by rw [List.length_append]; exact hla, HDR.out.lb, HDR.out.lc⟩
          case measure =>
            have hps := HX.out.1.own (q := q3) (i := 1) (v := .slice (some ⟨gd, 0, none⟩) (a.length + 1) cap2) (by omega) (by omega)
            rw [meas2_at hps, HME.out, if_pos H0.out]
            have := HP.out.le
            split <;> omega
end Go.Proofs.YtkmbobfjoaldgaaGreatDoor
