/-
  A domain's loop in the document's own reader, round by round. Conditions: those that each theorem names.
-/
import Derived.Test.YtbikpbmknneabaaGreatZs20
import Derived.Test.YtbikpbmknneabaaGreatZs4
namespace Go.Proofs.YtbikpbmknneabaaGreat
open Go.ChangeShapes Go.WideShapes Go.ChangeAt Go.RowKit
set_option maxRecDepth 100000
set_option maxHeartbeats 4000000

theorem racR_ge (ts : List Tk) : ∀ (f : Nat) (a : List Cn) (b : List Mk) (σ : St), σ.1 ≤ (racR ts f a b σ).2.1
  | 0, _, _, _ => Nat.le_refl _
  | f + 1, a, b, σ => by
    unfold racR
    split
    · split
      · exact racR_ge ts f a b (failS 9 σ)
      · split
        · exact Nat.le_trans (acS_ge ts _ _) (Nat.le_trans (rcnS_ge ts _) (racR_ge ts f _ _ _))
        · exact Nat.le_trans (exS_ge ts _ _) (Nat.le_trans (rmkS_ge ts _) (racR_ge ts f _ _ _))
    · exact Nat.le_refl _
theorem racS_ge (ts : List Tk) (σ : St) : σ.1 ≤ (racS ts σ).1 := by
  unfold racS
  refine Nat.le_trans ?_ (Nat.le_trans (racR_ge ts _ _ _ _) (exS_ge ts _ _))
  unfold actH
  exact Nat.le_trans (naS_ge ts σ) (Nat.le_trans (exS_ge ts _ _) (Nat.le_trans (nuS_ge ts _) (exS_ge ts _ _)))
theorem rcnS_bad {ts : List Tk} {σ : St} (h : σ.2 ≠ 0) : (rcnS ts σ).2 ≠ 0 := by
  unfold rcnS
  simp only
  refine exS_keep ?_
  have h1 := naS_bad (ts := ts) h
  unfold siS
  refine nuS_bad ?_
  rw [acS_keep]
  split
  · rw [acS_keep]; exact h1
  · split
    · rw [acS_keep]; exact h1
    · exact exS_keep h1
section
variable {ts : List Tk} {f : Nat} {a : List Va} {b : List Ac} {c : List Cn} {σ : St}
theorem rdoR_stop (h : ¬ (σ.2 = 0 ∧ isS ts [125] σ = false)) : rdoR ts f a b c σ = ((a, b, c), σ) := by
  cases f with
  | zero => rfl
  | succ f => rw [rdoR, if_neg h]
theorem rdoR_many (h : σ.2 = 0 ∧ isS ts [125] σ = false) (hm : (isS ts varB σ = true ∧ 8 ≤ a.length) ∨ (isS ts actB σ = true ∧ 20 ≤ b.length) ∨ (isS ts goalB σ = true ∧ 8 ≤ c.length)) : rdoR ts (f + 1) a b c σ = rdoR ts f a b c (failS 9 σ) := by
  rw [rdoR, if_pos h, if_pos hm]
theorem rdoR_var (h : σ.2 = 0 ∧ isS ts [125] σ = false) (hn : isS ts varB σ = true) (ha : a.length < 8) : rdoR ts (f + 1) a b c σ = rdoR ts f (a ++ [varV ts (acS ts varB σ)]) b c (varS ts (acS ts varB σ)) := by
  have h1 : isS ts actB σ = false := isS_other hn (by decide)
  have h2 : isS ts goalB σ = false := isS_other hn (by decide)
  rw [rdoR, if_pos h, if_neg (by rw [h1, h2]; intro h; rcases h with h | h | h; omega; cases h.1; cases h.1), if_pos hn]
theorem rdoR_act (h : σ.2 = 0 ∧ isS ts [125] σ = false) (hn : isS ts actB σ = true) (hb : b.length < 20) : rdoR ts (f + 1) a b c σ = rdoR ts f a (b ++ [racV ts (acS ts actB σ)]) c (racS ts (acS ts actB σ)) := by
  have h1 : isS ts varB σ = false := isS_other hn (by decide)
  have h2 : isS ts goalB σ = false := isS_other hn (by decide)
  rw [rdoR, if_pos h, if_neg (by rw [h1, h2]; intro h; rcases h with h | h | h; cases h.1; omega; cases h.1), if_neg (by rw [h1]; decide), if_pos hn]
theorem rdoR_goal (h : σ.2 = 0 ∧ isS ts [125] σ = false) (hn : isS ts varB σ = false) (hm : isS ts actB σ = false) (hc : isS ts goalB σ = true → c.length < 8) : rdoR ts (f + 1) a b c σ = rdoR ts f a b (c ++ [rcnV ts (exS ts goalB σ)]) (rcnS ts (exS ts goalB σ)) := by
  rw [rdoR, if_pos h, if_neg (by rw [hn, hm]; intro h; rcases h with h | h | h; cases h.1; cases h.1; have := hc h.1; omega), if_neg (by rw [hn]; decide), if_neg (by rw [hm]; decide)]
end
structure DQ (ts : List Tk) (R0 : (List Va × List Ac × List Cn) × St) (n f : Nat) (a : List Va) (b : List Ac) (c : List Cn) (σ : St) : Prop where
  md : rdoR ts f a b c σ = R0
  fu : Fu f n σ
  la : a.length ≤ 8
  lb : b.length ≤ 20
  lc : c.length ≤ 9 ∧ (σ.2 = 0 → c.length ≤ 8)
/-- What a domain's reader leaves. -/
def RDoP (w : World) (gp g n cp L : Nat) (ts : List Tk) (v : Dm) (st : St) (x : Ending) (w' : World) : Prop := ∃ l, x = .returned (.agg l.toArray) ∧ DmAt w' (fun k => w.heap.size ≤ k) v l ∧ RT w' gp g n cp ts L st ∧ Touch (AtB gp) w w'
theorem rdom_out {w V : World} {gp g n cp L q3 : Nat} {Q : Nat → Prop} {ts : List Tk} {nm : Bs} {a : List Va} {b : List Ac} {c : List Cn} {vv va vg : Value} {xs : List Value} {st : St} (h : DM w V gp q3 Q (bs nm) a b c vv va vg xs) (hp : RT V gp g n cp ts L st) (hgp : gp < w.heap.size) (hgl : g < w.heap.size) :
    ∀ (x0 x1 x2 x3 : Value), let W := (((V.setCell ⟨w.heap.size, 0, none⟩ x0).setCell ⟨w.heap.size, 1, none⟩ x1).setCell ⟨w.heap.size, 2, none⟩ x2).setCell ⟨w.heap.size, 3, none⟩ x3
      DmAt W (fun k => w.heap.size ≤ k) ⟨nm, a, b, c⟩ [.string (bs nm), vv, va, vg] ∧ RT W gp g n cp ts L st ∧ Touch (AtB gp) w W := by
  intro x0 x1 x2 x3
  have n1 := row_ne h.rv h.b2 (by decide)
  have n2 := row_ne h.ra h.b2 (by decide)
  have n3 := row_ne h.rg h.b2 (by decide)
  have tX := touch4 (F := fun k => k = w.heap.size) (Touch.refl _ V) (.inl rfl) x0 x1 x2 x3
  have r1 := row_aside (row_aside (row_aside (row_aside (i := 0) (x := x0) h.rv n1) n1 (i := 1) (x := x1)) n1 (i := 2) (x := x2)) n1 (i := 3) (x := x3)
  have r2 := row_aside (row_aside (row_aside (row_aside (i := 0) (x := x0) h.ra n2) n2 (i := 1) (x := x1)) n2 (i := 2) (x := x2)) n2 (i := 3) (x := x3)
  have r3 := row_aside (row_aside (row_aside (row_aside (i := 0) (x := x0) h.rg n3) n3 (i := 1) (x := x1)) n3 (i := 2) (x := x2)) n3 (i := 3) (x := x3)
  exact ⟨⟨_, _, _, xs, rfl, slat_of r1, slat_of r2, h.ls.mono (fun x ys hx => (hx.touch tX (fun k hk => by have := (h.hQ k hk).1; omega)).via (fun k hk _ => Nat.le_of_lt (h.hQ k hk).1)), slat_of r3⟩, hp.touchX tX hgp hgl, touch4 h.t (.inr (Nat.le_refl _)) x0 x1 x2 x3⟩
/-- What lies elsewhere than the domain's rows goes on: a block of one's own is made and filled. -/
theorem DM.aside {w wr V : World} {gp q3 : Nat} {Q : Nat → Prop} {nm : ByteArray} {a : List Va} {b : List Ac} {c : List Cn} {vv va vg : Value} {xs : List Value} (h : DM w wr gp q3 Q nm a b c vv va vg xs) (t : Touch (AtB gp) wr V) (hgp : gp < w.heap.size) (hsq : w.heap.size < q3) : DM w V gp q3 Q nm a b c vv va vg xs := h.go t hgp hsq
theorem DM.addV' {w w3 wx : World} {gp q3 gd cap : Nat} {Q : Nat → Prop} {nm : ByteArray} {a : List Va} {b : List Ac} {c : List Cn} {vv va vg : Value} {xs : List Value} {v : Va} (h : DM w w3 gp q3 Q nm a b c vv va vg xs) (hsq : w.heap.size < q3) (TR : Touch (fun b => vv.ownBlock = some b) w3 wx)
    (hown : wx.ownsRow w.heap.size 92 3 (.slice (some ⟨gd, 0, none⟩) (a.length + 1) cap) (a.length + 1) (vaC a ++ [.string (bs v.nm), .int .i64 v.lo, .int .i64 v.hi])) (hat : vv.ownBlock = some gd ∨ w3.heap.size ≤ gd) :
    DM w (wx.setCell ⟨q3, 1, none⟩ (.slice (some ⟨gd, 0, none⟩) (a.length + 1) cap)) gp q3 Q nm (a ++ [v]) b c (.slice (some ⟨gd, 0, none⟩) (a.length + 1) cap) va vg xs := by
  have hb2 := h.b2.goR TR (row_ne h.rv h.b2 (by decide))
  have hb3 := h.b3.goR TR (row_ne h.rv h.b3 (by decide))
  have ra := row_touch h.ra TR (fun k hk f => row_row_ne h.rv h.ra (by decide) f hk)
  have rg := row_touch h.rg TR (fun k hk f => row_row_ne h.rv h.rg (by decide) f hk)
  have tS := (Touch.refl (fun b => b = q3) wx).setCell (p := ⟨q3, 1, none⟩) (.inl rfl) (.slice (some ⟨gd, 0, none⟩) (a.length + 1) cap)
  refine ⟨(h.t.trans TR (fun k hk => .inr (row_base h.rv k hk))).setCell (p := ⟨q3, 1, none⟩) (.inr (by simp only; omega)) _, hb2.aside (by omega), hb3.set1 _, ?_, row_aside ra (row_ne ra hb3 (by decide)), ?_, row_aside rg (row_ne rg hb3 (by decide)), fun k hk => ?_⟩
  · rw [List.length_append, vaC_snoc]
    exact row_aside hown (row_ne hown hb3 (by decide))
  · exact h.ls.mono (fun x ys hx => (hx.touch TR (fun k hk => (h.hQ k hk).2.2.2.1)).touch tS (fun k hk => (h.hQ k hk).2.2.1))
  · obtain ⟨q1, q2, q3', q4, q5, q6⟩ := h.hQ k hk
    refine ⟨q1, Nat.lt_of_lt_of_le q2 (Nat.le_trans TR.size tS.size), q3', fun e => ?_, q5, q6⟩
    have e1 : gd = k := by simpa [Value.ownBlock] using e
    subst e1
    rcases hat with e | e
    · exact q4 e
    · omega
end Go.Proofs.YtbikpbmknneabaaGreat
