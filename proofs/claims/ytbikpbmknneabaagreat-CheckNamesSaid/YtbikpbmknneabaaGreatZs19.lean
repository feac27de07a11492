/-
  What stands in memory while the document's own act reads. Conditions: those that each theorem names.
-/
import Derived.Test.YtbikpbmknneabaaGreatZs18
import Derived.Test.YtbikpbmknneabaaGreatZs4
import Derived.Test.YtbikpbmknneabaaGreatZs6
namespace Go.Proofs.YtbikpbmknneabaaGreat
open Go.ChangeShapes Go.WideShapes Go.ChangeAt Go.RowKit
set_option maxRecDepth 100000
set_option maxHeartbeats 4000000

theorem rcnS_ge (ts : List Tk) (σ : St) : σ.1 ≤ (rcnS ts σ).1 := by
  unfold rcnS
  simp only
  refine Nat.le_trans (naS_ge ts σ) (Nat.le_trans ?_ (Nat.le_trans (siS_ge ts _) (exS_ge ts [59] _)))
  split
  · exact acS_ge ts _ _
  · split
    · exact acS_ge ts _ _
    · exact exS_ge ts _ _
theorem rmkS_ge (ts : List Tk) (σ : St) : σ.1 ≤ (rmkS ts σ).1 := by
  unfold rmkS
  simp only
  refine Nat.le_trans (naS_ge ts σ) (Nat.le_trans ?_ (exS_ge ts [59] _))
  split
  · exact Nat.le_trans (acS_ge ts _ _) (nuS_ge ts _)
  · split
    · exact Nat.le_trans (acS_ge ts _ _) (nuS_ge ts _)
    · exact Nat.le_trans (exS_ge ts _ _) (siS_ge ts _)
theorem acS_keep {ts : List Tk} {s : Bs} {σ : St} : (acS ts s σ).2 = σ.2 := by unfold acS; rfl
theorem exS_keep {ts : List Tk} {s : Bs} {σ : St} (h : σ.2 ≠ 0) : (exS ts s σ).2 ≠ 0 := by rw [exS_bd h]; exact h
theorem rmkS_bad {ts : List Tk} {σ : St} (h : σ.2 ≠ 0) : (rmkS ts σ).2 ≠ 0 := by
  unfold rmkS
  simp only
  refine exS_keep ?_
  have h1 := naS_bad (ts := ts) h
  split
  · exact nuS_bad (by rw [acS_keep]; exact h1)
  · split
    · exact nuS_bad (by rw [acS_keep]; exact h1)
    · unfold siS
      exact nuS_bad (by rw [acS_keep]; exact exS_keep h1)
theorem exS_no {ts : List Tk} {s : Bs} {σ : St} (h : isS ts s σ = false) : (exS ts s σ).2 ≠ 0 := by
  unfold exS
  simp only [h]
  simp
  split <;> omega
section
variable {ts : List Tk} {f : Nat} {a : List Cn} {b : List Mk} {σ : St}
theorem racR_stop (h : ¬ (σ.2 = 0 ∧ isS ts [125] σ = false)) : racR ts f a b σ = ((a, b), σ) := by
  cases f with
  | zero => rfl
  | succ f => rw [racR, if_neg h]
theorem racR_many (h : σ.2 = 0 ∧ isS ts [125] σ = false) (hm : (isS ts needB σ = true ∧ 8 ≤ a.length) ∨ (isS ts makeB σ = true ∧ 8 ≤ b.length)) : racR ts (f + 1) a b σ = racR ts f a b (failS 9 σ) := by
  rw [racR, if_pos h, if_pos hm]
theorem racR_need (h : σ.2 = 0 ∧ isS ts [125] σ = false) (hn : isS ts needB σ = true) (ha : a.length < 8) : racR ts (f + 1) a b σ = racR ts f (a ++ [rcnV ts (acS ts needB σ)]) b (rcnS ts (acS ts needB σ)) := by
  have hm : isS ts makeB σ = false := isS_other hn (by decide)
  rw [racR, if_pos h, if_neg (by rw [hm]; intro h; rcases h with h | h; omega; cases h.1), if_pos hn]
theorem racR_make (h : σ.2 = 0 ∧ isS ts [125] σ = false) (hn : isS ts needB σ = false) (hb : isS ts makeB σ = true → b.length < 8) : racR ts (f + 1) a b σ = racR ts f a (b ++ [rmkV ts (exS ts makeB σ)]) (rmkS ts (exS ts makeB σ)) := by
  rw [racR, if_pos h, if_neg (by rw [hn]; intro h; rcases h with h | h; cases h.1; have := hb h.1; omega), if_neg (by rw [hn]; decide)]
end
/-- An act that is being read, at block q3. -/
structure AM (w : World) (gp g n cp L q3 : Nat) (ts : List Tk) (R0 : (List Cn × List Mk) × St) (nm : ByteArray) (cost : Int) (f : Nat) (a : List Cn) (b : List Mk) (σ : St) (nv mv : Value) (wr : World) : Prop where
  t : Touch (AtB gp) w wr
  b2 : B4 wr 95 w.heap.size (.string ⟨#[]⟩) (.int .i64 0) (.slice none 0 0) (.slice none 0 0)
  b3 : B4 wr 95 q3 (.string nm) (.int .i64 cost) nv mv
  rn : wr.ownsRow w.heap.size 98 3 nv a.length (cnC a)
  rm : wr.ownsRow w.heap.size 126 3 mv b.length (mkC b)
  rt : RT wr gp g n cp ts L σ
  md : racR ts f a b σ = R0
  fu : Fu f n σ
  la : a.length ≤ 8
  lb : b.length ≤ 9 ∧ (σ.2 = 0 → b.length ≤ 8)
/-- What an act's reader leaves. -/
def RAcP (w : World) (gp g n cp L : Nat) (ts : List Tk) (v : Ac) (st : St) (x : Ending) (w' : World) : Prop := ∃ (nv mv : Value), x = .returned (.agg #[.string (bs v.nm), .int .i64 (v.cost : Int), nv, mv]) ∧
  w'.ownsRow w.heap.size 98 3 nv v.need.length (cnC v.need) ∧ w'.ownsRow w.heap.size 126 3 mv v.make.length (mkC v.make) ∧ RT w' gp g n cp ts L st ∧ Touch (AtB gp) w w'
theorem meas2_rt {w : World} {gp g n cp L : Nat} {ts : List Tk} {σ : St} (h : RT w gp g n cp ts L σ) : meas2 gp n w = 2 * (n - σ.1) + (if σ.2 = 0 then 1 else 0) := by
  obtain ⟨h1, h2, -⟩ := h.cells
  unfold meas2
  rw [h1, h2]
  simp [intOf]
section
variable {w wr V wx : World} {gp g n cp L q3 gd cap : Nat} {ts : List Tk} {R0 : (List Cn × List Mk) × St} {nm : ByteArray} {cost : Int} {f : Nat} {a : List Cn} {b : List Mk} {σ τ : St} {nv mv : Value}
/-- The way out of the loop. -/
theorem AM.out (h : AM w gp g n cp L q3 ts R0 nm cost f a b σ nv mv wr) (t : Touch (AtB gp) wr V) (hp : RT V gp g n cp ts L τ) (hgp : gp < w.heap.size) (hgl : g < w.heap.size) :
    ∀ (x0 x1 x2 x3 : Value), let W := (((V.setCell ⟨w.heap.size, 0, none⟩ x0).setCell ⟨w.heap.size, 1, none⟩ x1).setCell ⟨w.heap.size, 2, none⟩ x2).setCell ⟨w.heap.size, 3, none⟩ x3
      W.ownsRow w.heap.size 98 3 nv a.length (cnC a) ∧ W.ownsRow w.heap.size 126 3 mv b.length (mkC b) ∧ RT W gp g n cp ts L τ ∧ Touch (AtB gp) w W := by
  intro x0 x1 x2 x3
  have hb2 := h.b2.go t (by omega)
  have r1 := row_go h.rn t hgp
  have r2 := row_go h.rm t hgp
  have n1 : nv.ownBlock ≠ some w.heap.size := row_ne r1 hb2 (by decide)
  have n2 : mv.ownBlock ≠ some w.heap.size := row_ne r2 hb2 (by decide)
  exact ⟨row_aside (row_aside (row_aside (row_aside r1 n1) n1) n1) n1, row_aside (row_aside (row_aside (row_aside r2 n2) n2) n2) n2,
    hp.touchX (touch4 (F := fun k => k = w.heap.size) (Touch.refl _ V) (.inl rfl) x0 x1 x2 x3) hgp hgl, touch4 (h.t.same t) (.inr (Nat.le_refl _)) x0 x1 x2 x3⟩
/-- Nothing but the reader goes on. -/
theorem AM.next (h : AM w gp g n cp L q3 ts R0 nm cost (f + 1) a b σ nv mv wr) (t : Touch (AtB gp) wr V) (hp : RT V gp g n cp ts L τ) (hgp : gp < w.heap.size) (hq : w.heap.size < q3) (h0 : σ.2 = 0) (hbad : τ.2 ≠ 0) (hmd : racR ts f a b τ = R0) : AM w gp g n cp L q3 ts R0 nm cost f a b τ nv mv V :=
  ⟨h.t.same t, h.b2.go t (by omega), h.b3.go t (by omega), row_go h.rn t hgp, row_go h.rm t hgp, hp, hmd, h.fu.stop h0 hbad, h.la, h.lb.1, fun e => absurd e hbad⟩
/-- A condition more. -/
theorem AM.addN {v : Cn} (h : AM w gp g n cp L q3 ts R0 nm cost (f + 1) a b σ nv mv wr) (t : Touch (AtB gp) wr V) (hp : RT V gp g n cp ts L τ) (hgp : gp < w.heap.size) (hgl : g < w.heap.size) (hq : w.heap.size < q3) (h0 : σ.2 = 0) (hg : σ.1 + 1 ≤ τ.1) (ha : a.length < 8)
    (TR : Touch (fun b => nv.ownBlock = some b) V wx) (hown : wx.ownsRow w.heap.size 98 3 (.slice (some ⟨gd, 0, none⟩) (a.length + 1) cap) (a.length + 1) (cnC a ++ [.string (bs v.nm), .int .i64 (v.op : Int), .int .i64 v.n]))
    (hmd : racR ts f (a ++ [v]) b τ = R0) : AM w gp g n cp L q3 ts R0 nm cost f (a ++ [v]) b τ (.slice (some ⟨gd, 0, none⟩) (a.length + 1) cap) mv (wx.setCell ⟨q3, 2, none⟩ (.slice (some ⟨gd, 0, none⟩) (a.length + 1) cap)) := by
  have rn := row_go h.rn t hgp
  have rm := row_go h.rm t hgp
  have b2 := h.b2.go t (by omega)
  have b3 := h.b3.go t (by omega)
  have hb2 := b2.goR TR (row_ne rn b2 (by decide))
  have hb3 := b3.goR TR (row_ne rn b3 (by decide))
  have rm2 := row_touch rm TR (fun k hk f => row_row_ne rn rm (by decide) f hk)
  have tS := (Touch.refl (fun b => b = q3) wx).setCell (p := ⟨q3, 2, none⟩) (.inl rfl) (.slice (some ⟨gd, 0, none⟩) (a.length + 1) cap)
  have hs := h.t.size
  have hl : q3 < V.heap.size := blk_lt b3
  refine ⟨((h.t.same t).trans TR (fun k hk => .inr (row_base rn k hk))).setCell (p := ⟨q3, 2, none⟩) (.inr (by simp only; omega)) _, hb2.aside (by omega), hb3.set2 _, ?_, row_aside rm2 (row_ne rm2 hb3 (by decide)),
    (hp.row TR (fun e => by have := row_base rn _ e; omega) (fun e => by have := row_base rn _ e; omega)).touchX tS (by omega) (by omega), hmd, h.fu.next h0 (by have := h.rt.le; have := h.rt.ln; omega) hg, by simp; omega, h.lb.1, fun _ => h.lb.2 h0⟩
  rw [List.length_append, cnC_snoc]
  exact row_aside hown (row_ne hown hb3 (by decide))
/-- A make more. -/
theorem AM.addM {v : Mk} (h : AM w gp g n cp L q3 ts R0 nm cost (f + 1) a b σ nv mv wr) (t : Touch (AtB gp) wr V) (hp : RT V gp g n cp ts L τ) (hgp : gp < w.heap.size) (hgl : g < w.heap.size) (hq : w.heap.size < q3) (h0 : σ.2 = 0) (hg : σ.1 + 1 ≤ τ.1 ∧ b.length < 8 ∨ τ.2 ≠ 0)
    (TR : Touch (fun b => mv.ownBlock = some b) V wx) (hown : wx.ownsRow w.heap.size 126 3 (.slice (some ⟨gd, 0, none⟩) (b.length + 1) cap) (b.length + 1) (mkC b ++ [.string (bs v.nm), .bool v.add, .int .i64 v.n]))
    (hmd : racR ts f a (b ++ [v]) τ = R0) : AM w gp g n cp L q3 ts R0 nm cost f a (b ++ [v]) τ nv (.slice (some ⟨gd, 0, none⟩) (b.length + 1) cap) (wx.setCell ⟨q3, 3, none⟩ (.slice (some ⟨gd, 0, none⟩) (b.length + 1) cap)) := by
  have rn := row_go h.rn t hgp
  have rm := row_go h.rm t hgp
  have b2 := h.b2.go t (by omega)
  have b3 := h.b3.go t (by omega)
  have hb2 := b2.goR TR (row_ne rm b2 (by decide))
  have hb3 := b3.goR TR (row_ne rm b3 (by decide))
  have rn2 := row_touch rn TR (fun k hk f => row_row_ne rm rn (by decide) f hk)
  have tS := (Touch.refl (fun b => b = q3) wx).setCell (p := ⟨q3, 3, none⟩) (.inl rfl) (.slice (some ⟨gd, 0, none⟩) (b.length + 1) cap)
  have hs := h.t.size
  have hl : q3 < V.heap.size := blk_lt b3
  have hb8 := h.lb.2 h0
  refine ⟨((h.t.same t).trans TR (fun k hk => .inr (row_base rm k hk))).setCell (p := ⟨q3, 3, none⟩) (.inr (by simp only; omega)) _, hb2.aside (by omega), hb3.set3 _, row_aside rn2 (row_ne rn2 hb3 (by decide)), ?_,
    (hp.row TR (fun e => by have := row_base rm _ e; omega) (fun e => by have := row_base rm _ e; omega)).touchX tS (by omega) (by omega), hmd, ?_, h.la, by simp; omega, fun e => ?_⟩
  · rw [List.length_append, mkC_snoc]
    exact row_aside hown (row_ne hown hb3 (by decide))
  · rcases hg with hg | hg
    · exact h.fu.next h0 (by have := h.rt.le; have := h.rt.ln; omega) hg.1
    · exact h.fu.stop h0 hg
  · rcases hg with hg | hg
    · simp; omega
    · exact absurd e hg
end
end Go.Proofs.YtbikpbmknneabaaGreat
