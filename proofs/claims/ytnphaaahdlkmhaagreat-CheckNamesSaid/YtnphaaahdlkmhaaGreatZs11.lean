/-
  What stands in memory while package tree's program reads. No condition beyond those that each theorem names.
-/
import Derived.Test.YtnphaaahdlkmhaaGreatZs10
import Derived.Test.YtnphaaahdlkmhaaGreatZs9
import Derived.Test.YtnphaaahdlkmhaaGreatZs7
import Derived.Test.YtnphaaahdlkmhaaGreatZs4
section
namespace Go.Proofs.YtnphaaahdlkmhaaGreat
open Go.ChangeShapes Go.WideShapes Go.ChangeAt Go.RowKit
set_option maxRecDepth 100000
set_option maxHeartbeats 4000000

theorem info_key' : ∃ i0, Tryz.prog.info? 57 = some i0 ∧ i0.zero = some (.agg #[.string ⟨#[]⟩, .int .i64 0, .bool false]) ∧ i0.size = 3 ∧ i0.bytes = 32 := by
  have h : (Tryz.prog.info? 57).map (fun i => (i.zero, i.size, i.bytes)) = some (some (.agg #[.string ⟨#[]⟩, .int .i64 0, .bool false]), 3, 32) := by kernel_rfl
  cases hi : Tryz.prog.info? 57 with
  | none => rw [hi] at h; cases h
  | some i0 =>
    rw [hi] at h
    simp only [Option.map_some, Option.some.injEq, Prod.mk.injEq] at h
    exact ⟨i0, rfl, h.1, h.2.1, h.2.2⟩
theorem info_dom' : ∃ i0, Tryz.prog.info? 71 = some i0 ∧ i0.zero = some (.agg #[.string ⟨#[]⟩, .slice none 0 0, .slice none 0 0, .slice none 0 0]) ∧ i0.size = 4 ∧ i0.bytes = 88 := by
  have h : (Tryz.prog.info? 71).map (fun i => (i.zero, i.size, i.bytes)) = some (some (.agg #[.string ⟨#[]⟩, .slice none 0 0, .slice none 0 0, .slice none 0 0]), 4, 88) := by kernel_rfl
  cases hi : Tryz.prog.info? 71 with
  | none => rw [hi] at h; cases h
  | some i0 =>
    rw [hi] at h
    simp only [Option.map_some, Option.some.injEq, Prod.mk.injEq] at h
    exact ⟨i0, rfl, h.1, h.2.1, h.2.2⟩
theorem info_tree' : ∃ i0, Tryz.prog.info? 64 = some i0 ∧ i0.zero = some (.agg #[.string ⟨#[]⟩, .int .i64 0, .int .i64 0, .int .i64 0, .string ⟨#[]⟩, .int .i64 0, .int .i64 0, .string ⟨#[]⟩, .slice none 0 0, .slice none 0 0, .slice none 0 0]) ∧ i0.size = 11 ∧ i0.bytes = 160 := by
  have h : (Tryz.prog.info? 64).map (fun i => (i.zero, i.size, i.bytes)) = some (some (.agg #[.string ⟨#[]⟩, .int .i64 0, .int .i64 0, .int .i64 0, .string ⟨#[]⟩, .int .i64 0, .int .i64 0, .string ⟨#[]⟩, .slice none 0 0, .slice none 0 0, .slice none 0 0]), 11, 160) := by kernel_rfl
  cases hi : Tryz.prog.info? 64 with
  | none => rw [hi] at h; cases h
  | some i0 =>
    rw [hi] at h
    simp only [Option.map_some, Option.some.injEq, Prod.mk.injEq] at h
    exact ⟨i0, rfl, h.1, h.2.1, h.2.2⟩
/-- A finished tree's eleven cells. -/
def TrAt (w : World) (Q : Nat → Prop) (t : Tr) (l : List Value) : Prop := ∃ D ys, l = .string (bs t.nm) :: ys ∧ NT w Q D t.root ys
theorem TrAt.touch {w w' : World} {Q F : Nat → Prop} {a : Tr} {l : List Value} (h : TrAt w Q a l) (t : Touch F w w') (hq : ∀ b, Q b → ¬ F b) : TrAt w' Q a l := by
  obtain ⟨D, ys, rfl, h1⟩ := h
  exact ⟨D, ys, rfl, NT.touch t hq _ _ _ h1⟩
theorem TrAt.via {w : World} {Q R : Nat → Prop} {a : Tr} {l : List Value} (h : TrAt w Q a l) (hq : ∀ b, Q b → b < w.heap.size → R b) : TrAt w R a l := by
  obtain ⟨D, ys, rfl, h1⟩ := h
  exact ⟨D, ys, rfl, NT.via hq _ _ _ h1⟩
theorem DmAt.touch {w w' : World} {Q F : Nat → Prop} {a : Dm} {l : List Value} (h : DmAt w Q a l) (t : Touch F w w') (hq : ∀ b, Q b → ¬ F b) : DmAt w' Q a l := by
  obtain ⟨v1, v2, v3, xs, rfl, h1, h2, h3, h4⟩ := h
  exact ⟨v1, v2, v3, xs, rfl, h1.touch t hq, h2.touch t hq, h3.mono (fun x ys hx => hx.touch t hq), h4.touch t hq⟩
theorem DmAt.via {w : World} {Q R : Nat → Prop} {a : Dm} {l : List Value} (h : DmAt w Q a l) (hq : ∀ b, Q b → b < w.heap.size → R b) : DmAt w R a l := by
  obtain ⟨v1, v2, v3, xs, rfl, h1, h2, h3, h4⟩ := h
  exact ⟨v1, v2, v3, xs, rfl, h1.via hq, h2.via hq, h3.mono (fun x ys hx => hx.via hq), h4.via hq⟩
/-- A program that is being read, at block q3; Q: the blocks of its finished trees and domains. -/
structure PM (w wr : World) (gp q3 : Nat) (Q : Nat → Prop) (a : List Ky) (b : List Tr) (c : List Dm) (vk vt vd : Value) (ts ds : List Value) : Prop where
  t : Touch (AtB gp) w wr
  b2 : B3 wr 29 w.heap.size (.slice none 0 0) (.slice none 0 0) (.slice none 0 0)
  b3 : B3 wr 29 q3 vk vt vd
  rk : wr.ownsRow w.heap.size 57 3 vk a.length (kyC a)
  rt : wr.ownsRow w.heap.size 64 11 vt b.length ts
  lt : LsAt (TrAt wr Q) b ts
  rd : wr.ownsRow w.heap.size 71 4 vd c.length ds
  ld : LsAt (DmAt wr Q) c ds
  hQ : ∀ k, Q k → w.heap.size < k ∧ k < wr.heap.size ∧ k ≠ q3 ∧ vk.ownBlock ≠ some k ∧ vt.ownBlock ≠ some k ∧ vd.ownBlock ≠ some k
theorem PM.go {w wr V : World} {gp q3 : Nat} {Q : Nat → Prop} {a : List Ky} {b : List Tr} {c : List Dm} {vk vt vd : Value} {ts ds : List Value} (h : PM w wr gp q3 Q a b c vk vt vd ts ds) (t : Touch (AtB gp) wr V) (hgp : gp < w.heap.size) (hsq : w.heap.size < q3) : PM w V gp q3 Q a b c vk vt vd ts ds := by
  have q : ∀ k, Q k → ¬ AtB gp k := fun k hk f => by have := (h.hQ k hk).1; unfold AtB at f; omega
  exact ⟨h.t.same t, h.b2.go t (by omega), h.b3.go t (by omega), row_go h.rk t hgp, row_go h.rt t hgp, h.lt.mono (fun x ys hx => hx.touch t q), row_go h.rd t hgp, h.ld.mono (fun x ys hx => hx.touch t q),
    fun k hk => ⟨(h.hQ k hk).1, Nat.lt_of_lt_of_le (h.hQ k hk).2.1 t.size, (h.hQ k hk).2.2⟩⟩
/-- What a call has made new is finished. -/
theorem PM.widen {w wr V : World} {gp q3 : Nat} {Q : Nat → Prop} {a : List Ky} {b : List Tr} {c : List Dm} {vk vt vd : Value} {ts ds : List Value} (h : PM w wr gp q3 Q a b c vk vt vd ts ds) (t : Touch (AtB gp) wr V) (hgp : gp < w.heap.size) (hsq : w.heap.size < q3) :
    PM w V gp q3 (fun k => Q k ∨ (wr.heap.size ≤ k ∧ k < V.heap.size)) a b c vk vt vd ts ds := by
  have h3 := h.go t hgp hsq
  have hb2 := blk_lt h.b2
  have hb3 := blk_lt h.b3
  refine ⟨h3.t, h3.b2, h3.b3, h3.rk, h3.rt, h3.lt.mono (fun x ys hx => hx.via (fun k hk _ => .inl hk)), h3.rd, h3.ld.mono (fun x ys hx => hx.via (fun k hk _ => .inl hk)), fun k hk => ?_⟩
  rcases hk with hk | ⟨h1, h2⟩
  · exact h3.hQ k hk
  · exact ⟨by omega, h2, by omega, fun e => by have := (h.rk.lt k e).2; omega, fun e => by have := (h.rt.lt k e).2; omega, fun e => by have := (h.rd.lt k e).2; omega⟩
theorem B3.goR {w w' : World} {T : TypeId} {q : Nat} {a b c v : Value} (h : B3 w T q a b c) (t : Touch (fun b => v.ownBlock = some b) w w') (hne : v.ownBlock ≠ some q) : B3 w' T q a b c := (t.block q (blk_lt h) hne).trans h
section
variable {w w3 wx : World} {gp q3 gd cap : Nat} {Q : Nat → Prop} {a : List Ky} {b : List Tr} {c : List Dm} {vk vt vd : Value} {ts ds : List Value}
theorem PM.addK {v : Ky} (h : PM w w3 gp q3 Q a b c vk vt vd ts ds) (hsq : w.heap.size < q3) (TR : Touch (fun b => vk.ownBlock = some b) w3 wx)
    (hown : wx.ownsRow w.heap.size 57 3 (.slice (some ⟨gd, 0, none⟩) (a.length + 1) cap) (a.length + 1) (kyC a ++ [.string (bs v.nm), .int .i64 (v.kd : Int), .bool v.sh])) (hat : vk.ownBlock = some gd ∨ gd = w3.heap.size + 1) :
    PM w (wx.setCell ⟨q3, 0, none⟩ (.slice (some ⟨gd, 0, none⟩) (a.length + 1) cap)) gp q3 Q (a ++ [v]) b c (.slice (some ⟨gd, 0, none⟩) (a.length + 1) cap) vt vd ts ds := by
  have hb2 := h.b2.goR TR (row_ne h.rk h.b2 (by decide))
  have hb3 := h.b3.goR TR (row_ne h.rk h.b3 (by decide))
  have rt := row_touch h.rt TR (fun k hk f => row_row_ne h.rk h.rt (by decide) f hk)
  have rd := row_touch h.rd TR (fun k hk f => row_row_ne h.rk h.rd (by decide) f hk)
  have tS := (Touch.refl (fun b => b = q3) wx).setCell (p := ⟨q3, 0, none⟩) (.inl rfl) (.slice (some ⟨gd, 0, none⟩) (a.length + 1) cap)
  refine ⟨(h.t.trans TR (fun k hk => .inr (row_base h.rk k hk))).setCell (p := ⟨q3, 0, none⟩) (.inr (by simp only; omega)) _, hb2.aside (by omega), hb3.set0 _, ?_, row_aside rt (row_ne rt hb3 (by decide)), ?_, row_aside rd (row_ne rd hb3 (by decide)), ?_, fun k hk => ?_⟩
  · rw [List.length_append, kyC_snoc]
    exact row_aside hown (row_ne hown hb3 (by decide))
  · exact h.lt.mono (fun x ys hx => (hx.touch TR (fun k hk => (h.hQ k hk).2.2.2.1)).touch tS (fun k hk => (h.hQ k hk).2.2.1))
  · exact h.ld.mono (fun x ys hx => (hx.touch TR (fun k hk => (h.hQ k hk).2.2.2.1)).touch tS (fun k hk => (h.hQ k hk).2.2.1))
  · obtain ⟨q1, q2, q3', q4, q5, q6⟩ := h.hQ k hk
    refine ⟨q1, Nat.lt_of_lt_of_le q2 (Nat.le_trans TR.size tS.size), q3', fun e => ?_, q5, q6⟩
    have e1 : gd = k := by simpa [Value.ownBlock] using e
    subst e1
    rcases hat with e | e
    · exact q4 e
    · omega
theorem PM.addT {v : Tr} {ys : List Value} (h : PM w w3 gp q3 Q a b c vk vt vd ts ds) (hsq : w.heap.size < q3) (hv : TrAt w3 Q v ys) (TR : Touch (fun b => vt.ownBlock = some b) w3 wx)
    (hown : wx.ownsRow w.heap.size 64 11 (.slice (some ⟨gd, 0, none⟩) (b.length + 1) cap) (b.length + 1) (ts ++ ys)) (hat : vt.ownBlock = some gd ∨ gd = w3.heap.size + 1) :
    PM w (wx.setCell ⟨q3, 1, none⟩ (.slice (some ⟨gd, 0, none⟩) (b.length + 1) cap)) gp q3 Q a (b ++ [v]) c vk (.slice (some ⟨gd, 0, none⟩) (b.length + 1) cap) vd (ts ++ ys) ds := by
  have hb2 := h.b2.goR TR (row_ne h.rt h.b2 (by decide))
  have hb3 := h.b3.goR TR (row_ne h.rt h.b3 (by decide))
  have rk := row_touch h.rk TR (fun k hk f => row_row_ne h.rt h.rk (by decide) f hk)
  have rd := row_touch h.rd TR (fun k hk f => row_row_ne h.rt h.rd (by decide) f hk)
  have tS := (Touch.refl (fun b => b = q3) wx).setCell (p := ⟨q3, 1, none⟩) (.inl rfl) (.slice (some ⟨gd, 0, none⟩) (b.length + 1) cap)
  refine ⟨(h.t.trans TR (fun k hk => .inr (row_base h.rt k hk))).setCell (p := ⟨q3, 1, none⟩) (.inr (by simp only; omega)) _, hb2.aside (by omega), hb3.set1 _, row_aside rk (row_ne rk hb3 (by decide)), ?_, ?_, row_aside rd (row_ne rd hb3 (by decide)), ?_, fun k hk => ?_⟩
  · rw [List.length_append]
    exact row_aside hown (row_ne hown hb3 (by decide))
  · exact (LsAt.snoc h.lt hv).mono (fun x ys hx => (hx.touch TR (fun k hk => (h.hQ k hk).2.2.2.2.1)).touch tS (fun k hk => (h.hQ k hk).2.2.1))
  · exact h.ld.mono (fun x ys hx => (hx.touch TR (fun k hk => (h.hQ k hk).2.2.2.2.1)).touch tS (fun k hk => (h.hQ k hk).2.2.1))
  · obtain ⟨q1, q2, q3', q4, q5, q6⟩ := h.hQ k hk
    refine ⟨q1, Nat.lt_of_lt_of_le q2 (Nat.le_trans TR.size tS.size), q3', q4, fun e => ?_, q6⟩
    have e1 : gd = k := by simpa [Value.ownBlock] using e
    subst e1
    rcases hat with e | e
    · exact q5 e
    · omega
theorem PM.addD {v : Dm} {ys : List Value} (h : PM w w3 gp q3 Q a b c vk vt vd ts ds) (hsq : w.heap.size < q3) (hv : DmAt w3 Q v ys) (TR : Touch (fun b => vd.ownBlock = some b) w3 wx)
    (hown : wx.ownsRow w.heap.size 71 4 (.slice (some ⟨gd, 0, none⟩) (c.length + 1) cap) (c.length + 1) (ds ++ ys)) (hat : vd.ownBlock = some gd ∨ gd = w3.heap.size + 1) :
    PM w (wx.setCell ⟨q3, 2, none⟩ (.slice (some ⟨gd, 0, none⟩) (c.length + 1) cap)) gp q3 Q a b (c ++ [v]) vk vt (.slice (some ⟨gd, 0, none⟩) (c.length + 1) cap) ts (ds ++ ys) := by
  have hb2 := h.b2.goR TR (row_ne h.rd h.b2 (by decide))
  have hb3 := h.b3.goR TR (row_ne h.rd h.b3 (by decide))
  have rk := row_touch h.rk TR (fun k hk f => row_row_ne h.rd h.rk (by decide) f hk)
  have rt := row_touch h.rt TR (fun k hk f => row_row_ne h.rd h.rt (by decide) f hk)
  have tS := (Touch.refl (fun b => b = q3) wx).setCell (p := ⟨q3, 2, none⟩) (.inl rfl) (.slice (some ⟨gd, 0, none⟩) (c.length + 1) cap)
  refine ⟨(h.t.trans TR (fun k hk => .inr (row_base h.rd k hk))).setCell (p := ⟨q3, 2, none⟩) (.inr (by simp only; omega)) _, hb2.aside (by omega), hb3.set2 _, row_aside rk (row_ne rk hb3 (by decide)), row_aside rt (row_ne rt hb3 (by decide)), ?_, ?_, ?_, fun k hk => ?_⟩
  · exact h.lt.mono (fun x ys hx => (hx.touch TR (fun k hk => (h.hQ k hk).2.2.2.2.2)).touch tS (fun k hk => (h.hQ k hk).2.2.1))
  · rw [List.length_append]
    exact row_aside hown (row_ne hown hb3 (by decide))
  · exact (LsAt.snoc h.ld hv).mono (fun x ys hx => (hx.touch TR (fun k hk => (h.hQ k hk).2.2.2.2.2)).touch tS (fun k hk => (h.hQ k hk).2.2.1))
  · obtain ⟨q1, q2, q3', q4, q5, q6⟩ := h.hQ k hk
    refine ⟨q1, Nat.lt_of_lt_of_le q2 (Nat.le_trans TR.size tS.size), q3', q4, q5, fun e => ?_⟩
    have e1 : gd = k := by simpa [Value.ownBlock] using e
    subst e1
    rcases hat with e | e
    · exact q6 e
    · omega
end
/-- A program's cells, its lists finished. -/
def PgAt (w : World) (Q : Nat → Prop) (p : Pg) (l : List Value) : Prop := ∃ v1 v2 v3 xs ys, l = [v1, v2, v3] ∧ SlAt w Q v1 p.keys.length (kyC p.keys) ∧ SlAt w Q v2 p.trees.length xs ∧ LsAt (TrAt w Q) p.trees xs ∧ SlAt w Q v3 p.doms.length ys ∧ LsAt (DmAt w Q) p.doms ys
end Go.Proofs.YtnphaaahdlkmhaaGreat
end
/-
  What is known of a text's tokens: names and numbers are such. Lists alone.
-/
section
namespace Go.Proofs.YtnphaaahdlkmhaaGreat
open Go.ChangeShapes Go.WideShapes Go.ChangeAt Go.RowKit
set_option maxRecDepth 100000
set_option maxHeartbeats 4000000

/-! ### tokens of a text -/
def tokOkT (t : Tk) : Prop := (t.kd = 1 → okN t.tx = true) ∧ (t.kd = 3 → t.n ≤ 9223372036854775807) ∧ t.tx.length ≤ 100000
theorem kwS_lenT : ∀ {s : Bs}, s ∈ kw → s.length ≤ 6 := by decide
theorem sgnL_leT (c : UInt8) (r : Bs) : sgnL c r ≤ 2 := by
  unfold sgnL
  repeat' split
  all_goals omega
theorem tok_okT {a n : Nat} {l : Bs} {t : Tk} (h : tokL a l = some (t, n)) : tokOkT t := by
  cases l with
  | nil => simp [tokL] at h
  | cons c r =>
    simp only [tokL] at h
    split at h
    · split at h
      · rename_i h2
        injection h with h; injection h with h _; subst h
        exact ⟨fun e => by simp at e, fun _ => h2.2.1, by simp⟩
      · cases h
    · split at h
      · rename_i hl
        split at h
        · rename_i hkw
          injection h with h; injection h with h _; subst h
          exact ⟨fun e => by simp at e, fun e => by simp at e, Nat.le_trans (kwS_lenT (List.contains_iff_mem.1 hkw)) (show 6 ≤ 100000 by decide)⟩
        · split at h
          · rename_i hk h24
            injection h with h; injection h with h _; subst h
            refine ⟨fun _ => ?_, fun e => by simp at e, Nat.le_trans h24 (show 24 ≤ 100000 by decide)⟩
            have hW : bW c = true := bW_L hl
            have h0 : (List.takeWhile bW (c :: r))[0]? = some c := by rw [List.takeWhile_cons, if_pos hW]; rfl
            have hall : (List.takeWhile bW (c :: r)).all bW = true := List.all_takeWhile
            unfold okN
            rw [name_bs h0 hl hall, wrd_bs]
            simp only [Bool.and_eq_true, decide_eq_true_eq, Bool.not_eq_true']
            exact ⟨h24, by simpa using hk⟩
          · cases h
      · split at h
        · cases h
        · injection h with h; injection h with h _; subst h
          exact ⟨fun e => by simp at e, fun e => by simp at e, Nat.le_trans (List.length_take_le _ _) (Nat.le_trans (sgnL_leT c r) (show 2 ≤ 100000 by decide))⟩
theorem toks_okT : ∀ (f a : Nat) (l : Bs) (ts : List Tk), toksL f a l = .good ts → ∀ t ∈ ts, tokOkT t
  | 0, a, l, ts, h => by simp [toksL] at h
  | f + 1, a, l, ts, h => by
    unfold toksL at h
    split at h
    · injection h with h; subst h
      intro t ht
      simp at ht
      subst ht
      exact ⟨fun e => by simp at e, fun e => by simp at e, by simp⟩
    · rename_i c r _
      split at h
      · cases h
      · rename_i t n ht
        cases hr : toksL f (a + (l.length - (c :: r).length) + n) ((c :: r).drop n) with
        | bad p => rw [hr] at h; simp [Lx.cons] at h
        | good us =>
          rw [hr] at h
          simp only [Lx.cons, Lx.good.injEq] at h
          subst h
          intro q hq
          rcases List.mem_cons.1 hq with rfl | hq
          · exact tok_okT ht
          · exact toks_okT f _ _ us hr q hq
theorem lex_oksT {l : Bs} {ts : List Tk} (h : lexL l = .good ts) : NamesOk ts ∧ NumsOk ts := by
  have hh := toks_okT _ _ _ _ h
  refine ⟨?_, ?_, fun t ht => (hh t ht).2.2⟩
  · intro k s hs
    unfold nameAt at hs
    split at hs
    · cases hs
    · rename_i t ht
      split at hs
      · rename_i h1; injection hs with hs; subst hs
        exact (hh t (List.mem_of_getElem? ht)).1 h1
      · cases hs
  · intro k m hs
    unfold numAt at hs
    split at hs
    · cases hs
    · rename_i t ht
      split at hs
      · rename_i h1; injection hs with hs; subst hs
        exact (hh t (List.mem_of_getElem? ht)).2.1 h1
      · cases hs
end Go.Proofs.YtnphaaahdlkmhaaGreat
end
/-
  The last token of a text; a program in memory, told otherwise. No condition beyond those that each theorem names.
-/
section
namespace Go.Proofs.YtnphaaahdlkmhaaGreat
open Go.ChangeShapes Go.WideShapes Go.ChangeAt Go.RowKit
set_option maxRecDepth 100000
set_option maxHeartbeats 4000000

theorem pl_last (b : Bs) : ∀ (a : Nat) (ts : List Tk) (t : Tk), PlOk b a ts → ts[ts.length - 1]? = some t → t.kd = 0
  | _, [], _, h, _ => h.elim
  | a, [x], t, h, e => by
    simp only [List.length_singleton, Nat.sub_self, List.getElem?_cons_zero, Option.some.injEq] at e
    subst e
    exact h.1
  | a, x :: u :: r, t, h, e => by
    refine pl_last b (x.pl + 1) (u :: r) t h.2.2.2.2.2 ?_
    simpa using e
theorem PgAt.touch {w w' : World} {Q F : Nat → Prop} {a : Pg} {l : List Value} (h : PgAt w Q a l) (t : Touch F w w') (hq : ∀ b, Q b → ¬ F b) : PgAt w' Q a l := by
  obtain ⟨v1, v2, v3, xs, ys, rfl, h1, h2, h3, h4, h5⟩ := h
  exact ⟨v1, v2, v3, xs, ys, rfl, h1.touch t hq, h2.touch t hq, h3.mono (fun x ys hx => hx.touch t hq), h4.touch t hq, h5.mono (fun x ys hx => hx.touch t hq)⟩
theorem PgAt.via {w : World} {Q R : Nat → Prop} {a : Pg} {l : List Value} (h : PgAt w Q a l) (hq : ∀ b, Q b → b < w.heap.size → R b) : PgAt w R a l := by
  obtain ⟨v1, v2, v3, xs, ys, rfl, h1, h2, h3, h4, h5⟩ := h
  exact ⟨v1, v2, v3, xs, ys, rfl, h1.via hq, h2.via hq, h3.mono (fun x ys hx => hx.via hq), h4.via hq, h5.mono (fun x ys hx => hx.via hq)⟩
theorem pg_form {w : World} {Q : Nat → Prop} {p : Pg} {v1 v2 v3 : Value} (h : PgAt w Q p [v1, v2, v3]) : ∃ x1 l1 c1 x2 l2 c2 x3 l3 c3, v1 = .slice x1 l1 c1 ∧ v2 = .slice x2 l2 c2 ∧ v3 = .slice x3 l3 c3 := by
  obtain ⟨u1, u2, u3, xs, ys, e, ⟨A1, c1, rfl, -⟩, ⟨A2, c2, rfl, -⟩, -, ⟨A3, c3, rfl, -⟩, -⟩ := h
  simp only [List.cons.injEq] at e
  exact ⟨_, _, _, _, _, _, _, _, _, e.1, e.2.1, e.2.2.1⟩
/-- A text's tokens end with an end's. -/
theorem lex_end {b : Bs} {ts : List Tk} (h : lexL b = .good ts) : ∃ L, EnT ts L ∧ L + 1 = ts.length := by
  have hp := good_pos h
  obtain ⟨t, ht⟩ : ∃ t, ts[ts.length - 1]? = some t := ⟨_, List.getElem?_eq_getElem (by omega)⟩
  refine ⟨ts.length - 1, ⟨t, ht, ?_⟩, by omega⟩
  exact pl_last b 0 ts t (lex_places h) ht
end Go.Proofs.YtnphaaahdlkmhaaGreat
end
/-
  Package check's first over a list of conditions. Conditions: those that each theorem names.
-/
section
namespace Go.Proofs.YtnphaaahdlkmhaaGreat
open Go.ChangeShapes Go.WideShapes Go.ChangeAt Go.RowKit Go.Maps
set_option maxRecDepth 100000
set_option maxHeartbeats 4000000

/-- The first error. -/
def firstE : List Int → Int
  | [] => 0
  | x :: l => if x = 0 then firstE l else x
theorem firstE_zero {α : Type} {f : α → Int} : ∀ {l : List α}, (∀ (j : Nat) (c : α), l[j]? = some c → f c = 0) → firstE (l.map f) = 0
  | [], _ => rfl
  | x :: l, h => by
    show (if f x = 0 then firstE (l.map f) else f x) = 0
    rw [if_pos (h 0 x rfl)]
    exact firstE_zero (fun j c hj => h (j + 1) c (by simpa using hj))
theorem firstE_at {α : Type} {f : α → Int} : ∀ {l : List α} {i : Nat} {c : α}, l[i]? = some c → f c ≠ 0 → (∀ (j : Nat) (x : α), j < i → l[j]? = some x → f x = 0) → firstE (l.map f) = f c
  | [], i, c, hc, _, _ => by simp at hc
  | x :: l, 0, c, hc, hn, _ => by
    simp at hc; subst hc
    show (if f x = 0 then firstE (l.map f) else f x) = f x
    rw [if_neg hn]
  | x :: l, i + 1, c, hc, hn, hz => by
    show (if f x = 0 then firstE (l.map f) else f x) = f c
    rw [if_pos (hz 0 x (by omega) rfl)]
    exact firstE_at (i := i) (by simpa using hc) hn (fun j y hj hy => hz (j + 1) y (by omega) (by simpa using hy))
def FcRel (f : Cn → Int) (l : List Cn) (w : World) (v : Value) (wr : World) : Prop := ∃ i : Nat, i ≤ l.length ∧ v = .int .i64 i ∧ (∀ (j : Nat) (c : Cn), j < i → l[j]? = some c → f c = 0) ∧ Touch NoB w wr
theorem first_cond {kb vb ab m : Nat} {vs : List ByteArray} {Q : Nat → Prop} (l : List Cn) (v : Value) (w : World) (hS : SlAt w Q v l.length (cnC l)) (h : NM w vb m vs) (hf : ∀ c ∈ l, (bs c.nm).size ≤ 9223372036854775807) (hl : l.length ≤ 1000000) :
    Calls Tryz.prog 69 #[v, .func (.func 70) #[elV kb vb ab] #[]] w fun e w' => e = .returned (.int .i64 (firstE (l.map fun c => opE vs (bs c.nm) c.n))) ∧ Touch NoB w w' := by
  obtain ⟨A, cap, rfl, hx⟩ := hS
  have HX := Lib.hid (And.intro hx (And.intro h hf))
  have HC := Lib.hid (fun w (s : ByteArray) (o n : Int) (h : NM w vb m vs) (hs : s.size ≤ 9223372036854775807) => ccond_any (kb := kb) (ab := ab) o n w h hs)
  have e0 : ∀ (args : Array Value) (w : World), (callFunc 70 args).run Tryz.prog w = .ok (.enter 70 args) w := enters_of Tryz.func70 (by kernel_rfl) rfl
  clear hx h hf
  obtain ⟨n, hn⟩ : ∃ n, l.length = n := ⟨_, rfl⟩
  have HN := Lib.hid hn
  rw [hn]
  rw [hn] at hl
  clear hn
  unfold cond13V at HC
  obtain ⟨el, hel⟩ : ∃ el, elV kb vb ab = el := ⟨_, rfl⟩
  rw [hel] at HC ⊢
  clear hel
  go_enter Tryz.func69, Tryz.ntmps69
  go_wp2
  go_loopw [10] (fun v10 wr => FcRel (fun c => opE vs (bs c.nm) c.n) l w v10 wr) (fun v10 _ => n - (intOf v10).toNat)
  case atStart => exact ⟨0, Nat.zero_le _, rfl, fun j c hj => by omega, Touch.refl _ _⟩
  case round =>
    obtain ⟨i, hi, rfl, hno, hT⟩ := hrel
    by_cases hlt : i < n
    · obtain ⟨c, hc⟩ : ∃ c, l[i]? = some c := ⟨l[i]'(by have := HN.out; omega), List.getElem?_eq_getElem _⟩
      obtain ⟨g0, g1, g2⟩ := cnC_at l i c hc
      obtain ⟨b, rfl, -, hb, c0⟩ := HX.out.1 _ _ g0
      obtain ⟨b', hb', -, -, c1⟩ := HX.out.1 _ _ g1
      injection hb' with hb'
      injection hb' with hb'
      subst hb'
      obtain ⟨b', hb', -, -, c2⟩ := HX.out.1 _ _ g2
      injection hb' with hb'
      injection hb' with hb'
      subst hb'
      have d0 := (hT.cell (p := ⟨b, i * 3, none⟩) hb (fun f => f)).trans c0
      have d1 := (hT.cell (p := ⟨b, i * 3 + 1, none⟩) hb (fun f => f)).trans c1
      have d2 := (hT.cell (p := ⟨b, i * 3 + 2, none⟩) hb (fun f => f)).trans c2
      have d3 := Nat.lt_of_lt_of_le hb hT.size
      have hsz := HX.out.2.2 c (List.mem_of_getElem? hc)
      obtain ⟨r, hr⟩ : ∃ r, opE vs (bs c.nm) c.n = r := ⟨_, rfl⟩
      have HR := Lib.hid (And.intro hr (And.intro hc (And.intro hno hT)))
      have hm := HX.out.2.1.touch hT (fun f => f)
      have HM := Lib.hid hm
      have HC2 := Lib.hid (fun w (h : NM w vb m vs) => hr ▸ HC.out w (bs c.nm) (c.op : Int) c.n h hsz)
      clear hm hr hc hno hT c0 c1 c2 g0 g1 g2 hsz
      obtain ⟨nm, o, x⟩ := c
      simp only at d0 d1 d2
      by_cases hr0 : r = 0
      · subst hr0
        go_wp2_with (go_at_fn 70; refine (HC2.out _ (HM.out.touch (F := NoB) (by repeat (first | with_reducible exact Touch.refl NoB _ | with_reducible refine Touch.drew ?_ | with_reducible refine Touch.alloc ?_ _)) (fun f => f))).mono ?_; rintro r w2 ⟨rfl, hT2⟩; have HT2 := Lib.hid (Touch.same (F := NoB) (a := wr) (by repeat (first | with_reducible exact Touch.refl NoB _ | with_reducible refine Touch.drew ?_ | with_reducible refine Touch.alloc ?_ _)) hT2); clear hT2)
        go_roundw
        case rel => exact ⟨i + 1, by have := HN.out; omega, by go_num, fun j y hj hy => by
          by_cases e : j = i
          · subst e; rw [HR.out.2.1] at hy; injection hy with hy; subst hy; exact HR.out.1
          · exact HR.out.2.2.1 j y (by omega) hy, HR.out.2.2.2.same HT2.out⟩
        case measure => simp [intOf]; omega
      · go_wp2_with (go_at_fn 70; refine (HC2.out _ (HM.out.touch (F := NoB) (by repeat (first | with_reducible exact Touch.refl NoB _ | with_reducible refine Touch.drew ?_ | with_reducible refine Touch.alloc ?_ _)) (fun f => f))).mono ?_; rintro r w2 ⟨rfl, hT2⟩; have HT2 := Lib.hid (Touch.same (F := NoB) (a := wr) (by repeat (first | with_reducible exact Touch.refl NoB _ | with_reducible refine Touch.drew ?_ | with_reducible refine Touch.alloc ?_ _)) hT2); clear hT2)
        go_ret
        exact ⟨by rw [firstE_at HR.out.2.1 (by rw [HR.out.1]; exact hr0) HR.out.2.2.1, HR.out.1]; rfl, HR.out.2.2.2.same HT2.out⟩
    · have hin : i = n := by have := HN.out; omega
      subst hin
      have HR := Lib.hid (And.intro hno hT)
      clear hno hT
      go_wp2
      go_ret
      exact ⟨by rw [firstE_zero (fun j c hc => HR.out.1 j c (by have := (List.getElem?_eq_some_iff.1 hc).1; have := HN.out; omega) hc)]; rfl, HR.out.2⟩
end Go.Proofs.YtnphaaahdlkmhaaGreat
end
/-
  Package check: a make of an act; first over a list of makes. Conditions: those that each theorem names.
-/
section
namespace Go.Proofs.YtnphaaahdlkmhaaGreat
open Go.ChangeShapes Go.WideShapes Go.ChangeAt Go.RowKit Go.Maps
set_option maxRecDepth 100000
set_option maxHeartbeats 4000000

theorem cmake_any {kb vb ab eb m : Nat} {vs : List ByteArray} {s : ByteArray} (o : Bool) (n : Int) (w : World) (h : NM w vb m vs) (hE : w.heap[eb]? = some (.cells #[.map (some kb), .map (some vb), .map (some ab)] 110 (0, 0))) (hs : s.size ≤ 9223372036854775807) :
    Calls Tryz.prog 87 #[.agg #[.string s, .bool o, .int .i64 n], .pointer (some ⟨eb, 0, none⟩)] w fun e w' => e = .returned (.int .i64 (opE vs s n)) ∧ Touch NoB w w' := by
  have HO := Lib.hid (fun w (h : NM w vb m vs) => operand_any (kb := kb) (ab := ab) n w h hs)
  have HN := Lib.hid h
  have a0 := cell_blk hE 0
  have a1 := cell_blk hE 1
  have a2 := cell_blk hE 2
  have a3 := blk_lt hE
  clear h hE
  unfold elV at HO
  go_enter Tryz.func87, Tryz.ntmps87
  go_wp2_with fail
  refine (HO.out _ (HN.out.touch (F := NoB) (by repeat (first | with_reducible exact Touch.refl NoB _ | with_reducible refine Touch.drew ?_ | with_reducible refine Touch.alloc ?_ _)) (fun f => f))).mono ?_
  rintro r w2 ⟨rfl, hT⟩
  have HT := Lib.hid (Touch.same (F := NoB) (a := w) (by repeat (first | with_reducible exact Touch.refl NoB _ | with_reducible refine Touch.drew ?_ | with_reducible refine Touch.alloc ?_ _)) hT)
  clear hT
  go_wp2
  go_ret
  exact ⟨rfl, HT.out⟩
def FmRel (f : Mk → Int) (l : List Mk) (w : World) (v : Value) (wr : World) : Prop := ∃ i : Nat, i ≤ l.length ∧ v = .int .i64 i ∧ (∀ (j : Nat) (c : Mk), j < i → l[j]? = some c → f c = 0) ∧ Touch NoB w wr
theorem first_make {kb vb ab eb m : Nat} {vs : List ByteArray} {Q : Nat → Prop} (l : List Mk) (v : Value) (w : World) (hS : SlAt w Q v l.length (mkC l)) (h : NM w vb m vs) (hE : w.heap[eb]? = some (.cells #[.map (some kb), .map (some vb), .map (some ab)] 110 (0, 0))) (hf : ∀ c ∈ l, (bs c.nm).size ≤ 9223372036854775807) (hl : l.length ≤ 1000000) :
    Calls Tryz.prog 86 #[v, .func (.func 87) #[] #[.pointer (some ⟨eb, 0, none⟩)]] w fun e w' => e = .returned (.int .i64 (firstE (l.map fun c => opE vs (bs c.nm) c.n))) ∧ Touch NoB w w' := by
  obtain ⟨A, cap, rfl, hx⟩ := hS
  have HX := Lib.hid (And.intro hx (And.intro h (And.intro hf hE)))
  have HC := Lib.hid (fun w (s : ByteArray) (o : Bool) (n : Int) (h : NM w vb m vs) hE (hs : s.size ≤ 9223372036854775807) => cmake_any (kb := kb) (ab := ab) (eb := eb) o n w h hE hs)
  have e0 : ∀ (args : Array Value) (w : World), (callFunc 87 args).run Tryz.prog w = .ok (.enter 87 args) w := enters_of Tryz.func87 (by kernel_rfl) rfl
  clear hx h hf hE
  obtain ⟨n, hn⟩ : ∃ n, l.length = n := ⟨_, rfl⟩
  have HN := Lib.hid hn
  rw [hn]
  rw [hn] at hl
  clear hn
  go_enter Tryz.func86, Tryz.ntmps86
  go_wp2
  go_loopw [10] (fun v10 wr => FmRel (fun c => opE vs (bs c.nm) c.n) l w v10 wr) (fun v10 _ => n - (intOf v10).toNat)
  case atStart => exact ⟨0, Nat.zero_le _, rfl, fun j c hj => by omega, Touch.refl _ _⟩
  case round =>
    obtain ⟨i, hi, rfl, hno, hT⟩ := hrel
    by_cases hlt : i < n
    · obtain ⟨c, hc⟩ : ∃ c, l[i]? = some c := ⟨l[i]'(by have := HN.out; omega), List.getElem?_eq_getElem _⟩
      obtain ⟨g0, g1, g2⟩ := mkC_at l i c hc
      obtain ⟨b, rfl, -, hb, c0⟩ := HX.out.1 _ _ g0
      obtain ⟨b', hb', -, -, c1⟩ := HX.out.1 _ _ g1
      injection hb' with hb'
      injection hb' with hb'
      subst hb'
      obtain ⟨b', hb', -, -, c2⟩ := HX.out.1 _ _ g2
      injection hb' with hb'
      injection hb' with hb'
      subst hb'
      have d0 := (hT.cell (p := ⟨b, i * 3, none⟩) hb (fun f => f)).trans c0
      have d1 := (hT.cell (p := ⟨b, i * 3 + 1, none⟩) hb (fun f => f)).trans c1
      have d2 := (hT.cell (p := ⟨b, i * 3 + 2, none⟩) hb (fun f => f)).trans c2
      have d3 := Nat.lt_of_lt_of_le hb hT.size
      have hsz := HX.out.2.2.1 c (List.mem_of_getElem? hc)
      obtain ⟨r, hr⟩ : ∃ r, opE vs (bs c.nm) c.n = r := ⟨_, rfl⟩
      have HR := Lib.hid (And.intro hr (And.intro hc (And.intro hno hT)))
      have hm := HX.out.2.1.touch hT (fun f => f)
      have HM := Lib.hid (And.intro hm ((hT.block _ (blk_lt HX.out.2.2.2) (fun f => f)).trans HX.out.2.2.2))
      have HC2 := Lib.hid (fun w (h : NM w vb m vs) hE => hr ▸ HC.out w (bs c.nm) c.add c.n h hE hsz)
      clear hm hr hc hno hT c0 c1 c2 g0 g1 g2 hsz
      obtain ⟨nm, o, x⟩ := c
      simp only at d0 d1 d2
      by_cases hr0 : r = 0
      · subst hr0
        go_wp2_with (go_at_fn 87; refine (HC2.out _ (HM.out.1.touch (F := NoB) (by repeat (first | with_reducible exact Touch.refl NoB _ | with_reducible refine Touch.drew ?_ | with_reducible refine Touch.alloc ?_ _)) (fun f => f)) ((Touch.block (F := NoB) (by repeat (first | with_reducible exact Touch.refl NoB _ | with_reducible refine Touch.drew ?_ | with_reducible refine Touch.alloc ?_ _)) _ (blk_lt HM.out.2) (fun f => f)).trans HM.out.2)).mono ?_; rintro r w2 ⟨rfl, hT2⟩; have HT2 := Lib.hid (Touch.same (F := NoB) (a := wr) (by repeat (first | with_reducible exact Touch.refl NoB _ | with_reducible refine Touch.drew ?_ | with_reducible refine Touch.alloc ?_ _)) hT2); clear hT2)
        go_roundw
        case rel => exact ⟨i + 1, by have := HN.out; omega, by go_num, fun j y hj hy => by
          by_cases e : j = i
          · subst e; rw [HR.out.2.1] at hy; injection hy with hy; subst hy; exact HR.out.1
          · exact HR.out.2.2.1 j y (by omega) hy, HR.out.2.2.2.same HT2.out⟩
        case measure => simp [intOf]; omega
      · go_wp2_with (go_at_fn 87; refine (HC2.out _ (HM.out.1.touch (F := NoB) (by repeat (first | with_reducible exact Touch.refl NoB _ | with_reducible refine Touch.drew ?_ | with_reducible refine Touch.alloc ?_ _)) (fun f => f)) ((Touch.block (F := NoB) (by repeat (first | with_reducible exact Touch.refl NoB _ | with_reducible refine Touch.drew ?_ | with_reducible refine Touch.alloc ?_ _)) _ (blk_lt HM.out.2) (fun f => f)).trans HM.out.2)).mono ?_; rintro r w2 ⟨rfl, hT2⟩; have HT2 := Lib.hid (Touch.same (F := NoB) (a := wr) (by repeat (first | with_reducible exact Touch.refl NoB _ | with_reducible refine Touch.drew ?_ | with_reducible refine Touch.alloc ?_ _)) hT2); clear hT2)
        go_ret
        exact ⟨by rw [firstE_at HR.out.2.1 (by rw [HR.out.1]; exact hr0) HR.out.2.2.1, HR.out.1]; rfl, HR.out.2.2.2.same HT2.out⟩
    · have hin : i = n := by have := HN.out; omega
      subst hin
      have HR := Lib.hid (And.intro hno hT)
      clear hno hT
      go_wp2
      go_ret
      exact ⟨by rw [firstE_zero (fun j c hc => HR.out.1 j c (by have := (List.getElem?_eq_some_iff.1 hc).1; have := HN.out; omega) hc)]; rfl, HR.out.2⟩
end Go.Proofs.YtnphaaahdlkmhaaGreat
end
/-
  Package check's first over a domain's vars. Conditions: those that each theorem names.
-/
section
namespace Go.Proofs.YtnphaaahdlkmhaaGreat
open Go.ChangeShapes Go.WideShapes Go.ChangeAt Go.RowKit Go.Maps
set_option maxRecDepth 100000
set_option maxHeartbeats 4000000

/-- The vars' first error; and the names that have been seen by then. -/
def varsE (ks : List KyG) : List ByteArray → List Va → Int × List ByteArray
  | vs, [] => (0, vs)
  | vs, v :: l => if varE ks vs (bs v.nm) v.lo v.hi = 0 then varsE ks (addNm vs (bs v.nm)) l else (varE ks vs (bs v.nm) v.lo v.hi, addNm vs (bs v.nm))
theorem drop13_at {α : Type} : ∀ {l : List α} {i : Nat} {c : α}, l[i]? = some c → l.drop i = c :: l.drop (i + 1)
  | [], i, c, h => by simp at h
  | x :: l, 0, c, h => by simp at h; subst h; rfl
  | x :: l, i + 1, c, h => by show l.drop i = c :: l.drop (i + 1); exact drop13_at (by simpa using h)
def FvRel (ks : List KyG) (vs : List ByteArray) (vb m : Nat) (l : List Va) (w : World) (v : Value) (wr : World) : Prop := ∃ (i : Nat) (us : List ByteArray), i ≤ l.length ∧ v = .int .i64 i ∧ varsE ks vs l = varsE ks us (l.drop i) ∧ NM wr vb (m + i) us ∧ Touch (fun b => b = vb) w wr
theorem first_var {kb vb ab m mk : Nat} {ks : List KyG} {vs : List ByteArray} {Q : Nat → Prop} (l : List Va) (v : Value) (w : World) (hS : SlAt w Q v l.length (vaC l)) (hQ : ∀ b, Q b → b ≠ vb) (hk : KM w kb mk ks) (h : NM w vb m vs) (hne : kb ≠ vb) (hf : ∀ c ∈ l, (bs c.nm).size ≤ 9223372036854775807) (hl : l.length ≤ 1000000) (hm : m ≤ 1000000) :
    Calls Tryz.prog 65 #[v, .func (.func 66) #[elV kb vb ab] #[]] w fun e w' => e = .returned (.int .i64 (varsE ks vs l).1) ∧ (∃ m', m' ≤ m + l.length ∧ NM w' vb m' (varsE ks vs l).2) ∧ Touch (fun b => b = vb) w w' := by
  obtain ⟨A, cap, rfl, hx⟩ := hS
  have HX := Lib.hid (And.intro hx (And.intro hk (And.intro hf hQ)))
  have HH := Lib.hid h
  have HC := Lib.hid (fun w m us (s : ByteArray) (lo hi : Int) (hk : KM w kb mk ks) (h : NM w vb m us) (hm : m < 9223372036854775807) (hs : s.size ≤ 9223372036854775807) => cvar_any (ab := ab) lo hi w hk h hne hm hs)
  have e0 : ∀ (args : Array Value) (w : World), (callFunc 66 args).run Tryz.prog w = .ok (.enter 66 args) w := enters_of Tryz.func66 (by kernel_rfl) rfl
  clear hx hk h hf hQ
  obtain ⟨n, hn⟩ : ∃ n, l.length = n := ⟨_, rfl⟩
  have HN := Lib.hid hn
  rw [hn]
  rw [hn] at hl
  clear hn
  unfold var13V at HC
  obtain ⟨el, hel⟩ : ∃ el, elV kb vb ab = el := ⟨_, rfl⟩
  rw [hel] at HC ⊢
  clear hel
  go_enter Tryz.func65, Tryz.ntmps65
  go_wp2
  go_loopw [10] (fun v10 wr => FvRel ks vs vb m l w v10 wr) (fun v10 _ => n - (intOf v10).toNat)
  case atStart => exact ⟨0, vs, Nat.zero_le _, rfl, rfl, HH.out, Touch.refl _ _⟩
  case round =>
    obtain ⟨i, us, hi, rfl, hE, hN, hT⟩ := hrel
    by_cases hlt : i < n
    · obtain ⟨c, hc⟩ : ∃ c, l[i]? = some c := ⟨l[i]'(by have := HN.out; omega), List.getElem?_eq_getElem _⟩
      obtain ⟨g0, g1, g2⟩ := vaC_at l i c hc
      obtain ⟨b, rfl, hQ, hb, c0⟩ := HX.out.1 _ _ g0
      obtain ⟨b', hb', -, -, c1⟩ := HX.out.1 _ _ g1
      injection hb' with hb'
      injection hb' with hb'
      subst hb'
      obtain ⟨b', hb', -, -, c2⟩ := HX.out.1 _ _ g2
      injection hb' with hb'
      injection hb' with hb'
      subst hb'
      have hbv := HX.out.2.2.2 b hQ
      have d0 := (hT.cell (p := ⟨b, i * 3, none⟩) hb hbv).trans c0
      have d1 := (hT.cell (p := ⟨b, i * 3 + 1, none⟩) hb hbv).trans c1
      have d2 := (hT.cell (p := ⟨b, i * 3 + 2, none⟩) hb hbv).trans c2
      have d3 := Nat.lt_of_lt_of_le hb hT.size
      have hsz := HX.out.2.2.1 c (List.mem_of_getElem? hc)
      obtain ⟨r, hr⟩ : ∃ r, varE ks us (bs c.nm) c.lo c.hi = r := ⟨_, rfl⟩
      have hE2 : varsE ks vs l = if r = 0 then varsE ks (addNm us (bs c.nm)) (l.drop (i + 1)) else (r, addNm us (bs c.nm)) := by rw [hE, drop13_at hc, ← hr]; rfl
      have HR := Lib.hid (And.intro hE2 hT)
      have HM := Lib.hid (And.intro (HX.out.2.1.touch hT hne) hN)
      have HC2 := Lib.hid (fun w (hk : KM w kb mk ks) (h : NM w vb (m + i) us) => hr ▸ HC.out w (m + i) us (bs c.nm) c.lo c.hi hk h (by omega) hsz)
      clear hr hc hE hE2 hN hT c0 c1 c2 g0 g1 g2 hsz hQ
      obtain ⟨nm, lo, hh⟩ := c
      simp only at d0 d1 d2
      by_cases hr0 : r = 0
      · subst hr0
        go_wp2_with (go_at_fn 66; refine (HC2.out _ (HM.out.1.touch (F := NoB) (by repeat (first | with_reducible exact Touch.refl NoB _ | with_reducible refine Touch.drew ?_ | with_reducible refine Touch.alloc ?_ _)) (fun f => f)) (HM.out.2.touch (F := NoB) (by repeat (first | with_reducible exact Touch.refl NoB _ | with_reducible refine Touch.drew ?_ | with_reducible refine Touch.alloc ?_ _)) (fun f => f))).mono ?_; rintro r w2 ⟨rfl, hN2, hT2⟩; have HT2 := Lib.hid (And.intro hN2 (Touch.same (F := fun b => b = vb) (a := wr) (by repeat (first | with_reducible exact Touch.refl _ _ | with_reducible refine Touch.drew ?_ | with_reducible refine Touch.alloc ?_ _)) hT2)); clear hN2 hT2)
        go_roundw
        case rel => exact ⟨i + 1, _, by have := HN.out; omega, by go_num, HR.out.1.trans (if_pos trivial), HT2.out.1, HR.out.2.same HT2.out.2⟩
        case measure => simp [intOf]; omega
      · go_wp2_with (go_at_fn 66; refine (HC2.out _ (HM.out.1.touch (F := NoB) (by repeat (first | with_reducible exact Touch.refl NoB _ | with_reducible refine Touch.drew ?_ | with_reducible refine Touch.alloc ?_ _)) (fun f => f)) (HM.out.2.touch (F := NoB) (by repeat (first | with_reducible exact Touch.refl NoB _ | with_reducible refine Touch.drew ?_ | with_reducible refine Touch.alloc ?_ _)) (fun f => f))).mono ?_; rintro r w2 ⟨rfl, hN2, hT2⟩; have HT2 := Lib.hid (And.intro hN2 (Touch.same (F := fun b => b = vb) (a := wr) (by repeat (first | with_reducible exact Touch.refl _ _ | with_reducible refine Touch.drew ?_ | with_reducible refine Touch.alloc ?_ _)) hT2)); clear hN2 hT2)
        go_ret
        have hz := HR.out.1.trans (if_neg hr0)
        exact ⟨by rw [hz]; rfl, ⟨m + i + 1, by have := HN.out; omega, by rw [hz]; exact HT2.out.1⟩, HR.out.2.same HT2.out.2⟩
    · have hin : i = n := by have := HN.out; omega
      subst hin
      have hz : varsE ks vs l = (0, us) := by rw [hE, List.drop_of_length_le (by have := HN.out; omega)]; rfl
      have HR := Lib.hid (And.intro hz (And.intro hN hT))
      clear hE hz hN hT
      go_wp2
      go_ret
      exact ⟨by rw [HR.out.1]; rfl, ⟨_, Nat.le_refl _, by rw [HR.out.1]; exact HR.out.2.1⟩, HR.out.2.2⟩
end Go.Proofs.YtnphaaahdlkmhaaGreat
end
