/-
  What package tree's act does with a parser in memory. Conditions: numbers among the tokens are such.
-/
import Derived.Test.YtnphaaahdlkmhaaGreatZs8
import Derived.Deep.DeepCutAuto
import Derived.Deep.RegionWith
section
namespace Go.Proofs.YtnphaaahdlkmhaaGreat
open Go.ChangeShapes Go.WideShapes Go.ChangeAt Go.RowKit
set_option maxRecDepth 100000
set_option maxHeartbeats 4000000

theorem B4.goR {w w' : World} {T : TypeId} {q : Nat} {a b c d v : Value} (h : B4 w T q a b c d) (t : Touch (fun b => v.ownBlock = some b) w w') (hne : v.ownBlock ≠ some q) : B4 w' T q a b c d := (t.block q (blk_lt h) hne).trans h
theorem row_base {w : World} {base size n : Nat} {e : TypeId} {v : Value} {xs : List Value} (h : w.ownsRow base e size v n xs) : ∀ k, v.ownBlock = some k → base ≤ k := fun k hk => by
  rcases h.2 with ⟨rfl, _⟩ | ⟨g, cap, cur, rfl, hb, _⟩
  · simp [Value.ownBlock] at hk
  · have : g = k := by simpa [Value.ownBlock] using hk
    omega
end Go.Proofs.YtnphaaahdlkmhaaGreat
end
/-
  A domain's and a program's loops over lists, round by round; lists of a program's finished parts in memory. No condition beyond those that each theorem names.
-/
section
namespace Go.Proofs.YtnphaaahdlkmhaaGreat
open Go.ChangeShapes Go.WideShapes Go.ChangeAt Go.RowKit
set_option maxRecDepth 100000

/-! ### places go on -/
/-! ### what is finished -/
/-- A row's cells lie in blocks of Q: to be read, no longer to be appended to. -/
def SlAt (w : World) (Q : Nat → Prop) (v : Value) (n : Nat) (xs : List Value) : Prop :=
  ∃ A c, v = .slice A n c ∧ ∀ (j : Nat) (x : Value), xs[j]? = some x → ∃ b, A = some ⟨b, 0, none⟩ ∧ Q b ∧ b < w.heap.size ∧ w.cell? ⟨b, j, none⟩ = some x
theorem SlAt.touch {w w' : World} {Q F : Nat → Prop} {v : Value} {n : Nat} {xs : List Value} (h : SlAt w Q v n xs) (t : Touch F w w') (hq : ∀ b, Q b → ¬ F b) : SlAt w' Q v n xs := by
  obtain ⟨A, c, rfl, hx⟩ := h
  refine ⟨A, c, rfl, fun j x hj => ?_⟩
  obtain ⟨b, rfl, h1, h2, h3⟩ := hx j x hj
  exact ⟨b, rfl, h1, Nat.lt_of_lt_of_le h2 t.size, (t.cell (p := ⟨b, j, none⟩) h2 (hq b h1)).trans h3⟩
theorem SlAt.via {w : World} {Q R : Nat → Prop} {v : Value} {n : Nat} {xs : List Value} (h : SlAt w Q v n xs) (hq : ∀ b, Q b → b < w.heap.size → R b) : SlAt w R v n xs := by
  obtain ⟨A, c, rfl, hx⟩ := h
  refine ⟨A, c, rfl, fun j x hj => ?_⟩
  obtain ⟨b, rfl, h1, h2, h3⟩ := hx j x hj
  exact ⟨b, rfl, hq b h1 h2, h2, h3⟩
theorem slat_of {w : World} {base size n : Nat} {e : TypeId} {v : Value} {xs : List Value} (h : w.ownsRow base e size v n xs) : SlAt w (fun b => base ≤ b) v n xs := by
  have hb := row_base h
  rcases h.2 with ⟨rfl, h0⟩ | ⟨g, cap, cur, rfl, h1, hh, hc, hm, hs, ht⟩
  · refine ⟨none, 0, by rw [h0], fun j x hj => ?_⟩
    have : xs = [] := List.eq_nil_of_length_eq_zero (by rw [h.1, h0]; simp)
    rw [this] at hj
    simp at hj
  · refine ⟨some ⟨g, 0, none⟩, cap, rfl, fun j x hj => ⟨g, rfl, h1, blk_lt hh, ?_⟩⟩
    rw [cell_of_row w g j _ _ _ hh]
    rw [← ht] at hj
    rw [List.getElem?_take] at hj
    split at hj
    · simpa using hj
    · cases hj
/-- An act's cells, its rows finished. -/
def AcAt (w : World) (Q : Nat → Prop) (a : Ac) (l : List Value) : Prop := ∃ v1 v2, l = [.string (bs a.nm), .int .i64 (a.cost : Int), v1, v2] ∧ SlAt w Q v1 a.need.length (cnC a.need) ∧ SlAt w Q v2 a.make.length (mkC a.make)
theorem AcAt.touch {w w' : World} {Q F : Nat → Prop} {a : Ac} {l : List Value} (h : AcAt w Q a l) (t : Touch F w w') (hq : ∀ b, Q b → ¬ F b) : AcAt w' Q a l := by
  obtain ⟨v1, v2, rfl, h1, h2⟩ := h
  exact ⟨v1, v2, rfl, h1.touch t hq, h2.touch t hq⟩
theorem AcAt.via {w : World} {Q R : Nat → Prop} {a : Ac} {l : List Value} (h : AcAt w Q a l) (hq : ∀ b, Q b → b < w.heap.size → R b) : AcAt w R a l := by
  obtain ⟨v1, v2, rfl, h1, h2⟩ := h
  exact ⟨v1, v2, rfl, h1.via hq, h2.via hq⟩
/-- A list's cells, part by part. -/
inductive LsAt {α : Type} (P : α → List Value → Prop) : List α → List Value → Prop where
  | nil : LsAt P [] []
  | snoc {l : List α} {a : α} {xs ys : List Value} (h : LsAt P l xs) (ha : P a ys) : LsAt P (l ++ [a]) (xs ++ ys)
theorem LsAt.mono {α : Type} {P P' : α → List Value → Prop} {l : List α} {xs : List Value} (h : LsAt P l xs) (hp : ∀ a ys, P a ys → P' a ys) : LsAt P' l xs := by
  induction h with
  | nil => exact .nil
  | snoc _ ha ih => exact .snoc ih (hp _ _ ha)
end Go.Proofs.YtnphaaahdlkmhaaGreat
end
/-
  What stands in memory while package tree's domain reads. No condition beyond those that each theorem names.
-/
section
namespace Go.Proofs.YtnphaaahdlkmhaaGreat
open Go.ChangeShapes Go.WideShapes Go.ChangeAt Go.RowKit
set_option maxRecDepth 100000
set_option maxHeartbeats 4000000

theorem info_var' : ∃ i0, Tryz.prog.info? 92 = some i0 ∧ i0.zero = some (.agg #[.string ⟨#[]⟩, .int .i64 0, .int .i64 0]) ∧ i0.size = 3 ∧ i0.bytes = 32 := by
  have h : (Tryz.prog.info? 92).map (fun i => (i.zero, i.size, i.bytes)) = some (some (.agg #[.string ⟨#[]⟩, .int .i64 0, .int .i64 0]), 3, 32) := by kernel_rfl
  cases hi : Tryz.prog.info? 92 with
  | none => rw [hi] at h; cases h
  | some i0 =>
    rw [hi] at h
    simp only [Option.map_some, Option.some.injEq, Prod.mk.injEq] at h
    exact ⟨i0, rfl, h.1, h.2.1, h.2.2⟩
theorem info_act' : ∃ i0, Tryz.prog.info? 95 = some i0 ∧ i0.zero = some (.agg #[.string ⟨#[]⟩, .int .i64 0, .slice none 0 0, .slice none 0 0]) ∧ i0.size = 4 ∧ i0.bytes = 72 := by
  have h : (Tryz.prog.info? 95).map (fun i => (i.zero, i.size, i.bytes)) = some (some (.agg #[.string ⟨#[]⟩, .int .i64 0, .slice none 0 0, .slice none 0 0]), 4, 72) := by kernel_rfl
  cases hi : Tryz.prog.info? 95 with
  | none => rw [hi] at h; cases h
  | some i0 =>
    rw [hi] at h
    simp only [Option.map_some, Option.some.injEq, Prod.mk.injEq] at h
    exact ⟨i0, rfl, h.1, h.2.1, h.2.2⟩
/-- A domain that is being read, at block q3; Q: the blocks of its finished acts. -/
structure DM (w wr : World) (gp q3 : Nat) (Q : Nat → Prop) (nm : ByteArray) (a : List Va) (b : List Ac) (c : List Cn) (vv va vg : Value) (xs : List Value) : Prop where
  t : Touch (AtB gp) w wr
  b2 : B4 wr 71 w.heap.size (.string ⟨#[]⟩) (.slice none 0 0) (.slice none 0 0) (.slice none 0 0)
  b3 : B4 wr 71 q3 (.string nm) vv va vg
  rv : wr.ownsRow w.heap.size 92 3 vv a.length (vaC a)
  ra : wr.ownsRow w.heap.size 95 4 va b.length xs
  ls : LsAt (AcAt wr Q) b xs
  rg : wr.ownsRow w.heap.size 98 3 vg c.length (cnC c)
  hQ : ∀ k, Q k → w.heap.size < k ∧ k < wr.heap.size ∧ k ≠ q3 ∧ vv.ownBlock ≠ some k ∧ va.ownBlock ≠ some k ∧ vg.ownBlock ≠ some k
theorem DM.go {w wr V : World} {gp q3 : Nat} {Q : Nat → Prop} {nm : ByteArray} {a : List Va} {b : List Ac} {c : List Cn} {vv va vg : Value} {xs : List Value} (h : DM w wr gp q3 Q nm a b c vv va vg xs) (t : Touch (AtB gp) wr V) (hgp : gp < w.heap.size) (hsq : w.heap.size < q3) : DM w V gp q3 Q nm a b c vv va vg xs :=
  ⟨h.t.same t, h.b2.go t (by omega), h.b3.go t (by omega), row_go h.rv t hgp, row_go h.ra t hgp, h.ls.mono (fun x ys hx => hx.touch t (fun k hk f => by have := (h.hQ k hk).1; unfold AtB at f; omega)), row_go h.rg t hgp,
    fun k hk => ⟨(h.hQ k hk).1, Nat.lt_of_lt_of_le (h.hQ k hk).2.1 t.size, (h.hQ k hk).2.2⟩⟩
/-- What a call has made new is finished. -/
theorem DM.widen {w wr V : World} {gp q3 : Nat} {Q : Nat → Prop} {nm : ByteArray} {a : List Va} {b : List Ac} {c : List Cn} {vv va vg : Value} {xs : List Value} (h : DM w wr gp q3 Q nm a b c vv va vg xs) (t : Touch (AtB gp) wr V) (hgp : gp < w.heap.size) (hsq : w.heap.size < q3) :
    DM w V gp q3 (fun k => Q k ∨ (wr.heap.size ≤ k ∧ k < V.heap.size)) nm a b c vv va vg xs := by
  have h3 := h.go t hgp hsq
  have hb2 := blk_lt h.b2
  have hb3 := blk_lt h.b3
  refine ⟨h3.t, h3.b2, h3.b3, h3.rv, h3.ra, h3.ls.mono (fun x ys hx => hx.via (fun k hk _ => .inl hk)), h3.rg, fun k hk => ?_⟩
  rcases hk with hk | ⟨h1, h2⟩
  · exact h3.hQ k hk
  · exact ⟨by omega, h2, by omega, fun e => by have := (h.rv.lt k e).2; omega, fun e => by have := (h.ra.lt k e).2; omega, fun e => by have := (h.rg.lt k e).2; omega⟩
section
variable {w w3 wx : World} {gp q3 gd cap : Nat} {Q : Nat → Prop} {nm : ByteArray} {a : List Va} {b : List Ac} {c : List Cn} {vv va vg : Value} {xs : List Value}
theorem DM.addG {v : Cn} (h : DM w w3 gp q3 Q nm a b c vv va vg xs) (hsq : w.heap.size < q3) (TR : Touch (fun b => vg.ownBlock = some b) w3 wx)
    (hown : wx.ownsRow w.heap.size 98 3 (.slice (some ⟨gd, 0, none⟩) (c.length + 1) cap) (c.length + 1) (cnC c ++ [.string (bs v.nm), .int .i64 (v.op : Int), .int .i64 v.n])) (hat : vg.ownBlock = some gd ∨ gd = w3.heap.size + 1) :
    DM w (wx.setCell ⟨q3, 3, none⟩ (.slice (some ⟨gd, 0, none⟩) (c.length + 1) cap)) gp q3 Q nm a b (c ++ [v]) vv va (.slice (some ⟨gd, 0, none⟩) (c.length + 1) cap) xs := by
  have hb2 := h.b2.goR TR (row_ne h.rg h.b2 (by decide))
  have hb3 := h.b3.goR TR (row_ne h.rg h.b3 (by decide))
  have ra := row_touch h.ra TR (fun k hk f => row_row_ne h.rg h.ra (by decide) f hk)
  have rv := row_touch h.rv TR (fun k hk f => row_row_ne h.rg h.rv (by decide) f hk)
  have tS := (Touch.refl (fun b => b = q3) wx).setCell (p := ⟨q3, 3, none⟩) (.inl rfl) (.slice (some ⟨gd, 0, none⟩) (c.length + 1) cap)
  refine ⟨(h.t.trans TR (fun k hk => .inr (row_base h.rg k hk))).setCell (p := ⟨q3, 3, none⟩) (.inr (by simp only; omega)) _, hb2.aside (by omega), hb3.set3 _, row_aside rv (row_ne rv hb3 (by decide)), row_aside ra (row_ne ra hb3 (by decide)), ?_, ?_, fun k hk => ?_⟩
  · exact h.ls.mono (fun x ys hx => (hx.touch TR (fun k hk => (h.hQ k hk).2.2.2.2.2)).touch tS (fun k hk => (h.hQ k hk).2.2.1))
  · rw [List.length_append, cnC_snoc]
    exact row_aside hown (row_ne hown hb3 (by decide))
  · obtain ⟨q1, q2, q3', q4, q5, q6⟩ := h.hQ k hk
    refine ⟨q1, Nat.lt_of_lt_of_le q2 (Nat.le_trans TR.size tS.size), q3', q4, q5, fun e => ?_⟩
    have e1 : gd = k := by simpa [Value.ownBlock] using e
    subst e1
    rcases hat with e | e
    · exact q6 e
    · omega
theorem DM.addA {v : Ac} {ys : List Value} (h : DM w w3 gp q3 Q nm a b c vv va vg xs) (hsq : w.heap.size < q3) (hv : AcAt w3 Q v ys) (TR : Touch (fun b => va.ownBlock = some b) w3 wx)
    (hown : wx.ownsRow w.heap.size 95 4 (.slice (some ⟨gd, 0, none⟩) (b.length + 1) cap) (b.length + 1) (xs ++ ys)) (hat : va.ownBlock = some gd ∨ gd = w3.heap.size + 1) :
    DM w (wx.setCell ⟨q3, 2, none⟩ (.slice (some ⟨gd, 0, none⟩) (b.length + 1) cap)) gp q3 Q nm a (b ++ [v]) c vv (.slice (some ⟨gd, 0, none⟩) (b.length + 1) cap) vg (xs ++ ys) := by
  have hb2 := h.b2.goR TR (row_ne h.ra h.b2 (by decide))
  have hb3 := h.b3.goR TR (row_ne h.ra h.b3 (by decide))
  have rg := row_touch h.rg TR (fun k hk f => row_row_ne h.ra h.rg (by decide) f hk)
  have rv := row_touch h.rv TR (fun k hk f => row_row_ne h.ra h.rv (by decide) f hk)
  have tS := (Touch.refl (fun b => b = q3) wx).setCell (p := ⟨q3, 2, none⟩) (.inl rfl) (.slice (some ⟨gd, 0, none⟩) (b.length + 1) cap)
  refine ⟨(h.t.trans TR (fun k hk => .inr (row_base h.ra k hk))).setCell (p := ⟨q3, 2, none⟩) (.inr (by simp only; omega)) _, hb2.aside (by omega), hb3.set2 _, row_aside rv (row_ne rv hb3 (by decide)), ?_, ?_, row_aside rg (row_ne rg hb3 (by decide)), fun k hk => ?_⟩
  · rw [List.length_append]
    exact row_aside hown (row_ne hown hb3 (by decide))
  · exact (LsAt.snoc h.ls hv).mono (fun x ys hx => (hx.touch TR (fun k hk => (h.hQ k hk).2.2.2.2.1)).touch tS (fun k hk => (h.hQ k hk).2.2.1))
  · obtain ⟨q1, q2, q3', q4, q5, q6⟩ := h.hQ k hk
    refine ⟨q1, Nat.lt_of_lt_of_le q2 (Nat.le_trans TR.size tS.size), q3', q4, fun e => ?_, q6⟩
    have e1 : gd = k := by simpa [Value.ownBlock] using e
    subst e1
    rcases hat with e | e
    · exact q5 e
    · omega
end
/-- A domain's cells, its lists finished. -/
def DmAt (w : World) (Q : Nat → Prop) (d : Dm) (l : List Value) : Prop := ∃ v1 v2 v3 xs, l = [.string (bs d.nm), v1, v2, v3] ∧ SlAt w Q v1 d.vars.length (vaC d.vars) ∧ SlAt w Q v2 d.acts.length xs ∧ LsAt (AcAt w Q) d.acts xs ∧ SlAt w Q v3 d.goal.length (cnC d.goal)
end Go.Proofs.YtnphaaahdlkmhaaGreat
end
/-
  A parser's place stays at or ahead of the last token, which is the end's. Lists alone.
-/
section
namespace Go.Proofs.YtnphaaahdlkmhaaGreat
set_option maxRecDepth 100000

/-- The end's token stands at place L. -/
def EnT (ts : List Tk) (L : Nat) : Prop := ∃ t, ts[L]? = some t ∧ t.kd = 0
section
variable {ts : List Tk} {L : Nat} (hE0 : EnT ts L)
include hE0
theorem sg_nL {k : Nat} {s : Bs} (h : sg ts k s = true) : k ≠ L := by
  intro e
  subst e
  obtain ⟨t, ht, h0⟩ := hE0
  unfold sg at h
  rw [ht] at h
  simp [h0] at h
theorem opk_nL {lv k : Nat} {c : Int} (h : opk ts lv k = some c) : k ≠ L := by
  unfold opk at h
  split at h <;> repeat' split at h
  all_goals first | (cases h; done) | (rename_i h0; exact sg_nL hE0 h0) | skip
theorem prek_nL {k : Nat} {c : Int} (h : prek ts k = some c) : k ≠ L := by
  unfold prek at h
  repeat' split at h
  all_goals first | (cases h; done) | (rename_i h0; exact sg_nL hE0 h0) | skip
theorem num_nL {k n : Nat} (h : numAt ts k = some n) : k ≠ L := by
  intro e
  subst e
  obtain ⟨t, ht, h0⟩ := hE0
  unfold numAt at h
  rw [ht] at h
  simp [h0] at h
theorem nam_nL {k : Nat} {s : Bs} (h : nameAt ts k = some s) : k ≠ L := by
  intro e
  subst e
  obtain ⟨t, ht, h0⟩ := hE0
  unfold nameAt at h
  rw [ht] at h
  simp [h0] at h
theorem nxt_end0 (e : Nat) : (nxt ts L e).kd = 0 := by
  obtain ⟨t, ht, h0⟩ := hE0
  by_cases he : e = 0
  · rw [he, nxt_at ht]; exact h0
  · rw [nxt_bad he]
end
theorem loop_fwL {ts : List Tk} {L : Nat} (hE0 : EnT ts L) {lv : Nat} {sub : Nat → Rs} (hs : ∀ k, k ≤ L → (sub k).fwd L k) : ∀ (f : Nat) (x : Ex) (k k0 : Nat), k0 < k → k ≤ L → (loopL ts lv sub f x k).fwd L k0
  | 0, x, k, k0, h0, h1 => ⟨h0, h1⟩
  | f + 1, x, k, k0, h0, h1 => by
    unfold loopL
    cases ho : opk ts lv k with
    | none => exact ⟨h0, h1⟩
    | some kd =>
      have hlt := opk_nL hE0 ho
      have h2 := hs (k + 1) (by omega)
      simp only
      cases hr : sub (k + 1) with
      | er e j => rw [hr] at h2; exact ⟨by have := h2.1; omega, h2.2⟩
      | ok y j =>
        rw [hr] at h2
        simp only
        have h3 := mk_fwd (n := L) (k := k0) (x := .two kd x y) (j := j) (by have := h2.1; omega) h2.2
        cases hm : mk (.two kd x y) j with
        | er e i => rw [hm] at h3; exact h3
        | ok z i =>
          rw [hm] at h3
          simp only
          split
          · exact h3
          · exact loop_fwL hE0 hs f z i k0 h3.1 h3.2
theorem bin_fwL {ts : List Tk} {L : Nat} (hE0 : EnT ts L) {u : Nat → Rs} (hu : ∀ k, k ≤ L → (u k).fwd L k) : ∀ (j k : Nat), k ≤ L → (binL ts u j k).fwd L k
  | 0, k, h => hu k h
  | j + 1, k, h => by
    unfold binL
    have ih := bin_fwL hE0 hu j
    have h2 := ih k h
    cases hr : binL ts u j k with
    | er e i => rw [hr] at h2; exact h2
    | ok x i => rw [hr] at h2; exact loop_fwL hE0 ih _ x i k h2.1 h2.2
theorem pair_fwL {ts : List Tk} {L : Nat} (hE0 : EnT ts L) {E : Nat → Rs} (hE : ∀ k, k ≤ L → (E k).fwd L k) (kd : Int) (x : Ex) (j k0 : Nat) (h0 : k0 < j) (h1 : j ≤ L) : (pairL ts E kd x j).fwd L k0 := by
  unfold pairL
  split
  · rename_i hc
    have hlt := sg_nL hE0 hc
    have h2 := hE (j + 1) (by omega)
    cases hr : E (j + 1) with
    | er e i => rw [hr] at h2; exact ⟨by have := h2.1; omega, h2.2⟩
    | ok y i =>
      rw [hr] at h2
      simp only
      split
      · rename_i hd
        have := sg_nL hE0 hd
        exact mk_fwd (by have := h2.1; omega) (by have := h2.2; omega)
      · exact ⟨by have := h2.1; omega, h2.2, .inl rfl⟩
  · exact ⟨by omega, h1, .inl rfl⟩
theorem prim_fwL {ts : List Tk} {L : Nat} (hE0 : EnT ts L) {E : Nat → Rs} (hE : ∀ k, k ≤ L → (E k).fwd L k) (k : Nat) (h : k ≤ L) : (primL ts E k).fwd L k := by
  unfold primL
  cases hn : numAt ts k with
  | some n => have := num_nL hE0 hn; exact ⟨by omega, by omega⟩
  | none =>
    simp only
    cases hs : nameAt ts k with
    | some s => have := nam_nL hE0 hs; exact ⟨by omega, by omega⟩
    | none =>
      simp only
      split
      · rename_i h0
        have := sg_nL hE0 h0
        cases hb : nameAt ts (k + 1) with
        | some s => have := nam_nL hE0 hb; exact ⟨by omega, by omega⟩
        | none => exact ⟨by omega, by omega, .inl rfl⟩
      · split
        · rename_i h0; have := sg_nL hE0 h0; exact ⟨by omega, by omega⟩
        · split
          · rename_i h0; have := sg_nL hE0 h0; exact ⟨by omega, by omega⟩
          · split
            · rename_i h0; have := sg_nL hE0 h0; exact ⟨by omega, by omega⟩
            · split
              · rename_i h0; have := sg_nL hE0 h0; exact ⟨by omega, by omega⟩
              · split
                · rename_i h0
                  have := sg_nL hE0 h0
                  have h2 := hE (k + 1) (by omega)
                  cases hr : E (k + 1) with
                  | er e i => rw [hr] at h2; exact ⟨by have := h2.1; omega, h2.2⟩
                  | ok x i =>
                    rw [hr] at h2
                    simp only
                    split
                    · rename_i hc; have := sg_nL hE0 hc; exact ⟨by have := h2.1; omega, by have := h2.2; omega⟩
                    · exact pair_fwL hE0 hE 15 x i k (by have := h2.1; omega) h2.2
                · split
                  · rename_i h0
                    have := sg_nL hE0 h0
                    split
                    · rename_i h1
                      have := sg_nL hE0 h1
                      have h2 := hE (k + 2) (by omega)
                      cases hr : E (k + 2) with
                      | er e i => rw [hr] at h2; exact ⟨by have := h2.1; omega, h2.2⟩
                      | ok x i =>
                        rw [hr] at h2
                        exact pair_fwL hE0 hE 19 x i k (by have := h2.1; omega) h2.2
                    · exact ⟨by omega, by omega, .inl rfl⟩
                  · exact ⟨Nat.le_refl _, h, .inl rfl⟩
theorem una_fwL {ts : List Tk} {L : Nat} (hE0 : EnT ts L) : ∀ (m k : Nat), k ≤ L → (unaL ts m k).fwd L k
  | 0, k, h => ⟨Nat.le_refl _, h, .inr rfl⟩
  | m + 1, k, h => by
    have ih := una_fwL hE0 m
    unfold unaL
    cases hp : prek ts k with
    | some kd =>
      have hlt := prek_nL hE0 hp
      have h2 := ih (k + 1) (by omega)
      simp only
      cases hr : unaL ts m (k + 1) with
      | er e i => rw [hr] at h2; exact ⟨by have := h2.1; omega, h2.2⟩
      | ok x i => rw [hr] at h2; exact mk_fwd (by have := h2.1; omega) h2.2
    | none =>
      simp only
      split
      · rename_i h0
        have := sg_nL hE0 h0
        cases hb : numAt ts (k + 1) with
        | some s => have := num_nL hE0 hb; exact ⟨by omega, by omega⟩
        | none => exact ⟨by omega, by omega, .inl rfl⟩
      · exact prim_fwL hE0 (bin_fwL hE0 ih 5) k h
theorem ful_fwL {ts : List Tk} {L : Nat} (hE0 : EnT ts L) (m j k : Nat) (h : k ≤ L) : (binL ts (unaL ts m) j k).fwd L k := bin_fwL hE0 (una_fwL hE0 m) j k h
section
variable {ts : List Tk} {L : Nat} (hE0 : EnT ts L)
include hE0
theorem par_fwL (k : Nat) (h : k ≤ L) : (parL ts k).fwd L k := by
  have hL : L < ts.length := by obtain ⟨t, ht, _⟩ := hE0; exact (List.getElem?_eq_some_iff.1 ht).1
  unfold parL
  rw [if_pos (by omega)]
  exact ful_fwL hE0 40 5 k h
theorem isS_nL {s : Bs} {σ : St} (h : isS ts s σ = true) : σ.1 ≠ L := by
  intro e
  unfold isS nxS acc at h
  rw [e] at h
  rw [nxt_end0 hE0] at h
  simp at h
theorem stepK_nL {c : Nat} (hc : c ≠ 0) {σ : St} (h : σ.1 ≤ L) : stepK (nxS ts σ) c σ.1 ≤ L := by
  unfold stepK nxS
  split
  · rename_i hk
    have : σ.1 ≠ L := fun e => by rw [e, nxt_end0 hE0] at hk; exact hc hk.symm
    omega
  · exact h
theorem acS_L {s : Bs} {σ : St} (h : σ.1 ≤ L) : (acS ts s σ).1 ≤ L := by
  unfold acS
  simp only
  split
  · rename_i hi; have := isS_nL hE0 hi; omega
  · exact h
theorem exS_L {s : Bs} {σ : St} (h : σ.1 ≤ L) : (exS ts s σ).1 ≤ L := by
  unfold exS
  simp only
  split
  · rename_i hi; have := isS_nL hE0 hi; omega
  · exact h
theorem nuS_L {σ : St} (h : σ.1 ≤ L) : (nuS ts σ).1 ≤ L := stepK_nL hE0 (by decide) h
theorem naS_L {σ : St} (h : σ.1 ≤ L) : (naS ts σ).1 ≤ L := stepK_nL hE0 (by decide) h
theorem eqS_L {σ : St} (h : σ.1 ≤ L) : (eqS ts σ).1 ≤ L := by
  unfold eqS
  split
  · have hf := par_fwL hE0 σ.1 h
    cases hp : parL ts σ.1 with
    | ok y k => rw [hp] at hf; exact hf.2
    | er e k => rw [hp] at hf; exact hf.2.1
  · exact h
end
end Go.Proofs.YtnphaaahdlkmhaaGreat
end
/-
  Nodes and programs over lists: places go on, and stay at or ahead of the end's token. Lists alone.
-/
section
namespace Go.Proofs.YtnphaaahdlkmhaaGreat
set_option maxRecDepth 100000

theorem eqS_ge {ts : List Tk} {σ : St} (h : σ.1 ≤ ts.length) : σ.1 ≤ (eqS ts σ).1 := by
  unfold eqS
  split
  · have hf := ful_fwd ts 40 5 σ.1 h
    rw [← par_bin h] at hf
    cases hp : parL ts σ.1 with
    | ok y k => rw [hp] at hf; exact Nat.le_of_lt hf.1
    | er e k => rw [hp] at hf; exact hf.1
  · exact Nat.le_refl _
section
variable {ts : List Tk} {L : Nat} (hE0 : EnT ts L)
include hE0
end
end Go.Proofs.YtnphaaahdlkmhaaGreat
end
/-
  The document's own sameness of a program's parts, of two that lie apart in memory: conditions. Conditions: those that each theorem names.
-/
section
namespace Go.Proofs.YtnphaaahdlkmhaaGreat
open Go.ChangeShapes Go.WideShapes Go.ChangeAt Go.RowKit
set_option maxRecDepth 100000
set_option maxHeartbeats 4000000

theorem cnC_at : ∀ (l : List Cn) (k : Nat) (c : Cn), l[k]? = some c → (cnC l)[k * 3]? = some (.string (bs c.nm)) ∧ (cnC l)[k * 3 + 1]? = some (.int .i64 (c.op : Int)) ∧ (cnC l)[k * 3 + 2]? = some (.int .i64 c.n)
  | [], k, c, h => by cases h
  | x :: l, 0, c, h => by
    simp only [List.getElem?_cons_zero, Option.some.injEq] at h
    subst h
    simp [cnC]
  | x :: l, k + 1, c, h => by
    rw [List.getElem?_cons_succ] at h
    obtain ⟨a, b, d⟩ := cnC_at l k c h
    have e : cnC (x :: l) = [.string (bs x.nm), .int .i64 (x.op : Int), .int .i64 x.n] ++ cnC l := by simp [cnC]
    have r : ∀ j, (cnC (x :: l))[k * 3 + j + 3]? = (cnC l)[k * 3 + j]? := fun j => by rw [e]; rfl
    refine ⟨?_, ?_, ?_⟩
    · exact (congrArg (fun z => (cnC (x :: l))[z]?) (show (k + 1) * 3 = k * 3 + 0 + 3 by omega)).trans ((r 0).trans a)
    · exact (congrArg (fun z => (cnC (x :: l))[z]?) (show (k + 1) * 3 + 1 = k * 3 + 1 + 3 by omega)).trans ((r 1).trans b)
    · exact (congrArg (fun z => (cnC (x :: l))[z]?) (show (k + 1) * 3 + 2 = k * 3 + 2 + 3 by omega)).trans ((r 2).trans d)
end Go.Proofs.YtnphaaahdlkmhaaGreat
end
