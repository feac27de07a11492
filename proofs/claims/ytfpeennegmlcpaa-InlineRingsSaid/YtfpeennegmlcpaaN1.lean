/-
  A map whose keys are places of lists (a pointer and a length) and whose elements are two numbers, in memory: a look-up, a store. No program is named here. Conditions: those that each theorem names.
-/
import Derived.Test.YtfpeennegmlcpaaIm
import Derived.MapKept
import Derived.Maps.OwnSet
import Derived.Laws.StructEq
namespace Go.Proofs.Ytfpeennegmlcpaa
open Go.RowKit
set_option maxRecDepth 100000
set_option maxHeartbeats 1000000

/-- A list's place: where its first element lies, and its length. -/
def plV (p : Addr × Nat) : Value := .agg #[.pointer (some p.1), .int .i64 (p.2 : Int)]
def szV (s : Nat × Nat) : Value := .agg #[.int .i64 (s.1 : Int), .int .i64 (s.2 : Int)]
abbrev PlL := List ((Addr × Nat) × (Nat × Nat))
/-- A block of cells that is neither frozen nor seen otherwise. -/
def OkB (W : World) (b : Nat) : Prop := ∃ cs t, W.heap[b]? = some (.cells cs t (0, 0))
theorem OkB.touch {w w' : World} {b : Nat} {F : Nat → Prop} (h : OkB w b) (t : Touch F w w') (hf : ¬ F b) : OkB w' b := by
  obtain ⟨cs, ty, hb⟩ := h
  exact ⟨cs, ty, (t.block b (blk_lt hb) hf).trans hb⟩
/-- What the laws want of the types. -/
structure PlK (P : Program) (t k e : TypeId) : Prop where
  ut : P.underlying t = some (.map k e)
  eq : ∀ (W : World) (p q : Addr × Nat), OkB W p.1.block → OkB W q.1.block → (Op.equal k (plV p) (plV q)).run P W = .ok (decide (p = q)) W
  ck : ∀ (W : World) (b : Bool) (p : Addr × Nat), (Instr.checkKey b 10000 k (plV p)).run P W = .ok () W
  uk : ∃ fs, P.underlying k = some (.struct fs)
  zr : ∀ W : World, (zeroValue e).run P W = .ok (szV (0, 0)) W
def idxP (p : Addr × Nat) : PlL → Nat → Option (Nat × Value)
  | [], _ => none
  | x :: l, i => if p = x.1 then some (i, szV x.2) else idxP p l (i + 1)
def getP : PlL → Addr × Nat → Option (Nat × Nat)
  | [], _ => none
  | x :: l, p => if p = x.1 then some x.2 else getP l p
def setP : PlL → Addr × Nat → Nat × Nat → PlL
  | [], p, s => [(p, s)]
  | x :: l, p, s => if p = x.1 then (x.1, s) :: l else x :: setP l p s
theorem getP_setP : ∀ (l : PlL) (p q : Addr × Nat) (s : Nat × Nat), getP (setP l p s) q = if q = p then some s else getP l q
  | [], p, q, s => by simp [setP, getP]
  | x :: l, p, q, s => by
    unfold setP
    by_cases h : p = x.1
    · rw [if_pos h]
      subst h
      unfold getP
      by_cases h2 : q = x.1
      · rw [if_pos h2, if_pos h2]
      · rw [if_neg h2, if_neg h2, if_neg h2]
    · rw [if_neg h]
      unfold getP
      rw [getP_setP l p q s]
      by_cases h2 : q = x.1
      · rw [if_pos h2, if_pos h2, if_neg (by intro h3; exact h (h3.symm.trans h2))]
      · rw [if_neg h2, if_neg h2]
/-- The entries bear l. -/
def EntP (es : List MapEntry) (l : PlL) : Prop := es.map (fun e => (e.key, e.val)) = l.map fun x => (plV x.1, szV x.2)
section
variable {P : Program} {t k e : TypeId} (K : PlK P t k e)
include K
theorem run_findA (W : World) (p : Addr × Nat) (hp : OkB W p.1.block) : ∀ (es : List MapEntry) (l : PlL) (i : Nat), (∀ x ∈ l, OkB W x.1.1.block) → EntP es l → (Instr.findAsking k (plV p) es i).run P W = .ok (idxP p l i) W
  | [], [], i, _, _ => rfl
  | [], x :: l, i, _, h => by simp [EntP] at h
  | y :: es, [], i, _, h => by simp [EntP] at h
  | y :: es, x :: l, i, hx, h => by
    simp only [EntP, List.map_cons, List.cons.injEq, Prod.mk.injEq] at h
    obtain ⟨⟨h1, h2⟩, h3⟩ := h
    have ih := run_findA W p hp es l (i + 1) (fun z hz => hx z (List.mem_cons_of_mem _ hz)) h3
    unfold Instr.findAsking idxP
    rw [h1, h2]
    simp only [Sem.run_bind, K.eq W p x.1 hp (hx x (by simp)), Result.andThen]
    by_cases hpx : p = x.1
    · simp [hpx]
    · simp only [hpx, decide_false, Bool.false_eq_true, if_false]
      exact ih
theorem run_findP (W : World) (p : Addr × Nat) (hp : OkB W p.1.block) (es : List MapEntry) (l : PlL) (hx : ∀ x ∈ l, OkB W x.1.1.block) (h : EntP es l) : (Instr.findKey k (plV p) es).run P W = .ok (idxP p l 0) W := by
  obtain ⟨fs, hu⟩ := K.uk
  cases es with
  | nil =>
    cases l with
    | nil => simp [Instr.findKey, run_underlying hu, Instr.findNow, Result.andThen, idxP]
    | cons x l => simp [EntP] at h
  | cons y es =>
    have hn : Instr.findNow (.struct fs) (plV p) (y :: es) 0 = none := by
      cases l with
      | nil => simp [EntP] at h
      | cons x l => simp [Instr.findNow, Instr.sameNow]
    have ha := run_findA K W p hp (y :: es) l 0 hx h
    simp [Instr.findKey, run_underlying hu, hn, Result.andThen, ha]
end
theorem idxP_get (p : Addr × Nat) : ∀ (l : PlL) (i : Nat), (idxP p l i).map (·.2) = (getP l p).map szV
  | [], i => rfl
  | x :: l, i => by
    unfold idxP getP
    by_cases h : p = x.1
    · rw [if_pos h, if_pos h]; rfl
    · rw [if_neg h, if_neg h]; exact idxP_get p l (i + 1)
/-- The map at block mb bears l. -/
def PlM (w : World) (mb : Nat) (l : PlL) : Prop := (∀ x ∈ l, OkB w x.1.1.block) ∧ ∃ es clock, w.heap[mb]? = some (.map es clock) ∧ EntP es.toList l
theorem PlM.touch {w w' : World} {mb : Nat} {l : PlL} {F : Nat → Prop} (h : PlM w mb l) (t : Touch F w w') (hf : ¬ F mb) (hl : ∀ x ∈ l, ¬ F x.1.1.block) : PlM w' mb l := by
  obtain ⟨h0, es, clock, hb, r⟩ := h
  exact ⟨fun x hx => (h0 x hx).touch t (hl x hx), es, clock, (t.block mb (blk_lt hb) hf).trans hb, r⟩
theorem PlM.lt {w : World} {mb : Nat} {l : PlL} (h : PlM w mb l) : mb < w.heap.size := by obtain ⟨-, es, clock, hb, -⟩ := h; exact blk_lt hb
theorem PlM.made (w : World) : PlM (w.alloc (.map #[] 0)) w.heap.size [] := ⟨fun x hx => absurd hx (by simp), #[], 0, by show (w.heap.push (Obj.map #[] 0))[w.heap.size]? = _; exact Array.getElem?_push_size, rfl⟩
theorem PlM.look {P : Program} {t k e : TypeId} (K : PlK P t k e) {w : World} {mb : Nat} {l : PlL} (h : PlM w mb l) (p : Addr × Nat) (hp : OkB w p.1.block) :
    (Instr.lookup t (.map (some mb)) (plV p) true).run P w = .ok (.tuple #[szV ((getP l p).getD (0, 0)), .bool (getP l p).isSome]) w := by
  obtain ⟨h0, es, clock, hb, he⟩ := h
  have hf := run_findP K w p hp es.toList l h0 he
  have hg := idxP_get p l 0
  cases hi : idxP p l 0 with
  | none =>
    rw [hi] at hf hg
    have hg2 : getP l p = none := by cases hx : getP l p with | none => rfl | some v => rw [hx] at hg; cases hg
    rw [hg2]
    simp [Instr.lookup, run_underlying K.ut, MapKept.run_getObj_map hb, K.ck, hf, K.zr, Result.andThen]
  | some r =>
    obtain ⟨i, v⟩ := r
    rw [hi] at hf hg
    cases hx : getP l p with
    | none => rw [hx] at hg; cases hg
    | some s =>
      rw [hx] at hg
      simp only [Option.map_some, Option.some.injEq] at hg
      subst hg
      simp [Instr.lookup, run_underlying K.ut, MapKept.run_getObj_map hb, K.ck, hf, Result.andThen]
theorem same_pl (p : Addr × Nat) : Instr.sameBits 10000 (plV p) (plV p) = true := by
  have h : ∀ n : Nat, Instr.sameBits (n + 2) (plV p) (plV p) = true := fun n => by simp [Instr.sameBits, plV]
  exact h 9998
theorem run_staysP (P : Program) (W : World) (p : Addr × Nat) : (Instr.keyThatStays (plV p) (plV p)).run P W = .ok (plV p) W := by
  unfold Instr.keyThatStays
  rw [if_pos (same_pl p)]
  rfl
theorem idxP_none {p : Addr × Nat} {s : Nat × Nat} : ∀ {l : PlL} {i : Nat}, idxP p l i = none → setP l p s = l ++ [(p, s)]
  | [], i, _ => rfl
  | x :: l, i, h => by
    unfold idxP at h
    by_cases hp : p = x.1
    · rw [if_pos hp] at h; cases h
    · rw [if_neg hp] at h
      unfold setP
      rw [if_neg hp, idxP_none h]
      rfl
theorem idxP_some {p : Addr × Nat} {s : Nat × Nat} : ∀ {l : PlL} {i j : Nat} {v : Value}, idxP p l i = some (j, v) → i ≤ j ∧ (∃ u, l[j - i]? = some (p, u)) ∧ setP l p s = l.modify (j - i) fun x => (x.1, s)
  | [], i, j, v, h => by cases h
  | x :: l, i, j, v, h => by
    unfold idxP at h
    by_cases hp : p = x.1
    · rw [if_pos hp] at h
      injection h with h
      injection h with h1 h2
      subst h1
      refine ⟨Nat.le_refl _, ⟨x.2, by rw [Nat.sub_self, hp]; rfl⟩, ?_⟩
      rw [Nat.sub_self]
      unfold setP
      rw [if_pos hp]
      rfl
    · rw [if_neg hp] at h
      obtain ⟨h1, ⟨u, hu⟩, h2⟩ := idxP_some (s := s) h
      refine ⟨by omega, ⟨u, ?_⟩, ?_⟩
      · rw [show j - i = (j - (i + 1)) + 1 by omega, List.getElem?_cons_succ]; exact hu
      · unfold setP
        rw [if_neg hp, h2, show j - i = (j - (i + 1)) + 1 by omega]
        rfl
theorem setP_ok {w : World} {p : Addr × Nat} {s : Nat × Nat} (hp : OkB w p.1.block) : ∀ {l : PlL}, (∀ x ∈ l, OkB w x.1.1.block) → ∀ x ∈ setP l p s, OkB w x.1.1.block
  | [], _, x, hx => by simp [setP] at hx; subst hx; exact hp
  | y :: l, h, x, hx => by
    unfold setP at hx
    by_cases e : p = y.1
    · rw [if_pos e] at hx
      rcases List.mem_cons.1 hx with rfl | hx
      · exact h y (by simp)
      · exact h x (List.mem_cons_of_mem _ hx)
    · rw [if_neg e] at hx
      rcases List.mem_cons.1 hx with rfl | hx
      · exact h x (by simp)
      · exact setP_ok hp (fun z hz => h z (List.mem_cons_of_mem _ hz)) x hx
theorem PlM.store {P : Program} {t k e : TypeId} (K : PlK P t k e) {w : World} {mb : Nat} {l : PlL} (h : PlM w mb l) (p : Addr × Nat) (hp : OkB w p.1.block) (s : Nat × Nat) :
    ∃ w', (Instr.mapUpdate t (.map (some mb)) (plV p) (szV s)).run P w = .ok () w' ∧ PlM w' mb (setP l p s) ∧ Touch (fun b => b = mb) w w' := by
  obtain ⟨h0, es, clock, hb, he⟩ := h
  have hf := run_findP K w p hp es.toList l h0 he
  have hlt := blk_lt hb
  have hokb : ∀ (o : Obj) (b : Nat), OkB w b → OkB ({ w with heap := w.heap.setIfInBounds mb o } : World) b := fun o b hob => by
    obtain ⟨cs, ty, h⟩ := hob
    refine ⟨cs, ty, ?_⟩
    show (w.heap.setIfInBounds mb o)[b]? = _
    rw [Array.getElem?_setIfInBounds_ne (fun e => by subst e; rw [hb] at h; cases h)]
    exact h
  have htouch : ∀ o : Obj, Touch (fun b => b = mb) w { w with heap := w.heap.setIfInBounds mb o } := fun o => ⟨rfl, rfl, rfl, by simp, fun k _ hk => by
    show (w.heap.setIfInBounds mb o)[k]? = _
    rw [Array.getElem?_setIfInBounds_ne (fun e => hk e.symm)]⟩
  have hblk : ∀ o : Obj, ({ w with heap := w.heap.setIfInBounds mb o } : World).heap[mb]? = some o := fun o => by
    show (w.heap.setIfInBounds mb o)[mb]? = some o
    rw [Array.getElem?_setIfInBounds_self, if_pos hlt]
  cases hi : idxP p l 0 with
  | none =>
    rw [hi] at hf
    refine ⟨{ w with heap := w.heap.setIfInBounds mb (.map (es.push { key := plV p, val := szV s, born := clock }) (clock + 1)) }, ?_, ⟨fun x hx => hokb _ _ (setP_ok hp h0 x hx), _, _, hblk _, ?_⟩, htouch _⟩
    · simp [Instr.mapUpdate, run_underlying K.ut, MapKept.run_getObj_map hb, K.ck, hf, MapKept.run_setObj_map _ hb, Result.andThen]
    · rw [idxP_none hi]
      unfold EntP at he ⊢
      simp [he]
  | some r =>
    obtain ⟨j, v⟩ := r
    rw [hi] at hf
    obtain ⟨-, ⟨u, hu⟩, hset⟩ := idxP_some (s := s) hi
    rw [Nat.sub_zero] at hu hset
    have hej : ∃ y, es[j]? = some y ∧ y.key = plV p := by
      have h1 : (es.toList.map fun e => (e.key, e.val))[j]? = (l.map fun x => (plV x.1, szV x.2))[j]? := by rw [he]
      rw [List.getElem?_map, List.getElem?_map, hu] at h1
      cases hy : es.toList[j]? with
      | none => rw [hy] at h1; cases h1
      | some y =>
        rw [hy] at h1
        simp only [Option.map_some, Option.some.injEq, Prod.mk.injEq] at h1
        exact ⟨y, by rw [← Array.getElem?_toList]; exact hy, h1.1⟩
    obtain ⟨y, hy, hyk⟩ := hej
    refine ⟨{ w with heap := w.heap.setIfInBounds mb (.map (es.modify j fun e => { e with key := plV p, val := szV s }) clock) }, ?_, ⟨fun x hx => hokb _ _ (setP_ok hp h0 x hx), _, _, hblk _, ?_⟩, htouch _⟩
    · have hst := run_staysP P w p
      simp [Instr.mapUpdate, run_underlying K.ut, MapKept.run_getObj_map hb, K.ck, hf, hy, hyk, hst, MapKept.run_setObj_map _ hb, Result.andThen]
    · rw [hset]
      unfold EntP at he ⊢
      apply List.ext_getElem?
      intro i
      have h1 : (es.toList.map fun e => (e.key, e.val))[i]? = (l.map fun x => (plV x.1, szV x.2))[i]? := by rw [he]
      rw [List.getElem?_map, List.getElem?_map] at h1
      rw [List.getElem?_map, List.getElem?_map, Array.toList_modify, List.getElem?_modify, List.getElem?_modify]
      by_cases e : j = i
      · subst e
        rw [hu] at h1 ⊢
        rw [show es.toList[j]? = some y by rw [Array.getElem?_toList]; exact hy]
        simp
      · simp only [e, if_false]
        cases hx : es.toList[i]? with
        | none => rw [hx] at h1; simpa using h1
        | some z => rw [hx] at h1; simpa using h1
end Go.Proofs.Ytfpeennegmlcpaa
