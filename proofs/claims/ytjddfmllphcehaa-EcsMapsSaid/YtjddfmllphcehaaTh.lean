/-
  What the map of a Table tells, behind Add and behind Remove: said of lists and of what a map reads as.
-/
import Derived.Test.YtjddfmllphcehaaTg
namespace Go.Proofs.Ytjddfmllphcehaa
open Go.ChangeShapes Go.WideShapes Go.ChangeAt Go.RowKit Go.Maps

/-- Entities of 64 bits, none of them twice. -/
structure IdsOk (ids : List (Int × Int)) : Prop where
  wf : ∀ (r : Nat) (i x : Int), ids[r]? = some (i, x) → I64 i ∧ I64 x
  once : Once ids
theorem idsok_nil : IdsOk [] := ⟨fun r i x h => by simp at h, fun a b p h => by simp at h⟩

theorem snoc_get {α : Type} {l : List α} {a x : α} {j : Nat} (h : (l ++ [a])[j]? = some x) : (j < l.length ∧ l[j]? = some x) ∨ (j = l.length ∧ x = a) := by
  by_cases hj : j < l.length
  · rw [List.getElem?_append_left hj] at h
    exact .inl ⟨hj, h⟩
  · rw [List.getElem?_append_right (by omega)] at h
    have h1 := (List.getElem?_eq_some_iff.1 h).1
    simp at h1
    have e : j = l.length := by omega
    subst e
    simp at h
    exact .inr ⟨rfl, h.symm⟩

theorem IdsOk.snoc {ids : List (Int × Int)} (h : IdsOk ids) {i x : Int} (hi : I64 i) (hx : I64 x) (hr : rowOf ids (i, x) = none) : IdsOk (ids ++ [(i, x)]) := by
  constructor
  · intro r i' x' hr'
    rcases snoc_get hr' with ⟨_, e⟩ | ⟨_, e⟩
    · exact h.wf r i' x' e
    · injection e with e1 e2
      subst e1 e2
      exact ⟨hi, hx⟩
  · intro a b p ha hb
    rcases snoc_get ha with ⟨la, ea⟩ | ⟨la, ea⟩ <;> rcases snoc_get hb with ⟨lb, eb⟩ | ⟨lb, eb⟩
    · exact h.once a b p ea eb
    · subst eb
      exact absurd ea (rowOf_none hr a)
    · subst ea
      exact absurd eb (rowOf_none hr b)
    · omega

theorem MapIs.snoc {D : DataW Unit} {ids : List (Int × Int)} (h : MapIs D ids) (ho : IdsOk ids) (hm : IsMap D) {i x : Int} (hi : I64 i) (hx : I64 x) (hr : rowOf ids (i, x) = none) : MapIs (D.put (klI i x) (.lit (.int .i64 ids.length))) (ids ++ [(i, x)]) := by
  constructor
  · intro r i' x' hr'
    rcases snoc_get hr' with ⟨lr, e⟩ | ⟨lr, e⟩
    · obtain ⟨w1, w2⟩ := ho.wf r i' x' e
      have hne : klI i' x' ≠ klI i x := fun ek => rowOf_none hr r (by rw [← kl_inj w1 w2 hi hx ek]; exact e)
      rw [has_put_other hne, atKey_put_other hne]
      exact h.yes r i' x' e
    · injection e with e1 e2
      subst e1 e2 lr
      exact ⟨has_put_same hm (kl_key hi hx) _, atKey_put_same hm (kl_key hi hx) _ _⟩
  · intro i' x' w1 w2 hno
    have hne : klI i' x' ≠ klI i x := fun ek => by
      have e := kl_inj w1 w2 hi hx ek
      refine hno ids.length ?_
      rw [List.getElem?_append_right (Nat.le_refl _), e]
      simp
    rw [has_put_other hne]
    refine h.no i' x' w1 w2 (fun r e => hno r ?_)
    rw [List.getElem?_append_left (List.getElem?_eq_some_iff.1 e).1]
    exact e

theorem cut_get {α : Type} (d : α) (l : List α) {r j : Nat} (hr : r < l.length) (hj : j < l.length - 1) : (cutAt d l r)[j]? = if j = r then l[l.length - 1]? else l[j]? := by
  unfold cutAt
  rw [List.getElem?_take, if_pos hj]
  by_cases e : j = r
  · subst e
    rw [List.getElem?_set_self hr, if_pos rfl, List.getD_eq_getElem?_getD, List.getElem?_eq_getElem (by omega)]
    rfl
  · rw [List.getElem?_set_ne (fun x => e x.symm), if_neg e]
theorem cut_some {α : Type} {d : α} {l : List α} {r j : Nat} {x : α} (hr : r < l.length) (h : (cutAt d l r)[j]? = some x) : j < l.length - 1 ∧ ((j = r ∧ l[l.length - 1]? = some x) ∨ (j ≠ r ∧ l[j]? = some x)) := by
  have hj : j < l.length - 1 := by
    have := (List.getElem?_eq_some_iff.1 h).1
    rwa [cutAt_length] at this
  refine ⟨hj, ?_⟩
  rw [cut_get d l hr hj] at h
  by_cases e : j = r
  · rw [if_pos e] at h
    exact .inl ⟨e, h⟩
  · rw [if_neg e] at h
    exact .inr ⟨e, h⟩

theorem IdsOk.cut {ids : List (Int × Int)} (h : IdsOk ids) {r : Nat} (hr : r < ids.length) : IdsOk (cutAt (0, 0) ids r) := by
  constructor
  · intro j i x hj
    rcases cut_some hr hj with ⟨_, ⟨_, e⟩ | ⟨_, e⟩⟩
    · exact h.wf _ i x e
    · exact h.wf _ i x e
  · intro a b p ha hb
    obtain ⟨la, xa⟩ := cut_some hr ha
    obtain ⟨lb, xb⟩ := cut_some hr hb
    rcases xa with ⟨ea, fa⟩ | ⟨ea, fa⟩ <;> rcases xb with ⟨eb, fb⟩ | ⟨eb, fb⟩
    · omega
    · have := h.once _ _ p fa fb; omega
    · have := h.once _ _ p fa fb; omega
    · exact h.once _ _ p fa fb

theorem MapIs.cut {D : DataW Unit} {ids : List (Int × Int)} (h : MapIs D ids) (ho : IdsOk ids) (hm : IsMap D) {r : Nat} {i0 x0 i1 x1 : Int} (hr : r < ids.length) (h0 : ids[r]? = some (i0, x0)) (h9 : ids[ids.length - 1]? = some (i1, x1)) :
    MapIs ((D.put (klI i1 x1) (.lit (.int .i64 r))).del (klI i0 x0)) (cutAt (0, 0) ids r) := by
  obtain ⟨v0, v1⟩ := ho.wf _ _ _ h0
  obtain ⟨v2, v3⟩ := ho.wf _ _ _ h9
  constructor
  · intro j i x hj
    obtain ⟨lj, xj⟩ := cut_some hr hj
    rcases xj with ⟨ej, fj⟩ | ⟨ej, fj⟩
    · subst ej
      rw [h9] at fj
      injection fj with fj
      injection fj with e1 e2
      subst e1 e2
      have hne : klI i1 x1 ≠ klI i0 x0 := fun ek => by
        have e := kl_inj v2 v3 v0 v1 ek
        rw [e] at h9
        have := ho.once _ _ _ h0 h9
        omega
      rw [has_del_other hne, atKey_del_other hne]
      exact ⟨has_put_same hm (kl_key v2 v3) _, atKey_put_same hm (kl_key v2 v3) _ _⟩
    · obtain ⟨w1, w2⟩ := ho.wf _ _ _ fj
      have hne0 : klI i x ≠ klI i0 x0 := fun ek => by
        have e := kl_inj w1 w2 v0 v1 ek
        rw [e] at fj
        have := ho.once _ _ _ fj h0
        omega
      have hne1 : klI i x ≠ klI i1 x1 := fun ek => by
        have e := kl_inj w1 w2 v2 v3 ek
        rw [e] at fj
        have := ho.once _ _ _ fj h9
        omega
      rw [has_del_other hne0, atKey_del_other hne0, has_put_other hne1, atKey_put_other hne1]
      exact h.yes j i x fj
  · intro i x w1 w2 hno
    by_cases e0 : klI i x = klI i0 x0
    · rw [e0]
      exact has_del_same
    · rw [has_del_other e0]
      by_cases e1 : klI i x = klI i1 x1
      · exfalso
        have e := kl_inj w1 w2 v2 v3 e1
        have hrl : r ≠ ids.length - 1 := fun er => by
          rw [← er, h0] at h9
          injection h9 with h9
          have e2 := e.trans h9.symm
          injection e2 with a b
          exact e0 (by rw [a, b])
        refine hno r ?_
        rw [cut_get _ _ hr (by omega), if_pos rfl, h9, e]
      · rw [has_put_other e1]
        refine h.no i x w1 w2 (fun j ej => ?_)
        have hj := (List.getElem?_eq_some_iff.1 ej).1
        have hjr : j ≠ r := fun er => by
          rw [er, h0] at ej
          injection ej with ej
          injection ej with a b
          exact e0 (by rw [a, b])
        have hjl : j ≠ ids.length - 1 := fun er => by
          rw [er, h9] at ej
          injection ej with ej
          injection ej with a b
          exact e1 (by rw [a, b])
        refine hno j ?_
        rw [cut_get _ _ hr (by omega), if_neg hjr]
        exact ej

theorem TO.isMap {w : World} {F : Nat → Prop} {g : Nat} {m : Int} {ids : List (Int × Int)} {cf : Nat → List Int} {D : DataW Unit} {n : Nat} (h : TO w F g m ids cf D n) : IsMap D := by
  obtain ⟨_, _, _, _, h⟩ := h
  exact h.mp.isMap
end Go.Proofs.Ytjddfmllphcehaa
