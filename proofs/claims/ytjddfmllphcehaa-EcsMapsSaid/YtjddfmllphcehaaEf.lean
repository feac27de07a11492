/-
  What the tables of a Store and its map keep: an entity stands in one table, and the map tells which.
-/
import Derived.Test.YtjddfmllphcehaaEe
import Derived.Test.YtjddfmllphcehaaTf
namespace Go.Proofs.Ytjddfmllphcehaa
open Go.ChangeShapes Go.WideShapes Go.ChangeAt Go.RowKit Go.Maps
set_option maxRecDepth 100000
set_option maxHeartbeats 400000

/-- p stands in a table. -/
def InT (ts : List Ar) (p : Int × Int) : Prop := ∃ (j : Nat) (r : Ar), ts[j]? = some r ∧ p ∈ r.b.ids
structure TInv (cnt : Nat) (ts : List Ar) (H : DataW Unit) (nh : Nat) : Prop where
  ok : ∀ (j : Nat) (r : Ar), ts[j]? = some r → IdsOk r.b.ids ∧ MapIs r.D r.b.ids ∧ (∀ c, c < 16 → bitB r.b.m c = true → (r.b.cf c).length = r.b.ids.length) ∧ r.b.ids.length ≤ cnt ∧ r.n ≤ cnt
  yes : ∀ (j : Nat) (r : Ar) (i x : Int), ts[j]? = some r → (i, x) ∈ r.b.ids → Maps.has H (klI i x) = true ∧ H.atKey (klI i x) (.lit (.int .i64 (-1))) = .lit (.int .i64 r.a)
  no : ∀ i x : Int, I64 i → I64 x → ¬ InT ts (i, x) → Maps.has H (klI i x) = false
  one : ∀ (j k : Nat) (r q : Ar) (p : Int × Int), ts[j]? = some r → ts[k]? = some q → p ∈ r.b.ids → p ∈ q.b.ids → j = k
  nhc : nh ≤ cnt

theorem mem_row {l : List (Int × Int)} {p : Int × Int} (h : p ∈ l) : ∃ k : Nat, l[k]? = some p := by
  obtain ⟨k, hk, e⟩ := List.getElem_of_mem h
  exact ⟨k, by rw [List.getElem?_eq_getElem hk, e]⟩
theorem row_mem {l : List (Int × Int)} {p : Int × Int} {k : Nat} (h : l[k]? = some p) : p ∈ l := List.mem_of_getElem? h
theorem rowOf_not {l : List (Int × Int)} {p : Int × Int} (h : p ∉ l) : rowOf l p = none := rowOf_none_of (fun _ e => h (row_mem e))

section
variable {cnt nh : Nat} {ts ts' : List Ar} {H : DataW Unit}
theorem TInv.more (h : TInv cnt ts H nh) {c : Nat} (hc : cnt ≤ c) : TInv c ts H nh :=
  ⟨fun j r hr => by obtain ⟨a, b, d, e, f⟩ := h.ok j r hr; exact ⟨a, b, d, by omega, by omega⟩, h.yes, h.no, h.one, by have := h.nhc; omega⟩
theorem TInv.key (h : TInv cnt ts H nh) {i x : Int} (hp : InT ts (i, x)) : I64 i ∧ I64 x := by
  obtain ⟨j, r, hr, hm⟩ := hp
  obtain ⟨k, hk⟩ := mem_row hm
  exact (h.ok j r hr).1.wf k i x hk

theorem open_get {m : Int} {j : Nat} {r : Ar} (ho : OpenT ts m ts' j r) {k : Nat} {q : Ar} (hq : ts'[k]? = some q) : (∃ k' : Nat, ts[k']? = some q ∧ ((hasL (am ts) m = true ∧ k = k') ∨ (hasL (am ts) m = false ∧ ((k < j ∧ k' = k) ∨ (j < k ∧ k' = k - 1))))) ∨ (hasL (am ts) m = false ∧ k = j ∧ q = r) := by
  obtain ⟨hj, _, ⟨h1, rfl⟩ | ⟨h1, rfl, _⟩⟩ := ho
  · exact .inl ⟨k, hq, .inl ⟨h1, rfl⟩⟩
  · have hk : j ≤ ts.length := by have := posL_le (am ts) m; rw [am_length] at this; omega
    rcases insT_some hk hq with ⟨e1, e2⟩ | ⟨e1, e2⟩ | ⟨e1, e2⟩
    · exact .inr ⟨h1, e1, e2⟩
    · exact .inl ⟨k, e2, .inr ⟨h1, .inl ⟨e1, rfl⟩⟩⟩
    · exact .inl ⟨k - 1, e2, .inr ⟨h1, .inr ⟨e1, rfl⟩⟩⟩
theorem open_has {m : Int} {j : Nat} {r : Ar} (ho : OpenT ts m ts' j r) {k : Nat} {q : Ar} (hq : ts[k]? = some q) : ∃ k' : Nat, ts'[k']? = some q := by
  obtain ⟨hj, _, ⟨h1, rfl⟩ | ⟨h1, rfl, _⟩⟩ := ho
  · exact ⟨k, hq⟩
  · have hk : j ≤ ts.length := by have := posL_le (am ts) m; rw [am_length] at this; omega
    rcases Nat.lt_or_ge k j with e | e
    · exact ⟨k, by rw [insT_lt _ hk e]; exact hq⟩
    · exact ⟨k + 1, by rw [insT_gt _ hk (by omega)]; exact hq⟩
theorem open_in {m : Int} {j : Nat} {r : Ar} (ho : OpenT ts m ts' j r) (p : Int × Int) : InT ts' p ↔ InT ts p := by
  constructor
  · rintro ⟨k, q, hq, hp⟩
    rcases open_get ho hq with ⟨k', e, _⟩ | ⟨h1, _, rfl⟩
    · exact ⟨k', q, e, hp⟩
    · obtain ⟨_, _, ⟨h2, _⟩ | ⟨_, _, _, _, e⟩⟩ := ho
      · rw [h1] at h2; cases h2
      · rw [e] at hp; simp at hp
  · rintro ⟨k, q, hq, hp⟩
    obtain ⟨k', e⟩ := open_has ho hq
    exact ⟨k', q, e, hp⟩
theorem TInv.opened (h : TInv cnt ts H nh) {m : Int} {j : Nat} {r : Ar} (ho : OpenT ts m ts' j r) : TInv cnt ts' H nh := by
  have hnew : hasL (am ts) m = false → r.D = .map [] ∧ r.n = 0 ∧ r.b = ⟨m, [], fun _ => []⟩ := by
    intro h1
    obtain ⟨_, _, ⟨h2, _⟩ | ⟨_, _, a, b, c⟩⟩ := ho
    · rw [h1] at h2; cases h2
    · exact ⟨a, b, c⟩
  refine ⟨fun k q hq => ?_, fun k q i x hq hp => ?_, fun i x hi hx hn => h.no i x hi hx (fun e => hn ((open_in ho _).2 e)), fun k l q s p hq hs hp hp2 => ?_, h.nhc⟩
  · rcases open_get ho hq with ⟨k', e, _⟩ | ⟨h1, _, rfl⟩
    · exact h.ok k' q e
    · obtain ⟨a, b, c⟩ := hnew h1
      rw [a, b, c]
      exact ⟨idsok_nil, mapis_nil, fun _ _ _ => rfl, Nat.zero_le _, Nat.zero_le _⟩
  · rcases open_get ho hq with ⟨k', e, _⟩ | ⟨h1, _, rfl⟩
    · exact h.yes k' q i x e hp
    · rw [(hnew h1).2.2] at hp; simp at hp
  · rcases open_get ho hq with ⟨k', e, c1⟩ | ⟨h1, _, rfl⟩
    · rcases open_get ho hs with ⟨l', e2, c2⟩ | ⟨h1, _, rfl⟩
      · have := h.one k' l' q s p e e2 hp hp2
        subst this
        rcases c1 with ⟨_, a⟩ | ⟨a1, a⟩ <;> rcases c2 with ⟨b1, b⟩ | ⟨b1, b⟩
        · omega
        · simp_all
        · simp_all
        · omega
      · rw [(hnew h1).2.2] at hp2; simp at hp2
    · rw [(hnew h1).2.2] at hp; simp at hp

theorem entered_in {j : Nat} {r r' : Ar} {p : Int × Int} (hr : ts[j]? = some r) (hi : r'.b.ids = r.b.ids ++ [p]) (q : Int × Int) : InT (ts.set j r') q ↔ InT ts q ∨ q = p := by
  have hjl := (List.getElem?_eq_some_iff.1 hr).1
  constructor
  · rintro ⟨k, s, hs, hq⟩
    rcases set_get hs with ⟨rfl, rfl, _⟩ | ⟨_, hs⟩
    · rw [hi, List.mem_append, List.mem_singleton] at hq
      rcases hq with hq | hq
      · exact .inl ⟨k, r, hr, hq⟩
      · exact .inr hq
    · exact .inl ⟨k, s, hs, hq⟩
  · rintro (⟨k, s, hs, hq⟩ | rfl)
    · by_cases e : k = j
      · subst e
        rw [hr] at hs
        injection hs with hs
        subst hs
        exact ⟨k, r', List.getElem?_set_self hjl, by rw [hi]; exact List.mem_append_left _ hq⟩
      · exact ⟨k, s, by rw [List.getElem?_set_ne (fun x => e x.symm)]; exact hs, hq⟩
    · exact ⟨j, r', List.getElem?_set_self hjl, by rw [hi]; simp⟩

/-- One entity more in table j. -/
theorem TInv.entered (h : TInv cnt ts H nh) {j : Nat} {r : Ar} (hr : ts[j]? = some r) {i x : Int} (hi : I64 i) (hx : I64 x) (hn : ¬ InT ts (i, x)) (hD : IsMap r.D) (hH : IsMap H) (cl : List (Int × Int)) :
    TInv (cnt + 1) (ts.set j ⟨r.a, r.t, r.D.put (klI i x) (.lit (.int .i64 r.b.ids.length)), r.n + 1, ⟨r.b.m, r.b.ids ++ [(i, x)], newCol r.b.m r.b.cf cl⟩⟩) (H.put (klI i x) (.lit (.int .i64 r.a))) (nh + 1) := by
  have hno : ∀ (k : Nat) (q : Ar), ts[k]? = some q → (i, x) ∉ q.b.ids := fun k q hq hp => hn ⟨k, q, hq, hp⟩
  obtain ⟨o1, o2, o3, o4, o5⟩ := h.ok j r hr
  have hro : rowOf r.b.ids (i, x) = none := rowOf_not (hno j r hr)
  refine ⟨fun k q hq => ?_, fun k q i' x' hq hp => ?_, fun i' x' hi' hx' hn' => ?_, fun k l q s p hq hs hp hp2 => ?_, by have := h.nhc; omega⟩
  · rcases set_get hq with ⟨_, rfl, _⟩ | ⟨_, hq⟩
    · refine ⟨o1.snoc hi hx hro, o2.snoc o1 hD hi hx hro, fun c hc hb => ?_, by simp; omega, by show r.n + 1 ≤ cnt + 1; omega⟩
      show (newCol r.b.m r.b.cf cl c).length = (r.b.ids ++ [(i, x)]).length
      unfold newCol
      rw [if_pos ⟨hc, hb⟩]
      simp [o3 c hc hb]
    · obtain ⟨a, b, c, d, e⟩ := h.ok k q hq
      exact ⟨a, b, c, by omega, by omega⟩
  · have hkey : (i', x') ≠ (i, x) → InT ts (i', x') → klI i' x' ≠ klI i x := fun hne hin e => by
      obtain ⟨w1, w2⟩ := h.key hin
      exact hne (kl_inj w1 w2 hi hx e)
    rcases set_get hq with ⟨_, rfl, _⟩ | ⟨_, hq⟩
    · rw [List.mem_append, List.mem_singleton] at hp
      rcases hp with hp | hp
      · have hne : (i', x') ≠ (i, x) := fun e => hno j r hr (e ▸ hp)
        have hk := hkey hne ⟨j, r, hr, hp⟩
        rw [has_put_other hk, atKey_put_other hk]
        exact h.yes j r i' x' hr hp
      · injection hp with e1 e2
        subst e1 e2
        exact ⟨has_put_same hH (kl_key hi hx) _, atKey_put_same hH (kl_key hi hx) _ _⟩
    · have hne : (i', x') ≠ (i, x) := fun e => hno k q hq (e ▸ hp)
      have hk := hkey hne ⟨k, q, hq, hp⟩
      rw [has_put_other hk, atKey_put_other hk]
      exact h.yes k q i' x' hq hp
  · rw [entered_in hr rfl] at hn'
    have hne : (i', x') ≠ (i, x) := fun e => hn' (.inr e)
    have hk : klI i' x' ≠ klI i x := fun e => hne (kl_inj hi' hx' hi hx e)
    rw [has_put_other hk]
    exact h.no i' x' hi' hx' (fun e => hn' (.inl e))
  · rcases set_get hq with ⟨e1, rfl, _⟩ | ⟨e1, hq⟩ <;> rcases set_get hs with ⟨e2, rfl, _⟩ | ⟨e2, hs⟩
    · omega
    · rw [List.mem_append, List.mem_singleton] at hp
      rcases hp with hp | rfl
      · have := h.one j l r s p hr hs hp hp2; omega
      · exact absurd hp2 (hno l s hs)
    · rw [List.mem_append, List.mem_singleton] at hp2
      rcases hp2 with hp2 | rfl
      · have := h.one k j q r p hq hr hp hp2; omega
      · exact absurd hp (hno k q hq)
    · exact h.one k l q s p hq hs hp hp2

/-- An entity is gone from table j. -/
theorem cut_mem {l : List (Int × Int)} (ho : IdsOk l) {k : Nat} {p : Int × Int} (hp : l[k]? = some p) (q : Int × Int) : q ∈ cutAt (0, 0) l k ↔ q ∈ l ∧ q ≠ p := by
  have hkl := (List.getElem?_eq_some_iff.1 hp).1
  constructor
  · intro hq
    obtain ⟨j, hj⟩ := mem_row hq
    obtain ⟨h1, ⟨rfl, h2⟩ | ⟨h2, h3⟩⟩ := cut_some hkl hj
    · exact ⟨row_mem h2, fun e => by subst e; have := ho.once _ _ _ hp h2; omega⟩
    · exact ⟨row_mem h3, fun e => by subst e; exact h2 (ho.once _ _ _ h3 hp)⟩
  · rintro ⟨hq, hne⟩
    obtain ⟨j, hj⟩ := mem_row hq
    have hjl := (List.getElem?_eq_some_iff.1 hj).1
    have hjk : j ≠ k := fun e => hne (by rw [e, hp] at hj; injection hj with hj; exact hj.symm)
    rcases Nat.lt_or_ge j (l.length - 1) with e | e
    · exact row_mem (k := j) (by rw [cut_get _ _ hkl e, if_neg hjk]; exact hj)
    · exact row_mem (k := k) (by rw [cut_get _ _ hkl (by omega), if_pos rfl, show l.length - 1 = j from by omega]; exact hj)
theorem left_in {j : Nat} {r r' : Ar} {p : Int × Int} {k : Nat} (h : TInv cnt ts H nh) (hr : ts[j]? = some r) (hp : r.b.ids[k]? = some p) (hi : r'.b.ids = cutAt (0, 0) r.b.ids k) (q : Int × Int) : InT (ts.set j r') q ↔ InT ts q ∧ q ≠ p := by
  have hjl := (List.getElem?_eq_some_iff.1 hr).1
  have hc := cut_mem (h.ok j r hr).1 hp q
  constructor
  · rintro ⟨l, s, hs, hq⟩
    rcases set_get hs with ⟨rfl, rfl, _⟩ | ⟨e, hs⟩
    · rw [hi, hc] at hq
      exact ⟨⟨l, r, hr, hq.1⟩, hq.2⟩
    · exact ⟨⟨l, s, hs, hq⟩, fun e2 => by subst e2; exact e (h.one l j s r _ hs hr hq (row_mem hp))⟩
  · rintro ⟨⟨l, s, hs, hq⟩, hne⟩
    by_cases e : l = j
    · subst e
      rw [hr] at hs
      injection hs with hs
      subst hs
      exact ⟨l, r', List.getElem?_set_self hjl, by rw [hi, hc]; exact ⟨hq, hne⟩⟩
    · exact ⟨l, s, by rw [List.getElem?_set_ne (fun x => e x.symm)]; exact hs, hq⟩
theorem TInv.left (h : TInv cnt ts H nh) {j k : Nat} {r : Ar} (hr : ts[j]? = some r) {i x i1 x1 : Int} (hp : r.b.ids[k]? = some (i, x)) (h9 : r.b.ids[r.b.ids.length - 1]? = some (i1, x1)) (hD : IsMap r.D) :
    TInv (cnt + 1) (ts.set j ⟨r.a, r.t, (r.D.put (klI i1 x1) (.lit (.int .i64 k))).del (klI i x), r.n + 1, ⟨r.b.m, cutAt (0, 0) r.b.ids k, remCol r.b.m r.b.cf k 16⟩⟩) (H.del (klI i x)) nh := by
  obtain ⟨o1, o2, o3, o4, o5⟩ := h.ok j r hr
  have hkl := (List.getElem?_eq_some_iff.1 hp).1
  have hin : InT ts (i, x) := ⟨j, r, hr, row_mem hp⟩
  obtain ⟨hi, hx⟩ := h.key hin
  have hq : ∀ q, q ∈ cutAt (0, 0) r.b.ids k ↔ q ∈ r.b.ids ∧ q ≠ (i, x) := cut_mem o1 hp
  refine ⟨fun l q hq2 => ?_, fun l q i' x' hq2 hp2 => ?_, fun i' x' hi' hx' hn' => ?_, fun l l2 q s p hq2 hs hp2 hp3 => ?_, by have := h.nhc; omega⟩
  · rcases set_get hq2 with ⟨_, rfl, _⟩ | ⟨_, hq2⟩
    · refine ⟨o1.cut hkl, o2.cut o1 hD hkl hp h9, fun c hc hb => ?_, by rw [cutAt_length]; omega, by show r.n + 1 ≤ cnt + 1; omega⟩
      show (remCol r.b.m r.b.cf k 16 c).length = (cutAt (0, 0) r.b.ids k).length
      unfold remCol
      rw [if_pos ⟨hc, hb⟩, cutAt_length, cutAt_length, o3 c hc hb]
    · obtain ⟨a, b, c, d, e⟩ := h.ok l q hq2
      exact ⟨a, b, c, by omega, by omega⟩
  · have hkey : (i', x') ≠ (i, x) → InT ts (i', x') → klI i' x' ≠ klI i x := fun hne hin e => by
      obtain ⟨w1, w2⟩ := h.key hin
      exact hne (kl_inj w1 w2 hi hx e)
    rcases set_get hq2 with ⟨_, rfl, _⟩ | ⟨hl, hq2⟩
    · have hp4 := (hq _).1 hp2
      have hk := hkey hp4.2 ⟨j, r, hr, hp4.1⟩
      rw [has_del_other hk, atKey_del_other hk]
      exact h.yes j r i' x' hr hp4.1
    · have hne : (i', x') ≠ (i, x) := fun e => hl (h.one l j q r _ hq2 hr hp2 (e ▸ row_mem hp))
      have hk := hkey hne ⟨l, q, hq2, hp2⟩
      rw [has_del_other hk, atKey_del_other hk]
      exact h.yes l q i' x' hq2 hp2
  · rw [left_in h hr hp rfl] at hn'
    by_cases e : (i', x') = (i, x)
    · injection e with e1 e2
      subst e1 e2
      exact has_del_same
    · have hk : klI i' x' ≠ klI i x := fun e2 => e (kl_inj hi' hx' hi hx e2)
      rw [has_del_other hk]
      exact h.no i' x' hi' hx' (fun e2 => hn' ⟨e2, e⟩)
  · rcases set_get hq2 with ⟨e1, rfl, _⟩ | ⟨e1, hq2⟩ <;> rcases set_get hs with ⟨e2, rfl, _⟩ | ⟨e2, hs⟩
    · omega
    · have := h.one j l2 r s p hr hs ((hq _).1 hp2).1 hp3; omega
    · have := h.one l j q r p hq2 hr hp2 ((hq _).1 hp3).1; omega
    · exact h.one l l2 q s p hq2 hs hp2 hp3
end
end Go.Proofs.Ytjddfmllphcehaa
