/-
  The document's example of chapter 4, as its statements ask it first; the walk of TableCells.
-/
import Derived.Test.YticekldgjlihmaaM3
import Derived.Test.YticekldgjlihmaaEe
import Derived.Test.YticekldgjlihmaaTg
import Derived.Test.YticekldgjlihmaaM2
import Derived.Laws.BitsAllLaws
namespace Go.Proofs.Yticekldgjlihmaa
open Go.ChangeShapes Go.WideShapes Go.ChangeAt Go.RowKit Go.Maps

theorem mapis_nil : MapIs (.map []) [] := ⟨fun r i x h => by simp at h, fun i x _ _ _ => rfl⟩
theorem i64_zero : I64 0 := i64_mk (by decide) (by decide)
theorem i64_one : I64 1 := i64_mk (by decide) (by decide)

end Go.Proofs.Yticekldgjlihmaa

/-
  What the tables of a Store and its map keep: an entity stands in one table, and the map tells which.
-/
namespace Go.Proofs.Yticekldgjlihmaa
open Go.ChangeShapes Go.WideShapes Go.ChangeAt Go.RowKit Go.Maps
set_option maxRecDepth 100000
set_option maxHeartbeats 400000

/-- p stands in a table. -/
def InT (ts : List Ar) (p : Int × Int) : Prop := ∃ (j : Nat) (r : Ar), ts[j]? = some r ∧ p ∈ r.b.ids
structure TInv (cnt : Nat) (ts : List Ar) (H : DataW Unit) (nh : Nat) : Prop where
  ok : ∀ (j : Nat) (r : Ar), ts[j]? = some r → IdsOk r.b.ids ∧ MapIs r.D r.b.ids ∧ (∀ c, c < 16 → bitB r.b.m c = true → (r.b.cf c).length = r.b.ids.length) ∧ r.b.ids.length ≤ cnt ∧ r.n ≤ cnt
  yes : ∀ (j : Nat) (r : Ar) (i x : Int), ts[j]? = some r → (i, x) ∈ r.b.ids → Maps.has H (klI i x) = true ∧ H.atKey (klI i x) (.lit (.int .i64 (-1))) = .lit (.int .i64 r.a)
  no : ∀ i x : Int, I64 i → I64 x → ¬ InT ts (i, x) → Maps.has H (klI i x) = false
  one : ∀ (j k : Nat) (r q : Ar) (p : Int × Int), ts[j]? = some r → ts[k]? = some q → p ∈ r.b.ids → p ∈ q.b.ids → j = k
  nhc : nh ≤ cnt

theorem mem_row {l : List (Int × Int)} {p : Int × Int} (h : p ∈ l) : ∃ k : Nat, l[k]? = some p := by
  obtain ⟨k, hk, e⟩ := List.getElem_of_mem h
  exact ⟨k, by rw [List.getElem?_eq_getElem hk, e]⟩
theorem row_mem {l : List (Int × Int)} {p : Int × Int} {k : Nat} (h : l[k]? = some p) : p ∈ l := List.mem_of_getElem? h
theorem rowOf_not {l : List (Int × Int)} {p : Int × Int} (h : p ∉ l) : rowOf l p = none := rowOf_none_of (fun _ e => h (row_mem e))

section
variable {cnt nh : Nat} {ts ts' : List Ar} {H : DataW Unit}
theorem TInv.more (h : TInv cnt ts H nh) {c : Nat} (hc : cnt ≤ c) : TInv c ts H nh :=
  ⟨fun j r hr => by obtain ⟨a, b, d, e, f⟩ := h.ok j r hr; exact ⟨a, b, d, by omega, by omega⟩, h.yes, h.no, h.one, by have := h.nhc; omega⟩
theorem TInv.key (h : TInv cnt ts H nh) {i x : Int} (hp : InT ts (i, x)) : I64 i ∧ I64 x := by
  obtain ⟨j, r, hr, hm⟩ := hp
  obtain ⟨k, hk⟩ := mem_row hm
  exact (h.ok j r hr).1.wf k i x hk

theorem open_get {m : Int} {j : Nat} {r : Ar} (ho : OpenT ts m ts' j r) {k : Nat} {q : Ar} (hq : ts'[k]? = some q) : (∃ k' : Nat, ts[k']? = some q ∧ ((hasL (am ts) m = true ∧ k = k') ∨ (hasL (am ts) m = false ∧ ((k < j ∧ k' = k) ∨ (j < k ∧ k' = k - 1))))) ∨ (hasL (am ts) m = false ∧ k = j ∧ q = r) := by
  obtain ⟨hj, _, ⟨h1, rfl⟩ | ⟨h1, rfl, _⟩⟩ := ho
  · exact .inl ⟨k, hq, .inl ⟨h1, rfl⟩⟩
  · have hk : j ≤ ts.length := by have := posL_le (am ts) m; rw [am_length] at this; omega
    rcases insT_some hk hq with ⟨e1, e2⟩ | ⟨e1, e2⟩ | ⟨e1, e2⟩
    · exact .inr ⟨h1, e1, e2⟩
    · exact .inl ⟨k, e2, .inr ⟨h1, .inl ⟨e1, rfl⟩⟩⟩
    · exact .inl ⟨k - 1, e2, .inr ⟨h1, .inr ⟨e1, rfl⟩⟩⟩
theorem open_has {m : Int} {j : Nat} {r : Ar} (ho : OpenT ts m ts' j r) {k : Nat} {q : Ar} (hq : ts[k]? = some q) : ∃ k' : Nat, ts'[k']? = some q := by
  obtain ⟨hj, _, ⟨h1, rfl⟩ | ⟨h1, rfl, _⟩⟩ := ho
  · exact ⟨k, hq⟩
  · have hk : j ≤ ts.length := by have := posL_le (am ts) m; rw [am_length] at this; omega
    rcases Nat.lt_or_ge k j with e | e
    · exact ⟨k, by rw [insT_lt _ hk e]; exact hq⟩
    · exact ⟨k + 1, by rw [insT_gt _ hk (by omega)]; exact hq⟩
theorem open_in {m : Int} {j : Nat} {r : Ar} (ho : OpenT ts m ts' j r) (p : Int × Int) : InT ts' p ↔ InT ts p := by
  constructor
  · rintro ⟨k, q, hq, hp⟩
    rcases open_get ho hq with ⟨k', e, _⟩ | ⟨h1, _, rfl⟩
    · exact ⟨k', q, e, hp⟩
    · obtain ⟨_, _, ⟨h2, _⟩ | ⟨_, _, _, _, e⟩⟩ := ho
      · rw [h1] at h2; cases h2
      · rw [e] at hp; simp at hp
  · rintro ⟨k, q, hq, hp⟩
    obtain ⟨k', e⟩ := open_has ho hq
    exact ⟨k', q, e, hp⟩
theorem TInv.opened (h : TInv cnt ts H nh) {m : Int} {j : Nat} {r : Ar} (ho : OpenT ts m ts' j r) : TInv cnt ts' H nh := by
  have hnew : hasL (am ts) m = false → r.D = .map [] ∧ r.n = 0 ∧ r.b = ⟨m, [], fun _ => []⟩ := by
    intro h1
    obtain ⟨_, _, ⟨h2, _⟩ | ⟨_, _, a, b, c⟩⟩ := ho
    · rw [h1] at h2; cases h2
    · exact ⟨a, b, c⟩
  refine ⟨fun k q hq => ?_, fun k q i x hq hp => ?_, fun i x hi hx hn => h.no i x hi hx (fun e => hn ((open_in ho _).2 e)), fun k l q s p hq hs hp hp2 => ?_, h.nhc⟩
  · rcases open_get ho hq with ⟨k', e, _⟩ | ⟨h1, _, rfl⟩
    · exact h.ok k' q e
    · obtain ⟨a, b, c⟩ := hnew h1
      rw [a, b, c]
      exact ⟨idsok_nil, mapis_nil, fun _ _ _ => rfl, Nat.zero_le _, Nat.zero_le _⟩
  · rcases open_get ho hq with ⟨k', e, _⟩ | ⟨h1, _, rfl⟩
    · exact h.yes k' q i x e hp
    · rw [(hnew h1).2.2] at hp; simp at hp
  · rcases open_get ho hq with ⟨k', e, c1⟩ | ⟨h1, _, rfl⟩
    · rcases open_get ho hs with ⟨l', e2, c2⟩ | ⟨h1, _, rfl⟩
      · have := h.one k' l' q s p e e2 hp hp2
        subst this
        rcases c1 with ⟨_, a⟩ | ⟨a1, a⟩ <;> rcases c2 with ⟨b1, b⟩ | ⟨b1, b⟩
        · omega
        · simp_all
        · simp_all
        · omega
      · rw [(hnew h1).2.2] at hp2; simp at hp2
    · rw [(hnew h1).2.2] at hp; simp at hp

theorem entered_in {j : Nat} {r r' : Ar} {p : Int × Int} (hr : ts[j]? = some r) (hi : r'.b.ids = r.b.ids ++ [p]) (q : Int × Int) : InT (ts.set j r') q ↔ InT ts q ∨ q = p := by
  have hjl := (List.getElem?_eq_some_iff.1 hr).1
  constructor
  · rintro ⟨k, s, hs, hq⟩
    rcases set_get hs with ⟨rfl, rfl, _⟩ | ⟨_, hs⟩
    · rw [hi, List.mem_append, List.mem_singleton] at hq
      rcases hq with hq | hq
      · exact .inl ⟨k, r, hr, hq⟩
      · exact .inr hq
    · exact .inl ⟨k, s, hs, hq⟩
  · rintro (⟨k, s, hs, hq⟩ | rfl)
    · by_cases e : k = j
      · subst e
        rw [hr] at hs
        injection hs with hs
        subst hs
        exact ⟨k, r', List.getElem?_set_self hjl, by rw [hi]; exact List.mem_append_left _ hq⟩
      · exact ⟨k, s, by rw [List.getElem?_set_ne (fun x => e x.symm)]; exact hs, hq⟩
    · exact ⟨j, r', List.getElem?_set_self hjl, by rw [hi]; simp⟩

/-- One entity more in table j. -/
theorem TInv.entered (h : TInv cnt ts H nh) {j : Nat} {r : Ar} (hr : ts[j]? = some r) {i x : Int} (hi : I64 i) (hx : I64 x) (hn : ¬ InT ts (i, x)) (hD : IsMap r.D) (hH : IsMap H) (cl : List (Int × Int)) :
    TInv (cnt + 1) (ts.set j ⟨r.a, r.t, r.D.put (klI i x) (.lit (.int .i64 r.b.ids.length)), r.n + 1, ⟨r.b.m, r.b.ids ++ [(i, x)], newCol r.b.m r.b.cf cl⟩⟩) (H.put (klI i x) (.lit (.int .i64 r.a))) (nh + 1) := by
  have hno : ∀ (k : Nat) (q : Ar), ts[k]? = some q → (i, x) ∉ q.b.ids := fun k q hq hp => hn ⟨k, q, hq, hp⟩
  obtain ⟨o1, o2, o3, o4, o5⟩ := h.ok j r hr
  have hro : rowOf r.b.ids (i, x) = none := rowOf_not (hno j r hr)
  refine ⟨fun k q hq => ?_, fun k q i' x' hq hp => ?_, fun i' x' hi' hx' hn' => ?_, fun k l q s p hq hs hp hp2 => ?_, by have := h.nhc; omega⟩
  · rcases set_get hq with ⟨_, rfl, _⟩ | ⟨_, hq⟩
    · refine ⟨o1.snoc hi hx hro, o2.snoc o1 hD hi hx hro, fun c hc hb => ?_, by simp; omega, by show r.n + 1 ≤ cnt + 1; omega⟩
      show (newCol r.b.m r.b.cf cl c).length = (r.b.ids ++ [(i, x)]).length
      unfold newCol
      rw [if_pos ⟨hc, hb⟩]
      simp [o3 c hc hb]
    · obtain ⟨a, b, c, d, e⟩ := h.ok k q hq
      exact ⟨a, b, c, by omega, by omega⟩
  · have hkey : (i', x') ≠ (i, x) → InT ts (i', x') → klI i' x' ≠ klI i x := fun hne hin e => by
      obtain ⟨w1, w2⟩ := h.key hin
      exact hne (kl_inj w1 w2 hi hx e)
    rcases set_get hq with ⟨_, rfl, _⟩ | ⟨_, hq⟩
    · rw [List.mem_append, List.mem_singleton] at hp
      rcases hp with hp | hp
      · have hne : (i', x') ≠ (i, x) := fun e => hno j r hr (e ▸ hp)
        have hk := hkey hne ⟨j, r, hr, hp⟩
        rw [has_put_other hk, atKey_put_other hk]
        exact h.yes j r i' x' hr hp
      · injection hp with e1 e2
        subst e1 e2
        exact ⟨has_put_same hH (kl_key hi hx) _, atKey_put_same hH (kl_key hi hx) _ _⟩
    · have hne : (i', x') ≠ (i, x) := fun e => hno k q hq (e ▸ hp)
      have hk := hkey hne ⟨k, q, hq, hp⟩
      rw [has_put_other hk, atKey_put_other hk]
      exact h.yes k q i' x' hq hp
  · rw [entered_in hr rfl] at hn'
    have hne : (i', x') ≠ (i, x) := fun e => hn' (.inr e)
    have hk : klI i' x' ≠ klI i x := fun e => hne (kl_inj hi' hx' hi hx e)
    rw [has_put_other hk]
    exact h.no i' x' hi' hx' (fun e => hn' (.inl e))
  · rcases set_get hq with ⟨e1, rfl, _⟩ | ⟨e1, hq⟩ <;> rcases set_get hs with ⟨e2, rfl, _⟩ | ⟨e2, hs⟩
    · omega
    · rw [List.mem_append, List.mem_singleton] at hp
      rcases hp with hp | rfl
      · have := h.one j l r s p hr hs hp hp2; omega
      · exact absurd hp2 (hno l s hs)
    · rw [List.mem_append, List.mem_singleton] at hp2
      rcases hp2 with hp2 | rfl
      · have := h.one k j q r p hq hr hp hp2; omega
      · exact absurd hp (hno k q hq)
    · exact h.one k l q s p hq hs hp hp2

/-- An entity is gone from table j. -/
theorem cut_mem {l : List (Int × Int)} (ho : IdsOk l) {k : Nat} {p : Int × Int} (hp : l[k]? = some p) (q : Int × Int) : q ∈ cutAt (0, 0) l k ↔ q ∈ l ∧ q ≠ p := by
  have hkl := (List.getElem?_eq_some_iff.1 hp).1
  constructor
  · intro hq
    obtain ⟨j, hj⟩ := mem_row hq
    obtain ⟨h1, ⟨rfl, h2⟩ | ⟨h2, h3⟩⟩ := cut_some hkl hj
    · exact ⟨row_mem h2, fun e => by subst e; have := ho.once _ _ _ hp h2; omega⟩
    · exact ⟨row_mem h3, fun e => by subst e; exact h2 (ho.once _ _ _ h3 hp)⟩
  · rintro ⟨hq, hne⟩
    obtain ⟨j, hj⟩ := mem_row hq
    have hjl := (List.getElem?_eq_some_iff.1 hj).1
    have hjk : j ≠ k := fun e => hne (by rw [e, hp] at hj; injection hj with hj; exact hj.symm)
    rcases Nat.lt_or_ge j (l.length - 1) with e | e
    · exact row_mem (k := j) (by rw [cut_get _ _ hkl e, if_neg hjk]; exact hj)
    · exact row_mem (k := k) (by rw [cut_get _ _ hkl (by omega), if_pos rfl, show l.length - 1 = j from by omega]; exact hj)
theorem left_in {j : Nat} {r r' : Ar} {p : Int × Int} {k : Nat} (h : TInv cnt ts H nh) (hr : ts[j]? = some r) (hp : r.b.ids[k]? = some p) (hi : r'.b.ids = cutAt (0, 0) r.b.ids k) (q : Int × Int) : InT (ts.set j r') q ↔ InT ts q ∧ q ≠ p := by
  have hjl := (List.getElem?_eq_some_iff.1 hr).1
  have hc := cut_mem (h.ok j r hr).1 hp q
  constructor
  · rintro ⟨l, s, hs, hq⟩
    rcases set_get hs with ⟨rfl, rfl, _⟩ | ⟨e, hs⟩
    · rw [hi, hc] at hq
      exact ⟨⟨l, r, hr, hq.1⟩, hq.2⟩
    · exact ⟨⟨l, s, hs, hq⟩, fun e2 => by subst e2; exact e (h.one l j s r _ hs hr hq (row_mem hp))⟩
  · rintro ⟨⟨l, s, hs, hq⟩, hne⟩
    by_cases e : l = j
    · subst e
      rw [hr] at hs
      injection hs with hs
      subst hs
      exact ⟨l, r', List.getElem?_set_self hjl, by rw [hi, hc]; exact ⟨hq, hne⟩⟩
    · exact ⟨l, s, by rw [List.getElem?_set_ne (fun x => e x.symm)]; exact hs, hq⟩
theorem TInv.left (h : TInv cnt ts H nh) {j k : Nat} {r : Ar} (hr : ts[j]? = some r) {i x i1 x1 : Int} (hp : r.b.ids[k]? = some (i, x)) (h9 : r.b.ids[r.b.ids.length - 1]? = some (i1, x1)) (hD : IsMap r.D) :
    TInv (cnt + 1) (ts.set j ⟨r.a, r.t, (r.D.put (klI i1 x1) (.lit (.int .i64 k))).del (klI i x), r.n + 1, ⟨r.b.m, cutAt (0, 0) r.b.ids k, remCol r.b.m r.b.cf k 16⟩⟩) (H.del (klI i x)) nh := by
  obtain ⟨o1, o2, o3, o4, o5⟩ := h.ok j r hr
  have hkl := (List.getElem?_eq_some_iff.1 hp).1
  have hin : InT ts (i, x) := ⟨j, r, hr, row_mem hp⟩
  obtain ⟨hi, hx⟩ := h.key hin
  have hq : ∀ q, q ∈ cutAt (0, 0) r.b.ids k ↔ q ∈ r.b.ids ∧ q ≠ (i, x) := cut_mem o1 hp
  refine ⟨fun l q hq2 => ?_, fun l q i' x' hq2 hp2 => ?_, fun i' x' hi' hx' hn' => ?_, fun l l2 q s p hq2 hs hp2 hp3 => ?_, by have := h.nhc; omega⟩
  · rcases set_get hq2 with ⟨_, rfl, _⟩ | ⟨_, hq2⟩
    · refine ⟨o1.cut hkl, o2.cut o1 hD hkl hp h9, fun c hc hb => ?_, by rw [cutAt_length]; omega, by show r.n + 1 ≤ cnt + 1; omega⟩
      show (remCol r.b.m r.b.cf k 16 c).length = (cutAt (0, 0) r.b.ids k).length
      unfold remCol
      rw [if_pos ⟨hc, hb⟩, cutAt_length, cutAt_length, o3 c hc hb]
    · obtain ⟨a, b, c, d, e⟩ := h.ok l q hq2
      exact ⟨a, b, c, by omega, by omega⟩
  · have hkey : (i', x') ≠ (i, x) → InT ts (i', x') → klI i' x' ≠ klI i x := fun hne hin e => by
      obtain ⟨w1, w2⟩ := h.key hin
      exact hne (kl_inj w1 w2 hi hx e)
    rcases set_get hq2 with ⟨_, rfl, _⟩ | ⟨hl, hq2⟩
    · have hp4 := (hq _).1 hp2
      have hk := hkey hp4.2 ⟨j, r, hr, hp4.1⟩
      rw [has_del_other hk, atKey_del_other hk]
      exact h.yes j r i' x' hr hp4.1
    · have hne : (i', x') ≠ (i, x) := fun e => hl (h.one l j q r _ hq2 hr hp2 (e ▸ row_mem hp))
      have hk := hkey hne ⟨l, q, hq2, hp2⟩
      rw [has_del_other hk, atKey_del_other hk]
      exact h.yes l q i' x' hq2 hp2
  · rw [left_in h hr hp rfl] at hn'
    by_cases e : (i', x') = (i, x)
    · injection e with e1 e2
      subst e1 e2
      exact has_del_same
    · have hk : klI i' x' ≠ klI i x := fun e2 => e (kl_inj hi' hx' hi hx e2)
      rw [has_del_other hk]
      exact h.no i' x' hi' hx' (fun e2 => hn' ⟨e2, e⟩)
  · rcases set_get hq2 with ⟨e1, rfl, _⟩ | ⟨e1, hq2⟩ <;> rcases set_get hs with ⟨e2, rfl, _⟩ | ⟨e2, hs⟩
    · omega
    · have := h.one j l2 r s p hr hs ((hq _).1 hp2).1 hp3; omega
    · have := h.one l j q r p hq2 hr hp2 ((hq _).1 hp3).1; omega
    · exact h.one l l2 q s p hq2 hs hp2 hp3
end
end Go.Proofs.Yticekldgjlihmaa

/-
  What enter and leave return, and what they leave in memory.
-/
namespace Go.Proofs.Yticekldgjlihmaa
open Go.ChangeShapes Go.WideShapes Go.ChangeAt Go.RowKit Go.Maps
set_option maxRecDepth 100000
set_option maxHeartbeats 1000000

/-- ts' is ts with p in the table of m, with the values of cl. -/
def EntT (ts : List Ar) (m : Int) (p : Int × Int) (cl : List (Int × Int)) (ts' : List Ar) : Prop :=
  ∃ tm j r D' n', OpenT ts m tm j r ∧ tm[j]? = some r ∧ ts' = tm.set j ⟨r.a, r.t, D', n', ⟨r.b.m, r.b.ids ++ [p], newCol r.b.m r.b.cf cl⟩⟩
def EnterPost (w : World) (φ : Nat → Int) (g : Nat) (room tables : Int) (ps : List (Int × Bool)) (ds : List Int) (ts : List Ar) (bh : Nat) (m i x : Int) (cl : List (Int × Int)) (cnt : Nat) (e : Ending) (w' : World) : Prop :=
  ∃ φ' ts' H' nh' va', e = .returned (.tuple #[]) ∧ SG w' φ' g room tables ps ds ts' H' nh' va' bh ∧ TInv (cnt + 1) ts' H' nh' ∧ EntT ts m (i, x) cl ts' ∧ Touch (fun b => φ b ≠ 0) w w' ∧ ∀ b, φ' b ≠ 0 → φ b ≠ 0 ∨ w.heap.size ≤ b

theorem CellsAt.move {w w' : World} {F G : Nat → Prop} {A : Option Addr} {cl : List (Int × Int)} (h : CellsAt w F A cl) (t : Touch F w w') (hg : ∀ b, b < w.heap.size → G b → F b) : CellsAt w' G A cl := by
  intro j c v hj
  obtain ⟨b, off, e, h1, h2, h3, h4⟩ := h.touch t j c v hj
  obtain ⟨b', off', e', h1', h2', _⟩ := h j c v hj
  rw [e] at e'
  injection e' with e'
  injection e' with e1
  subst e1
  exact ⟨b, off, e, h1, fun x => h2 (hg b h1' x), h3, h4⟩
theorem ownsMap_isMap {w : World} {P : Program} {k : TypeId} {R : Value → Option (DataW Unit × List MemPlace)} {b n : Nat} {D : DataW Unit} (h : w.ownsMap P k R b n D) : IsMap D := by
  obtain ⟨es, clock, _, _, _, rfl⟩ := h
  exact ⟨_, rfl⟩

section
variable {w : World} {φ : Nat → Int} {g : Nat} {room tables : Int} {ps : List (Int × Bool)} {ds : List Int} {ts : List Ar} {H : DataW Unit} {nh : Nat} {va : Value} {bh : Nat}

theorem enter_any {cnt : Nat} (h : SG w φ g room tables ps ds ts H nh va bh) (I : TInv cnt ts H nh) (m i x : Int) (A : Option Addr) (N cap : Nat) (cl : List (Int × Int)) (hm : 0 ≤ m ∧ m < 65536) (hi : I64 i) (hx : I64 x) (hn : ¬ InT ts (i, x)) (hc : cnt ≤ 1000) (hl : ts.length ≤ 1000) (hN : cl.length = N) (hN2 : N ≤ 1000) (hC : CellsAt w (fun b => φ b ≠ 0) A cl) :
    Calls Try.prog 27 #[.pointer (some ⟨g, 0, none⟩), .agg #[.int .i64 i, .int .i64 x], .int .u16 m, .slice A N cap] w (EnterPost w φ g room tables ps ds ts bh m i x cl cnt) := by
  have TW : Touch NoB w (w.alloc (.cells #[.int .i64 i, .int .i64 x] 30)) := (Touch.refl NoB w).alloc _
  have h0 := h.quiet TW
  have HA := Lib.hid (arch_any h0 m hm (by omega))
  have hq0 : φ w.heap.size = 0 := Classical.byContradiction fun e => by have := h.wf _ e; omega
  have hqb : (w.alloc (.cells #[.int .i64 i, .int .i64 x] 30)).heap[w.heap.size]? = some (.cells #[.int .i64 i, .int .i64 x] 30 (0, 0)) := alloc_blk w _ _ rfl
  have H0 := Lib.hid h0
  have HI := Lib.hid I
  have HC := Lib.hid (hC.touch (TW.mono (fun _ e => e.elim)))
  have HQ := Lib.hid (And.intro hq0 hqb)
  have HN := Lib.hid hn
  have HT := Lib.hid TW
  have HNN := Lib.hid hN
  clear h h0 I hC hq0 hqb hn TW hN
  go_enter Try.func27, Try.ntmps27
  go_wp2_with fail
  refine HA.out.mono ?_
  rintro e w1 ⟨φ1, t1, va1, j, r, rfl, h1, hr, hO, hT1, hφ1⟩
  have hq1 : w1.heap[w.heap.size]? = some (.cells #[.int .i64 i, .int .i64 x] 30 (0, 0)) := (hT1.block _ (by simp) (fun e => e HQ.out.1)).trans HQ.out.2
  have hqφ : φ1 w.heap.size = 0 := Classical.byContradiction fun e => by
    rcases hφ1 _ e with a | a
    · exact a HQ.out.1
    · rw [World.size_alloc] at a; omega
  have I1 := HI.out.opened hO
  have hn1 : ¬ InT t1 (i, x) := fun e => HN.out ((open_in hO _).1 e)
  obtain ⟨o1, o2, o3, o4, o5⟩ := I1.ok j r hr
  have hmr := h1.m0 j r hr
  have hTO := (h1.tab j r hr).quiet ((Touch.refl NoB w1).drew)
  have hC1 : CellsAt w1.drew (fun b => φ1 b = 5 + 2 * r.b.m) A cl := (HC.out.move hT1 (fun b hb e => (hφ1 b (by rw [e]; omega)).elim id (fun x => by omega))).touch ((Touch.refl _ w1).drew)
  have HAdd := Lib.hid (tadd_yes r.t r.b.m i x A N cap cl r.b.ids r.b.cf r.D r.n _ w1.drew hTO o2 (fun b hb => ⟨Nat.zero_le _, h1.wf b (by rw [hb]; omega)⟩) hi hx (rowOf_not (fun e => hn1 ⟨j, r, hr, e⟩)) hmr.1 hmr.2 (by omega) (by omega) o3 HNN.out hN2 hC1)
  have hra := (h1.arch j r hr).1
  have hrφ := (h1.arch j r hr).2
  have k1 : w1.cell? ⟨r.a, 1, none⟩ = some (.pointer (some ⟨r.t, 0, none⟩)) := cell_blk hra 1
  have k2 : w1.cell? ⟨w.heap.size, 0, none⟩ = some (.int .i64 i) := cell_blk hq1 0
  have k3 : w1.cell? ⟨w.heap.size, 1, none⟩ = some (.int .i64 x) := cell_blk hq1 1
  have l1 := blk_lt hra
  have l2 := blk_lt hq1
  have H1 := Lib.hid h1
  have HI1 := Lib.hid I1
  have HN1 := Lib.hid hn1
  have HR := Lib.hid hr
  have HO := Lib.hid hO
  have HT1 := Lib.hid hT1
  have Hφ := Lib.hid hφ1
  have HX := Lib.hid (And.intro hq1 (And.intro hqφ (And.intro hra (And.intro hrφ hmr))))
  have HD := Lib.hid hTO.isMap
  clear h1 I1 hn1 hr hO hT1 hφ1 hq1 hqφ hra hrφ hmr hTO hC1 o1 o2 o3 o4 o5
  go_wp2_with fail
  go_region_held3 (fun w' => w'.cell? ⟨r.a, 1, none⟩ = some (.pointer (some ⟨r.t, 0, none⟩)) ∧ w'.cell? ⟨w.heap.size, 0, none⟩ = some (.int .i64 i) ∧ w'.cell? ⟨w.heap.size, 1, none⟩ = some (.int .i64 x)) (first | go_keep | exact ⟨kk1, kk2, kk3⟩)
    (first | (go_at_call 60
              refine HAdd.out.mono ?_
              rintro e w2 ⟨rfl, hA, hT2⟩
              have hq2 := (hT2.block w.heap.size (blk_lt HX.out.1) (fun e => by have := HX.out.2.1; have := HX.out.2.2.2.2; omega)).trans HX.out.1
              have ha2 := (hT2.block r.a (blk_lt HX.out.2.2.1) (fun e => by have := HX.out.2.2.2.1; omega)).trans HX.out.2.2.1
              have kk1 : w2.cell? ⟨r.a, 1, none⟩ = some (.pointer (some ⟨r.t, 0, none⟩)) := cell_blk ha2 1
              have kk2 : w2.cell? ⟨w.heap.size, 0, none⟩ = some (.int .i64 i) := cell_blk hq2 0
              have kk3 : w2.cell? ⟨w.heap.size, 1, none⟩ = some (.int .i64 x) := cell_blk hq2 1
              have HA2 := Lib.hid (And.intro hA hT2)
              clear hA hT2 hq2 ha2))
  have h2 := (H1.out.quiet ((Touch.refl NoB w1).drew)).putTab HR.out HA2.out.2 HA2.out.1
  have l2 : w.heap.size < w2.heap.size := Nat.lt_of_lt_of_le l2 HA2.out.2.size
  have k5 := h2.at5
  have hg2 := h2.lt
  have h3 := h2.quiet ((Touch.refl NoB w2).drew)
  obtain ⟨w4, hrun, ho4, hg4⟩ := h3.map.update lawId Try.underlying61 (by have := HI1.out.nhc; unfold maxLen; omega) (key_id hi hx) (ptr_at r.a)
  have h4 := h3.putMap hg4 ho4
  have I4 := HI1.out.entered HR.out hi hx HN1.out HD.out (ownsMap_isMap h2.map) cl
  have hT24 : Touch (fun b => φ1 b ≠ 0) w1 w4 := by
    have t2 : Touch (fun b => φ1 b ≠ 0) w1 w2 := ((Touch.refl _ w1).drew).same (HA2.out.2.mono (fun b e => by rw [e]; have := HX.out.2.2.2.2; omega))
    refine (t2.drew).grown hg4 (fun k e => ?_)
    injection e with e
    subst e
    exact .inl (by rw [H1.out.mapL]; decide)
  have hP : EnterPost w φ g room tables ps ds ts bh m i x cl cnt (.returned (.tuple #[])) w4 := by
    refine ⟨_, _, _, _, _, rfl, h4, I4, ⟨t1, j, r, _, _, HO.out, HR.out, rfl⟩, ?_, fun b hb => ?_⟩
    · refine ((HT.out.mono (fun _ e => e.elim)).same HT1.out).trans hT24 (fun b e => ?_)
      rcases Hφ.out b e with a | a
      · exact .inl a
      · right; rw [World.size_alloc] at a; omega
    · have hs2 := HA2.out.2.size
      have hs1 := HT1.out.size
      simp at hs1
      have hs1' : w1.drew.heap.size = w1.heap.size := rfl
      have hs2' : w2.drew.heap.size = w2.heap.size := rfl
      unfold relab at hb
      split at hb
      · right; omega
      · split at hb
        · right; omega
        · rcases Hφ.out b hb with a | a
          · exact .inl a
          · right; rw [World.size_alloc] at a; omega
  have HP := Lib.hid hP
  clear h2 h3 h4 I4 ho4 hg4 hT24 hP
  go_wp2
  go_region
  go_end0
  exact HP.out
end
end Go.Proofs.Yticekldgjlihmaa

/-
  What leave returns, and what it leaves in memory.
-/
namespace Go.Proofs.Yticekldgjlihmaa
open Go.ChangeShapes Go.WideShapes Go.ChangeAt Go.RowKit Go.Maps
set_option maxRecDepth 100000
set_option maxHeartbeats 1000000

theorem zeroPtr (w : World) : (zeroValue 81).run Try.prog w = .ok (.pointer none) w := by kernel_rfl

/-- A block of cells of another kind is not the Ids's. -/
theorem Own.less {tl : List Value} {w : World} {F : Nat → Prop} {g : Nat} {room : Int} {ps : List (Int × Bool)} {ds : List Int} (h : Own tl w F g room ps ds) {b : Nat} {cs : Array Value} (hb : w.heap[b]? = some (.cells cs 32 (0, 0))) : Own tl w (fun k => F k ∧ k ≠ b) g room ps ds := by
  obtain ⟨vp, vd, hg, hp, hd, f0, f1, f2⟩ := h
  refine ⟨vp, vd, hg, hp, hd, ⟨f0, fun e => ?_⟩, fun k hk => ⟨f1 k hk, fun e => row_ne hp hb (by decide) (e ▸ hk)⟩, fun k hk => ⟨f2 k hk, fun e => row_ne hd hb (by decide) (e ▸ hk)⟩⟩
  subst e
  rw [hg] at hb
  simp at hb
theorem TO.less {w : World} {F : Nat → Prop} {g : Nat} {m : Int} {ids : List (Int × Int)} {cf : Nat → List Int} {D : DataW Unit} {n : Nat} (h : TO w F g m ids cf D n) {b : Nat} {cs : Array Value} (hb : w.heap[b]? = some (.cells cs 32 (0, 0))) : TO w (fun k => F k ∧ k ≠ b) g m ids cf D n := by
  obtain ⟨vi, vm, vc, cs', h⟩ := h
  refine ⟨vi, vm, vc, cs', h.blk, h.size, h.c0, h.c1, h.c2, h.cc, h.ri, h.rc, h.mp, h.ap, ⟨h.fg, fun e => ?_⟩, fun k hk => ⟨h.fi k hk, fun e => row_ne h.ri hb (by decide) (e ▸ hk)⟩, fun c hc k hk => ⟨h.fc c hc k hk, fun e => row_ne (h.rc c hc) hb (by decide) (e ▸ hk)⟩, fun k hk => ⟨h.fm k hk, fun e => blk_ne_map hb h.mp hk e⟩⟩
  have := h.blk
  subst e
  rw [this] at hb
  simp at hb

section
variable {w : World} {φ : Nat → Int} {g : Nat} {room tables : Int} {ps : List (Int × Bool)} {ds : List Int} {ts : List Ar} {H : DataW Unit} {nh : Nat} {va : Value} {bh : Nat}

/-- The label of one block is struck. -/
def nolab (φ : Nat → Int) (b : Nat) : Nat → Int := fun k => if k = b then 0 else φ k
theorem nolab_other {φ : Nat → Int} {b k : Nat} (h : k ≠ b) : nolab φ b k = φ k := by unfold nolab; rw [if_neg h]
theorem nolab_some {φ : Nat → Int} {b k : Nat} (h : nolab φ b k ≠ 0) : φ k ≠ 0 := by
  unfold nolab at h
  split at h
  · exact absurd rfl h
  · exact h
theorem SG.less (h : SG w φ g room tables ps ds ts H nh va bh) {b : Nat} {cs : Array Value} (hb : w.heap[b]? = some (.cells cs 32 (0, 0))) : SG w (nolab φ b) g room tables ps ds ts H nh va bh := by
  refine ⟨(h.own.less hb).more (fun k hk => (nolab_other hk.2).trans hk.1), h.row, fun k hk => (nolab_other (fun e => row_ne h.row hb (by decide) (hk.trans (congrArg some e)))).trans (h.rowL k hk), h.map, (nolab_other (fun e => ?_)).trans h.mapL, fun j r hr => ⟨(h.arch j r hr).1, (nolab_other (fun e => ?_)).trans (h.arch j r hr).2⟩, fun j r hr => ((h.tab j r hr).less hb).more (fun k hk => (nolab_other hk.2).trans hk.1), fun k hk => h.wf k (nolab_some hk), h.m0, h.asc⟩
  · obtain ⟨es, clock, hm, _⟩ := h.map
    rw [e, hb] at hm
    cases hm
  · have := (h.arch j r hr).1
    rw [e, hb] at this
    simp at this

/-- What a look-up gives. -/
theorem SG.look (h : SG w φ g room tables ps ds ts H nh va bh) {cnt : Nat} (I : TInv cnt ts H nh) {j : Nat} {r : Ar} (hr : ts[j]? = some r) {i x : Int} (hp : (i, x) ∈ r.b.ids) :
    (Instr.lookup 61 (.map (some bh)) (.agg #[.int .i64 i, .int .i64 x]) false).run Try.prog w = .ok (.pointer (some ⟨r.a, 0, none⟩)) w ∧ (Instr.lookup 61 (.map (some bh)) (.agg #[.int .i64 i, .int .i64 x]) true).run Try.prog w = .ok (.tuple #[.pointer (some ⟨r.a, 0, none⟩), .bool true]) w := by
  obtain ⟨hi, hx⟩ := I.key ⟨j, r, hr, hp⟩
  obtain ⟨y1, y2⟩ := I.yes j r i x hr hp
  obtain ⟨v, ps1, hrun, hv⟩ := h.map.lookup lawId Try.underlying61 (zeroPtr w) ptr_none (key_id hi hx)
  obtain ⟨v2, ps2, hrun2, hv2⟩ := h.map.look_ok lawId Try.underlying61 (zeroPtr w) ptr_none (key_id hi hx)
  rw [y2] at hv hv2
  rw [y1] at hrun2
  obtain rfl := ptr_inv hv
  obtain rfl := ptr_inv hv2
  exact ⟨hrun, hrun2⟩
theorem SG.lookNo (h : SG w φ g room tables ps ds ts H nh va bh) {cnt : Nat} (I : TInv cnt ts H nh) {i x : Int} (hi : I64 i) (hx : I64 x) (hn : ¬ InT ts (i, x)) :
    ∃ v, (Instr.lookup 61 (.map (some bh)) (.agg #[.int .i64 i, .int .i64 x]) true).run Try.prog w = .ok (.tuple #[v, .bool false]) w := by
  obtain ⟨v2, ps2, hrun2, _⟩ := h.map.look_ok lawId Try.underlying61 (zeroPtr w) ptr_none (key_id hi hx)
  rw [I.no i x hi hx hn] at hrun2
  exact ⟨v2, hrun2⟩

/-- ts' is ts without the k-th entity of table j. -/
def leftT (ts : List Ar) (j k : Nat) (r : Ar) (D' : DataW Unit) (n' : Nat) : List Ar := ts.set j ⟨r.a, r.t, D', n', ⟨r.b.m, cutAt (0, 0) r.b.ids k, remCol r.b.m r.b.cf k 16⟩⟩
def LeavePost (w : World) (φ : Nat → Int) (g : Nat) (room tables : Int) (ps : List (Int × Bool)) (ds : List Int) (ts : List Ar) (bh : Nat) (j k : Nat) (r : Ar) (cnt : Nat) (e : Ending) (w' : World) : Prop :=
  ∃ φ' H' nh' va' D' n' A N cap, e = .returned (.slice A N cap) ∧ SG w' φ' g room tables ps ds (leftT ts j k r D' n') H' nh' va' bh ∧ TInv (cnt + 1) (leftT ts j k r D' n') H' nh' ∧ N = (outI r.b.m r.b.cf k 16).length ∧ w'.ownsRow w.heap.size 32 2 (.slice A N cap) N (idc (outI r.b.m r.b.cf k 16)) ∧ (∀ b, (Value.slice A N cap).ownBlock = some b → φ' b = 0) ∧
    Touch (fun b => φ b ≠ 0) w w' ∧ ∀ b, φ' b ≠ 0 → φ b ≠ 0 ∨ w.heap.size ≤ b

theorem leave_any {cnt : Nat} (h : SG w φ g room tables ps ds ts H nh va bh) (I : TInv cnt ts H nh) {j k : Nat} {r : Ar} (hr : ts[j]? = some r) {i x : Int} (hk : r.b.ids[k]? = some (i, x)) (hc : cnt ≤ 1000) :
    Calls Try.prog 33 #[.pointer (some ⟨g, 0, none⟩), .agg #[.int .i64 i, .int .i64 x]] w (LeavePost w φ g room tables ps ds ts bh j k r cnt) := by
  have hp := row_mem hk
  obtain ⟨hi, hx⟩ := I.key ⟨j, r, hr, hp⟩
  obtain ⟨o1, o2, o3, o4, o5⟩ := I.ok j r hr
  have hkl := (List.getElem?_eq_some_iff.1 hk).1
  obtain ⟨⟨i1, x1⟩, h9⟩ : ∃ p, r.b.ids[r.b.ids.length - 1]? = some p := ⟨_, List.getElem?_eq_getElem (by omega)⟩
  obtain ⟨hi1, hx1⟩ := o1.wf _ _ _ h9
  have TW : Touch NoB w (w.alloc (.cells #[.int .i64 i, .int .i64 x] 30)).drew := ((Touch.refl NoB w).alloc _).drew
  have h0 := h.quiet TW
  have hlook := (h0.look I hr hp).1
  have hq0 : φ w.heap.size = 0 := Classical.byContradiction fun e => by have := h.wf _ e; omega
  have hqb : (w.alloc (.cells #[.int .i64 i, .int .i64 x] 30)).heap[w.heap.size]? = some (.cells #[.int .i64 i, .int .i64 x] 30 (0, 0)) := alloc_blk w _ _ rfl
  have h00 := h0.quiet ((Touch.refl NoB _).drew)
  obtain ⟨w2, hdel, ho2, ht2⟩ := World.ownsMap.drop h00.map lawId Try.underlying61 (key_id hi hx) 0
  have h2 := h00.putMap ht2.grown ho2
  have hs2 := ht2.grown.size
  have hs2' : w.heap.size + 1 ≤ w2.heap.size := by have e : ((w.alloc (.cells #[.int .i64 i, .int .i64 x] 30)).drew.drew).heap.size = w.heap.size + 1 := World.size_alloc _ _
                                                   omega
  have hT2 : Touch (fun b => φ b = 3) w w2 := ((TW.drew).mono (fun _ e => e.elim)).grown ht2.grown (fun q e => by injection e with e; subst e; exact .inl h.mapL)
  have hT2' : Touch (fun b => φ b = 3) (w.alloc (.cells #[.int .i64 i, .int .i64 x] 30)) w2 := (((Touch.refl (fun b => φ b = 3) (w.alloc (.cells #[.int .i64 i, .int .i64 x] 30))).drew).drew).grown ht2.grown (fun q e => by injection e with e; subst e; exact .inl h.mapL)
  have hq2 : w2.heap[w.heap.size]? = some (.cells #[.int .i64 i, .int .i64 x] 30 (0, 0)) := (hT2'.block _ (by simp) (fun e => by omega)).trans hqb
  obtain ⟨φ2, hφ2⟩ : ∃ φ2, φ2 = relab φ ((w.alloc (.cells #[.int .i64 i, .int .i64 x] 30)).drew.drew) w2 3 := ⟨_, rfl⟩
  rw [← hφ2] at h2
  have hφ2g : ∀ b, φ2 b ≠ 0 → φ b ≠ 0 ∨ w.heap.size ≤ b := by
    intro b hb
    rw [hφ2] at hb
    unfold relab at hb
    split at hb
    · rename_i hb2
      right
      have e : ((w.alloc (.cells #[.int .i64 i, .int .i64 x] 30)).drew.drew).heap.size = w.heap.size + 1 := World.size_alloc _ _
      omega
    · exact .inl hb
  have hqφ : φ2 w.heap.size = 0 := by
    rw [hφ2]
    unfold relab
    rw [if_neg (fun e => by have := e.1; have e2 : ((w.alloc (.cells #[.int .i64 i, .int .i64 x] 30)).drew.drew).heap.size = w.heap.size + 1 := World.size_alloc _ _; omega)]
    exact hq0
  have hra := (h2.arch j r hr).1
  have hrφ := (h2.arch j r hr).2
  have hmr := h2.m0 j r hr
  have k1 : w2.cell? ⟨r.a, 1, none⟩ = some (.pointer (some ⟨r.t, 0, none⟩)) := cell_blk hra 1
  have k2 : w2.cell? ⟨w.heap.size, 0, none⟩ = some (.int .i64 i) := cell_blk hq2 0
  have k3 : w2.cell? ⟨w.heap.size, 1, none⟩ = some (.int .i64 x) := cell_blk hq2 1
  have l1 := blk_lt hra
  have l2 := blk_lt hq2
  have g5 := h.at5
  have hgl := h.lt
  have hrow : rowOf r.b.ids (i, x) = some k := rowOf_at o1.once hk
  have HRow : Hid (∀ W : World, Touch NoB w2 W → Calls Try.prog 40 #[.pointer (some ⟨r.t, 0, none⟩), .agg #[.int .i64 i, .int .i64 x]] W fun e w' => e = .returned (.int .i64 (k : Int)) ∧ Touch NoB W w') := fun W hW => by
    have := trow_any r.t r.b.m i x r.b.ids r.b.cf r.D r.n _ W ((h2.tab j r hr).quiet hW) o2 hi hx
    rwa [rowV_some hrow] at this
  have HRem : Hid (∀ W : World, Touch NoB w2 W → Calls Try.prog 63 #[.pointer (some ⟨r.t, 0, none⟩), .int .i64 k] W (RemPost W (fun b => φ2 b = 5 + 2 * r.b.m) r.t r.b.m r.b.ids r.b.cf ((r.D.put (klI i1 x1) (.lit (.int .i64 k))).del (klI i x)) (r.n + 1) k)) := fun W hW =>
    tremove_yes r.t k r.b.m i x i1 x1 r.b.ids r.b.cf r.D r.n _ W ((h2.tab j r hr).quiet hW) (fun b hb => ⟨Nat.zero_le _, Nat.lt_of_lt_of_le (h2.wf b (by rw [hb]; omega)) hW.size⟩) hmr.1 hmr.2 (by omega) (by omega) hkl o3 hk h9 ⟨hi, hx⟩ ⟨hi1, hx1⟩
  have HEnd : Hid (∀ (W w4 : World) (v : Value), Touch NoB w2 W → RemPost W (fun b => φ2 b = 5 + 2 * r.b.m) r.t r.b.m r.b.ids r.b.cf ((r.D.put (klI i1 x1) (.lit (.int .i64 k))).del (klI i x)) (r.n + 1) k (.returned (.tuple #[v, .bool true])) w4 →
      LeavePost w φ g room tables ps ds ts bh j k r cnt (.returned v) w4 ∧ w4.heap[r.a]? = some (.cells #[.int .u16 r.b.m, .pointer (some ⟨r.t, 0, none⟩)] 93 (0, 0)) ∧ w4.heap[w.heap.size]? = some (.cells #[.int .i64 i, .int .i64 x] 30 (0, 0))) := by
    rintro W w4 v hW ⟨v', e, hown, hTO, hT4⟩
    injection e with e
    injection e with e
    have e2 : v' = v := by simpa using e.symm
    subst e2
    have hWs := hW.size
    have h3 := h2.quiet hW
    have h4 := h3.putTab hr hT4 hTO
    have T24 : Touch (fun b => φ2 b = 5 + 2 * r.b.m) w2 w4 := (hW.mono (fun _ e => e.elim)).same hT4
    have hT04 : Touch (fun b => φ b ≠ 0) w w4 := (hT2.mono (fun b e => by rw [e]; decide)).trans T24 (fun b e => hφ2g b (by rw [e]; omega))
    refine ⟨?_, (T24.block r.a l1 (fun e => by omega)).trans hra, (T24.block _ l2 (fun e => by omega)).trans hq2⟩
    have I4 := I.left hr hk h9 (h2.tab j r hr).isMap
    have hgr : ∀ b, relab φ2 W w4 (5 + 2 * r.b.m) b ≠ 0 → φ b ≠ 0 ∨ w.heap.size ≤ b := by
      intro b hb
      unfold relab at hb
      split at hb
      · right; omega
      · exact hφ2g b hb
    obtain ⟨A, cap, rfl, _, _⟩ := row_any hown
    have hown' : w4.ownsRow w.heap.size 32 2 (.slice A (outI r.b.m r.b.cf k 16).length cap) (outI r.b.m r.b.cf k 16).length (idc (outI r.b.m r.b.cf k 16)) := by
      refine ⟨hown.1, ?_⟩
      rcases hown.2 with e | ⟨g', cap', cur, a, b, c⟩
      · exact .inl e
      · exact .inr ⟨g', cap', cur, a, by omega, c⟩
    rcases hown.2 with ⟨e, _⟩ | ⟨g', cap', cur, e, hb1, hb2, _⟩
    · refine ⟨_, _, _, _, _, _, A, _, cap, rfl, h4, I4, rfl, hown', fun b hb => ?_, hT04, hgr⟩
      rw [e] at hb
      simp [Value.ownBlock] at hb
    · refine ⟨nolab (relab φ2 W w4 (5 + 2 * r.b.m)) g', _, _, _, _, _, A, _, cap, rfl, h4.less hb2, I4, rfl, hown', fun b hb => ?_, hT04, fun b hb => hgr b (nolab_some hb)⟩
      rw [e] at hb
      have : g' = b := by simpa [Value.ownBlock] using hb
      unfold nolab
      rw [if_pos this.symm]
  have HX := Lib.hid (And.intro hra hq2)
  clear h I hr hk hp o1 o2 o3 o4 o5 hkl h9 TW h0 hqb h00 ho2 ht2 h2 hT2 hT2' hq2 hφ2 hφ2g hqφ hra hrφ hmr hrow hs2 hs2' hq0
  go_enter Try.func33, Try.ntmps33
  go_wp2
  go_region
  go_wp2
  go_region
  go_wp2_with fail
  go_region_held3 (fun w' => w'.cell? ⟨r.a, 1, none⟩ = some (.pointer (some ⟨r.t, 0, none⟩)) ∧ w'.cell? ⟨w.heap.size, 0, none⟩ = some (.int .i64 i) ∧ w'.cell? ⟨w.heap.size, 1, none⟩ = some (.int .i64 x)) (first | go_keep | exact ⟨kk1, kk2, kk3⟩)
    (first | (go_at_call 40
              refine (HRow.out _ ((Touch.refl NoB w2).drew)).mono ?_
              rintro e w3 ⟨rfl, hT3⟩
              have hW3 := ((Touch.refl NoB w2).drew).same hT3
              have kk1 : w3.cell? ⟨r.a, 1, none⟩ = some (.pointer (some ⟨r.t, 0, none⟩)) := cell_blk ((hW3.block r.a l1 (fun e => e)).trans HX.out.1) 1
              have kk2 : w3.cell? ⟨w.heap.size, 0, none⟩ = some (.int .i64 i) := cell_blk ((hW3.block _ l2 (fun e => e)).trans HX.out.2) 0
              have kk3 : w3.cell? ⟨w.heap.size, 1, none⟩ = some (.int .i64 x) := cell_blk ((hW3.block _ l2 (fun e => e)).trans HX.out.2) 1
              have HW3 := Lib.hid hW3
              clear hT3 hW3)
           | (go_at_call 63
              refine (HRem.out _ HW3.out).mono ?_
              rintro e w4 hR
              obtain ⟨v, he, _⟩ := id hR
              subst he
              obtain ⟨hE, ha4, hq4⟩ := HEnd.out _ w4 v HW3.out hR
              have kk1 : w4.cell? ⟨r.a, 1, none⟩ = some (.pointer (some ⟨r.t, 0, none⟩)) := cell_blk ha4 1
              have kk2 : w4.cell? ⟨w.heap.size, 0, none⟩ = some (.int .i64 i) := cell_blk hq4 0
              have kk3 : w4.cell? ⟨w.heap.size, 1, none⟩ = some (.int .i64 x) := cell_blk hq4 1
              have HE := Lib.hid hE
              clear hR hE ha4 hq4))
  go_wp2
  go_ret
  exact HE.out
end
end Go.Proofs.Yticekldgjlihmaa

/-
  Plain words for masks: a bit set, a bit struck; the mask of a list of cells. No program is named here.
-/
namespace Go.Proofs.Yticekldgjlihmaa

/-- The bit of component k. -/
def bw (k : Nat) : Int := ((2 ^ k : Nat) : Int)
theorem bw_range {k : Nat} (h : k < 16) : 0 < bw k ∧ bw k < 65536 := by
  unfold bw
  have h1 : 0 < 2 ^ k := Nat.two_pow_pos k
  have h2 : 2 ^ k < 2 ^ 16 := Nat.pow_lt_pow_right (by decide) h
  omega
theorem bitB_test {m : Nat} {k : Nat} : bitB (m : Int) k = m.testBit k := by
  unfold bitB
  have e : (m : Int) / 2 ^ k % 2 = ((m / 2 ^ k % 2 : Nat) : Int) := by simp
  rw [e, Nat.testBit_eq_decide_div_mod_eq]
  congr 1
  apply propext
  omega
/-- m with bit k. -/
def orM (m : Int) (k : Nat) : Int := ((m.toNat ||| 2 ^ k : Nat) : Int)
/-- m without bit k. -/
def clM (m : Int) (k : Nat) : Int := ((m.toNat &&& (65535 - 2 ^ k) : Nat) : Int)
theorem two_lt {k : Nat} (h : k < 16) : 2 ^ k < 65536 := by
  have h2 : 2 ^ k < 2 ^ 16 := Nat.pow_lt_pow_right (by decide) h
  exact Nat.lt_of_lt_of_eq h2 (by decide)
theorem cast_nn (x : Nat) : (0 : Int) ≤ (x : Int) := Int.natCast_nonneg x
theorem cast_lt {k : Nat} (h : k < 16) : ((2 ^ k : Nat) : Int) < 65536 := Int.ofNat_lt.mpr (two_lt h)
theorem or_bw {m : Int} (h0 : 0 ≤ m) (h1 : m < 65536) {k : Nat} (hk : k < 16) : bits .or .u16 m (bw k) = orM m k := by
  unfold bw orM
  rw [u16_or _ _ h0 h1 (cast_nn _) (cast_lt hk), Int.toNat_natCast]
theorem cl_bw {m : Int} (h0 : 0 ≤ m) (h1 : m < 65536) {k : Nat} (hk : k < 16) : bits .andNot .u16 m (bw k) = clM m k := by
  unfold bw clM
  rw [u16_andNot _ _ h0 h1 (cast_nn _) (cast_lt hk), Int.toNat_natCast]
theorem and_bw {m : Int} (h0 : 0 ≤ m) (h1 : m < 65536) {k : Nat} (hk : k < 16) : bits .and .u16 m (bw k) = if bitB m k = true then bw k else 0 := by
  obtain ⟨n, rfl⟩ := Int.eq_ofNat_of_zero_le h0
  unfold bw
  rw [u16_and _ _ h0 h1 (cast_nn _) (cast_lt hk), Int.toNat_natCast, Int.toNat_natCast, nat_bit, bitB_test, Nat.testBit_eq_decide_div_mod_eq]
  rcases Nat.mod_two_eq_zero_or_one (n / 2 ^ k) with e | e <;> rw [e] <;> simp
theorem orM_range {m : Int} (h1 : m < 65536) {k : Nat} (hk : k < 16) : 0 ≤ orM m k ∧ orM m k < 65536 := by
  unfold orM
  have := Nat.or_lt_two_pow (x := m.toNat) (y := 2 ^ k) (n := 16) (by omega) (two_lt hk)
  omega
theorem clM_range (m : Int) (k : Nat) : 0 ≤ clM m k ∧ clM m k < 65536 := by
  unfold clM
  have h1 := Nat.and_le_right (n := m.toNat) (m := 65535 - 2 ^ k)
  have h2 : 65535 - 2 ^ k ≤ 65535 := Nat.sub_le _ _
  have h3 := Nat.le_trans h1 h2
  omega
theorem orM_bit {m : Int} (h0 : 0 ≤ m) (k c : Nat) : bitB (orM m k) c = (bitB m c || decide (c = k)) := by
  obtain ⟨n, rfl⟩ := Int.eq_ofNat_of_zero_le h0
  unfold orM
  rw [Int.toNat_natCast, bitB_test, bitB_test, Nat.testBit_or, Nat.testBit_two_pow]
  congr 1
  by_cases h : c = k
  · simp [h]
  · simp [h, Ne.symm h]
theorem clM_bit {m : Int} (h0 : 0 ≤ m) {k c : Nat} (hk : k < 16) (hc : c < 16) : bitB (clM m k) c = (bitB m c && !decide (c = k)) := by
  obtain ⟨n, rfl⟩ := Int.eq_ofNat_of_zero_le h0
  unfold clM
  rw [Int.toNat_natCast, bitB_test, bitB_test, Nat.testBit_and]
  congr 1
  have e : 65535 - 2 ^ k = 2 ^ 16 - (2 ^ k + 1) := by omega
  rw [e, Nat.testBit_two_pow_sub_succ (two_lt hk), Nat.testBit_two_pow]
  by_cases h : c = k
  · simp [h]
  · simp [h, Ne.symm h, hc]
theorem bit_ext {a b : Int} (ha0 : 0 ≤ a) (ha1 : a < 65536) (hb0 : 0 ≤ b) (hb1 : b < 65536) (h : ∀ c, c < 16 → bitB a c = bitB b c) : a = b := by
  obtain ⟨n, rfl⟩ := Int.eq_ofNat_of_zero_le ha0
  obtain ⟨m, rfl⟩ := Int.eq_ofNat_of_zero_le hb0
  congr 1
  refine Nat.eq_of_testBit_eq fun c => ?_
  by_cases hc : c < 16
  · have := h c hc
    rwa [bitB_test, bitB_test] at this
  · have hp : 2 ^ 16 ≤ 2 ^ c := Nat.pow_le_pow_right (by decide) (by omega)
    rw [Nat.testBit_lt_two_pow (by omega), Nat.testBit_lt_two_pow (by omega)]
theorem bitB_zero (c : Nat) : bitB 0 c = false := by
  have := bitB_test (m := 0) (k := c)
  simpa using this
theorem orM_has {m : Int} (h0 : 0 ≤ m) (h1 : m < 65536) {k : Nat} (hk : k < 16) (hb : bitB m k = true) : orM m k = m := by
  have hr := orM_range h1 hk
  refine bit_ext hr.1 hr.2 h0 h1 fun c _ => ?_
  rw [orM_bit h0]
  by_cases e : c = k
  · subst e; simp [hb]
  · simp [e]
theorem orM_ne {m : Int} (h0 : 0 ≤ m) {k : Nat} (hb : bitB m k = false) : orM m k ≠ m := by
  intro e
  have := orM_bit h0 k k
  rw [e, hb] at this
  simp at this
theorem clM_ne {m : Int} (h0 : 0 ≤ m) {k : Nat} (hk : k < 16) (hb : bitB m k = true) : clM m k ≠ m := by
  intro e
  have := clM_bit h0 hk hk
  rw [e, hb] at this
  simp at this

/-- Is it a component? -/
def isC (c : Int) : Bool := decide (0 ≤ c) && decide (c < 16)
theorem isC_true {c : Int} (h : isC c = true) : ∃ k : Nat, c = k ∧ k < 16 := by
  unfold isC at h
  simp only [Bool.and_eq_true, decide_eq_true_eq] at h
  obtain ⟨k, rfl⟩ := Int.eq_ofNat_of_zero_le h.1
  exact ⟨k, rfl, by omega⟩
theorem isC_nat {k : Nat} (h : k < 16) : isC (k : Int) = true := by
  unfold isC
  simp
  omega
/-- The mask of the components of cells, if none is wrong or comes twice. -/
def stepM (o : Option Int) (p : Int × Int) : Option Int := o.bind fun m => if isC p.1 = true ∧ bitB m p.1.toNat = false then some (orM m p.1.toNat) else none
def maskO (cl : List (Int × Int)) : Option Int := cl.foldl stepM (some 0)
theorem maskO_snoc (cl : List (Int × Int)) (p : Int × Int) : maskO (cl ++ [p]) = stepM (maskO cl) p := by simp [maskO, List.foldl_append]
theorem maskO_none : ∀ cl : List (Int × Int), cl.foldl stepM none = none
  | [] => rfl
  | _ :: cl => maskO_none cl
theorem maskO_stop {cl : List (Int × Int)} {k : Nat} (h : maskO (cl.take k) = none) : maskO cl = none := by
  rw [← List.take_append_drop k cl]
  unfold maskO at h ⊢
  rw [List.foldl_append, h, maskO_none]
theorem maskO_range : ∀ (cl : List (Int × Int)) (a m : Int), 0 ≤ a → a < 65536 → cl.foldl stepM (some a) = some m → 0 ≤ m ∧ m < 65536
  | [], a, m, h0, h1, h => by simp at h; subst h; exact ⟨h0, h1⟩
  | p :: cl, a, m, h0, h1, h => by
    rw [List.foldl_cons] at h
    unfold stepM at h
    rw [Option.bind_some] at h
    by_cases hc : isC p.1 = true ∧ bitB a p.1.toNat = false
    · rw [if_pos hc] at h
      obtain ⟨k, hk, hk2⟩ := isC_true hc.1
      have hr := orM_range h1 (k := p.1.toNat) (by omega)
      exact maskO_range cl _ m hr.1 hr.2 h
    · rw [if_neg hc] at h
      have := maskO_none cl
      unfold stepM at this
      rw [this] at h
      cases h
end Go.Proofs.Yticekldgjlihmaa

/-
  What bit, isComponent, maskOf and find of package ecs return.
-/
namespace Go.Proofs.Yticekldgjlihmaa
open Go.ChangeShapes Go.WideShapes Go.ChangeAt Go.RowKit Go.Maps
set_option maxRecDepth 100000
set_option maxHeartbeats 1000000

theorem bit_any (k : Nat) (w : World) (hk : k < 16) :
    Calls Try.prog 42 #[.int .i64 k] w fun e w' => e = .returned (.int .u16 (bw k)) ∧ w = w' := by
  rcases k with _ | _ | _ | _ | _ | _ | _ | _ | _ | _ | _ | _ | _ | _ | _ | _ | k
  all_goals first | (exfalso; omega) | skip
  all_goals
    go_enter Try.func42, Try.ntmps42
    go_wp2
    go_ret
    exact ⟨by unfold bw; rfl, rfl⟩

theorem isComp_any (c : Int) (w : World) :
    Calls Try.prog 56 #[.int .i64 c] w fun e w' => e = .returned (.bool (isC c)) ∧ w = w' := by
  by_cases h1 : 0 ≤ c <;> by_cases h2 : c < 16
  all_goals
    go_enter Try.func56, Try.ntmps56
    go_wp2
    go_ret
    exact ⟨by simp [isC, h1, h2], rfl⟩

def MaskRel (w : World) (cl : List (Int × Int)) (v4 v9 : Value) (wr : World) : Prop :=
  ∃ (k : Nat) (m : Int), k ≤ cl.length ∧ v9 = .int .i64 k ∧ v4 = .int .u16 m ∧ maskO (cl.take k) = some m ∧ Touch NoB w wr
/-- What maskOf returns. -/
def maskV (cl : List (Int × Int)) : Value := match maskO cl with
  | some m => .tuple #[.int .u16 m, .bool true]
  | none => .tuple #[.int .u16 0, .bool false]

theorem take_one {α : Type} {l : List α} {k : Nat} {a : α} (h : l[k]? = some a) : l.take (k + 1) = l.take k ++ [a] := by
  obtain ⟨hk, rfl⟩ := List.getElem?_eq_some_iff.1 h
  exact List.take_succ_eq_append_getElem hk

theorem maskOf_any (A : Option Addr) (N cap : Nat) (cl : List (Int × Int)) (w : World) (hN : cl.length = N) (hN2 : N ≤ 1000) (hC : CellsAt w NoB A cl) :
    Calls Try.prog 24 #[.slice A N cap] w fun e w' => e = .returned (maskV cl) ∧ Touch NoB w w' := by
  obtain ⟨mv, hmv⟩ : ∃ mv, maskV cl = mv := ⟨_, rfl⟩
  rw [hmv]
  have HMV := Lib.hid hmv
  have HC := Lib.hid hC
  have HN := Lib.hid hN
  clear hC hN hmv
  go_enter Try.func24, Try.ntmps24
  go_wp2
  go_loopw [4, 9] (fun v4 v9 wr => MaskRel w cl v4 v9 wr) (fun _ v9 _ => N - (intOf v9).toNat)
  case atStart => exact ⟨0, 0, Nat.zero_le _, rfl, rfl, rfl, Touch.refl _ _⟩
  case round =>
    obtain ⟨k, m, hk, rfl, rfl, hmk, hTr⟩ := hrel
    rw [HN.out] at hk
    have hmr := maskO_range _ 0 m (by decide) (by decide) hmk
    have HK := Lib.hid hmk
    have HT := Lib.hid hTr
    clear hmk
    by_cases hlt : k < N
    · obtain ⟨⟨c, v⟩, hcv⟩ : ∃ p, cl[k]? = some p := ⟨_, List.getElem?_eq_getElem (by rw [HN.out]; exact hlt)⟩
      have htk := take_one hcv
      obtain ⟨b, off, rfl, hb, _, hm1, hm2⟩ := (HC.out.touch hTr) k c v hcv
      clear hTr hcv
      have hst : maskO (cl.take (k + 1)) = stepM (some m) (c, v) := by rw [htk, maskO_snoc, HK.out]
      cases hic : isC c
      · have hnone : maskO cl = none := maskO_stop (k := k + 1) (by rw [hst]; simp [stepM, hic])
        have hv : mv = .tuple #[.int .u16 0, .bool false] := by rw [← HMV.out]; unfold maskV; rw [hnone]
        subst hv
        have HI := Lib.hid (fun W => isComp_any c W)
        rw [hic] at HI
        clear hnone hst htk hic
        go_wp2_with (go_at_call 56; refine (HI.out _).mono ?_; rintro e w' ⟨rfl, rfl⟩)
        go_ret2
        exact ⟨rfl, HT.out.alloc _⟩
      · obtain ⟨j, rfl, hj⟩ := isC_true hic
        have HI := Lib.hid (fun W => isComp_any (j : Int) W)
        rw [hic] at HI
        have HB := Lib.hid (fun W => bit_any j W hj)
        have ha := and_bw hmr.1 hmr.2 hj
        have ho := or_bw hmr.1 hmr.2 hj
        cases hbt : bitB m j
        · rw [hbt, if_neg (by decide)] at ha
          have hor : maskO (cl.take (k + 1)) = some (orM m j) := by rw [hst]; simp [stepM, hic, hbt]
          have HO := Lib.hid hor
          clear hst htk hic hbt hor
          go_wp2_with (first | (go_at_call 56; refine (HI.out _).mono ?_; rintro e w' ⟨rfl, rfl⟩) | (go_at_call 42; refine (HB.out _).mono ?_; rintro e w' ⟨rfl, rfl⟩))
          go_roundw
          case rel => exact ⟨k + 1, orM m j, by rw [HN.out]; omega, by go_num, rfl, HO.out, HT.out.alloc _⟩
          case measure => simp [intOf]; omega
        · rw [hbt, if_pos rfl] at ha
          have hnone : maskO cl = none := maskO_stop (k := k + 1) (by rw [hst]; simp [stepM, hic, hbt])
          have hv : mv = .tuple #[.int .u16 0, .bool false] := by rw [← HMV.out]; unfold maskV; rw [hnone]
          subst hv
          have hz : (bw j != 0) = true := by have := (bw_range hj).1; simp; omega
          clear hnone hst htk hic hbt
          go_wp2_with (first | (go_at_call 56; refine (HI.out _).mono ?_; rintro e w' ⟨rfl, rfl⟩) | (go_at_call 42; refine (HB.out _).mono ?_; rintro e w' ⟨rfl, rfl⟩))
          go_ret2
          exact ⟨rfl, HT.out.alloc _⟩
    · obtain rfl : k = N := by omega
      have hv : mv = .tuple #[.int .u16 m, .bool true] := by
        have e : maskO cl = some m := by have := HK.out; rwa [List.take_of_length_le (by rw [HN.out]; exact Nat.le_refl _)] at this
        rw [← HMV.out]
        unfold maskV
        rw [e]
      subst hv
      clear hTr
      go_wp2
      go_ret2
      exact ⟨rfl, HT.out⟩

section
variable {w : World} {φ : Nat → Int} {g : Nat} {room tables : Int} {ps : List (Int × Bool)} {ds : List Int} {ts : List Ar} {H : DataW Unit} {nh : Nat} {va : Value} {bh : Nat}

theorem find_stale {cnt : Nat} (h : SG w φ g room tables ps ds ts H nh va bh) (I : TInv cnt ts H nh) (i x c : Int) (hi : I64 i) (hx : I64 x) (hn : ¬ InT ts (i, x)) :
    Calls Try.prog 38 #[.pointer (some ⟨g, 0, none⟩), .agg #[.int .i64 i, .int .i64 x], .int .i64 c] w fun e w' => e = .returned (.tuple #[.pointer none, .int .i64 11]) ∧ Touch NoB w w' := by
  have TW : Touch NoB w (w.alloc (.cells #[.int .i64 i, .int .i64 x] 30)).drew := ((Touch.refl NoB w).alloc _).drew
  obtain ⟨v, hlook⟩ := (h.quiet TW).lookNo I hi hx hn
  have g5 := h.at5
  have hgl := h.lt
  have HT := Lib.hid TW
  clear h I hn TW
  go_enter Try.func38, Try.ntmps38
  go_wp2
  go_region
  go_wp2
  go_ret2
  exact ⟨rfl, HT.out⟩
theorem find_in {cnt : Nat} (h : SG w φ g room tables ps ds ts H nh va bh) (I : TInv cnt ts H nh) {j : Nat} {r : Ar} (hr : ts[j]? = some r) (i x c : Int) (hp : (i, x) ∈ r.b.ids) :
    Calls Try.prog 38 #[.pointer (some ⟨g, 0, none⟩), .agg #[.int .i64 i, .int .i64 x], .int .i64 c] w fun e w' => e = .returned (if isC c = true then .tuple #[.pointer (some ⟨r.a, 0, none⟩), .int .i64 0] else .tuple #[.pointer none, .int .i64 1]) ∧ Touch NoB w w' := by
  have TW : Touch NoB w (w.alloc (.cells #[.int .i64 i, .int .i64 x] 30)).drew := ((Touch.refl NoB w).alloc _).drew
  have hlook := ((h.quiet TW).look I hr hp).2
  have g5 := h.at5
  have hgl := h.lt
  have HT := Lib.hid TW
  have HI := Lib.hid (fun W => isComp_any c W)
  clear h I hr hp TW
  cases hc : isC c
  · rw [hc] at HI
    rw [if_neg (by decide)]
    go_enter Try.func38, Try.ntmps38
    go_wp2
    go_region
    go_wp2_with (go_at_call 56; refine (HI.out _).mono ?_; rintro e w' ⟨rfl, rfl⟩)
    go_ret2
    exact ⟨rfl, HT.out⟩
  · rw [hc] at HI
    rw [if_pos rfl]
    go_enter Try.func38, Try.ntmps38
    go_wp2
    go_region
    go_wp2_with (go_at_call 56; refine (HI.out _).mono ?_; rintro e w' ⟨rfl, rfl⟩)
    go_ret2
    exact ⟨rfl, HT.out⟩
end
end Go.Proofs.Yticekldgjlihmaa

/-
  The places of a Store: what Make gives, said of lists; the whole of what a Store keeps.
-/
namespace Go.Proofs.Yticekldgjlihmaa
open Go.ChangeShapes Go.WideShapes Go.ChangeAt Go.RowKit Go.Maps
set_option maxRecDepth 100000
set_option maxHeartbeats 1000000

theorem has_iff (ps : List (Int × Bool)) (i x : Int) : hasI ps i x = true ↔ ∃ k : Nat, i = k ∧ ps[k]? = some (x, true) := by
  unfold hasI
  constructor
  · intro h
    simp only [Bool.and_eq_true, decide_eq_true_eq] at h
    obtain ⟨h0, h1⟩ := h
    obtain ⟨k, rfl⟩ := Int.eq_ofNat_of_zero_le h0
    refine ⟨k, rfl, ?_⟩
    rw [Int.toNat_natCast] at h1
    rcases hp : ps[k]? with _ | ⟨y, u⟩
    · rw [hp] at h1; cases h1
    · rw [hp] at h1
      simp at h1
      rw [h1.1, h1.2]
  · rintro ⟨k, rfl, hk⟩
    simp [hk]

/-- The next identifier, and what is left. -/
def makeS (room : Int) (ps : List (Int × Bool)) (ds : List Int) : Option ((Int × Int) × List (Int × Bool) × List Int) :=
  match ds.getLast? with
  | some d => match ps[d.toNat]? with
    | some p => some ((d, p.1 + 1), ps.set d.toNat (p.1 + 1, true), ds.dropLast)
    | none => none
  | none => if (ps.length : Int) < room then some (((ps.length : Int), 1), ps ++ [(1, true)], []) else none
structure PInv (cnt : Nat) (room : Int) (ps : List (Int × Bool)) (ds : List Int) : Prop where
  len : ps.length ≤ cnt
  dl : ds.length ≤ cnt
  rm : (ps.length : Int) ≤ room ∧ room ≤ 100000
  gen : ∀ (k : Nat) (y : Int) (u : Bool), ps[k]? = some (y, u) → 1 ≤ y ∧ y ≤ cnt
  fr : ∀ (j : Nat) (d : Int), ds[j]? = some d → ∃ (k : Nat) (y : Int), d = k ∧ ps[k]? = some (y, false)
  once : ∀ (a b : Nat) (d : Int), ds[a]? = some d → ds[b]? = some d → a = b

theorem last_split {α : Type} {l : List α} {d : α} (h : l.getLast? = some d) : l = l.dropLast ++ [d] := by
  obtain ⟨ys, rfl⟩ := List.getLast?_eq_some_iff.1 h
  simp
theorem PInv.more {cnt c : Nat} {room : Int} {ps : List (Int × Bool)} {ds : List Int} (h : PInv cnt room ps ds) (hc : cnt ≤ c) : PInv c room ps ds :=
  ⟨by have := h.len; omega, by have := h.dl; omega, h.rm, fun k y u hk => by have := h.gen k y u hk; omega, h.fr, h.once⟩

section
variable {cnt : Nat} {room : Int} {ps ps' : List (Int × Bool)} {ds ds' : List Int} {id : Int × Int}

/-- The two ways to an identifier. -/
theorem make_ways (h : PInv cnt room ps ds) (hm : makeS room ps ds = some (id, ps', ds')) :
    (∃ (k : Nat) (y : Int), ds = ds' ++ [(k : Int)] ∧ ps[k]? = some (y, false) ∧ id = ((k : Int), y + 1) ∧ ps' = ps.set k (y + 1, true)) ∨ (ds = [] ∧ ds' = [] ∧ (ps.length : Int) < room ∧ id = ((ps.length : Int), 1) ∧ ps' = ps ++ [(1, true)]) := by
  unfold makeS at hm
  rcases hd : ds.getLast? with _ | d
  · rw [hd] at hm
    have hnil : ds = [] := by simpa using hd
    simp only at hm
    split at hm
    · rename_i hlt
      injection hm with hm
      injection hm with h1 h2
      injection h2 with h2 h3
      exact .inr ⟨hnil, h3.symm, hlt, h1.symm, h2.symm⟩
    · cases hm
  · rw [hd] at hm
    have hs := last_split hd
    have hg : ds[ds.dropLast.length]? = some d := by
      conv => lhs; rw [hs]
      simp
    obtain ⟨k, y, rfl, hk⟩ := h.fr _ d hg
    simp only [Int.toNat_natCast, hk] at hm
    injection hm with hm
    injection hm with h1 h2
    injection h2 with h2 h3
    refine .inl ⟨k, y, ?_, hk, h1.symm, h2.symm⟩
    rw [← h3]
    exact hs

theorem hasI_false {i x : Int} (h : ¬ ∃ k : Nat, i = k ∧ ps[k]? = some (x, true)) : hasI ps i x = false := by
  cases hh : hasI ps i x
  · rfl
  · exact absurd ((has_iff _ _ _).1 hh) h
theorem PInv.make (h : PInv cnt room ps ds) (hm : makeS room ps ds = some (id, ps', ds')) (hc : cnt ≤ 1000) :
    PInv (cnt + 1) room ps' ds' ∧ I64 id.1 ∧ I64 id.2 ∧ hasI ps id.1 id.2 = false ∧ ∀ i x, hasI ps' i x = true ↔ hasI ps i x = true ∨ (i, x) = id := by
  have hl := h.len
  have hr := h.rm
  rcases make_ways h hm with ⟨k, y, rfl, hk, rfl, rfl⟩ | ⟨rfl, rfl, hlt, rfl, rfl⟩
  · have hkl := (List.getElem?_eq_some_iff.1 hk).1
    have hy := h.gen k y false hk
    have hdl := h.dl
    rw [List.length_append, List.length_singleton] at hdl
    refine ⟨⟨by rw [List.length_set]; omega, by omega, by rw [List.length_set]; exact hr, fun j z u hz => ?_, fun j d hd => ?_, fun a b d ha hb => ?_⟩, nat_i64 (by omega), i64_mk (by omega) (by omega), hasI_false ?_, fun i x => ?_⟩
    · rcases set_get hz with ⟨_, e, _⟩ | ⟨_, hz⟩
      · injection e with e1 e2; omega
      · have := h.gen j z u hz; omega
    · have hdl2 := (List.getElem?_eq_some_iff.1 hd).1
      have hd' : (ds' ++ [(k : Int)])[j]? = some d := by rw [List.getElem?_append_left hdl2]; exact hd
      obtain ⟨k2, y2, rfl, hk2⟩ := h.fr j d hd'
      refine ⟨k2, y2, rfl, ?_⟩
      have hne : k2 ≠ k := fun e => by
        subst e
        have := h.once j ds'.length (k2 : Int) hd' (by simp)
        omega
      rw [List.getElem?_set_ne (fun e => hne e.symm)]
      exact hk2
    · have ha2 := (List.getElem?_eq_some_iff.1 ha).1
      have hb2 := (List.getElem?_eq_some_iff.1 hb).1
      exact h.once a b d (by rw [List.getElem?_append_left ha2]; exact ha) (by rw [List.getElem?_append_left hb2]; exact hb)
    · rintro ⟨k2, e, hk2⟩
      have e : k = k2 := by omega
      subst e
      rw [hk] at hk2
      simp at hk2
    · rw [has_iff, has_iff]
      constructor
      · rintro ⟨k2, rfl, hk2⟩
        rcases set_get hk2 with ⟨rfl, e, _⟩ | ⟨_, hk2⟩
        · injection e with e1 e2; right; rw [e1]
        · exact .inl ⟨k2, rfl, hk2⟩
      · rintro (⟨k2, rfl, hk2⟩ | e)
        · have hne : k2 ≠ k := fun e => by subst e; rw [hk] at hk2; simp at hk2
          exact ⟨k2, rfl, by rw [List.getElem?_set_ne (fun e => hne e.symm)]; exact hk2⟩
        · injection e with e1 e2
          exact ⟨k, e1, by rw [List.getElem?_set_self hkl, e2]⟩
  · refine ⟨⟨by simp; omega, Nat.zero_le _, by simp; omega, fun j z u hz => ?_, fun j d hd => by simp at hd, fun a b d ha => by simp at ha⟩, nat_i64 (by omega), i64_one, hasI_false ?_, fun i x => ?_⟩
    · rcases snoc_get hz with ⟨_, hz⟩ | ⟨_, e⟩
      · have := h.gen j z u hz; omega
      · injection e with e1 e2; omega
    · rintro ⟨k2, e, hk2⟩
      have := (List.getElem?_eq_some_iff.1 hk2).1
      omega
    · rw [has_iff, has_iff]
      constructor
      · rintro ⟨k2, rfl, hk2⟩
        rcases snoc_get hk2 with ⟨_, hk2⟩ | ⟨e1, e2⟩
        · exact .inl ⟨k2, rfl, hk2⟩
        · injection e2 with e2 _; right; rw [e1, e2]
      · rintro (⟨k2, rfl, hk2⟩ | e)
        · exact ⟨k2, rfl, by rw [List.getElem?_append_left (List.getElem?_eq_some_iff.1 hk2).1]; exact hk2⟩
        · injection e with e1 e2
          exact ⟨ps.length, e1, by rw [e2]; simp⟩
theorem make_nothing (hm : makeS room ps ds = none) (h : PInv cnt room ps ds) : ds = [] ∧ room ≤ (ps.length : Int) := by
  unfold makeS at hm
  rcases hd : ds.getLast? with _ | d
  · rw [hd] at hm
    have hnil : ds = [] := by simpa using hd
    simp only at hm
    split at hm
    · cases hm
    · exact ⟨hnil, by omega⟩
  · rw [hd] at hm
    have hs := last_split hd
    have hg : ds[ds.dropLast.length]? = some d := by
      conv => lhs; rw [hs]
      simp
    obtain ⟨k, y, rfl, hk⟩ := h.fr _ d hg
    simp [hk] at hm

variable {tl : List Value} {w : World} {F : Nat → Prop} {g : Nat}
theorem make_none (hO : Own tl w F g room ps ds) (h : PInv cnt room ps ds) (hm : makeS room ps ds = none) :
    Calls Try.prog 26 #[.pointer (some ⟨g, 0, none⟩)] w fun e w' => e = .returned (.tuple #[.agg #[.int .i64 0, .int .i64 0], .int .i64 10]) ∧ Touch NoB w w' := by
  obtain ⟨rfl, hr⟩ := make_nothing hm h
  exact make_full g room ps F w hO hr
theorem ext_self {F : Nat → Prop} {w w' : World} : ∀ k, F k → Ext F w w' k := fun _ h => .inl h
theorem make_some (hO : Own tl w F g room ps ds) (hF : InW w 0 F) (h : PInv cnt room ps ds) (hm : makeS room ps ds = some (id, ps', ds')) (hc : cnt ≤ 1000) :
    Calls Try.prog 26 #[.pointer (some ⟨g, 0, none⟩)] w fun e w' => e = .returned (.tuple #[.agg #[.int .i64 id.1, .int .i64 id.2], .int .i64 0]) ∧ Own tl w' (Ext F w w') g room ps' ds' ∧ Touch F w w' := by
  rcases make_ways h hm with ⟨k, y, rfl, hk, rfl, rfl⟩ | ⟨rfl, rfl, hlt, rfl, rfl⟩
  · have hy := h.gen k y false hk
    exact (make_pop g k room y false ps ds' F w hO hF hk (by omega) (by omega)).mono fun e w' ⟨a, b, c⟩ => ⟨a, b.more ext_self, c⟩
  · exact make_new g room ps F w hO hF hlt h.rm.2
end

/-- What a Store keeps. -/
structure SInv (cnt : Nat) (room tables : Int) (ps : List (Int × Bool)) (ds : List Int) (ts : List Ar) (H : DataW Unit) (nh : Nat) : Prop where
  t : TInv cnt ts H nh
  p : PInv cnt room ps ds
  link : ∀ i x, hasI ps i x = true ↔ InT ts (i, x)
  len : ts.length ≤ cnt
  lim : (ts.length : Int) ≤ tables ∧ tables ≤ 1000
theorem SInv.more {cnt c : Nat} {room tables : Int} {ps : List (Int × Bool)} {ds : List Int} {ts : List Ar} {H : DataW Unit} {nh : Nat} (h : SInv cnt room tables ps ds ts H nh) (hc : cnt ≤ c) : SInv c room tables ps ds ts H nh :=
  ⟨h.t.more hc, h.p.more hc, h.link, by have := h.len; omega, h.lim⟩
end Go.Proofs.Yticekldgjlihmaa
