/-
  The rounds of package nest's Size, in lists: the lists that are around, what is known of places, how many elements may still come. No program is named here. Conditions: those that each theorem names.
-/
import Derived.Test.YtfpeennegmlcpaaN5
namespace Go.Proofs.Ytfpeennegmlcpaa
open Go.RowKit
set_option maxRecDepth 100000
set_option maxHeartbeats 1000000

/-- A list that is around: its place, its elements, how many of them are behind. -/
structure En where
  p : Addr × Nat
  ts : List Tt
  i : Nat
def En.cnt (e : En) : Nat := cntT (e.ts.take e.i)
def En.dep (e : En) : Nat := depT (e.ts.take e.i)
def En.next (e : En) : En := ⟨e.p, e.ts, e.i + 1⟩
theorem en_next {e : En} {t : Tt} (h : e.ts[e.i]? = some t) : e.next.cnt = e.cnt + (1 + cntT t.ks) ∧ e.next.dep = max e.dep (1 + depT t.ks) := by
  unfold En.cnt En.dep En.next
  simp only
  rw [take_one h, cntT_app, depT_app, cntT_cons, depT_cons, Tt.cnt_ks, Tt.dep_ks]
  simp only [cntT, depT]
  omega
section
variable (w : World) (sz off : Nat)
/-- The list below the element i of the list at p lies at q. -/
def KidP (p : Addr) (i : Nat) (q : Addr × Nat) : Prop := ∃ c, w.cell? ⟨p.block, p.off + i * sz + off, none⟩ = some (.slice (some q.1) q.2 c)
def Chain : List En → Prop
  | [] => True
  | e :: es => (∃ d, LK w sz off d e.p e.ts) ∧ e.i ≤ e.ts.length ∧ (∀ f fs, es = f :: fs → ∃ t, f.ts[f.i]? = some t ∧ t.ks = e.ts ∧ KidP w sz off f.p.1 f.i e.p) ∧ Chain es
def Kn (l : PlL) (es : List En) : Prop := ∀ p s, getP l p = some s → (s = (0, 0) ∧ ∃ f ∈ es, f.p = p) ∨ ∃ d ts, LK w sz off d p ts ∧ s = (cntT ts, depT ts)
end
def lowR : List En → Nat
  | [] => 0
  | f :: es => lowT (f.ts.drop (f.i + 1)) + lowR es
def costR : List En → Nat
  | [] => 0
  | f :: es => 2 + costT (f.ts.drop (f.i + 1)) + costR es
theorem lowR_cons (f : En) (es : List En) : lowR (f :: es) = lowT (f.ts.drop (f.i + 1)) + lowR es := rfl
theorem costR_cons (f : En) (es : List En) : costR (f :: es) = 2 + costT (f.ts.drop (f.i + 1)) + costR es := rfl
/-- At the head of a round, of which k are still to come; b: the next element's list is known. -/
def Rnd (w : World) (sz off : Nat) (k : Nat) (b : Bool) (e : En) (es : List En) (l : PlL) (room : Nat) : Prop :=
  Chain w sz off (e :: es) ∧ Kn w sz off l (e :: es) ∧ (∀ x ∈ l, OkB w x.1.1.block) ∧
    (b = false → lowT (e.ts.drop e.i) + lowR es ≤ room ∧ k = costT (e.ts.drop e.i) + costR es) ∧
    (b = true → ∃ t q d s, e.ts[e.i]? = some t ∧ LK w sz off d q t.ks ∧ KidP w sz off e.p.1 e.i q ∧ getP l q = some s ∧ lowT (e.ts.drop (e.i + 1)) + lowR es ≤ room ∧ k = 1 + costT (e.ts.drop (e.i + 1)) + costR es)
variable {w : World} {sz off : Nat}
theorem KidP.same {p : Addr} {i : Nat} {q r : Addr × Nat} (h : KidP w sz off p i q) (g : KidP w sz off p i r) : q = r := by
  obtain ⟨c, h⟩ := h
  obtain ⟨d, g⟩ := g
  rw [h] at g
  injection g with g
  injection g with g1 g2 g3
  injection g1 with g1
  exact Prod.ext g1 g2
theorem chain_more {e : En} : ∀ {es : List En}, Chain w sz off (e :: es) → ∀ f ∈ es, cntT e.ts < cntT f.ts
  | [], _, f, hf => absurd hf (by simp)
  | g :: es, h, f, hf => by
    obtain ⟨t, ht, hk, -⟩ := h.2.2.1 g es rfl
    have h1 : cntT e.ts < cntT g.ts := hk ▸ cnt_below (List.mem_of_getElem? ht)
    rcases List.mem_cons.1 hf with rfl | hf
    · exact h1
    · exact Nat.lt_trans h1 (chain_more h.2.2.2 f hf)
theorem chain_lk : ∀ {es : List En}, Chain w sz off es → ∀ f ∈ es, ∃ d, LK w sz off d f.p f.ts
  | [], _, f, hf => absurd hf (by simp)
  | e :: es, h, f, hf => by
    rcases List.mem_cons.1 hf with rfl | hf
    · exact h.1
    · exact chain_lk h.2.2.2 f hf
/-- A list within a list that is around is none of those around. -/
theorem chain_none {e : En} {es : List En} (h : Chain w sz off (e :: es)) {t : Tt} (ht : e.ts[e.i]? = some t) {q : Addr × Nat} {d : Nat} (hq : LK w sz off d q t.ks) : ∀ f ∈ e :: es, f.p ≠ q := by
  intro f hf hp
  obtain ⟨d', hl⟩ := chain_lk h f hf
  rw [hp] at hl
  have e1 := hl.same hq
  have e2 := cnt_below (List.mem_of_getElem? ht)
  rcases List.mem_cons.1 hf with rfl | hf
  · rw [e1] at e2; omega
  · have e3 := chain_more h f hf
    rw [e1] at e3; omega
theorem kn_look {e : En} {es : List En} {l : PlL} (h : Chain w sz off (e :: es)) (hk : Kn w sz off l (e :: es)) {t : Tt} (ht : e.ts[e.i]? = some t) {q : Addr × Nat} {d : Nat} (hq : LK w sz off d q t.ks) {s : Nat × Nat} (hs : getP l q = some s) : s = (cntT t.ks, depT t.ks) ∧ 0 < s.1 := by
  rcases hk q s hs with ⟨rfl, f, hf, hp⟩ | ⟨d', ts, hl, rfl⟩
  · exact absurd hp (chain_none h ht hq f hf)
  · have e1 := hl.same hq
    subst e1
    exact ⟨rfl, cntT_pos hq.pos⟩
theorem chain_next {e : En} {es : List En} (h : Chain w sz off (e :: es)) {t : Tt} (ht : e.ts[e.i]? = some t) : Chain w sz off (e.next :: es) :=
  ⟨h.1, by have := (List.getElem?_eq_some_iff.1 ht).1; unfold En.next; simp only; omega, h.2.2.1, h.2.2.2⟩
theorem kn_next {e : En} {es : List En} {l : PlL} (h : Kn w sz off l (e :: es)) : Kn w sz off l (e.next :: es) := by
  intro p s hs
  rcases h p s hs with ⟨h1, f, hf, hp⟩ | h2
  · rcases List.mem_cons.1 hf with rfl | hf
    · exact .inl ⟨h1, f.next, List.mem_cons_self .., hp⟩
    · exact .inl ⟨h1, f, List.mem_cons_of_mem _ hf, hp⟩
  · exact .inr h2
/-- An element with nothing below it. -/
theorem rnd_leaf {k : Nat} {b : Bool} {e : En} {es : List En} {l : PlL} {room : Nat} (h : Rnd w sz off k b e es l room) {t : Tt} (ht : e.ts[e.i]? = some t) (h0 : t.ks = []) : ∃ k', k' < k ∧ Rnd w sz off k' false e.next es l room := by
  obtain ⟨a1, a2, a3, a4, a5⟩ := h
  cases b with
  | true =>
    obtain ⟨t', q, d, s, c1, c2, -⟩ := a5 rfl
    rw [ht] at c1
    injection c1 with c1
    subst c1
    exact absurd h0 c2.pos
  | false =>
    obtain ⟨c1, c2⟩ := a4 rfl
    rw [drop_one ht, lowT_cons] at c1
    rw [drop_one ht, costT_cons, Tt.cost_ks] at c2
    refine ⟨costT (e.ts.drop (e.i + 1)) + costR es, by omega, chain_next a1 ht, kn_next a2, a3, fun _ => ⟨?_, rfl⟩, fun x => by cases x⟩
    unfold En.next
    simp only
    omega
/-- An element with a list that is known. -/
theorem rnd_known {k : Nat} {b : Bool} {e : En} {es : List En} {l : PlL} {room : Nat} (h : Rnd w sz off k b e es l room) {t : Tt} (ht : e.ts[e.i]? = some t) : ∃ k', (t.ks ≠ [] → k' < k) ∧ Rnd w sz off k' false e.next es l room := by
  obtain ⟨a1, a2, a3, a4, a5⟩ := h
  cases b with
  | true =>
    obtain ⟨t', q, d, s, c1, c2, -, c3, c4, c5⟩ := a5 rfl
    exact ⟨costT (e.ts.drop (e.i + 1)) + costR es, fun _ => by omega, chain_next a1 ht, kn_next a2, a3, fun _ => ⟨c4, rfl⟩, fun x => by cases x⟩
  | false =>
    obtain ⟨c1, c2⟩ := a4 rfl
    rw [drop_one ht, lowT_cons] at c1
    rw [drop_one ht, costT_cons, Tt.cost_ks] at c2
    refine ⟨costT (e.ts.drop (e.i + 1)) + costR es, fun _ => by omega, chain_next a1 ht, kn_next a2, a3, fun _ => ⟨?_, rfl⟩, fun x => by cases x⟩
    unfold En.next
    simp only
    omega
theorem mem_setP : ∀ {l : PlL} {q : Addr × Nat} {s : Nat × Nat} {x : (Addr × Nat) × (Nat × Nat)}, x ∈ setP l q s → x.1 = q ∨ ∃ y ∈ l, y.1 = x.1
  | [], q, s, x, h => by
    simp only [setP, List.mem_singleton] at h
    exact .inl (by rw [h])
  | y :: l, q, s, x, h => by
    unfold setP at h
    by_cases e : q = y.1
    · rw [if_pos e] at h
      rcases List.mem_cons.1 h with h | h
      · exact .inl (by rw [h, e])
      · exact .inr ⟨x, List.mem_cons_of_mem _ h, rfl⟩
    · rw [if_neg e] at h
      rcases List.mem_cons.1 h with h | h
      · exact .inr ⟨y, List.mem_cons_self .., by rw [h]⟩
      · rcases mem_setP h with h | ⟨z, hz, hx⟩
        · exact .inl h
        · exact .inr ⟨z, List.mem_cons_of_mem _ hz, hx⟩
theorem ok_setP {l : PlL} {q : Addr × Nat} {s : Nat × Nat} (h : ∀ x ∈ l, OkB w x.1.1.block) (hq : OkB w q.1.block) : ∀ x ∈ setP l q s, OkB w x.1.1.block := by
  intro x hx
  rcases mem_setP hx with e | ⟨y, hy, e⟩
  · rw [e]; exact hq
  · rw [← e]; exact h y hy
/-- An element with a list of which nothing is known. -/
theorem rnd_push {k : Nat} {b : Bool} {e : En} {es : List En} {l : PlL} {room : Nat} (h : Rnd w sz off k b e es l room) {t : Tt} (ht : e.ts[e.i]? = some t) {q : Addr × Nat} {d : Nat} (hq : LK w sz off d q t.ks) (hkp : KidP w sz off e.p.1 e.i q) (hs : getP l q = none) :
    q.2 ≤ room ∧ ∃ k', k' < k ∧ Rnd w sz off k' false ⟨q, t.ks, 0⟩ (e :: es) (setP l q (0, 0)) (room - q.2) := by
  obtain ⟨a1, a2, a3, a4, a5⟩ := h
  cases b with
  | true =>
    obtain ⟨t', q', d', s, c1, c2, c3, c4, -⟩ := a5 rfl
    rw [hkp.same c3] at hs
    rw [hs] at c4
    cases c4
  | false =>
    obtain ⟨c1, c2⟩ := a4 rfl
    rw [drop_one ht, lowT_cons, cntT_low, hq.len] at c1
    rw [drop_one ht, costT_cons, Tt.cost_ks] at c2
    refine ⟨by omega, costT t.ks + costR (e :: es), by rw [costR_cons]; omega, ⟨⟨d, hq⟩, Nat.zero_le _, fun f fs hf => by injection hf with h1 h2; subst h1; exact ⟨t, ht, rfl, hkp⟩, a1⟩, ?_, ok_setP a3 hq.ok, fun _ => ⟨?_, rfl⟩, fun x => by cases x⟩
    · intro p s hp
      rw [getP_setP] at hp
      split at hp
      · rename_i e1
        injection hp with hp
        exact .inl ⟨hp.symm, _, List.mem_cons_self .., e1.symm⟩
      · rcases a2 p s hp with ⟨h1, f, hf, hp⟩ | h2
        · exact .inl ⟨h1, f, List.mem_cons_of_mem _ hf, hp⟩
        · exact .inr h2
    · simp only [List.drop_zero, lowR_cons]
      omega
/-- A list whose elements are all behind. -/
theorem rnd_pop {k : Nat} {b : Bool} {e f : En} {fs : List En} {l : PlL} {room : Nat} (h : Rnd w sz off k b e (f :: fs) l room) (hi : e.i = e.ts.length) : ∃ k', k' < k ∧ Rnd w sz off k' true f fs (setP l e.p (cntT e.ts, depT e.ts)) room := by
  obtain ⟨a1, a2, a3, a4, a5⟩ := h
  cases b with
  | true =>
    obtain ⟨t', q', d', s, c1, -⟩ := a5 rfl
    have := (List.getElem?_eq_some_iff.1 c1).1
    omega
  | false =>
    obtain ⟨c1, c2⟩ := a4 rfl
    have e0 : e.ts.drop e.i = [] := List.drop_eq_nil_of_le (by omega)
    rw [e0, lowR_cons] at c1
    rw [e0, costR_cons] at c2
    simp only [lowT, costT] at c1 c2
    obtain ⟨d, hd⟩ := a1.1
    obtain ⟨t, ht, hk, hkp⟩ := a1.2.2.1 f fs rfl
    refine ⟨1 + costT (f.ts.drop (f.i + 1)) + costR fs, by omega, a1.2.2.2, ?_, ok_setP a3 hd.ok, (fun x => by cases x), fun _ => ⟨t, e.p, d, _, ht, hk ▸ hd, hkp, by rw [getP_setP, if_pos rfl], by omega, rfl⟩⟩
    intro p s hp
    rw [getP_setP] at hp
    split at hp
    · rename_i e1
      injection hp with hp
      exact .inr ⟨d, e.ts, e1 ▸ hd, hp.symm⟩
    · rename_i e1
      rcases a2 p s hp with ⟨h1, g, hg, hp⟩ | h2
      · rcases List.mem_cons.1 hg with rfl | hg
        · exact absurd hp.symm e1
        · exact .inl ⟨h1, g, hg, hp⟩
      · exact .inr h2
end Go.Proofs.Ytfpeennegmlcpaa
