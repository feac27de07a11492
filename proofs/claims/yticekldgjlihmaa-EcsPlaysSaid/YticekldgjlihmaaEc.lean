/-
  A Store in memory: whose block is whose, and what a call on one part leaves of the others.
-/
import Derived.Test.YticekldgjlihmaaEb
import Derived.Test.YticekldgjlihmaaM4
namespace Go.Proofs.Yticekldgjlihmaa
open Go.ChangeShapes Go.WideShapes Go.ChangeAt Go.RowKit Go.Maps
set_option maxRecDepth 100000
set_option maxHeartbeats 400000

/-- A table's content: mask, entities, columns. -/
structure Tb where
  m : Int
  ids : List (Int × Int)
  cf : Nat → List Int
/-- .. with where its archetype and its table lie, and its map. -/
structure Ar where
  a : Nat
  t : Nat
  D : DataW Unit
  n : Nat
  b : Tb
def am (ts : List Ar) : List (Nat × Int) := ts.map fun r => (r.a, r.b.m)
theorem am_length (ts : List Ar) : (am ts).length = ts.length := by simp [am]
theorem am_get (ts : List Ar) (j : Nat) : (am ts)[j]? = (ts[j]?).map fun r => (r.a, r.b.m) := by simp [am]
theorem am_some {ts : List Ar} {j : Nat} {x : Nat × Int} (h : (am ts)[j]? = some x) : ∃ r, ts[j]? = some r ∧ x = (r.a, r.b.m) := by
  rw [am_get] at h
  rcases hr : ts[j]? with _ | r
  · rw [hr] at h; simp at h
  · rw [hr] at h; simp at h; exact ⟨r, rfl, h.symm⟩

/-- How a pointer to an archetype reads. -/
def ptrElem (v : Value) : Option (DataW Unit × List MemPlace) := match v with
  | .pointer (some a) => if a.off = 0 ∧ a.spot = none then some (.lit (.int .i64 a.block), []) else none
  | .pointer none => some (.lit (.int .i64 (-1)), [])
  | _ => none
theorem ptr_at (b : Nat) : ptrElem (.pointer (some ⟨b, 0, none⟩)) = some (.lit (.int .i64 b), []) := by simp [ptrElem]
theorem ptr_none : ptrElem (.pointer none) = some (.lit (.int .i64 (-1)), []) := rfl
theorem ptr_inv {v : Value} {b : Nat} {ps : List MemPlace} (h : ptrElem v = some (.lit (.int .i64 b), ps)) : v = .pointer (some ⟨b, 0, none⟩) := by
  unfold ptrElem at h
  split at h
  · rename_i a
    split at h
    · rename_i hc
      obtain ⟨blk, off, spot⟩ := a
      simp at hc h
      obtain ⟨rfl, rfl⟩ := hc
      have := h.1
      have e : blk = b := by omega
      rw [e]
    · cases h
  · simp at h
  · cases h

/-- The label of the blocks that came between w and w' is c. -/
def relab (φ : Nat → Int) (w w' : World) (c : Int) : Nat → Int := fun b => if w.heap.size ≤ b ∧ b < w'.heap.size then c else φ b
theorem relab_new {φ : Nat → Int} {w w' : World} {c : Int} : ∀ b, Ext (fun b => φ b = c) w w' b → relab φ w w' c b = c := by
  rintro b (h | h)
  · unfold relab; split
    · rfl
    · exact h
  · unfold relab; rw [if_pos h]
theorem relab_old {φ : Nat → Int} {w w' : World} {c d : Int} (hw : ∀ b, φ b ≠ 0 → b < w.heap.size) (hd : d ≠ 0) : ∀ b, φ b = d → relab φ w w' c b = d := by
  intro b hb
  unfold relab
  rw [if_neg (fun h => by have := hw b (by rw [hb]; exact hd); omega)]
  exact hb
theorem relab_wf {φ : Nat → Int} {w w' : World} {c : Int} (hw : ∀ b, φ b ≠ 0 → b < w.heap.size) (hs : w.heap.size ≤ w'.heap.size) : ∀ b, relab φ w w' c b ≠ 0 → b < w'.heap.size := by
  intro b hb
  unfold relab at hb
  split at hb
  · rename_i h; exact h.2
  · have := hw b hb; omega
theorem lab_dis {φ : Nat → Int} {c d : Int} (h : c ≠ d) : Dis (fun b => φ b = c) (fun b => φ b = d) := fun _ h1 h2 => h (h1.symm.trans h2)

/-- A Store at block g; φ tells whose block each is: 1 the Store's own and its places', 2 the row of archetypes, 3 the map, 4 + 2 m the archetype of mask m, 5 + 2 m its table. -/
structure SG (w : World) (φ : Nat → Int) (g : Nat) (room tables : Int) (ps : List (Int × Bool)) (ds : List Int) (ts : List Ar) (H : DataW Unit) (nh : Nat) (va : Value) (bh : Nat) : Prop where
  own : Own [.int .i64 tables, va, .map (some bh)] w (fun b => φ b = 1) g room ps ds
  row : w.ownsRow 0 81 1 va ts.length (pvc (am ts))
  rowL : ∀ k, va.ownBlock = some k → φ k = 2
  map : w.ownsMap Try.prog 30 ptrElem bh nh H
  mapL : φ bh = 3
  arch : ∀ (j : Nat) (r : Ar), ts[j]? = some r → w.heap[r.a]? = some (.cells #[.int .u16 r.b.m, .pointer (some ⟨r.t, 0, none⟩)] 93 (0, 0)) ∧ φ r.a = 4 + 2 * r.b.m
  tab : ∀ (j : Nat) (r : Ar), ts[j]? = some r → TO w (fun b => φ b = 5 + 2 * r.b.m) r.t r.b.m r.b.ids r.b.cf r.D r.n
  wf : ∀ b, φ b ≠ 0 → b < w.heap.size
  m0 : ∀ (j : Nat) (r : Ar), ts[j]? = some r → 0 ≤ r.b.m ∧ r.b.m < 65536
  asc : Asc (am ts)

theorem asc_ne {ts : List Ar} (ha : Asc (am ts)) {i j : Nat} {r q : Ar} (hi : ts[i]? = some r) (hj : ts[j]? = some q) (hm : r.b.m = q.b.m) : i = j := by
  have h1 : (am ts)[i]? = some (r.a, r.b.m) := by rw [am_get, hi]; rfl
  have h2 : (am ts)[j]? = some (q.a, q.b.m) := by rw [am_get, hj]; rfl
  rcases Nat.lt_trichotomy i j with h | h | h
  · have := ha i j _ _ h h1 h2; simp at this; omega
  · exact h
  · have := ha j i _ _ h h2 h1; simp at this; omega

section
variable {w w' : World} {φ : Nat → Int} {g : Nat} {room tables : Int} {ps : List (Int × Bool)} {ds : List Int} {ts : List Ar} {H : DataW Unit} {nh : Nat} {va : Value} {bh : Nat}

theorem SG.lt (h : SG w φ g room tables ps ds ts H nh va bh) : g < w.heap.size := by
  obtain ⟨vp, vd, hg, _⟩ := h.own
  exact blk_lt hg
theorem SG.at3 (h : SG w φ g room tables ps ds ts H nh va bh) : w.cell? ⟨g, 3, none⟩ = some (.int .i64 tables) := by
  obtain ⟨vp, vd, hg, _⟩ := h.own
  exact cell_blk hg 3
theorem SG.at4 (h : SG w φ g room tables ps ds ts H nh va bh) : w.cell? ⟨g, 4, none⟩ = some va := by
  obtain ⟨vp, vd, hg, _⟩ := h.own
  exact cell_blk hg 4
theorem SG.at5 (h : SG w φ g room tables ps ds ts H nh va bh) : w.cell? ⟨g, 5, none⟩ = some (.map (some bh)) := by
  obtain ⟨vp, vd, hg, _⟩ := h.own
  exact cell_blk hg 5
theorem SG.free (h : SG w φ g room tables ps ds ts H nh va bh) (i : Nat) : w.frozen? ⟨g, i, none⟩ = false := by
  obtain ⟨vp, vd, hg, _⟩ := h.own
  exact free_blk hg i
theorem SG.masks (h : SG w φ g room tables ps ds ts H nh va bh) : ∀ (j : Nat) (x : Nat × Int), (am ts)[j]? = some x → x.1 < w.heap.size ∧ w.cell? ⟨x.1, 0, none⟩ = some (.int .u16 x.2) := by
  intro j x hx
  obtain ⟨r, hr, rfl⟩ := am_some hx
  have := (h.arch j r hr).1
  exact ⟨blk_lt this, cell_blk this 0⟩
theorem ownsMap_touch {P : Program} {k : TypeId} {R : Value → Option (DataW Unit × List MemPlace)} {b n : Nat} {D : DataW Unit} {F : Nat → Prop} (h : w.ownsMap P k R b n D) (t : Touch F w w') (hf : ¬ F b) : w'.ownsMap P k R b n D := by
  obtain ⟨es, clock, hb, r⟩ := h
  exact ⟨es, clock, (t.block b (blk_lt hb) hf).trans hb, r⟩

/-- What a call on the blocks of label c leaves of the rest. -/
theorem SG.rest (h : SG w φ g room tables ps ds ts H nh va bh) {c : Int} (t : Touch (fun b => φ b = c) w w') :
    (c ≠ 1 → Own [.int .i64 tables, va, .map (some bh)] w' (fun b => relab φ w w' c b = 1) g room ps ds) ∧
    (c ≠ 2 → w'.ownsRow 0 81 1 va ts.length (pvc (am ts)) ∧ ∀ k, va.ownBlock = some k → relab φ w w' c k = 2) ∧
    (c ≠ 3 → w'.ownsMap Try.prog 30 ptrElem bh nh H ∧ relab φ w w' c bh = 3) ∧
    (∀ (j : Nat) (r : Ar), ts[j]? = some r → c ≠ 4 + 2 * r.b.m → w'.heap[r.a]? = some (.cells #[.int .u16 r.b.m, .pointer (some ⟨r.t, 0, none⟩)] 93 (0, 0)) ∧ relab φ w w' c r.a = 4 + 2 * r.b.m) ∧
    (∀ (j : Nat) (r : Ar), ts[j]? = some r → c ≠ 5 + 2 * r.b.m → TO w' (fun b => relab φ w w' c b = 5 + 2 * r.b.m) r.t r.b.m r.b.ids r.b.cf r.D r.n) ∧
    (∀ b, relab φ w w' c b ≠ 0 → b < w'.heap.size) := by
  refine ⟨fun h1 => ?_, fun h1 => ⟨?_, fun k hk => relab_old h.wf (by omega) k (h.rowL k hk)⟩, fun h1 => ⟨?_, relab_old h.wf (by omega) bh h.mapL⟩, fun j r hr h1 => ⟨?_, relab_old h.wf (by have := h.m0 j r hr; omega) r.a (h.arch j r hr).2⟩, fun j r hr h1 => ?_, relab_wf h.wf t.size⟩
  · exact (h.own.keep t (lab_dis (fun e => h1 e.symm))).more (fun k hk => relab_old h.wf (by omega) k hk)
  · exact row_touch h.row t (fun k hk e => h1 (by have := h.rowL k hk; omega))
  · exact ownsMap_touch h.map t (fun e => h1 (by have := h.mapL; omega))
  · exact (t.block r.a (blk_lt (h.arch j r hr).1) (fun e => h1 (by have := (h.arch j r hr).2; omega))).trans (h.arch j r hr).1
  · exact ((h.tab j r hr).keep t (lab_dis (fun e => h1 e.symm))).more (fun k hk => relab_old h.wf (by have := h.m0 j r hr; omega) k hk)

theorem SG.quiet (h : SG w φ g room tables ps ds ts H nh va bh) (t : Touch NoB w w') : SG w' φ g room tables ps ds ts H nh va bh :=
  ⟨h.own.keep t (fun _ _ x => x), row_touch h.row t (fun _ _ x => x), h.rowL, ownsMap_touch h.map t (fun x => x), h.mapL, fun j r hr => ⟨(t.block r.a (blk_lt (h.arch j r hr).1) (fun x => x)).trans (h.arch j r hr).1, (h.arch j r hr).2⟩, fun j r hr => (h.tab j r hr).quiet t, fun b hb => Nat.lt_of_lt_of_le (h.wf b hb) t.size, h.m0, h.asc⟩

/-- What is not the Store's is changed. -/
theorem SG.keep (h : SG w φ g room tables ps ds ts H nh va bh) {G : Nat → Prop} (t : Touch G w w') (d : ∀ b, φ b ≠ 0 → ¬ G b) : SG w' φ g room tables ps ds ts H nh va bh := by
  have dd : ∀ c : Int, c ≠ 0 → Dis (fun b => φ b = c) G := fun c hc b hb hg => d b (by rw [hb]; exact hc) hg
  exact ⟨h.own.keep t (dd 1 (by decide)), row_touch h.row t (fun k hk => d k (by rw [h.rowL k hk]; decide)), h.rowL, ownsMap_touch h.map t (d bh (by rw [h.mapL]; decide)), h.mapL, fun j r hr => ⟨(t.block r.a (blk_lt (h.arch j r hr).1) (d r.a (by have := h.m0 j r hr; rw [(h.arch j r hr).2]; omega))).trans (h.arch j r hr).1, (h.arch j r hr).2⟩, fun j r hr => (h.tab j r hr).keep t (dd _ (by have := h.m0 j r hr; omega)), fun b hb => Nat.lt_of_lt_of_le (h.wf b hb) t.size, h.m0, h.asc⟩

/-- The places have changed. -/
theorem SG.putIds (h : SG w φ g room tables ps ds ts H nh va bh) (t : Touch (fun b => φ b = 1) w w') {ps' : List (Int × Bool)} {ds' : List Int} (ho : Own [.int .i64 tables, va, .map (some bh)] w' (Ext (fun b => φ b = 1) w w') g room ps' ds') : SG w' (relab φ w w' 1) g room tables ps' ds' ts H nh va bh := by
  obtain ⟨_, r2, r3, r4, r5, r6⟩ := h.rest t
  exact ⟨ho.more relab_new, (r2 (by decide)).1, (r2 (by decide)).2, (r3 (by decide)).1, (r3 (by decide)).2, fun j r hr => r4 j r hr (by have := h.m0 j r hr; omega), fun j r hr => r5 j r hr (by have := h.m0 j r hr; omega), r6, h.m0, h.asc⟩

/-- The map has changed. -/
theorem SG.putMap (h : SG w φ g room tables ps ds ts H nh va bh) {nh' : Nat} {H' : DataW Unit} (hg : w.grownBy w' (some bh)) (ho : w'.ownsMap Try.prog 30 ptrElem bh nh' H') : SG w' (relab φ w w' 3) g room tables ps ds ts H' nh' va bh := by
  have t : Touch (fun b => φ b = 3) w w' := (Touch.refl (fun b => φ b = 3) w).grown hg (fun k e => by injection e with e; subst e; exact .inl h.mapL)
  obtain ⟨r1, r2, _, r4, r5, r6⟩ := h.rest t
  exact ⟨r1 (by decide), (r2 (by decide)).1, (r2 (by decide)).2, ho, relab_old h.wf (by decide) _ h.mapL, fun j r hr => r4 j r hr (by have := h.m0 j r hr; omega), fun j r hr => r5 j r hr (by have := h.m0 j r hr; omega), r6, h.m0, h.asc⟩

theorem am_set {ts : List Ar} {j : Nat} {r q : Ar} (hr : ts[j]? = some r) (ha : q.a = r.a) (hm : q.b.m = r.b.m) : am (ts.set j q) = am ts := by
  unfold am
  rw [List.map_set]
  refine set_same ?_
  rw [List.getElem?_map, hr]
  simp [ha, hm]
theorem set_get {α : Type} {l : List α} {j k : Nat} {q r : α} (h : (l.set j q)[k]? = some r) : (k = j ∧ r = q ∧ j < l.length) ∨ (k ≠ j ∧ l[k]? = some r) := by
  by_cases e : k = j
  · subst e
    have hl : k < l.length := by have := (List.getElem?_eq_some_iff.1 h).1; simpa using this
    rw [List.getElem?_set_self hl] at h
    injection h with h
    exact .inl ⟨rfl, h.symm, hl⟩
  · rw [List.getElem?_set_ne (fun x => e x.symm)] at h
    exact .inr ⟨e, h⟩

/-- A table has changed. -/
theorem SG.putTab (h : SG w φ g room tables ps ds ts H nh va bh) {j : Nat} {r : Ar} (hr : ts[j]? = some r) (t : Touch (fun b => φ b = 5 + 2 * r.b.m) w w') {ids' : List (Int × Int)} {cf' : Nat → List Int} {D' : DataW Unit} {n' : Nat}
    (ho : TO w' (Ext (fun b => φ b = 5 + 2 * r.b.m) w w') r.t r.b.m ids' cf' D' n') : SG w' (relab φ w w' (5 + 2 * r.b.m)) g room tables ps ds (ts.set j ⟨r.a, r.t, D', n', ⟨r.b.m, ids', cf'⟩⟩) H nh va bh := by
  have hm := h.m0 j r hr
  obtain ⟨r1, r2, r3, r4, r5, r6⟩ := h.rest (c := 5 + 2 * r.b.m) t
  have ea := am_set (q := ⟨r.a, r.t, D', n', ⟨r.b.m, ids', cf'⟩⟩) hr rfl rfl
  refine ⟨r1 (by omega), by rw [List.length_set, ea]; exact (r2 (by omega)).1, (r2 (by omega)).2, (r3 (by omega)).1, (r3 (by omega)).2, fun k q hq => ?_, fun k q hq => ?_, r6, fun k q hq => ?_, by rw [ea]; exact h.asc⟩
  · rcases set_get hq with ⟨_, rfl, _⟩ | ⟨_, hq⟩
    · exact r4 j r hr (by omega)
    · exact r4 k q hq (by have := h.m0 k q hq; omega)
  · rcases set_get hq with ⟨_, rfl, _⟩ | ⟨hk, hq⟩
    · exact ho.more relab_new
    · exact r5 k q hq (fun e => hk (asc_ne h.asc hq hr (by omega)))
  · rcases set_get hq with ⟨_, rfl, _⟩ | ⟨_, hq⟩
    · exact hm
    · exact h.m0 k q hq
end
end Go.Proofs.Yticekldgjlihmaa
