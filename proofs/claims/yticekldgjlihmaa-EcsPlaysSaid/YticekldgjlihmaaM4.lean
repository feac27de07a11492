/-
  What the map of a Table tells, behind Add and behind Remove: said of lists and of what a map reads as.
-/
import Derived.Test.YticekldgjlihmaaTg
import Derived.Test.YticekldgjlihmaaM2
namespace Go.Proofs.Yticekldgjlihmaa
open Go.ChangeShapes Go.WideShapes Go.ChangeAt Go.RowKit Go.Maps

/-- Entities of 64 bits, none of them twice. -/
structure IdsOk (ids : List (Int × Int)) : Prop where
  wf : ∀ (r : Nat) (i x : Int), ids[r]? = some (i, x) → I64 i ∧ I64 x
  once : Once ids
theorem idsok_nil : IdsOk [] := ⟨fun r i x h => by simp at h, fun a b p h => by simp at h⟩

theorem snoc_get {α : Type} {l : List α} {a x : α} {j : Nat} (h : (l ++ [a])[j]? = some x) : (j < l.length ∧ l[j]? = some x) ∨ (j = l.length ∧ x = a) := by
  by_cases hj : j < l.length
  · rw [List.getElem?_append_left hj] at h
    exact .inl ⟨hj, h⟩
  · rw [List.getElem?_append_right (by omega)] at h
    have h1 := (List.getElem?_eq_some_iff.1 h).1
    simp at h1
    have e : j = l.length := by omega
    subst e
    simp at h
    exact .inr ⟨rfl, h.symm⟩

theorem IdsOk.snoc {ids : List (Int × Int)} (h : IdsOk ids) {i x : Int} (hi : I64 i) (hx : I64 x) (hr : rowOf ids (i, x) = none) : IdsOk (ids ++ [(i, x)]) := by
  constructor
  · intro r i' x' hr'
    rcases snoc_get hr' with ⟨_, e⟩ | ⟨_, e⟩
    · exact h.wf r i' x' e
    · injection e with e1 e2
      subst e1 e2
      exact ⟨hi, hx⟩
  · intro a b p ha hb
    rcases snoc_get ha with ⟨la, ea⟩ | ⟨la, ea⟩ <;> rcases snoc_get hb with ⟨lb, eb⟩ | ⟨lb, eb⟩
    · exact h.once a b p ea eb
    · subst eb
      exact absurd ea (rowOf_none hr a)
    · subst ea
      exact absurd eb (rowOf_none hr b)
    · omega

theorem MapIs.snoc {D : DataW Unit} {ids : List (Int × Int)} (h : MapIs D ids) (ho : IdsOk ids) (hm : IsMap D) {i x : Int} (hi : I64 i) (hx : I64 x) (hr : rowOf ids (i, x) = none) : MapIs (D.put (klI i x) (.lit (.int .i64 ids.length))) (ids ++ [(i, x)]) := by
  constructor
  · intro r i' x' hr'
    rcases snoc_get hr' with ⟨lr, e⟩ | ⟨lr, e⟩
    · obtain ⟨w1, w2⟩ := ho.wf r i' x' e
      have hne : klI i' x' ≠ klI i x := fun ek => rowOf_none hr r (by rw [← kl_inj w1 w2 hi hx ek]; exact e)
      rw [has_put_other hne, atKey_put_other hne]
      exact h.yes r i' x' e
    · injection e with e1 e2
      subst e1 e2 lr
      exact ⟨has_put_same hm (kl_key hi hx) _, atKey_put_same hm (kl_key hi hx) _ _⟩
  · intro i' x' w1 w2 hno
    have hne : klI i' x' ≠ klI i x := fun ek => by
      have e := kl_inj w1 w2 hi hx ek
      refine hno ids.length ?_
      rw [List.getElem?_append_right (Nat.le_refl _), e]
      simp
    rw [has_put_other hne]
    refine h.no i' x' w1 w2 (fun r e => hno r ?_)
    rw [List.getElem?_append_left (List.getElem?_eq_some_iff.1 e).1]
    exact e

theorem cut_get {α : Type} (d : α) (l : List α) {r j : Nat} (hr : r < l.length) (hj : j < l.length - 1) : (cutAt d l r)[j]? = if j = r then l[l.length - 1]? else l[j]? := by
  unfold cutAt
  rw [List.getElem?_take, if_pos hj]
  by_cases e : j = r
  · subst e
    rw [List.getElem?_set_self hr, if_pos rfl, List.getD_eq_getElem?_getD, List.getElem?_eq_getElem (by omega)]
    rfl
  · rw [List.getElem?_set_ne (fun x => e x.symm), if_neg e]
theorem cut_some {α : Type} {d : α} {l : List α} {r j : Nat} {x : α} (hr : r < l.length) (h : (cutAt d l r)[j]? = some x) : j < l.length - 1 ∧ ((j = r ∧ l[l.length - 1]? = some x) ∨ (j ≠ r ∧ l[j]? = some x)) := by
  have hj : j < l.length - 1 := by
    have := (List.getElem?_eq_some_iff.1 h).1
    rwa [cutAt_length] at this
  refine ⟨hj, ?_⟩
  rw [cut_get d l hr hj] at h
  by_cases e : j = r
  · rw [if_pos e] at h
    exact .inl ⟨e, h⟩
  · rw [if_neg e] at h
    exact .inr ⟨e, h⟩

theorem IdsOk.cut {ids : List (Int × Int)} (h : IdsOk ids) {r : Nat} (hr : r < ids.length) : IdsOk (cutAt (0, 0) ids r) := by
  constructor
  · intro j i x hj
    rcases cut_some hr hj with ⟨_, ⟨_, e⟩ | ⟨_, e⟩⟩
    · exact h.wf _ i x e
    · exact h.wf _ i x e
  · intro a b p ha hb
    obtain ⟨la, xa⟩ := cut_some hr ha
    obtain ⟨lb, xb⟩ := cut_some hr hb
    rcases xa with ⟨ea, fa⟩ | ⟨ea, fa⟩ <;> rcases xb with ⟨eb, fb⟩ | ⟨eb, fb⟩
    · omega
    · have := h.once _ _ p fa fb; omega
    · have := h.once _ _ p fa fb; omega
    · exact h.once _ _ p fa fb

theorem MapIs.cut {D : DataW Unit} {ids : List (Int × Int)} (h : MapIs D ids) (ho : IdsOk ids) (hm : IsMap D) {r : Nat} {i0 x0 i1 x1 : Int} (hr : r < ids.length) (h0 : ids[r]? = some (i0, x0)) (h9 : ids[ids.length - 1]? = some (i1, x1)) :
    MapIs ((D.put (klI i1 x1) (.lit (.int .i64 r))).del (klI i0 x0)) (cutAt (0, 0) ids r) := by
  obtain ⟨v0, v1⟩ := ho.wf _ _ _ h0
  obtain ⟨v2, v3⟩ := ho.wf _ _ _ h9
  constructor
  · intro j i x hj
    obtain ⟨lj, xj⟩ := cut_some hr hj
    rcases xj with ⟨ej, fj⟩ | ⟨ej, fj⟩
    · subst ej
      rw [h9] at fj
      injection fj with fj
      injection fj with e1 e2
      subst e1 e2
      have hne : klI i1 x1 ≠ klI i0 x0 := fun ek => by
        have e := kl_inj v2 v3 v0 v1 ek
        rw [e] at h9
        have := ho.once _ _ _ h0 h9
        omega
      rw [has_del_other hne, atKey_del_other hne]
      exact ⟨has_put_same hm (kl_key v2 v3) _, atKey_put_same hm (kl_key v2 v3) _ _⟩
    · obtain ⟨w1, w2⟩ := ho.wf _ _ _ fj
      have hne0 : klI i x ≠ klI i0 x0 := fun ek => by
        have e := kl_inj w1 w2 v0 v1 ek
        rw [e] at fj
        have := ho.once _ _ _ fj h0
        omega
      have hne1 : klI i x ≠ klI i1 x1 := fun ek => by
        have e := kl_inj w1 w2 v2 v3 ek
        rw [e] at fj
        have := ho.once _ _ _ fj h9
        omega
      rw [has_del_other hne0, atKey_del_other hne0, has_put_other hne1, atKey_put_other hne1]
      exact h.yes j i x fj
  · intro i x w1 w2 hno
    by_cases e0 : klI i x = klI i0 x0
    · rw [e0]
      exact has_del_same
    · rw [has_del_other e0]
      by_cases e1 : klI i x = klI i1 x1
      · exfalso
        have e := kl_inj w1 w2 v2 v3 e1
        have hrl : r ≠ ids.length - 1 := fun er => by
          rw [← er, h0] at h9
          injection h9 with h9
          have e2 := e.trans h9.symm
          injection e2 with a b
          exact e0 (by rw [a, b])
        refine hno r ?_
        rw [cut_get _ _ hr (by omega), if_pos rfl, h9, e]
      · rw [has_put_other e1]
        refine h.no i x w1 w2 (fun j ej => ?_)
        have hj := (List.getElem?_eq_some_iff.1 ej).1
        have hjr : j ≠ r := fun er => by
          rw [er, h0] at ej
          injection ej with ej
          injection ej with a b
          exact e0 (by rw [a, b])
        have hjl : j ≠ ids.length - 1 := fun er => by
          rw [er, h9] at ej
          injection ej with ej
          injection ej with a b
          exact e1 (by rw [a, b])
        refine hno j ?_
        rw [cut_get _ _ hr (by omega), if_neg hjr]
        exact ej

theorem TO.isMap {w : World} {F : Nat → Prop} {g : Nat} {m : Int} {ids : List (Int × Int)} {cf : Nat → List Int} {D : DataW Unit} {n : Nat} (h : TO w F g m ids cf D n) : IsMap D := by
  obtain ⟨_, _, _, _, h⟩ := h
  exact h.mp.isMap
end Go.Proofs.Yticekldgjlihmaa

/-
  The document's own Table (puppeteerref1) in memory: rows of an entity and sixteen values; what NewTable, has, Row, Get and Set return.
-/
namespace Go.Proofs.Yticekldgjlihmaa
open Go.ChangeShapes Go.WideShapes Go.ChangeAt Go.RowKit Go.Maps

/-- A row: its entity, and a value for each component. -/
abbrev Rw : Type := (Int × Int) × (Nat → Int)
/-- The sixteen values of a row. -/
def vals16 (f : Nat → Int) : List Value := (List.range 16).map (fun c => Value.int .i64 (f c))
/-- The cells of a row. -/
def oneRow (p : Rw) : List Value := .int .i64 p.1.1 :: .int .i64 p.1.2 :: vals16 p.2
/-- The cells of a list of rows. -/
def rowc (l : List Rw) : List Value := l.flatMap oneRow
theorem vals16_length (f : Nat → Int) : (vals16 f).length = 16 := by simp [vals16]
theorem oneRow_length (p : Rw) : (oneRow p).length = 18 := by simp [oneRow, vals16]
theorem rowc_length (l : List Rw) : (rowc l).length = l.length * 18 := by
  induction l with
  | nil => rfl
  | cons p l ih =>
    simp only [rowc, List.flatMap_cons, List.length_append, oneRow_length, List.length_cons] at ih ⊢
    omega
theorem rowc_snoc (l : List Rw) (p : Rw) : rowc (l ++ [p]) = rowc l ++ oneRow p := by simp [rowc]
theorem rowc_at (l : List Rw) (r j : Nat) (hj : j < 18) : (rowc l)[r * 18 + j]? = (l[r]?).bind (fun p => (oneRow p)[j]?) := by
  induction l generalizing r with
  | nil => simp [rowc]
  | cons p l ih =>
    simp only [rowc, List.flatMap_cons] at ih ⊢
    cases r with
    | zero =>
      rw [List.getElem?_append_left (by rw [oneRow_length]; omega)]
      simp
    | succ r =>
      rw [List.getElem?_append_right (by rw [oneRow_length]; omega), oneRow_length, show (r + 1) * 18 + j - 18 = r * 18 + j from by omega]
      exact ih r
theorem oneRow_val (p : Rw) {c : Nat} (hc : c < 16) : (oneRow p)[2 + c]? = some (.int .i64 (p.2 c)) := by
  unfold oneRow
  rw [show 2 + c = c + 1 + 1 from by omega, List.getElem?_cons_succ, List.getElem?_cons_succ]
  simp [vals16, hc]
theorem rowc_val {l : List Rw} {r c : Nat} {p : Rw} (h : l[r]? = some p) (hc : c < 16) : (rowc l)[r * 18 + 2 + c]? = some (.int .i64 (p.2 c)) := by
  rw [Nat.add_assoc, rowc_at l r (2 + c) (by omega), h]
  exact oneRow_val p hc
theorem rowc_0 {l : List Rw} {r : Nat} {p : Rw} (h : l[r]? = some p) : (rowc l)[r * 18]? = some (.int .i64 p.1.1) := by
  have := rowc_at l r 0 (by omega)
  rw [h] at this
  simpa [oneRow] using this
theorem rowc_1 {l : List Rw} {r : Nat} {p : Rw} (h : l[r]? = some p) : (rowc l)[r * 18 + 1]? = some (.int .i64 p.1.2) := by
  rw [rowc_at l r 1 (by omega), h]
  simp [oneRow]

/-- One value is another. -/
def valAt (f : Nat → Int) (c : Nat) (v : Int) : Nat → Int := fun d => if d = c then v else f d
theorem oneRow_set (p : Rw) {c : Nat} (hc : c < 16) (v : Int) : oneRow (p.1, valAt p.2 c v) = (oneRow p).set (2 + c) (.int .i64 v) := by
  apply List.ext_getElem?
  intro j
  rw [List.getElem?_set]
  by_cases hj : j < 18
  · rcases j with _ | _ | j
    · simp [oneRow]
    · rw [if_neg (by omega)]
      simp [oneRow]
    · rw [show j + 1 + 1 = 2 + j from by omega, oneRow_val _ (by omega)]
      by_cases e : c = j
      · subst e
        rw [if_pos rfl, if_pos (by rw [oneRow_length]; omega)]
        simp [valAt]
      · rw [if_neg (by omega), oneRow_val _ (by omega)]
        simp [valAt]
        intro h
        exact absurd h.symm e
  · rw [List.getElem?_eq_none (by rw [oneRow_length]; omega)]
    split
    · rename_i e
      omega
    · rw [List.getElem?_eq_none (by rw [oneRow_length]; omega)]
theorem rowc_set {l : List Rw} {r c : Nat} {p : Rw} (h : l[r]? = some p) (hc : c < 16) (v : Int) : rowc (l.set r (p.1, valAt p.2 c v)) = (rowc l).set (r * 18 + 2 + c) (.int .i64 v) := by
  induction l generalizing r with
  | nil => simp at h
  | cons q l ih =>
    cases r with
    | zero =>
      simp at h
      subst h
      simp only [List.set_cons_zero, rowc, List.flatMap_cons, oneRow_set _ hc]
      rw [show 0 * 18 + 2 + c = 2 + c from by omega, List.set_append_left _ _ (by rw [oneRow_length]; omega)]
    | succ r =>
      have := ih (r := r) (by simpa using h)
      simp only [List.set_cons_succ, rowc, List.flatMap_cons] at this ⊢
      rw [this, List.set_append_right _ _ (by rw [oneRow_length]; omega), oneRow_length, show (r + 1) * 18 + 2 + c - 18 = r * 18 + 2 + c from by omega]

/-- The document's own Table lies at block g; every block of it is in F. -/
def RT (w : World) (F : Nat → Prop) (g : Nat) (m : Int) (l : List Rw) : Prop :=
  ∃ v, w.heap[g]? = some (.cells #[.int .u16 m, v] 100 (0, 0)) ∧ w.ownsRow 0 121 18 v l.length (rowc l) ∧ F g ∧ ∀ k, v.ownBlock = some k → F k
theorem RT.keep {w w' : World} {F G : Nat → Prop} {g : Nat} {m : Int} {l : List Rw} (h : RT w F g m l) (t : Touch G w w') (d : Dis F G) : RT w' F g m l := by
  obtain ⟨v, hg, hr, f0, f1⟩ := h
  exact ⟨v, (t.block g (blk_lt hg) (fun x => d g f0 x)).trans hg, row_touch hr t (fun k hk x => d k (f1 k hk) x), f0, f1⟩
theorem RT.more {w : World} {F G : Nat → Prop} {g : Nat} {m : Int} {l : List Rw} (h : RT w F g m l) (d : ∀ k, F k → G k) : RT w G g m l := by
  obtain ⟨v, hg, hr, f0, f1⟩ := h
  exact ⟨v, hg, hr, d _ f0, fun k hk => d _ (f1 k hk)⟩
theorem RT.quiet {w w' : World} {F : Nat → Prop} {g : Nat} {m : Int} {l : List Rw} (h : RT w F g m l) (t : Touch NoB w w') : RT w' F g m l := h.keep t (fun _ _ x => x)

theorem rtnew_any (m : Int) (w : World) :
    Calls Try.prog 61 #[.int .u16 m] w fun e w' => e = .returned (.pointer (some ⟨w.heap.size, 0, none⟩)) ∧ RT w' (fun b => b = w.heap.size) w.heap.size m [] ∧ Touch NoB w w' := by
  go_enter Try.func61, Try.ntmps61
  go_wp2
  go_ret
  exact ⟨rfl, ⟨_, alloc_blk w _ _ rfl, World.ownsRow_nil _ _ _ _, rfl, fun k hk => by simp [Value.ownBlock] at hk⟩, (Touch.refl _ _).alloc _⟩

set_option maxHeartbeats 400000 in
theorem rthas_any (g : Nat) (m c : Int) (w : World) (hm : 0 ≤ m) (hm2 : m < 65536) (h0 : w.cell? ⟨g, 0, none⟩ = some (.int .u16 m)) :
    Calls Try.prog 44 #[.pointer (some ⟨g, 0, none⟩), .int .i64 c] w fun e w' => e = .returned (.bool (colB m c)) ∧ w = w' := by
  by_cases h1 : 0 ≤ c
  · by_cases h2 : c < 16
    · obtain ⟨k, rfl⟩ := Int.eq_ofNat_of_zero_le h1
      have hr := div_range hm hm2 k
      have e1 : colB m (k : Int) = (bits .and .u16 (m / 2 ^ k) 1 == 1) := by
        rw [and_one hr.1 hr.2]
        unfold colB
        simp [h2, bit_mod]
      rw [e1]
      clear e1 hr
      go_enter Try.func44, Try.ntmps44
      go_wp2
      go_ret
      exact ⟨rfl, rfl⟩
    · have e1 : colB m c = false := by unfold colB; simp [h2]
      rw [e1]
      clear e1
      go_enter Try.func44, Try.ntmps44
      go_wp2
      go_ret
      exact ⟨rfl, rfl⟩
  · have e1 : colB m c = false := by unfold colB; simp [h1]
    rw [e1]
    clear e1
    go_enter Try.func44, Try.ntmps44
    go_wp2
    go_ret
    exact ⟨rfl, rfl⟩

set_option maxHeartbeats 1000000 in
theorem rtget_no (g : Nat) (m r c : Int) (l : List Rw) (F : Nat → Prop) (w : World) (h : RT w F g m l) (hm : 0 ≤ m) (hm2 : m < 65536) (hno : (rowB l.length r && colB m c) = false) :
    Calls Try.prog 48 #[.pointer (some ⟨g, 0, none⟩), .int .i64 r, .int .i64 c] w fun e w' => e = .returned (.tuple #[.int .i64 0, .bool false]) ∧ w = w' := by
  obtain ⟨v, hg, hr, f0, f1⟩ := h
  obtain ⟨A, cap, rfl, h1, h2⟩ := row_any hr
  unfold maxLen at h2
  have k0 : w.cell? ⟨g, 0, none⟩ = some (.int .u16 m) := cell_blk hg 0
  have k1 : w.cell? ⟨g, 1, none⟩ = some (.slice A l.length cap) := cell_blk hg 1
  have HC := Lib.hid (rthas_any g m c w hm hm2 k0)
  clear hg hr f0 f1 k0
  generalize l.length = L at *
  by_cases h3 : r < 0
  · clear hno
    go_enter Try.func48, Try.ntmps48
    go_wp2
    go_ret2
    exact ⟨rfl, rfl⟩
  · by_cases h4 : (L : Int) ≤ r
    · clear hno
      go_enter Try.func48, Try.ntmps48
      go_wp2
      go_ret2
      exact ⟨rfl, rfl⟩
    · have e1 : rowB L r = true := by unfold rowB; simp; omega
      rw [e1, Bool.true_and] at hno
      rw [hno] at HC
      clear e1 hno
      go_enter Try.func48, Try.ntmps48
      go_wp2_with fail
      refine HC.out.mono ?_
      rintro e w' ⟨rfl, rfl⟩
      go_wp2
      go_ret2
      exact ⟨rfl, rfl⟩

set_option maxHeartbeats 1000000 in
theorem rtget_yes (g r c : Nat) (m : Int) (p : Rw) (l : List Rw) (F : Nat → Prop) (w : World) (h : RT w F g m l) (hm : 0 ≤ m) (hm2 : m < 65536) (hp : l[r]? = some p) (hc : c < 16) (hb : bitB m c = true) :
    Calls Try.prog 48 #[.pointer (some ⟨g, 0, none⟩), .int .i64 r, .int .i64 c] w fun e w' => e = .returned (.tuple #[.int .i64 (p.2 c), .bool true]) ∧ w = w' := by
  obtain ⟨v, hg, hr, f0, f1⟩ := h
  have hrl : r < l.length := (List.getElem?_eq_some_iff.1 hp).1
  obtain ⟨gl, cap, rfl, h1, h2, hob⟩ := row_form hr (by omega)
  unfold maxLen at h2
  have k0 : w.cell? ⟨g, 0, none⟩ = some (.int .u16 m) := cell_blk hg 0
  have k1 : w.cell? ⟨g, 1, none⟩ = some (.slice (some ⟨gl, 0, none⟩) l.length cap) := cell_blk hg 1
  have k2 : w.cell? ⟨gl, r * 18 + 2 + c, none⟩ = some (.int .i64 (p.2 c)) := by rw [hr.cellAt (r * 18 + 2 + c) (by omega), rowc_val hp hc]
  have HC := Lib.hid (rthas_any g m c w hm hm2 k0)
  rw [colB_nat hc hb] at HC
  have hgl := row_lt hr hob
  clear hg hr f0 f1 k0 hp hb hob
  generalize l.length = L at *
  generalize p.2 c = z at *
  go_enter Try.func48, Try.ntmps48
  go_wp2_with fail
  refine HC.out.mono ?_
  rintro e w' ⟨rfl, rfl⟩
  go_wp2
  go_ret2
  exact ⟨rfl, rfl⟩

set_option maxHeartbeats 1000000 in
theorem rtset_no (g : Nat) (m r c x : Int) (l : List Rw) (F : Nat → Prop) (w : World) (h : RT w F g m l) (hm : 0 ≤ m) (hm2 : m < 65536) (hno : (rowB l.length r && colB m c) = false) :
    Calls Try.prog 45 #[.pointer (some ⟨g, 0, none⟩), .int .i64 r, .int .i64 c, .int .i64 x] w fun e w' => e = .returned (.bool false) ∧ w = w' := by
  obtain ⟨v, hg, hr, f0, f1⟩ := h
  obtain ⟨A, cap, rfl, h1, h2⟩ := row_any hr
  unfold maxLen at h2
  have k0 : w.cell? ⟨g, 0, none⟩ = some (.int .u16 m) := cell_blk hg 0
  have k1 : w.cell? ⟨g, 1, none⟩ = some (.slice A l.length cap) := cell_blk hg 1
  have HC := Lib.hid (rthas_any g m c w hm hm2 k0)
  clear hg hr f0 f1 k0
  generalize l.length = L at *
  by_cases h3 : r < 0
  · clear hno
    go_enter Try.func45, Try.ntmps45
    go_wp2
    go_ret
    exact ⟨rfl, rfl⟩
  · by_cases h4 : (L : Int) ≤ r
    · clear hno
      go_enter Try.func45, Try.ntmps45
      go_wp2
      go_ret
      exact ⟨rfl, rfl⟩
    · have e1 : rowB L r = true := by unfold rowB; simp; omega
      rw [e1, Bool.true_and] at hno
      rw [hno] at HC
      clear e1 hno
      go_enter Try.func45, Try.ntmps45
      go_wp2_with fail
      refine HC.out.mono ?_
      rintro e w' ⟨rfl, rfl⟩
      go_wp2
      go_ret
      exact ⟨rfl, rfl⟩

set_option maxHeartbeats 1000000 in
theorem rtset_yes (g r c : Nat) (m x : Int) (p : Rw) (l : List Rw) (F : Nat → Prop) (w : World) (h : RT w F g m l) (hm : 0 ≤ m) (hm2 : m < 65536) (hp : l[r]? = some p) (hc : c < 16) (hb : bitB m c = true) :
    Calls Try.prog 45 #[.pointer (some ⟨g, 0, none⟩), .int .i64 r, .int .i64 c, .int .i64 x] w fun e w' => e = .returned (.bool true) ∧ RT w' F g m (l.set r (p.1, valAt p.2 c x)) ∧ Touch F w w' := by
  obtain ⟨v, hg, hr, f0, f1⟩ := h
  have hrl : r < l.length := (List.getElem?_eq_some_iff.1 hp).1
  obtain ⟨gl, cap, rfl, h1, h2, hob⟩ := row_form hr (by omega)
  unfold maxLen at h2
  have k0 : w.cell? ⟨g, 0, none⟩ = some (.int .u16 m) := cell_blk hg 0
  have k1 : w.cell? ⟨g, 1, none⟩ = some (.slice (some ⟨gl, 0, none⟩) l.length cap) := cell_blk hg 1
  have k2 : w.cell? ⟨gl, r * 18 + 2 + c, none⟩ = some (.int .i64 (p.2 c)) := by rw [hr.cellAt (r * 18 + 2 + c) (by omega), rowc_val hp hc]
  have z2 : w.frozen? ⟨gl, r * 18 + 2 + c, none⟩ = false := hr.frozenAt _
  have HC := Lib.hid (rthas_any g m c w hm hm2 k0)
  rw [colB_nat hc hb] at HC
  have hgl := row_lt hr hob
  have hgg : gl ≠ g := fun e => row_ne hr hg (by decide) (by rw [e]; rfl)
  have hP : RT (w.setCell ⟨gl, r * 18 + 2 + c, none⟩ (.int .i64 x)) F g m (l.set r (p.1, valAt p.2 c x)) ∧ Touch F w (w.setCell ⟨gl, r * 18 + 2 + c, none⟩ (.int .i64 x)) := by
    refine ⟨⟨_, (Below.heap_setCell _ _ _ _ (fun e => hgg e.symm)).trans hg, ?_, f0, by simpa using f1⟩, (Touch.refl F w).setCell (p := ⟨gl, r * 18 + 2 + c, none⟩) (.inl (f1 gl hob)) _⟩
    rw [rowc_set hp hc, List.length_set]
    exact (hr.stored _ _).1
  have HP := Lib.hid hP
  clear hg hr f0 f1 k0 hp hb hob hP
  generalize l.length = L at *
  generalize p.2 c = z at *
  go_enter Try.func45, Try.ntmps45
  go_wp2_with fail
  refine HC.out.mono ?_
  rintro e w' ⟨rfl, rfl⟩
  go_wp2
  go_ret
  exact ⟨rfl, HP.out⟩
end Go.Proofs.Yticekldgjlihmaa

/-
  What a row of calls of Make and Drop keeps, said of lists alone: no identifier comes twice, and a dropped one stays dropped.
-/
namespace Go.Proofs.Yticekldgjlihmaa

theorem all_set_up (i : Nat) (ps : List (Int × Bool)) (k : Nat) (y z : Int) (h : ps[k]? = some (y, false)) : (allI i (ps.set k (z, true))).length = (allI i ps).length + 1 := by
  induction ps generalizing i k with
  | nil => simp at h
  | cons p ps ih =>
    cases k with
    | zero =>
      simp at h
      subst h
      simp [allI]
    | succ k =>
      simp only [List.getElem?_cons_succ] at h
      have := ih (i + 1) k h
      simp only [List.set_cons_succ, allI]
      split
      · simp only [List.length_cons, this]
      · exact this
theorem all_set_down (i : Nat) (ps : List (Int × Bool)) (k : Nat) (y z : Int) (h : ps[k]? = some (y, true)) : (allI i (ps.set k (z, false))).length + 1 = (allI i ps).length := by
  induction ps generalizing i k with
  | nil => simp at h
  | cons p ps ih =>
    cases k with
    | zero =>
      simp at h
      subst h
      simp [allI]
    | succ k =>
      simp only [List.getElem?_cons_succ] at h
      have := ih (i + 1) k h
      simp only [List.set_cons_succ, allI]
      split
      · simp only [List.length_cons]; omega
      · exact this

/-- What is kept: places and dropped ones, the identifiers made so far, and which of them are there. -/
structure OnceInv (room : Int) (ps : List (Int × Bool)) (ds : List Int) (md : List (Int × Int)) (th : List Bool) : Prop where
  len : (ps.length : Int) ≤ room
  cnt : (allI 0 ps).length + ds.length = ps.length
  fr : ∀ d ∈ ds, ∃ (k : Nat) (y : Int), d = k ∧ ps[k]? = some (y, false)
  nd : ds.Nodup
  gen : ∀ (k : Nat) (y : Int) (u : Bool), ps[k]? = some (y, u) → 0 ≤ y ∧ y ≤ md.length
  tl : th.length = md.length
  at_ : ∀ (j : Nat) (i x : Int), md[j]? = some (i, x) → ∃ (k : Nat) (y : Int) (u : Bool), i = k ∧ ps[k]? = some (y, u) ∧ x ≤ y ∧ th[j]? = some (u && (y == x))
  un : ∀ (j j' : Nat) (a : Int × Int), md[j]? = some a → md[j']? = some a → j = j'

theorem once_start (room : Int) (h : 0 ≤ room) : OnceInv room [] [] [] [] where
  len := by simpa using h
  cnt := rfl
  fr := by simp
  nd := List.nodup_nil
  gen := by simp
  tl := rfl
  at_ := by simp
  un := by simp

theorem get_snoc {α : Type} {l : List α} {a b : α} {j : Nat} (h : (l ++ [a])[j]? = some b) : l[j]? = some b ∨ (j = l.length ∧ b = a) := by
  by_cases hj : j < l.length
  · left; rwa [List.getElem?_append_left hj] at h
  · right
    rw [List.getElem?_append_right (by omega)] at h
    by_cases h0 : j - l.length = 0
    · rw [h0] at h; simp at h; exact ⟨by omega, h.symm⟩
    · rw [List.getElem?_eq_none (by simp; omega)] at h; cases h

section
variable {room : Int} {ps : List (Int × Bool)} {ds : List Int} {md : List (Int × Int)} {th : List Bool}

theorem OnceInv.pop {k : Nat} (h : OnceInv room ps (ds ++ [(k : Int)]) md th) :
    ∃ y, ps[k]? = some (y, false) ∧ 0 ≤ y ∧ y ≤ md.length ∧ OnceInv room (ps.set k (y + 1, true)) ds (md ++ [((k : Int), y + 1)]) (th ++ [true]) ∧ (∀ j : Nat, md[j]? ≠ some ((k : Int), y + 1)) ∧
      (allI 0 (ps.set k (y + 1, true))).length = (allI 0 ps).length + 1 ∧ ((allI 0 ps).length : Int) < room := by
  obtain ⟨k', y, hk, hy⟩ := h.fr k (by simp)
  obtain rfl : k = k' := by omega
  obtain ⟨g1, g2⟩ := h.gen k y false hy
  have hkl : k < ps.length := (List.getElem?_eq_some_iff.1 hy).1
  have hup := all_set_up 0 ps k y (y + 1) hy
  have hc := h.cnt
  have hlen := h.len
  rw [List.length_append, List.length_singleton] at hc
  have hfresh : ∀ j : Nat, md[j]? ≠ some ((k : Int), y + 1) := by
    intro j hj
    obtain ⟨k2, y2, u2, e, hp, hx, _⟩ := h.at_ j _ _ hj
    obtain rfl : k = k2 := by omega
    rw [hy] at hp
    injection hp with hp
    injection hp with hp1 hp2
    omega
  have hnd := List.nodup_append.1 h.nd
  refine ⟨y, hy, g1, g2, ?_, hfresh, hup, by omega⟩
  refine ⟨by simpa using hlen, by rw [hup, List.length_set]; omega, ?_, hnd.1, ?_, by simp [h.tl], ?_, ?_⟩
  · intro d hd
    obtain ⟨k2, y2, e, hp⟩ := h.fr d (List.mem_append_left _ hd)
    refine ⟨k2, y2, e, ?_⟩
    rw [List.getElem?_set_ne]
    · exact hp
    · rintro rfl
      exact hnd.2.2 d hd (k : Int) (by simp) e
  · intro k2 y2 u2 hp
    rw [List.length_append, List.length_singleton]
    by_cases e : k = k2
    · subst e
      rw [List.getElem?_set_self hkl] at hp
      injection hp with hp
      injection hp with hp1 hp2
      omega
    · rw [List.getElem?_set_ne e] at hp
      have := h.gen k2 y2 u2 hp
      omega
  · intro j i x hj
    rcases get_snoc hj with hj | ⟨hq, e⟩
    · obtain ⟨k2, y2, u2, e, hp, hx, ht⟩ := h.at_ j i x hj
      have hjl : j < th.length := (List.getElem?_eq_some_iff.1 ht).1
      by_cases e2 : k = k2
      · subst e2
        rw [hy] at hp
        injection hp with hp
        injection hp with hp1 hp2
        subst hp1 hp2
        refine ⟨k, y + 1, true, e, List.getElem?_set_self hkl, by omega, ?_⟩
        rw [List.getElem?_append_left hjl, ht]
        have : (y + 1 == x) = false := by simp; omega
        rw [this]; rfl
      · exact ⟨k2, y2, u2, e, by rw [List.getElem?_set_ne e2]; exact hp, hx, by rw [List.getElem?_append_left hjl]; exact ht⟩
    · have hjj := hq
      injection e with e1 e2
      subst e1 e2
      refine ⟨k, y + 1, true, rfl, List.getElem?_set_self hkl, by omega, ?_⟩
      rw [hjj, ← h.tl, List.getElem?_append_right (Nat.le_refl _)]
      simp
  · intro j j' a hj hj'
    rcases get_snoc hj with hj | ⟨hj, e⟩ <;> rcases get_snoc hj' with hj' | ⟨hj', e'⟩
    · exact h.un j j' a hj hj'
    · subst e'; exact absurd hj (hfresh j)
    · subst e; exact absurd hj' (hfresh j')
    · omega

theorem OnceInv.new (h : OnceInv room ps [] md th) (hr : (ps.length : Int) < room) :
    OnceInv room (ps ++ [(1, true)]) [] (md ++ [((ps.length : Int), 1)]) (th ++ [true]) ∧ (∀ j : Nat, md[j]? ≠ some ((ps.length : Int), 1)) ∧
      (allI 0 (ps ++ [(1, true)])).length = (allI 0 ps).length + 1 ∧ ((allI 0 ps).length : Int) < room := by
  have hc := h.cnt
  rw [List.length_nil] at hc
  have hup : (allI 0 (ps ++ [(1, true)])).length = (allI 0 ps).length + 1 := by rw [all_snoc, List.length_append]; rfl
  have hfresh : ∀ j : Nat, md[j]? ≠ some ((ps.length : Int), 1) := by
    intro j hj
    obtain ⟨k2, y2, u2, e, hp, hx, _⟩ := h.at_ j _ _ hj
    have := (List.getElem?_eq_some_iff.1 hp).1
    omega
  refine ⟨⟨by simp; omega, by rw [hup]; simp; omega, by simp, List.nodup_nil, ?_, by simp [h.tl], ?_, ?_⟩, hfresh, hup, by omega⟩
  · intro k y u hp
    rw [List.length_append, List.length_singleton]
    rcases get_snoc hp with hp | ⟨_, e⟩
    · have := h.gen k y u hp; omega
    · injection e with e1 e2; omega
  · intro j i x hj
    rcases get_snoc hj with hj | ⟨hq, e⟩
    · obtain ⟨k2, y2, u2, e, hp, hx, ht⟩ := h.at_ j i x hj
      have hkl : k2 < ps.length := (List.getElem?_eq_some_iff.1 hp).1
      have hjl : j < th.length := (List.getElem?_eq_some_iff.1 ht).1
      exact ⟨k2, y2, u2, e, by rw [List.getElem?_append_left hkl]; exact hp, hx, by rw [List.getElem?_append_left hjl]; exact ht⟩
    · have hjj := hq
      injection e with e1 e2
      subst e1 e2
      refine ⟨ps.length, 1, true, rfl, by rw [List.getElem?_append_right (Nat.le_refl _)]; simp, Int.le_refl _, ?_⟩
      rw [hjj, ← h.tl, List.getElem?_append_right (Nat.le_refl _)]
      simp
  · intro j j' a hj hj'
    rcases get_snoc hj with hj | ⟨hj, e⟩ <;> rcases get_snoc hj' with hj' | ⟨hj', e'⟩
    · exact h.un j j' a hj hj'
    · subst e'; exact absurd hj (hfresh j)
    · subst e; exact absurd hj' (hfresh j')
    · omega

theorem OnceInv.full (h : OnceInv room ps [] md th) (hr : room ≤ (ps.length : Int)) : ¬ ((allI 0 ps).length : Int) < room := by
  have hc := h.cnt
  rw [List.length_nil] at hc
  omega

/-- Has, of one that was made: what the row of bools says. -/
theorem OnceInv.has (h : OnceInv room ps ds md th) {j : Nat} {i x : Int} (hj : md[j]? = some (i, x)) : ∃ b, th[j]? = some b ∧ hasI ps i x = b := by
  obtain ⟨k, y, u, rfl, hp, _, ht⟩ := h.at_ j i x hj
  refine ⟨_, ht, ?_⟩
  unfold hasI
  simp [hp]

theorem OnceInv.drop (h : OnceInv room ps ds md th) {j : Nat} {i x : Int} (hj : md[j]? = some (i, x)) (ht : th[j]? = some true) :
    ∃ k : Nat, i = k ∧ ps[k]? = some (x, true) ∧ OnceInv room (ps.set k (x, false)) (ds ++ [(k : Int)]) md (th.set j false) ∧ (allI 0 (ps.set k (x, false))).length + 1 = (allI 0 ps).length := by
  obtain ⟨k, y, u, rfl, hp, hx, ht2⟩ := h.at_ j i x hj
  rw [ht] at ht2
  injection ht2 with ht2
  have hu : u = true ∧ y = x := by
    cases u
    · simp at ht2
    · simp at ht2; exact ⟨rfl, ht2⟩
  obtain ⟨rfl, rfl⟩ := hu
  have hkl : k < ps.length := (List.getElem?_eq_some_iff.1 hp).1
  have hdn := all_set_down 0 ps k y y hp
  have hc := h.cnt
  refine ⟨k, rfl, hp, ⟨by simpa using h.len, by rw [List.length_set, List.length_append, List.length_singleton]; omega, ?_, ?_, ?_, by simp [h.tl], ?_, h.un⟩, hdn⟩
  · intro d hd
    rcases List.mem_append.1 hd with hd | hd
    · obtain ⟨k2, y2, e, hp2⟩ := h.fr d hd
      refine ⟨k2, y2, e, ?_⟩
      rw [List.getElem?_set_ne]
      · exact hp2
      · rintro rfl
        rw [hp] at hp2
        injection hp2 with hp2
        injection hp2 with _ hp2
        cases hp2
    · obtain rfl : d = (k : Int) := by simpa using hd
      exact ⟨k, y, rfl, List.getElem?_set_self hkl⟩
  · refine List.nodup_append.2 ⟨h.nd, by simp, ?_⟩
    intro a ha b hb e
    obtain rfl : b = (k : Int) := by simpa using hb
    subst e
    obtain ⟨k2, y2, e, hp2⟩ := h.fr _ ha
    obtain rfl : k = k2 := by omega
    rw [hp] at hp2
    injection hp2 with hp2
    injection hp2 with _ hp2
    cases hp2
  · intro k2 y2 u2 hp2
    by_cases e : k = k2
    · subst e
      rw [List.getElem?_set_self hkl] at hp2
      injection hp2 with hp2
      injection hp2 with hp3 hp4
      have := h.gen k y true hp
      omega
    · rw [List.getElem?_set_ne e] at hp2
      exact h.gen k2 y2 u2 hp2
  · intro j2 i2 x2 hj2
    obtain ⟨k2, y2, u2, e, hp2, hx2, ht2⟩ := h.at_ j2 i2 x2 hj2
    by_cases ej : j = j2
    · subst ej
      rw [hj] at hj2
      injection hj2 with hj2
      injection hj2 with hj3 hj4
      subst hj3 hj4
      refine ⟨k, y, false, rfl, List.getElem?_set_self hkl, Int.le_refl _, ?_⟩
      rw [List.getElem?_set_self (by have := (List.getElem?_eq_some_iff.1 ht).1; exact this)]
      rfl
    · rw [List.getElem?_set_ne ej]
      by_cases ek : k = k2
      · subst ek
        rw [hp] at hp2
        injection hp2 with hp2
        injection hp2 with hp3 hp4
        subst hp3 hp4
        refine ⟨k, y, false, e, List.getElem?_set_self hkl, hx2, ?_⟩
        rw [ht2]
        have hne : (y == x2) = false := by
          simp only [beq_eq_false_iff_ne]
          rintro rfl
          exact ej (h.un j j2 _ hj (by rw [hj2, e]))
        rw [hne]; rfl
      · exact ⟨k2, y2, u2, e, by rw [List.getElem?_set_ne ek]; exact hp2, hx2, ht2⟩

theorem OnceInv.stay {j : Nat} (ht : th[j]? = some false) : th.set j false = th := set_same ht
end

end Go.Proofs.Yticekldgjlihmaa

/-
  Make, Drop and Has, as IdsOnce meets them: beside the row of what was made and the row of bools.
-/
namespace Go.Proofs.Yticekldgjlihmaa
open Go.ChangeShapes Go.WideShapes Go.ChangeAt Go.RowKit

/-- The cells of a row of bools. -/
def bc (th : List Bool) : List Value := th.map Value.bool
theorem bc_length (th : List Bool) : (bc th).length = th.length * 1 := by simp [bc]
theorem bc_at (th : List Bool) (j : Nat) : (bc th)[j]? = (th[j]?).map Value.bool := by simp [bc]
theorem bc_set (th : List Bool) (j : Nat) (b : Bool) : bc (th.set j b) = (bc th).set j (.bool b) := by simp [bc, List.map_set]
theorem bc_snoc (th : List Bool) (b : Bool) : bc (th ++ [b]) = bc th ++ [.bool b] := by simp [bc]

section
variable {B : Nat} {w w' : World} {g : Nat} {room : Int} {ps : List (Int × Bool)} {ds : List Int} {md : List (Int × Int)} {th : List Bool} {v7 v8 : Value}

end

theorem info_bool : (Try.prog.info? 4).map (fun i => (i.zero, i.size, i.bytes)) = some (some (.bool false), 1, 1) := by kernel_rfl

section
variable {B : Nat} {w w' : World} {g : Nat} {room : Int} {ps : List (Int × Bool)} {ds : List Int} {md : List (Int × Int)} {th : List Bool} {v7 v8 : Value}
end

/-- The world of a loop that only draws. -/
def DrawRel (W : World) (L : Nat) (j : Value) (wq : World) : Prop := ∃ q c : Nat, c ≤ L ∧ j = .int .i64 c ∧ wq = W.drewN q

theorem and_low (z : Int) : 0 ≤ bits .and .i64 z 1023 ∧ bits .and .i64 z 1023 ≤ 1023 := by
  have h : bits .and .i64 z 1023 = IntKind.i64.wrap ((BitVec.ofInt 64 z &&& BitVec.ofInt 64 1023).toNat : Int) := rfl
  have h2 : (BitVec.ofInt 64 z).toNat &&& (BitVec.ofInt 64 1023).toNat ≤ (BitVec.ofInt 64 1023).toNat := Nat.and_le_right
  have h3 : (BitVec.ofInt 64 1023).toNat = 1023 := by decide
  rw [h, BitVec.toNat_and, IntKind.wrap_i64]
  omega
theorem mod_low (z : Int) (L : Nat) : ∃ kk : Nat, (bits .and .i64 z 1023).tmod ((L : Int) + 1) = kk ∧ kk ≤ L := by
  obtain ⟨h1, _⟩ := and_low z
  obtain ⟨a, ha⟩ := Int.eq_ofNat_of_zero_le h1
  refine ⟨a % (L + 1), ?_, by have := Nat.mod_lt a (show 0 < L + 1 by omega); omega⟩
  rw [ha, show ((L : Int) + 1) = ((L + 1 : Nat) : Int) from rfl, Int.ofNat_tmod]

theorem quiet_num {P : Program} {f : FuncId} {args : Array Value} {w : World} {n : Nat} {v : Value}
    (h : Calls P f args (w.drewN n) fun e w' => e = .returned v ∧ w.drewN n = w') : Calls P f args (w.drewN n) fun e w'' => e = .returned v ∧ ∃ m, w'' = w.drewN m :=
  h.mono fun _ _ ⟨he, hm⟩ => ⟨he, n, hm.symm⟩

end Go.Proofs.Yticekldgjlihmaa
