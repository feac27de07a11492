/-
  The document's own Table (puppeteerref1) in memory: rows of an entity and sixteen values; what NewTable, has, Row, Get and Set return.
-/
import Derived.Test.YtmafhcfdamhejaaTh
namespace Go.Proofs.Ytmafhcfdamhejaa
open Go.ChangeShapes Go.WideShapes Go.ChangeAt Go.RowKit Go.Maps

/-- A row: its entity, and a value for each component. -/
abbrev Rw : Type := (Int × Int) × (Nat → Int)
/-- The sixteen values of a row. -/
def vals16 (f : Nat → Int) : List Value := (List.range 16).map (fun c => Value.int .i64 (f c))
/-- The cells of a row. -/
def oneRow (p : Rw) : List Value := .int .i64 p.1.1 :: .int .i64 p.1.2 :: vals16 p.2
/-- The cells of a list of rows. -/
def rowc (l : List Rw) : List Value := l.flatMap oneRow
theorem vals16_length (f : Nat → Int) : (vals16 f).length = 16 := by simp [vals16]
theorem oneRow_length (p : Rw) : (oneRow p).length = 18 := by simp [oneRow, vals16]
theorem rowc_length (l : List Rw) : (rowc l).length = l.length * 18 := by
  induction l with
  | nil => rfl
  | cons p l ih =>
    simp only [rowc, List.flatMap_cons, List.length_append, oneRow_length, List.length_cons] at ih ⊢
    omega
theorem rowc_snoc (l : List Rw) (p : Rw) : rowc (l ++ [p]) = rowc l ++ oneRow p := by simp [rowc]
theorem rowc_at (l : List Rw) (r j : Nat) (hj : j < 18) : (rowc l)[r * 18 + j]? = (l[r]?).bind (fun p => (oneRow p)[j]?) := by
  induction l generalizing r with
  | nil => simp [rowc]
  | cons p l ih =>
    simp only [rowc, List.flatMap_cons] at ih ⊢
    cases r with
    | zero =>
      rw [List.getElem?_append_left (by rw [oneRow_length]; omega)]
      simp
    | succ r =>
      rw [List.getElem?_append_right (by rw [oneRow_length]; omega), oneRow_length, show (r + 1) * 18 + j - 18 = r * 18 + j from by omega]
      exact ih r
theorem oneRow_val (p : Rw) {c : Nat} (hc : c < 16) : (oneRow p)[2 + c]? = some (.int .i64 (p.2 c)) := by
  unfold oneRow
  rw [show 2 + c = c + 1 + 1 from by omega, List.getElem?_cons_succ, List.getElem?_cons_succ]
  simp [vals16, hc]
theorem rowc_val {l : List Rw} {r c : Nat} {p : Rw} (h : l[r]? = some p) (hc : c < 16) : (rowc l)[r * 18 + 2 + c]? = some (.int .i64 (p.2 c)) := by
  rw [Nat.add_assoc, rowc_at l r (2 + c) (by omega), h]
  exact oneRow_val p hc
theorem rowc_0 {l : List Rw} {r : Nat} {p : Rw} (h : l[r]? = some p) : (rowc l)[r * 18]? = some (.int .i64 p.1.1) := by
  have := rowc_at l r 0 (by omega)
  rw [h] at this
  simpa [oneRow] using this
theorem rowc_1 {l : List Rw} {r : Nat} {p : Rw} (h : l[r]? = some p) : (rowc l)[r * 18 + 1]? = some (.int .i64 p.1.2) := by
  rw [rowc_at l r 1 (by omega), h]
  simp [oneRow]

/-- One value is another. -/
def valAt (f : Nat → Int) (c : Nat) (v : Int) : Nat → Int := fun d => if d = c then v else f d
theorem oneRow_set (p : Rw) {c : Nat} (hc : c < 16) (v : Int) : oneRow (p.1, valAt p.2 c v) = (oneRow p).set (2 + c) (.int .i64 v) := by
  apply List.ext_getElem?
  intro j
  rw [List.getElem?_set]
  by_cases hj : j < 18
  · rcases j with _ | _ | j
    · simp [oneRow]
    · rw [if_neg (by omega)]
      simp [oneRow]
    · rw [show j + 1 + 1 = 2 + j from by omega, oneRow_val _ (by omega)]
      by_cases e : c = j
      · subst e
        rw [if_pos rfl, if_pos (by rw [oneRow_length]; omega)]
        simp [valAt]
      · rw [if_neg (by omega), oneRow_val _ (by omega)]
        simp [valAt]
        intro h
        exact absurd h.symm e
  · rw [List.getElem?_eq_none (by rw [oneRow_length]; omega)]
    split
    · rename_i e
      omega
    · rw [List.getElem?_eq_none (by rw [oneRow_length]; omega)]
theorem rowc_set {l : List Rw} {r c : Nat} {p : Rw} (h : l[r]? = some p) (hc : c < 16) (v : Int) : rowc (l.set r (p.1, valAt p.2 c v)) = (rowc l).set (r * 18 + 2 + c) (.int .i64 v) := by
  induction l generalizing r with
  | nil => simp at h
  | cons q l ih =>
    cases r with
    | zero =>
      simp at h
      subst h
      simp only [List.set_cons_zero, rowc, List.flatMap_cons, oneRow_set _ hc]
      rw [show 0 * 18 + 2 + c = 2 + c from by omega, List.set_append_left _ _ (by rw [oneRow_length]; omega)]
    | succ r =>
      have := ih (r := r) (by simpa using h)
      simp only [List.set_cons_succ, rowc, List.flatMap_cons] at this ⊢
      rw [this, List.set_append_right _ _ (by rw [oneRow_length]; omega), oneRow_length, show (r + 1) * 18 + 2 + c - 18 = r * 18 + 2 + c from by omega]

/-- The document's own Table lies at block g; every block of it is in F. -/
def RT (w : World) (F : Nat → Prop) (g : Nat) (m : Int) (l : List Rw) : Prop :=
  ∃ v, w.heap[g]? = some (.cells #[.int .u16 m, v] 86 (0, 0)) ∧ w.ownsRow 0 91 18 v l.length (rowc l) ∧ F g ∧ ∀ k, v.ownBlock = some k → F k
theorem RT.keep {w w' : World} {F G : Nat → Prop} {g : Nat} {m : Int} {l : List Rw} (h : RT w F g m l) (t : Touch G w w') (d : Dis F G) : RT w' F g m l := by
  obtain ⟨v, hg, hr, f0, f1⟩ := h
  exact ⟨v, (t.block g (blk_lt hg) (fun x => d g f0 x)).trans hg, row_touch hr t (fun k hk x => d k (f1 k hk) x), f0, f1⟩
theorem RT.more {w : World} {F G : Nat → Prop} {g : Nat} {m : Int} {l : List Rw} (h : RT w F g m l) (d : ∀ k, F k → G k) : RT w G g m l := by
  obtain ⟨v, hg, hr, f0, f1⟩ := h
  exact ⟨v, hg, hr, d _ f0, fun k hk => d _ (f1 k hk)⟩
theorem RT.quiet {w w' : World} {F : Nat → Prop} {g : Nat} {m : Int} {l : List Rw} (h : RT w F g m l) (t : Touch NoB w w') : RT w' F g m l := h.keep t (fun _ _ x => x)

theorem rtnew_any (m : Int) (w : World) :
    Calls Try.prog 22 #[.int .u16 m] w fun e w' => e = .returned (.pointer (some ⟨w.heap.size, 0, none⟩)) ∧ RT w' (fun b => b = w.heap.size) w.heap.size m [] ∧ Touch NoB w w' := by
  go_enter Try.func22, Try.ntmps22
  go_wp2
  go_ret
  exact ⟨rfl, ⟨_, alloc_blk w _ _ rfl, World.ownsRow_nil _ _ _ _, rfl, fun k hk => by simp [Value.ownBlock] at hk⟩, (Touch.refl _ _).alloc _⟩

set_option maxHeartbeats 400000 in
theorem rthas_any (g : Nat) (m c : Int) (w : World) (hm : 0 ≤ m) (hm2 : m < 65536) (h0 : w.cell? ⟨g, 0, none⟩ = some (.int .u16 m)) :
    Calls Try.prog 44 #[.pointer (some ⟨g, 0, none⟩), .int .i64 c] w fun e w' => e = .returned (.bool (colB m c)) ∧ w = w' := by
  by_cases h1 : 0 ≤ c
  · by_cases h2 : c < 16
    · obtain ⟨k, rfl⟩ := Int.eq_ofNat_of_zero_le h1
      have hr := div_range hm hm2 k
      have e1 : colB m (k : Int) = (bits .and .u16 (m / 2 ^ k) 1 == 1) := by
        rw [and_one hr.1 hr.2]
        unfold colB
        simp [h2, bit_mod]
      rw [e1]
      clear e1 hr
      go_enter Try.func44, Try.ntmps44
      go_wp2
      go_ret
      exact ⟨rfl, rfl⟩
    · have e1 : colB m c = false := by unfold colB; simp [h2]
      rw [e1]
      clear e1
      go_enter Try.func44, Try.ntmps44
      go_wp2
      go_ret
      exact ⟨rfl, rfl⟩
  · have e1 : colB m c = false := by unfold colB; simp [h1]
    rw [e1]
    clear e1
    go_enter Try.func44, Try.ntmps44
    go_wp2
    go_ret
    exact ⟨rfl, rfl⟩

set_option maxHeartbeats 1000000 in
theorem rtget_no (g : Nat) (m r c : Int) (l : List Rw) (F : Nat → Prop) (w : World) (h : RT w F g m l) (hm : 0 ≤ m) (hm2 : m < 65536) (hno : (rowB l.length r && colB m c) = false) :
    Calls Try.prog 31 #[.pointer (some ⟨g, 0, none⟩), .int .i64 r, .int .i64 c] w fun e w' => e = .returned (.tuple #[.int .i64 0, .bool false]) ∧ w = w' := by
  obtain ⟨v, hg, hr, f0, f1⟩ := h
  obtain ⟨A, cap, rfl, h1, h2⟩ := row_any hr
  unfold maxLen at h2
  have k0 : w.cell? ⟨g, 0, none⟩ = some (.int .u16 m) := cell_blk hg 0
  have k1 : w.cell? ⟨g, 1, none⟩ = some (.slice A l.length cap) := cell_blk hg 1
  have HC := Lib.hid (rthas_any g m c w hm hm2 k0)
  clear hg hr f0 f1 k0
  generalize l.length = L at *
  by_cases h3 : r < 0
  · clear hno
    go_enter Try.func31, Try.ntmps31
    go_wp2
    go_ret2
    exact ⟨rfl, rfl⟩
  · by_cases h4 : (L : Int) ≤ r
    · clear hno
      go_enter Try.func31, Try.ntmps31
      go_wp2
      go_ret2
      exact ⟨rfl, rfl⟩
    · have e1 : rowB L r = true := by unfold rowB; simp; omega
      rw [e1, Bool.true_and] at hno
      rw [hno] at HC
      clear e1 hno
      go_enter Try.func31, Try.ntmps31
      go_wp2_with fail
      refine HC.out.mono ?_
      rintro e w' ⟨rfl, rfl⟩
      go_wp2
      go_ret2
      exact ⟨rfl, rfl⟩

set_option maxHeartbeats 1000000 in
theorem rtget_yes (g r c : Nat) (m : Int) (p : Rw) (l : List Rw) (F : Nat → Prop) (w : World) (h : RT w F g m l) (hm : 0 ≤ m) (hm2 : m < 65536) (hp : l[r]? = some p) (hc : c < 16) (hb : bitB m c = true) :
    Calls Try.prog 31 #[.pointer (some ⟨g, 0, none⟩), .int .i64 r, .int .i64 c] w fun e w' => e = .returned (.tuple #[.int .i64 (p.2 c), .bool true]) ∧ w = w' := by
  obtain ⟨v, hg, hr, f0, f1⟩ := h
  have hrl : r < l.length := (List.getElem?_eq_some_iff.1 hp).1
  obtain ⟨gl, cap, rfl, h1, h2, hob⟩ := row_form hr (by omega)
  unfold maxLen at h2
  have k0 : w.cell? ⟨g, 0, none⟩ = some (.int .u16 m) := cell_blk hg 0
  have k1 : w.cell? ⟨g, 1, none⟩ = some (.slice (some ⟨gl, 0, none⟩) l.length cap) := cell_blk hg 1
  have k2 : w.cell? ⟨gl, r * 18 + 2 + c, none⟩ = some (.int .i64 (p.2 c)) := by rw [hr.cellAt (r * 18 + 2 + c) (by omega), rowc_val hp hc]
  have HC := Lib.hid (rthas_any g m c w hm hm2 k0)
  rw [colB_nat hc hb] at HC
  have hgl := row_lt hr hob
  clear hg hr f0 f1 k0 hp hb hob
  generalize l.length = L at *
  generalize p.2 c = z at *
  go_enter Try.func31, Try.ntmps31
  go_wp2_with fail
  refine HC.out.mono ?_
  rintro e w' ⟨rfl, rfl⟩
  go_wp2
  go_ret2
  exact ⟨rfl, rfl⟩

set_option maxHeartbeats 1000000 in
theorem rtset_no (g : Nat) (m r c x : Int) (l : List Rw) (F : Nat → Prop) (w : World) (h : RT w F g m l) (hm : 0 ≤ m) (hm2 : m < 65536) (hno : (rowB l.length r && colB m c) = false) :
    Calls Try.prog 29 #[.pointer (some ⟨g, 0, none⟩), .int .i64 r, .int .i64 c, .int .i64 x] w fun e w' => e = .returned (.bool false) ∧ w = w' := by
  obtain ⟨v, hg, hr, f0, f1⟩ := h
  obtain ⟨A, cap, rfl, h1, h2⟩ := row_any hr
  unfold maxLen at h2
  have k0 : w.cell? ⟨g, 0, none⟩ = some (.int .u16 m) := cell_blk hg 0
  have k1 : w.cell? ⟨g, 1, none⟩ = some (.slice A l.length cap) := cell_blk hg 1
  have HC := Lib.hid (rthas_any g m c w hm hm2 k0)
  clear hg hr f0 f1 k0
  generalize l.length = L at *
  by_cases h3 : r < 0
  · clear hno
    go_enter Try.func29, Try.ntmps29
    go_wp2
    go_ret
    exact ⟨rfl, rfl⟩
  · by_cases h4 : (L : Int) ≤ r
    · clear hno
      go_enter Try.func29, Try.ntmps29
      go_wp2
      go_ret
      exact ⟨rfl, rfl⟩
    · have e1 : rowB L r = true := by unfold rowB; simp; omega
      rw [e1, Bool.true_and] at hno
      rw [hno] at HC
      clear e1 hno
      go_enter Try.func29, Try.ntmps29
      go_wp2_with fail
      refine HC.out.mono ?_
      rintro e w' ⟨rfl, rfl⟩
      go_wp2
      go_ret
      exact ⟨rfl, rfl⟩

set_option maxHeartbeats 1000000 in
theorem rtset_yes (g r c : Nat) (m x : Int) (p : Rw) (l : List Rw) (F : Nat → Prop) (w : World) (h : RT w F g m l) (hm : 0 ≤ m) (hm2 : m < 65536) (hp : l[r]? = some p) (hc : c < 16) (hb : bitB m c = true) :
    Calls Try.prog 29 #[.pointer (some ⟨g, 0, none⟩), .int .i64 r, .int .i64 c, .int .i64 x] w fun e w' => e = .returned (.bool true) ∧ RT w' F g m (l.set r (p.1, valAt p.2 c x)) ∧ Touch F w w' := by
  obtain ⟨v, hg, hr, f0, f1⟩ := h
  have hrl : r < l.length := (List.getElem?_eq_some_iff.1 hp).1
  obtain ⟨gl, cap, rfl, h1, h2, hob⟩ := row_form hr (by omega)
  unfold maxLen at h2
  have k0 : w.cell? ⟨g, 0, none⟩ = some (.int .u16 m) := cell_blk hg 0
  have k1 : w.cell? ⟨g, 1, none⟩ = some (.slice (some ⟨gl, 0, none⟩) l.length cap) := cell_blk hg 1
  have k2 : w.cell? ⟨gl, r * 18 + 2 + c, none⟩ = some (.int .i64 (p.2 c)) := by rw [hr.cellAt (r * 18 + 2 + c) (by omega), rowc_val hp hc]
  have z2 : w.frozen? ⟨gl, r * 18 + 2 + c, none⟩ = false := hr.frozenAt _
  have HC := Lib.hid (rthas_any g m c w hm hm2 k0)
  rw [colB_nat hc hb] at HC
  have hgl := row_lt hr hob
  have hgg : gl ≠ g := fun e => row_ne hr hg (by decide) (by rw [e]; rfl)
  have hP : RT (w.setCell ⟨gl, r * 18 + 2 + c, none⟩ (.int .i64 x)) F g m (l.set r (p.1, valAt p.2 c x)) ∧ Touch F w (w.setCell ⟨gl, r * 18 + 2 + c, none⟩ (.int .i64 x)) := by
    refine ⟨⟨_, (Below.heap_setCell _ _ _ _ (fun e => hgg e.symm)).trans hg, ?_, f0, by simpa using f1⟩, (Touch.refl F w).setCell (p := ⟨gl, r * 18 + 2 + c, none⟩) (.inl (f1 gl hob)) _⟩
    rw [rowc_set hp hc, List.length_set]
    exact (hr.stored _ _).1
  have HP := Lib.hid hP
  clear hg hr f0 f1 k0 hp hb hob hP
  generalize l.length = L at *
  generalize p.2 c = z at *
  go_enter Try.func29, Try.ntmps29
  go_wp2_with fail
  refine HC.out.mono ?_
  rintro e w' ⟨rfl, rfl⟩
  go_wp2
  go_ret
  exact ⟨rfl, HP.out⟩
end Go.Proofs.Ytmafhcfdamhejaa
