/-
  The document's own Ids (puppeteerref1): what NewIds and Has return, and what they leave in memory.
-/
import Derived.Test.YticekldgjlihmaaM4
namespace Go.Proofs.Yticekldgjlihmaa
open Go.ChangeShapes Go.WideShapes Go.ChangeAt Go.RowKit

theorem rwithin_any (n lo hi : Int) (w : World) :
    Calls Try.prog 23 #[.int .i64 n, .int .i64 lo, .int .i64 hi] w fun e w' => e = .returned (.int .i64 (withinI n lo hi)) ∧ w = w' := by
  by_cases h1 : n < lo <;> by_cases h2 : hi < lo <;> by_cases h3 : hi < n
  all_goals
    go_enter Try.func23, Try.ntmps23
    go_wp2
    all_goals
      go_ret
      exact ⟨ret_int (by unfold withinI; repeat' split <;> omega), rfl⟩

/-- The document's own Ids lies at block g: generations, bools, free places; every block of it is in F. -/
def ROwn (w : World) (F : Nat → Prop) (g : Nat) (room : Int) (ps : List (Int × Bool)) (ds : List Int) : Prop :=
  ∃ vg vl vf, w.heap[g]? = some (.cells #[.int .i64 room, vg, vl, vf] 113 (0, 0)) ∧ w.ownsRow 0 3 1 vg ps.length (ic (ps.map Prod.fst)) ∧ w.ownsRow 0 4 1 vl ps.length (bc (ps.map Prod.snd)) ∧ w.ownsRow 0 3 1 vf ds.length (ic ds) ∧
    (∀ k, vg.ownBlock = some k → vf.ownBlock ≠ some k) ∧ F g ∧ (∀ k, vg.ownBlock = some k → F k) ∧ (∀ k, vl.ownBlock = some k → F k) ∧ ∀ k, vf.ownBlock = some k → F k

theorem ROwn.keep {w w' : World} {F G : Nat → Prop} {g : Nat} {room : Int} {ps : List (Int × Bool)} {ds : List Int} (h : ROwn w F g room ps ds) (t : Touch G w w') (d : Dis F G) : ROwn w' F g room ps ds := by
  obtain ⟨vg, vl, vf, hg, h1, h2, h3, hn, f0, f1, f2, f3⟩ := h
  exact ⟨vg, vl, vf, by rw [t.block g (blk_lt hg) (fun x => d g f0 x)]; exact hg, row_touch h1 t (fun k hk x => d k (f1 k hk) x), row_touch h2 t (fun k hk x => d k (f2 k hk) x), row_touch h3 t (fun k hk x => d k (f3 k hk) x), hn, f0, f1, f2, f3⟩
theorem ROwn.more {w : World} {F G : Nat → Prop} {g : Nat} {room : Int} {ps : List (Int × Bool)} {ds : List Int} (h : ROwn w F g room ps ds) (d : ∀ k, F k → G k) : ROwn w G g room ps ds := by
  obtain ⟨vg, vl, vf, hg, h1, h2, h3, hn, f0, f1, f2, f3⟩ := h
  exact ⟨vg, vl, vf, hg, h1, h2, h3, hn, d _ f0, fun k hk => d _ (f1 k hk), fun k hk => d _ (f2 k hk), fun k hk => d _ (f3 k hk)⟩
theorem ROwn.setCell {w : World} {F : Nat → Prop} {g : Nat} {room : Int} {ps : List (Int × Bool)} {ds : List Int} (h : ROwn w F g room ps ds) {p : Addr} (hp : ¬ F p.block) (u : Value) : ROwn (w.setCell p u) F g room ps ds :=
  h.keep (G := fun b => b = p.block) ((Touch.refl (fun b => b = p.block) w).setCell (.inl rfl) u) (fun b hb (e : b = p.block) => hp (e ▸ hb))
theorem ROwn.alloc {w : World} {F : Nat → Prop} {g : Nat} {room : Int} {ps : List (Int × Bool)} {ds : List Int} (h : ROwn w F g room ps ds) (o : Obj) : ROwn (w.alloc o) F g room ps ds :=
  h.keep (G := NoB) ((Touch.refl _ _).alloc o) (fun _ _ x => x)

theorem rown_new (w : World) (r : Int) : ROwn (w.alloc (.cells #[.int .i64 r, .slice none 0 0, .slice none 0 0, .slice none 0 0] 113)) (fun b => b = w.heap.size) w.heap.size r [] [] :=
  ⟨_, _, _, alloc_blk w _ _ rfl, World.ownsRow_nil _ _ _ _, World.ownsRow_nil _ _ _ _, World.ownsRow_nil _ _ _ _, fun k hk => by simp [Value.ownBlock] at hk, rfl, fun k hk => by simp [Value.ownBlock] at hk, fun k hk => by simp [Value.ownBlock] at hk, fun k hk => by simp [Value.ownBlock] at hk⟩

theorem rnew_any (n : Int) (w : World) :
    Calls Try.prog 22 #[.int .i64 n] w fun e w' => e = .returned (.pointer (some ⟨w.heap.size, 0, none⟩)) ∧ w' = w.alloc (.cells #[.int .i64 (roomI n), .slice none 0 0, .slice none 0 0, .slice none 0 0] 113) := by
  have H1 := Lib.hid (rwithin_any n 0 100000 w)
  go_enter Try.func22, Try.ntmps22
  go_wp2_with fail
  refine H1.out.mono ?_
  rintro e w' ⟨rfl, rfl⟩
  go_wp2
  go_ret
  exact ⟨rfl, rfl⟩

set_option maxHeartbeats 400000 in
theorem rhas_neg (i x : Int) (v : Value) (w : World) (hi : i < 0) :
    Calls Try.prog 43 #[v, .agg #[.int .i64 i, .int .i64 x]] w fun e w' => e = .returned (.bool false) ∧ Touch NoB w w' := by
  have hd : decide (0 ≤ i) = false := by simp; omega
  go_enter Try.func43, Try.ntmps43
  go_wp2
  go_quiet (fail)
  go_wp2
  go_ret
  exact ⟨rfl, ((Touch.refl _ _).alloc _).drewN _⟩

set_option maxHeartbeats 400000 in
theorem rhas_far (g i : Nat) (room x : Int) (ps : List (Int × Bool)) (ds : List Int) (F : Nat → Prop) (w : World) (h : ROwn w F g room ps ds) (hi : ps.length ≤ i) :
    Calls Try.prog 43 #[.pointer (some ⟨g, 0, none⟩), .agg #[.int .i64 i, .int .i64 x]] w fun e w' => e = .returned (.bool false) ∧ Touch NoB w w' := by
  obtain ⟨vg, vl, vf, hg, hp, _⟩ := h
  obtain ⟨A, cap, rfl, hc1, hc2⟩ := row_any hp
  unfold maxLen at hc2
  have hl := blk_lt hg
  have k1 : w.cell? ⟨g, 1, none⟩ = some (.slice A ps.length cap) := cell_blk hg 1
  clear hp hg
  generalize ps.length = n at *
  have d1 : decide (0 ≤ (i : Int)) = true := by simp
  have d2 : decide (i < n) = false := by simpa using hi
  go_enter Try.func43, Try.ntmps43
  go_wp2
  go_quiet (fail)
  go_wp2
  go_ret
  exact ⟨rfl, ((Touch.refl _ _).alloc _).drewN _⟩

theorem ic_at (l : List Int) (j : Nat) : (ic l)[j]? = (l[j]?).map (Value.int .i64) := by simp [ic]

set_option maxHeartbeats 2000000 in
theorem rhas_in (g j : Nat) (room x y : Int) (u : Bool) (ps : List (Int × Bool)) (ds : List Int) (F : Nat → Prop) (w : World) (h : ROwn w F g room ps ds) (hj : ps[j]? = some (y, u)) :
    Calls Try.prog 43 #[.pointer (some ⟨g, 0, none⟩), .agg #[.int .i64 j, .int .i64 x]] w fun e w' => e = .returned (.bool (u && (y == x))) ∧ Touch NoB w w' := by
  obtain ⟨vg, vl, vf, hg, hp, hq, _⟩ := h
  have hjl : j < ps.length := (List.getElem?_eq_some_iff.1 hj).1
  obtain ⟨gp, cap, rfl, hc1, hc2, hob⟩ := row_form hp (by omega)
  obtain ⟨gq, cap2, rfl, hc3, hc4, hob2⟩ := row_form hq (by omega)
  unfold maxLen at hc2 hc4
  have hl := blk_lt hg
  have hlp := row_lt hp hob
  have hlq := row_lt hq hob2
  have k1 : w.cell? ⟨g, 1, none⟩ = some (.slice (some ⟨gp, 0, none⟩) ps.length cap) := cell_blk hg 1
  have k4 : w.cell? ⟨g, 2, none⟩ = some (.slice (some ⟨gq, 0, none⟩) ps.length cap2) := cell_blk hg 2
  have k2 : w.cell? ⟨gp, j, none⟩ = some (.int .i64 y) := by rw [hp.cellAt j (by omega), ic_at, List.getElem?_map, hj]; rfl
  have k3 : w.cell? ⟨gq, j, none⟩ = some (.bool u) := by rw [hq.cellAt j (by omega), bc_at, List.getElem?_map, hj]; rfl
  clear hp hq hg hj hob hob2
  generalize ps.length = n at *
  have d1 : decide (0 ≤ (j : Int)) = true := by simp
  have d2 : decide (j < n) = true := by simpa using hjl
  cases u <;> by_cases hyx : y = x
  all_goals
    have e1 : (y == x) = decide (y = x) := rfl
    simp only [hyx, decide_true, decide_false] at e1
  all_goals try subst hyx
  all_goals
    go_enter Try.func43, Try.ntmps43
    go_wp2
    go_quiet (fail)
    go_wp2
    go_ret
    exact ⟨by simp [e1], ((Touch.refl _ _).alloc _).drewN _⟩

theorem rhas_any (g : Nat) (room i x : Int) (ps : List (Int × Bool)) (ds : List Int) (F : Nat → Prop) (w : World) (h : ROwn w F g room ps ds) :
    Calls Try.prog 43 #[.pointer (some ⟨g, 0, none⟩), .agg #[.int .i64 i, .int .i64 x]] w fun e w' => e = .returned (.bool (hasI ps i x)) ∧ Touch NoB w w' := by
  by_cases h0 : i < 0
  · have e1 : hasI ps i x = false := by unfold hasI; simp; omega
    rw [e1]
    exact rhas_neg i x _ w h0
  · obtain ⟨j, rfl⟩ := Int.eq_ofNat_of_zero_le (by omega : 0 ≤ i)
    rcases hj : ps[j]? with _ | ⟨y, u⟩
    · have e1 : hasI ps j x = false := by unfold hasI; simp [hj]
      rw [e1]
      exact rhas_far g j room x ps ds F w h (by simpa using hj)
    · have e1 : hasI ps j x = (u && (y == x)) := by unfold hasI; simp [hj]
      rw [e1]
      exact rhas_in g j room x y u ps ds F w h hj

/-- Two rows of identifiers that hold the same. -/
theorem same_ids (A1 A2 : Option Addr) (c1 c2 : Nat) (B1 B2 : Nat) (l : List (Int × Int)) (w : World) (h1 : w.ownsRow B1 30 2 (.slice A1 l.length c1) l.length (idc l)) (h2 : w.ownsRow B2 30 2 (.slice A2 l.length c2) l.length (idc l)) (hl : l.length ≤ 100000) :
    Calls Try.prog 51 #[.slice A1 l.length c1, .slice A2 l.length c2] w fun e w' => e = .returned (.bool true) ∧ Touch NoB w w' := by
  have H1 := Lib.hid h1
  have H2 := Lib.hid h2
  clear h1 h2
  obtain ⟨L, hL⟩ : ∃ L, l.length = L := ⟨_, rfl⟩
  rw [hL] at hl H1 H2
  rw [hL]
  have HL := Lib.hid hL
  clear hL
  have d0 : ((L : Int) != (L : Int)) = false := by simp
  go_enter Try.func51, Try.ntmps51
  go_wp2
  go_loopw [5] (fun j wq => DrawRel w L j wq) (fun j _ => L - (intOf j).toNat)
  case atStart => exact ⟨0, 0, Nat.zero_le _, rfl, rfl⟩
  case round =>
    obtain ⟨q, c, hc, rfl, rfl⟩ := hrel
    by_cases hcl : c < L
    · obtain ⟨g1, cp, hv, _, _, hob⟩ := row_form H1.out (by omega)
      injection hv with hv1 hv2 hv3
      subst hv1
      clear hv2 hv3
      obtain ⟨g2, cp2, hv, _, _, hob2⟩ := row_form H2.out (by omega)
      injection hv with hv1 hv2 hv3
      subst hv1
      clear hv2 hv3
      obtain ⟨i2, x2, hix⟩ : ∃ i2 x2, l[c]? = some (i2, x2) := ⟨_, _, List.getElem?_eq_getElem (by have := HL.out; omega)⟩
      have b0 : w.cell? ⟨g1, c * 2, none⟩ = some (.int .i64 i2) := by rw [H1.out.cellAt (c * 2) (by omega), idc_at0, hix]; rfl
      have b1 : w.cell? ⟨g1, c * 2 + 1, none⟩ = some (.int .i64 x2) := by rw [H1.out.cellAt (c * 2 + 1) (by omega), idc_at1, hix]; rfl
      have b2 : w.cell? ⟨g2, c * 2, none⟩ = some (.int .i64 i2) := by rw [H2.out.cellAt (c * 2) (by omega), idc_at0, hix]; rfl
      have b3 : w.cell? ⟨g2, c * 2 + 1, none⟩ = some (.int .i64 x2) := by rw [H2.out.cellAt (c * 2 + 1) (by omega), idc_at1, hix]; rfl
      clear hob hob2 hix
      go_wp2
      go_quiet (fail)
      go_wp2
      go_roundw
      case rel => exact ⟨_, c + 1, by omega, by go_num, rfl⟩
      case measure => simp [intOf]; omega
    · obtain rfl : c = L := by omega
      go_wp2
      go_ret
      exact ⟨rfl, (Touch.refl _ _).drewN _⟩
end Go.Proofs.Yticekldgjlihmaa
