/-
  What clamp.Within, ids.New, Has and take return, and what they leave in memory.
-/
import Derived.Test.YticekldgjlihmaaRows
import Derived.Test.YticekldgjlihmaaM1
import Derived.WalkKit
import Derived.ProofKit
import Derived.OpenShut
import Derived.OwnWalk
import Derived.WalkLawsBesides
import Derived.KernelRfl
import Derived.Lib.Hide
import Derived.RegionTactic
import Derived.Deep.QuietTactic
import Derived.BigQuiet
import Derived.IntWalk
import Derived.Outline
namespace Go.Proofs.Yticekldgjlihmaa
open Go.ChangeShapes Go.WideShapes Go.ChangeAt Go.RowKit

variable {tl : List Value}

theorem ret_int {k : IntKind} {a b : Int} (h : a = b) : Ending.returned (.int k a) = .returned (.int k b) := by rw [h]

theorem within_any (n lo hi : Int) (w : World) :
    Calls Try.prog 21 #[.int .i64 n, .int .i64 lo, .int .i64 hi] w fun e w' => e = .returned (.int .i64 (withinI n lo hi)) ∧ w = w' := by
  by_cases h1 : n < lo <;> by_cases h2 : hi < lo <;> by_cases h3 : hi < n
  all_goals
    go_enter Try.func21, Try.ntmps21
    go_wp2
    all_goals
      go_ret
      exact ⟨ret_int (by unfold withinI; repeat' split <;> omega), rfl⟩

/-- The number of places that New makes of an int. -/
def roomI (n : Int) : Int := withinI n 0 100000
theorem roomI_range (n : Int) : 0 ≤ roomI n ∧ roomI n ≤ 100000 := by unfold roomI withinI; repeat' split <;> omega

/-- The cells of a row of places: generation, in use. -/
def pc (ps : List (Int × Bool)) : List Value := ps.flatMap fun p => [.int .i64 p.1, .bool p.2]
/-- The cells of a row of ints. -/
def ic (ds : List Int) : List Value := ds.map (Value.int .i64)

theorem pc_length (ps : List (Int × Bool)) : (pc ps).length = ps.length * 2 := by
  induction ps with
  | nil => rfl
  | cons p ps ih => simp only [pc, List.flatMap_cons, List.length_append, List.length_cons, List.length_nil] at ih ⊢; omega
theorem pc_snoc (ps : List (Int × Bool)) (p : Int × Bool) : pc (ps ++ [p]) = pc ps ++ [.int .i64 p.1, .bool p.2] := by simp [pc]
theorem pc_at0 (ps : List (Int × Bool)) (i : Nat) : (pc ps)[i * 2]? = (ps[i]?).map fun p => .int .i64 p.1 := by
  induction ps generalizing i with
  | nil => simp [pc]
  | cons p ps ih =>
    cases i with
    | zero => simp [pc]
    | succ i =>
      have := ih i
      simp only [pc, List.flatMap_cons, List.getElem?_cons_succ] at this ⊢
      rw [show (i + 1) * 2 = i * 2 + 1 + 1 from by omega]
      simpa using this
theorem pc_at1 (ps : List (Int × Bool)) (i : Nat) : (pc ps)[i * 2 + 1]? = (ps[i]?).map fun p => .bool p.2 := by
  induction ps generalizing i with
  | nil => simp [pc]
  | cons p ps ih =>
    cases i with
    | zero => simp [pc]
    | succ i =>
      have := ih i
      simp only [pc, List.flatMap_cons, List.getElem?_cons_succ] at this ⊢
      rw [show (i + 1) * 2 + 1 = i * 2 + 1 + 1 + 1 from by omega]
      simpa using this
theorem pc_set (ps : List (Int × Bool)) (i : Nat) (x : Int) (u : Bool) : pc (ps.set i (x, u)) = ((pc ps).set (i * 2) (.int .i64 x)).set (i * 2 + 1) (.bool u) := by
  induction ps generalizing i with
  | nil => simp [pc]
  | cons p ps ih =>
    cases i with
    | zero => simp [pc]
    | succ i =>
      have := ih i
      simp only [pc, List.flatMap_cons, List.set_cons_succ] at this ⊢
      rw [this, show (i + 1) * 2 = i * 2 + 1 + 1 from by omega]
      rfl

/-- An Ids lies at block g: its places, and the dropped ones; every block of it is in F. -/
def Own (tl : List Value) (w : World) (F : Nat → Prop) (g : Nat) (room : Int) (ps : List (Int × Bool)) (ds : List Int) : Prop :=
  ∃ vp vd, w.heap[g]? = some (.cells (.int .i64 room :: vp :: vd :: tl).toArray 64 (0, 0)) ∧ w.ownsRow 0 117 2 vp ps.length (pc ps) ∧ w.ownsRow 0 3 1 vd ds.length (ic ds) ∧
    F g ∧ (∀ k, vp.ownBlock = some k → F k) ∧ ∀ k, vd.ownBlock = some k → F k

theorem Own.keep {tl : List Value} {w w' : World} {F G : Nat → Prop} {g : Nat} {room : Int} {ps : List (Int × Bool)} {ds : List Int} (h : Own tl w F g room ps ds) (t : Touch G w w') (d : Dis F G) : Own tl w' F g room ps ds := by
  obtain ⟨vp, vd, hg, hp, hd, f0, f1, f2⟩ := h
  exact ⟨vp, vd, by rw [t.block g (blk_lt hg) (fun x => d g f0 x)]; exact hg, row_touch hp t (fun k hk x => d k (f1 k hk) x), row_touch hd t (fun k hk x => d k (f2 k hk) x), f0, f1, f2⟩
theorem Own.more {tl : List Value} {w : World} {F G : Nat → Prop} {g : Nat} {room : Int} {ps : List (Int × Bool)} {ds : List Int} (h : Own tl w F g room ps ds) (d : ∀ k, F k → G k) : Own tl w G g room ps ds := by
  obtain ⟨vp, vd, hg, hp, hd, f0, f1, f2⟩ := h
  exact ⟨vp, vd, hg, hp, hd, d _ f0, fun k hk => d _ (f1 k hk), fun k hk => d _ (f2 k hk)⟩

/-- The new Ids at block g of w'. -/
theorem new_any (n : Int) (w : World) :
    Calls Try.prog 20 #[.int .i64 n] w fun e w' => e = .returned (.pointer (some ⟨w.heap.size, 0, none⟩)) ∧ w' = w.alloc (.cells #[.int .i64 (roomI n), .slice none 0 0, .slice none 0 0] 57) := by
  have H1 := Lib.hid (within_any n 0 100000 w)
  go_enter Try.func20, Try.ntmps20
  go_wp2_with fail
  refine H1.out.mono ?_
  rintro e w' ⟨rfl, rfl⟩
  go_wp2
  go_ret
  exact ⟨rfl, rfl⟩

theorem num_any (n : Int) (w : World) :
    Calls Try.prog 9 #[.int .i64 n] w fun e w' => e = .returned (.int .i64 n) ∧ w = w' := by
  go_enter Try.func9, Try.ntmps9
  go_wp2
  go_ret
  exact ⟨rfl, rfl⟩

/-- Does the Ids hold the identifier (i, x)? -/
def hasI (ps : List (Int × Bool)) (i x : Int) : Bool := decide (0 ≤ i) && match ps[i.toNat]? with
  | some p => p.2 && (p.1 == x)
  | none => false

set_option maxHeartbeats 400000 in
theorem has_neg (i x : Int) (v : Value) (w : World) (hi : i < 0) :
    Calls Try.prog 64 #[v, .agg #[.int .i64 i, .int .i64 x]] w fun e w' => e = .returned (.bool false) ∧ Touch NoB w w' := by
  have hd : decide (i < 0) = true := by simpa using hi
  go_enter Try.func64, Try.ntmps64
  go_wp2
  go_quiet (fail)
  go_wp2
  go_ret
  exact ⟨rfl, ((Touch.refl _ _).alloc _).drewN _⟩

set_option maxHeartbeats 400000 in
theorem has_far (g i : Nat) (room x : Int) (ps : List (Int × Bool)) (ds : List Int) (F : Nat → Prop) (w : World) (h : Own tl w F g room ps ds) (hi : ps.length ≤ i) :
    Calls Try.prog 64 #[.pointer (some ⟨g, 0, none⟩), .agg #[.int .i64 i, .int .i64 x]] w fun e w' => e = .returned (.bool false) ∧ Touch NoB w w' := by
  obtain ⟨vp, vd, hg, hp, hd, f0, f1, f2⟩ := h
  obtain ⟨A, cap, rfl, hc1, hc2⟩ := row_any hp
  unfold maxLen at hc2
  have hl := blk_lt hg
  have k1 : w.cell? ⟨g, 1, none⟩ = some (.slice A ps.length cap) := cell_blk hg 1
  clear hp hd f0 f1 f2 hg
  generalize ps.length = n at *
  have d1 : decide ((i : Int) < 0) = false := by simp
  have d2 : decide (n ≤ i) = true := by simpa using hi
  go_enter Try.func64, Try.ntmps64
  go_wp2
  go_quiet (fail)
  go_wp2
  go_ret
  exact ⟨rfl, ((Touch.refl _ _).alloc _).drewN _⟩

set_option maxHeartbeats 1000000 in
theorem has_in (g j : Nat) (room x y : Int) (u : Bool) (ps : List (Int × Bool)) (ds : List Int) (F : Nat → Prop) (w : World) (h : Own tl w F g room ps ds) (hj : ps[j]? = some (y, u)) :
    Calls Try.prog 64 #[.pointer (some ⟨g, 0, none⟩), .agg #[.int .i64 j, .int .i64 x]] w fun e w' => e = .returned (.bool (u && (y == x))) ∧ Touch NoB w w' := by
  obtain ⟨vp, vd, hg, hp, hd, f0, f1, f2⟩ := h
  have hjl : j < ps.length := (List.getElem?_eq_some_iff.1 hj).1
  obtain ⟨gp, cap, rfl, hc1, hc2, hob⟩ := row_form hp (by omega)
  unfold maxLen at hc2
  have hl := blk_lt hg
  have hlp := row_lt hp hob
  have k1 : w.cell? ⟨g, 1, none⟩ = some (.slice (some ⟨gp, 0, none⟩) ps.length cap) := cell_blk hg 1
  have k2 : w.cell? ⟨gp, j * 2, none⟩ = some (.int .i64 y) := by rw [hp.cellAt (j * 2) (by omega), pc_at0, hj]; rfl
  have k3 : w.cell? ⟨gp, j * 2 + 1, none⟩ = some (.bool u) := by rw [hp.cellAt (j * 2 + 1) (by omega), pc_at1, hj]; rfl
  clear hp hd f0 f1 f2 hg hj hob
  generalize ps.length = n at *
  have d1 : decide ((j : Int) < 0) = false := by simp
  have d2 : decide (n ≤ j) = false := by simp; omega
  cases u <;> by_cases hyx : y = x
  all_goals
    have e1 : (y == x) = decide (y = x) := rfl
    simp only [hyx, decide_true, decide_false] at e1
  all_goals try subst hyx
  all_goals
    go_enter Try.func64, Try.ntmps64
    go_wp2
    go_quiet (fail)
    go_wp2
    go_region
    go_wp2
    go_ret
    exact ⟨by simp [e1], by repeat (first | with_reducible exact Touch.refl _ _ | with_reducible refine Touch.alloc ?_ _ | with_reducible refine Touch.drewN ?_ _ | with_reducible refine Touch.drew ?_)⟩

theorem has_any (g : Nat) (room i x : Int) (ps : List (Int × Bool)) (ds : List Int) (F : Nat → Prop) (w : World) (h : Own tl w F g room ps ds) :
    Calls Try.prog 64 #[.pointer (some ⟨g, 0, none⟩), .agg #[.int .i64 i, .int .i64 x]] w fun e w' => e = .returned (.bool (hasI ps i x)) ∧ Touch NoB w w' := by
  by_cases h0 : i < 0
  · have e1 : hasI ps i x = false := by unfold hasI; simp; omega
    rw [e1]
    exact has_neg i x _ w h0
  · obtain ⟨j, rfl⟩ := Int.eq_ofNat_of_zero_le (by omega : 0 ≤ i)
    rcases hj : ps[j]? with _ | ⟨y, u⟩
    · have e1 : hasI ps j x = false := by unfold hasI; simp [hj]
      rw [e1]
      exact has_far g j room x ps ds F w h (by simpa using hj)
    · have e1 : hasI ps j x = (u && (y == x)) := by unfold hasI; simp [hj]
      rw [e1]
      exact has_in g j room x y u ps ds F w h hj

end Go.Proofs.Yticekldgjlihmaa
