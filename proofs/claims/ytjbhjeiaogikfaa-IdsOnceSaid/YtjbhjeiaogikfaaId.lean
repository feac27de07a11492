/-
  The document's example, as the statements of chapter 3 ask it first; the walk of IdsRoom.
-/
import Derived.Test.YtjbhjeiaogikfaaIc
namespace Go.Proofs.Ytjbhjeiaogikfaa
open Go.ChangeShapes Go.WideShapes Go.ChangeAt Go.RowKit

theorem own_new (w : World) (r : Int) : Own (w.alloc (.cells #[.int .i64 r, .slice none 0 0, .slice none 0 0] 52)) (fun b => b = w.heap.size) w.heap.size r [] [] :=
  ⟨_, _, alloc_blk w _ _ rfl, World.ownsRow_nil _ _ _ _, World.ownsRow_nil _ _ _ _, rfl, fun k hk => by simp [Value.ownBlock] at hk, fun k hk => by simp [Value.ownBlock] at hk⟩
theorem inw_new (w : World) (o : Obj) : InW (w.alloc o) w.heap.size (fun b => b = w.heap.size) := by
  rintro b rfl; simp

theorem InW.zero {w : World} {B : Nat} {F : Nat → Prop} (h : InW w B F) : InW w 0 F := fun b hb => ⟨Nat.zero_le _, (h b hb).2⟩

set_option maxHeartbeats 1000000 in
theorem alive_any (w : World) :
    Calls Try.prog 6 #[] w fun e w' => e = .returned (.bool true) ∧ Touch NoB w w' := by
  go_enter Try.func6, Try.ntmps6
  go_wp2_with fail
  refine (new_any 5 w).mono ?_
  rintro e w0 ⟨rfl, rfl⟩
  rw [show roomI 5 = 5 from by decide]
  go_wp2_with fail
  refine (make_new w.heap.size 5 [] _ _ (own_new w 5) (inw_new w _).zero (by decide) (by decide)).mono ?_
  rintro e w1 ⟨rfl, hO, hT⟩
  have HO := Lib.hid hO
  have HT := Lib.hid hT
  have hs := hT.size
  simp only [World.size_alloc] at hs
  clear hO hT
  simp only [List.length_nil]
  go_wp2_with fail
  refine (num_any 0 _).mono ?_
  rintro e w2 ⟨rfl, rfl⟩
  go_wp2_with fail
  refine (has_any w.heap.size 5 0 1 [(1, true)] [] _ _ (HO.out.alloc _)).mono ?_
  rintro e w3 ⟨rfl, hT3⟩
  rw [show hasI [(1, true)] 0 1 = true from by decide]
  have HT3 := Lib.hid hT3
  clear hT3
  go_wp2
  go_ret
  exact ⟨rfl, ((((Touch.refl NoB w).alloc _).trans HT.out (fun x e => .inr (by rw [e]; exact Nat.le_refl _))).alloc _).same HT3.out⟩

/-- The state of an Ids of room R after k calls of Make. -/
def manyI (k : Nat) (R : Int) : List (Int × Bool) := List.replicate (min k R.toNat) (1, true)
theorem many_length (k : Nat) (R : Int) : (manyI k R).length = min k R.toNat := by simp [manyI]
theorem many_new {k : Nat} {R : Int} (h : (k : Int) < R) : manyI k R ++ [(1, true)] = manyI (k + 1) R := by
  unfold manyI
  rw [show min k R.toNat = k from by omega, show min (k + 1) R.toNat = k + 1 from by omega, List.replicate_succ']
theorem many_full {k : Nat} {R : Int} (h : R ≤ (k : Int)) : manyI (k + 1) R = manyI k R := by
  unfold manyI
  rw [show min k R.toNat = R.toNat from by omega, show min (k + 1) R.toNat = R.toNat from by omega]
theorem many_at {k d : Nat} {R : Int} (h1 : d < k) (h2 : (d : Int) < R) : (manyI k R)[d]? = some (1, true) := by
  unfold manyI
  rw [List.getElem?_replicate, if_pos (by omega)]
theorem many_no {k d : Nat} {R : Int} (h2 : R ≤ (d : Int)) : hasI (manyI k R) d 1 = false := by
  unfold hasI manyI
  rw [show ((d : Int)).toNat = d from by omega, List.getElem?_replicate, if_neg (by omega)]
  simp

/-- What holds at the head of the loop of IdsRoom. -/
def RoomRel (w : World) (g n : Nat) (R : Int) (i : Value) (wr : World) : Prop :=
  ∃ k : Nat, k ≤ n ∧ i = .int .i64 k ∧ ∃ F, Own wr F g R (manyI k R) [] ∧ InW wr w.heap.size F ∧ Touch NoB w wr

set_option maxHeartbeats 1000000 in
theorem idsRoom_out (room n drop : Int) (w : World) (h : n < 1 ∨ 60 < n ∨ drop < 0 ∨ n ≤ drop ∨ (100 < room ∧ room ≤ 100000)) :
    Calls Try.prog 5 #[.int .i64 room, .int .i64 n, .int .i64 drop] w fun e w' => e = .returned (.bool true) ∧ Touch NoB w w' := by
  by_cases h1 : n < 1 <;> by_cases h2 : 60 < n <;> by_cases h3 : drop < 0 <;> by_cases h4 : n ≤ drop <;> by_cases h5 : 100 < room <;> by_cases h6 : room ≤ 100000
  all_goals first | omega | skip
  all_goals
    clear h
    go_enter Try.func5, Try.ntmps5
    go_wp2_with fail
    refine (alive_any w).mono ?_
    rintro e w1 ⟨rfl, hT⟩
    have HT := Lib.hid hT
    clear hT
    go_wp2
    go_ret
    exact ⟨rfl, HT.out⟩

end Go.Proofs.Ytjbhjeiaogikfaa
