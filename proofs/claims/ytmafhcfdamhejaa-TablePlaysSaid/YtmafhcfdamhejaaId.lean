/-
  The document's example, as the statements of chapter 3 ask it first.
-/
import Derived.Test.YtmafhcfdamhejaaIc
namespace Go.Proofs.Ytmafhcfdamhejaa
open Go.ChangeShapes Go.WideShapes Go.ChangeAt Go.RowKit

theorem own_new (w : World) (r : Int) : Own (w.alloc (.cells #[.int .i64 r, .slice none 0 0, .slice none 0 0] 73)) (fun b => b = w.heap.size) w.heap.size r [] [] :=
  ⟨_, _, alloc_blk w _ _ rfl, World.ownsRow_nil _ _ _ _, World.ownsRow_nil _ _ _ _, rfl, fun k hk => by simp [Value.ownBlock] at hk, fun k hk => by simp [Value.ownBlock] at hk⟩
theorem inw_new (w : World) (o : Obj) : InW (w.alloc o) w.heap.size (fun b => b = w.heap.size) := by
  rintro b rfl; simp

theorem InW.zero {w : World} {B : Nat} {F : Nat → Prop} (h : InW w B F) : InW w 0 F := fun b hb => ⟨Nat.zero_le _, (h b hb).2⟩

set_option maxHeartbeats 1000000 in
theorem alive_any (w : World) :
    Calls Try.prog 7 #[] w fun e w' => e = .returned (.bool true) ∧ Touch NoB w w' := by
  go_enter Try.func7, Try.ntmps7
  go_wp2_with fail
  refine (new_any 5 w).mono ?_
  rintro e w0 ⟨rfl, rfl⟩
  rw [show roomI 5 = 5 from by decide]
  go_wp2_with fail
  refine (make_new w.heap.size 5 [] _ _ (own_new w 5) (inw_new w _).zero (by decide) (by decide)).mono ?_
  rintro e w1 ⟨rfl, hO, hT⟩
  have HO := Lib.hid hO
  have HT := Lib.hid hT
  have hs := hT.size
  simp only [World.size_alloc] at hs
  clear hO hT
  simp only [List.length_nil]
  go_wp2_with fail
  refine (num_any 0 _).mono ?_
  rintro e w2 ⟨rfl, rfl⟩
  go_wp2_with fail
  refine (has_any w.heap.size 5 0 1 [(1, true)] [] _ _ (HO.out.alloc _)).mono ?_
  rintro e w3 ⟨rfl, hT3⟩
  rw [show hasI [(1, true)] 0 1 = true from by decide]
  have HT3 := Lib.hid hT3
  clear hT3
  go_wp2
  go_ret
  exact ⟨rfl, ((((Touch.refl NoB w).alloc _).trans HT.out (fun x e => .inr (by rw [e]; exact Nat.le_refl _))).alloc _).same HT3.out⟩

end Go.Proofs.Ytmafhcfdamhejaa
