/-
  What ecs.New returns.
-/
import Derived.Test.YticekldgjlihmaaM5
import Derived.RegionTactic
namespace Go.Proofs.Yticekldgjlihmaa
open Go.ChangeShapes Go.WideShapes Go.ChangeAt Go.RowKit Go.Maps
set_option maxRecDepth 100000
set_option maxHeartbeats 1000000

def NewPost (w : World) (room tables : Int) (e : Ending) (w' : World) : Prop :=
  ∃ g φ bh, e = .returned (.pointer (some ⟨g, 0, none⟩)) ∧ SG w' φ g room tables [] [] [] (.map []) 0 (.slice none 0 0) bh ∧ Touch NoB w w' ∧ ∀ b, φ b ≠ 0 → w.heap.size ≤ b

theorem newPost_of {w W : World} {room tables : Int} {bh : Nat} (hT : Touch NoB w W) (hm : W.ownsMap Try.prog 30 ptrElem bh 0 (.map [])) (hb : w.heap.size ≤ bh) :
    NewPost w room tables (.returned (.pointer (some ⟨W.heap.size, 0, none⟩))) (W.alloc (.cells #[.int .i64 room, .slice none 0 0, .slice none 0 0, .int .i64 tables, .slice none 0 0, .map (some bh)] 64)) := by
  have hbl := hm.lt
  have hs := hT.size
  refine ⟨W.heap.size, fun b => if b = W.heap.size then 1 else if b = bh then 3 else 0, bh, rfl, ⟨⟨_, _, alloc_blk W _ _ rfl, World.ownsRow_nil _ _ _ _, World.ownsRow_nil _ _ _ _, by simp, fun k hk => by simp [Value.ownBlock] at hk, fun k hk => by simp [Value.ownBlock] at hk⟩, World.ownsRow_nil _ _ _ _, fun k hk => by simp [Value.ownBlock] at hk, hm.alloc _, ?_, fun j r hr => by simp at hr, fun j r hr => by simp at hr, fun b hb => ?_, fun j r hr => by simp at hr, fun i j x y _ hi => by simp [am] at hi⟩, hT.alloc _, fun b hb => ?_⟩
  · show (if bh = W.heap.size then (1 : Int) else if bh = bh then 3 else 0) = 3
    rw [if_neg (by omega), if_pos rfl]
  · rw [World.size_alloc]
    by_cases e : b = W.heap.size
    · omega
    · by_cases e2 : b = bh
      · omega
      · simp [e, e2] at hb
  · by_cases e : b = W.heap.size
    · omega
    · by_cases e2 : b = bh
      · omega
      · simp [e, e2] at hb

theorem NewPost.drew {w w' : World} {room tables : Int} {e : Ending} (h : NewPost w room tables e w') : NewPost w room tables e w'.drew := by
  obtain ⟨g, φ, bh, he, hS, hT, hφ⟩ := h
  exact ⟨g, φ, bh, he, hS.quiet ((Touch.refl NoB w').drew), hT.drew, hφ⟩

theorem enew_any (n t : Int) (w : World) :
    Calls Try.prog 5 #[.int .i64 n, .int .i64 t] w (NewPost w (roomI n) (withinI t 1 1000)) := by
  have hmm := @run_makeMap Try.prog
  have HN := Lib.hid (fun W => new_any n W)
  have HW := Lib.hid (fun W => within_any t 1 1000 W)
  have m1 := World.ownsMap_made (w.alloc (.cells #[.int .i64 (roomI n), .slice none 0 0, .slice none 0 0] 57)) Try.prog 30 ptrElem
  have m2 := (World.ownsMap_made w Try.prog 30 ptrElem).alloc (.cells #[.int .i64 (roomI n), .slice none 0 0, .slice none 0 0] 57)
  have h1 := (newPost_of (w := w) (room := roomI n) (tables := withinI t 1 1000) (((Touch.refl NoB w).alloc _).alloc _) m1 (by simp)).drew
  have h2 := (newPost_of (w := w) (room := roomI n) (tables := withinI t 1 1000) (((Touch.refl NoB w).alloc _).alloc _) m2 (Nat.le_refl _)).drew
  simp only [World.size_alloc] at h1 h2
  have HP1 := Lib.hid h1
  have HP2 := Lib.hid h2
  clear m1 m2 h1 h2
  go_enter Try.func5, Try.ntmps5
  go_wp2_with fail
  go_region_with (first | (go_at_call 20; refine (HN.out _).mono ?_; rintro e w' ⟨rfl, rfl⟩) | (go_at_call 21; refine (HW.out _).mono ?_; rintro e w' ⟨rfl, rfl⟩))
  all_goals go_wp2
  all_goals go_ret
  all_goals first | exact HP1.out | exact HP2.out
end Go.Proofs.Yticekldgjlihmaa
