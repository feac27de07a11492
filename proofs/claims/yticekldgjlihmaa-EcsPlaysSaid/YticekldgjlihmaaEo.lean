/-
  The document's example, as the statements of chapter 5 ask it first.
-/
import Derived.Test.YticekldgjlihmaaEn
namespace Go.Proofs.Yticekldgjlihmaa
open Go.ChangeShapes Go.WideShapes Go.ChangeAt Go.RowKit Go.Maps
set_option maxRecDepth 100000
set_option maxHeartbeats 1000000

theorem sinv_new {room tables : Int} (hr : 0 ≤ room ∧ room ≤ 100000) (ht : 0 ≤ tables ∧ tables ≤ 1000) : SInv 0 room tables [] [] [] (.map []) 0 where
  t := ⟨fun j r h => by simp at h, fun j r i x h => by simp at h, fun i x _ _ _ => rfl, fun j k r q p h => by simp at h, Nat.le_refl _⟩
  p := ⟨Nat.le_refl _, Nat.le_refl _, by simpa using hr, fun k y u h => by simp at h, fun j d h => by simp at h, fun a b d h => by simp at h⟩
  link := fun i x => by
    rw [has_iff]
    constructor
    · rintro ⟨k, _, h⟩; simp at h
    · rintro ⟨j, r, h, _⟩; simp at h
  len := Nat.le_refl _
  lim := by simpa using ht
theorem within_range (t : Int) : 1 ≤ withinI t 1 1000 ∧ withinI t 1 1000 ≤ 1000 := by unfold withinI; repeat' split <;> omega
/-- The new Store. -/
theorem new_st (n t : Int) (w : World) :
    Calls Try.prog 5 #[.int .i64 n, .int .i64 t] w fun e w' => ∃ g F, e = .returned (.pointer (some ⟨g, 0, none⟩)) ∧ St w' F 0 g (roomI n) (withinI t 1 1000) [] [] [] ∧ Touch NoB w w' ∧ InW w' w.heap.size F := by
  refine (enew_any n t w).mono ?_
  rintro e w' ⟨g, φ, bh, he, hS, hT, hφ⟩
  have hr := within_range t
  exact ⟨g, fun b => φ b ≠ 0, he, ⟨φ, [], .map [], 0, _, bh, hS, sinv_new (roomI_range n) (by omega), rfl, fun b hb => hb⟩, hT, fun b hb => ⟨hφ b hb, hS.wf b hb⟩⟩

theorem cells_one {w : World} {F : Nat → Prop} {b : Nat} {c v : Int} (hb : w.heap[b]? = some (.cells #[.int .i64 c, .int .i64 v] 32 (0, 0))) (hF : ¬ F b) : CellsAt w F (some ⟨b, 0, none⟩) [(c, v)] := by
  intro j c' v' hj
  rcases j with _ | j
  · simp at hj
    obtain ⟨rfl, rfl⟩ := hj
    exact ⟨b, 0, rfl, blk_lt hb, hF, cell_blk hb 0, cell_blk hb 1⟩
  · simp at hj
theorem ext_inw {B : Nat} {F : Nat → Prop} {w w' : World} (h : InW w B F) (hs : w.heap.size ≤ w'.heap.size) (hB : B ≤ w.heap.size) : InW w' B (Ext F w w') := h.ext hs hB

theorem ealive_any (w : World) :
    Calls Try.prog 4 #[] w fun e w' => e = .returned (.bool true) ∧ Touch NoB w w' := by
  go_enter Try.func4, Try.ntmps4
  go_wp2_with fail
  refine (new_st 5 5 w).mono ?_
  rintro e w1 ⟨g, F, rfl, hS1, hT1, hF1⟩
  rw [show roomI 5 = 5 from by decide, show withinI 5 1 1000 = 5 from by decide] at hS1
  have HS1 := Lib.hid hS1
  have HT1 := Lib.hid hT1
  have HF1 := Lib.hid hF1
  clear hS1 hT1 hF1
  go_wp2_with fail
  refine (query_any HS1.out 0 0 (by omega)).mono ?_
  rintro e w2 ⟨v, rfl, hv, hT2⟩
  obtain ⟨A, cap, rfl, _, _⟩ := row_any hv
  rw [show (queryB 0 0 ([] : List Tb)).length = 0 from rfl]
  have HS2 := Lib.hid (HS1.out.quiet hT2)
  have HT2 := Lib.hid (HT1.out.same hT2)
  have HF2 := Lib.hid (HF1.out.more hT2.size)
  clear hv hT2
  go_wp2_with fail
  refine (spawn_ok (HS2.out.quiet ((Touch.refl NoB w2).alloc _)) (some ⟨w2.heap.size, 0, none⟩) 1 1 [(1, 7)] rfl (by decide) (cells_one (alloc_blk w2 _ _ rfl) (fun e => by have := (HF2.out _ e).2; omega)) (m := 2) (by kernel_rfl) (by kernel_rfl) (id := (0, 1)) (ps' := [(1, true)]) (ds' := []) (by kernel_rfl) (by decide)).mono ?_
  rintro e w3 ⟨rfl, hS3, hT3⟩
  have hs3 := hT3.size
  rw [World.size_alloc] at hs3
  have hT3' : Touch NoB w w3 := (HT2.out.alloc _).trans hT3 (fun b e => .inr (HF2.out b e).1)
  have HS3 := Lib.hid hS3
  have HT3 := Lib.hid hT3'
  clear hS3 hT3 hT3'
  go_wp2_with fail
  refine (get_in (HS3.out.quiet ((Touch.refl NoB w3).alloc _)) 0 1 1 (j := 0) (k := 0) (b := ⟨2, [(0, 1)], newCol 2 (fun _ => []) [(1, 7)]⟩) (by rfl) rfl).mono ?_
  rintro e w4 ⟨rfl, hT4⟩
  rw [show getV ⟨2, [(0, 1)], newCol 2 (fun _ => []) [(1, 7)]⟩ 0 1 = (7, 0) from by kernel_rfl]
  have HT4 := Lib.hid ((HT3.out.alloc _).same hT4)
  clear hT4
  unfold tup2
  have HNum := Lib.hid (fun W => num_any 0 W)
  go_wp2_with (go_at_call 9; refine (HNum.out _).mono ?_; rintro e w' ⟨rfl, rfl⟩)
  go_ret
  exact ⟨rfl, HT4.out⟩
end Go.Proofs.Yticekldgjlihmaa
