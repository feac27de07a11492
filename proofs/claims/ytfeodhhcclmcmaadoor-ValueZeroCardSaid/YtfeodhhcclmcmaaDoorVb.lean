/-
  The example of the document; the walk of ValueZero.
-/
import Derived.Test.YtfeodhhcclmcmaaDoorVa
import Derived.Deep.DeepCutAuto
import Derived.Deep.RegionWith
import Derived.Deep.RegionHeld
import Derived.Deep.RegionHeld3
namespace Go.Proofs.YtfeodhhcclmcmaaDoor
open Go.ChangeShapes Go.WideShapes Go.ChangeAt Go.RowKit
set_option maxRecDepth 100000
set_option maxHeartbeats 1000000

attribute [local go_sem] run_equalIn_complex run_store_complex
section
variable (t : TypeId) (k : IntKind) (a b : Int)
theorem lss_yes (h : a < b) : binOp .lss t (.int k a) (.int k b) = pure (.bool true) := by simp [binOp, Op.intCmp, h]
theorem lss_no (h : b ≤ a) : binOp .lss t (.int k a) (.int k b) = pure (.bool false) := by simp [binOp, Op.intCmp, Int.not_lt.2 h]
theorem gtr_yes (h : b < a) : binOp .gtr t (.int k a) (.int k b) = pure (.bool true) := by simp [binOp, Op.intCmp, h]
theorem gtr_no (h : a ≤ b) : binOp .gtr t (.int k a) (.int k b) = pure (.bool false) := by simp [binOp, Op.intCmp, Int.not_lt.2 h]
end

theorem small_zero (w : World) : Calls Tryd.prog 24 #[.int .i64 0] w fun e w' => e = .returned (.string ⟨#[48]⟩) ∧ w = w' := by
  go_enter Tryd.func24, Tryd.ntmps24
  go_wp2
  go_ret
  exact ⟨rfl, rfl⟩
theorem format_zero (w : World) : Calls Tryd.prog 22 #[.int .i64 0, .int .i64 10] w fun e w' => e = .returned (.string ⟨#[48]⟩) ∧ w = w' := by
  have H := Lib.hid (small_zero w)
  go_enter Tryd.func22, Tryd.ntmps22
  go_wp2_with fail
  refine H.out.mono ?_
  rintro e w1 ⟨rfl, rfl⟩
  go_wp2
  go_ret
  exact ⟨rfl, rfl⟩
theorem itoa_zero' (w : World) : Calls Tryd.prog 19 #[.int .i64 0] w fun e w' => e = .returned (.string ⟨#[48]⟩) ∧ w = w' := by
  have H := Lib.hid (format_zero w)
  go_enter Tryd.func19, Tryd.ntmps19
  go_wp2_with fail
  refine H.out.mono ?_
  rintro e w1 ⟨rfl, rfl⟩
  go_wp2
  go_ret
  exact ⟨rfl, rfl⟩
theorem itoa_zero (w : World) : Calls Tryd.prog 15 #[.int .i64 0] w fun e w' => e = .returned (.string ⟨#[48]⟩) ∧ w = w' := by
  have H := Lib.hid (itoa_zero' w)
  go_enter Tryd.func15, Tryd.ntmps15
  go_wp2_with fail
  refine H.out.mono ?_
  rintro e w1 ⟨rfl, rfl⟩
  go_wp2
  go_ret
  exact ⟨rfl, rfl⟩
theorem text_zero (w : World) : Calls Tryd.prog 10 #[zv 0] w fun e w' => e = .returned (.string ⟨#[48]⟩) ∧ Touch NoB w w' := by
  have HR := Lib.hid (fun w => right_kind 0 (by decide) w)
  have HI := Lib.hid itoa_zero
  unfold zv val at HR
  unfold zv val
  go_enter Tryd.func10, Tryd.ntmps10
  go_wp2_with fail
  refine (HR.out _).mono ?_
  rintro e w1 ⟨rfl, hT1⟩
  have hc : ∀ j : Nat, w1.cell? ⟨w.heap.size, j, none⟩ = (#[Value.int .i64 0, .int .i64 0, .int .i64 0, .string ⟨#[]⟩, .complex .f64 0 0])[j]? := fun j => (hT1.cell (p := ⟨w.heap.size, j, none⟩) (by simp) (fun e => e)).trans (cell_blk (alloc_blk w _ 25 rfl) j)
  have c0 := hc 0
  have c1 := hc 1
  have hl : w.heap.size < w1.heap.size := by have := hT1.size; simp at this; omega
  have HT1 := Lib.hid (((Touch.refl NoB w).alloc _).same hT1)
  clear hT1 hc
  simp at c0 c1
  go_wp2_with fail
  refine (HI.out _).mono ?_
  rintro e w2 ⟨rfl, rfl⟩
  go_wp2
  go_ret
  exact ⟨rfl, HT1.out⟩
theorem valive_any (w : World) : Calls Tryd.prog 5 #[] w fun e w' => e = .returned (.bool true) ∧ Touch NoB w w' := by
  have HX := Lib.hid text_zero
  have HR := Lib.hid (fun w => right_kind 0 (by decide) w)
  have HN := Lib.hid (fun w => right_none 9 (by decide) w)
  unfold zv val at HX HR HN
  go_enter Tryd.func5, Tryd.ntmps5
  go_wp2_with fail
  refine (HX.out _).mono ?_
  rintro e w1 ⟨rfl, hT1⟩
  have HT1 := Lib.hid hT1
  clear hT1
  go_wp2_with fail
  refine (HR.out _).mono ?_
  rintro e w2 ⟨rfl, hT2⟩
  have HT2 := Lib.hid (HT1.out.same hT2)
  clear hT2
  go_wp2_with fail
  refine (HN.out _).mono ?_
  rintro e w3 ⟨rfl, hT3⟩
  have HT3 := Lib.hid (HT2.out.same hT3)
  clear hT3
  go_wp2
  go_ret
  exact ⟨rfl, HT3.out⟩

set_option maxHeartbeats 40000000 in
theorem zero_neg (k : Int) (l0 : k < 0) (w : World) :
    Calls Tryd.prog 3 #[.int .i64 k] w fun e w' => e = .returned (.bool true) ∧ Touch NoB w w' := by
  have hkv : kindV k = 0 := by unfold kindV; rw [if_neg (by omega)]
  have HZ1 := Lib.hid (fun w => zero_any k w)
  rw [hkv] at HZ1
  have HZ2 := Lib.hid (fun w => zero_any 0 w)
  rw [show kindV 0 = 0 from rfl] at HZ2
  have HR := Lib.hid (fun w => right_kind 0 (by decide) w)
  have HS := Lib.hid (fun w => same_val 0 0 0 ⟨#[]⟩ w)
  clear hkv
  unfold zv at HZ1 HZ2 HR
  unfold val at HZ1 HZ2 HR HS
  go_enter Tryd.func3, Tryd.ntmps3
  go_wp2_with fail
  refine (valive_any _).mono ?_
  rintro e w1 ⟨rfl, hT1⟩
  have HT1 := Lib.hid hT1
  clear hT1
  go_wp2_with fail
  refine (HZ1.out _).mono ?_
  rintro e w2 ⟨rfl, hT2⟩
  go_upto_region 3 with fail
  obtain ⟨ga, hga⟩ : ∃ g, w2.heap.size = g := ⟨_, rfl⟩
  have hgb := alloc_blk w2 #[.int .i64 0, .int .i64 0, .int .i64 0, .string ⟨#[]⟩, .complex .f64 0 0] 25 hga
  obtain ⟨w3, hw3⟩ : ∃ w3, w2.alloc (.cells #[.int .i64 0, .int .i64 0, .int .i64 0, .string ⟨#[]⟩, .complex .f64 0 0] 25) = w3 := ⟨_, rfl⟩
  have HW := Lib.hid ((HT1.out.same hT2).alloc (.cells #[.int .i64 0, .int .i64 0, .int .i64 0, .string ⟨#[]⟩, .complex .f64 0 0] 25))
  rw [hw3] at hgb HW
  simp only [hw3, hga]
  clear hT2 hga hw3
  have q0 : w3.cell? ⟨ga, 0, none⟩ = some (.int .i64 0) := cell_blk hgb 0
  have q1 : w3.cell? ⟨ga, 1, none⟩ = some (.int .i64 0) := cell_blk hgb 1
  have q2 : w3.cell? ⟨ga, 2, none⟩ = some (.int .i64 0) := cell_blk hgb 2
  have q3 : w3.cell? ⟨ga, 3, none⟩ = some (.string ⟨#[]⟩) := cell_blk hgb 3
  have q4 : w3.cell? ⟨ga, 4, none⟩ = some (.complex .f64 0 0) := cell_blk hgb 4
  have hga := blk_lt hgb
  clear hgb
  have HT := Lib.hid (Touch.refl NoB w3)
  first
    | (go_region_with
      (first | (go_at_call 7; refine (HR.out _).mono ?_; rintro e w6 ⟨rfl, hT5⟩; have hq := HT.out.same (Touch.same (by repeat (first | with_reducible exact Touch.refl _ _ | with_reducible refine Touch.alloc ?_ _ | with_reducible refine Touch.drewN ?_ _ | with_reducible refine Touch.drew ?_)) hT5); have hk0 : w6.cell? ⟨ga, 0, none⟩ = some (.int .i64 0) := (hq.cell (p := ⟨ga, 0, none⟩) hga (fun e => e)).trans q0; have hk1 : w6.cell? ⟨ga, 1, none⟩ = some (.int .i64 0) := (hq.cell (p := ⟨ga, 1, none⟩) hga (fun e => e)).trans q1; have hk2 : w6.cell? ⟨ga, 2, none⟩ = some (.int .i64 0) := (hq.cell (p := ⟨ga, 2, none⟩) hga (fun e => e)).trans q2; have hk3 : w6.cell? ⟨ga, 3, none⟩ = some (.string ⟨#[]⟩) := (hq.cell (p := ⟨ga, 3, none⟩) hga (fun e => e)).trans q3; have hk4 : w6.cell? ⟨ga, 4, none⟩ = some (.complex .f64 0 0) := (hq.cell (p := ⟨ga, 4, none⟩) hga (fun e => e)).trans q4; have hl6 : ga < w6.heap.size := Nat.lt_of_lt_of_le hga hq.size; clear HT; have HT := Lib.hid hq; clear hT5 hq)
             | (go_at_call 6; refine (HZ2.out _).mono ?_; rintro e w6 ⟨rfl, hT5⟩; have hq := HT.out.same (Touch.same (by repeat (first | with_reducible exact Touch.refl _ _ | with_reducible refine Touch.alloc ?_ _ | with_reducible refine Touch.drewN ?_ _ | with_reducible refine Touch.drew ?_)) hT5); have hk0 : w6.cell? ⟨ga, 0, none⟩ = some (.int .i64 0) := (hq.cell (p := ⟨ga, 0, none⟩) hga (fun e => e)).trans q0; have hk1 : w6.cell? ⟨ga, 1, none⟩ = some (.int .i64 0) := (hq.cell (p := ⟨ga, 1, none⟩) hga (fun e => e)).trans q1; have hk2 : w6.cell? ⟨ga, 2, none⟩ = some (.int .i64 0) := (hq.cell (p := ⟨ga, 2, none⟩) hga (fun e => e)).trans q2; have hk3 : w6.cell? ⟨ga, 3, none⟩ = some (.string ⟨#[]⟩) := (hq.cell (p := ⟨ga, 3, none⟩) hga (fun e => e)).trans q3; have hk4 : w6.cell? ⟨ga, 4, none⟩ = some (.complex .f64 0 0) := (hq.cell (p := ⟨ga, 4, none⟩) hga (fun e => e)).trans q4; have hl6 : ga < w6.heap.size := Nat.lt_of_lt_of_le hga hq.size; clear HT; have HT := Lib.hid hq; clear hT5 hq)
             | (go_at_call 8; refine (HS.out _).mono ?_; rintro e w6 ⟨rfl, hT5⟩; have hq := HT.out.same (Touch.same (by repeat (first | with_reducible exact Touch.refl _ _ | with_reducible refine Touch.alloc ?_ _ | with_reducible refine Touch.drewN ?_ _ | with_reducible refine Touch.drew ?_)) hT5); have hk0 : w6.cell? ⟨ga, 0, none⟩ = some (.int .i64 0) := (hq.cell (p := ⟨ga, 0, none⟩) hga (fun e => e)).trans q0; have hk1 : w6.cell? ⟨ga, 1, none⟩ = some (.int .i64 0) := (hq.cell (p := ⟨ga, 1, none⟩) hga (fun e => e)).trans q1; have hk2 : w6.cell? ⟨ga, 2, none⟩ = some (.int .i64 0) := (hq.cell (p := ⟨ga, 2, none⟩) hga (fun e => e)).trans q2; have hk3 : w6.cell? ⟨ga, 3, none⟩ = some (.string ⟨#[]⟩) := (hq.cell (p := ⟨ga, 3, none⟩) hga (fun e => e)).trans q3; have hk4 : w6.cell? ⟨ga, 4, none⟩ = some (.complex .f64 0 0) := (hq.cell (p := ⟨ga, 4, none⟩) hga (fun e => e)).trans q4; have hl6 : ga < w6.heap.size := Nat.lt_of_lt_of_le hga hq.size; clear HT; have HT := Lib.hid hq; clear hT5 hq)))
    | fail
  all_goals
    go_wp2
    go_ret
    exact ⟨rfl, HW.out.same (HT.out.same (by repeat (first | with_reducible exact Touch.refl _ _ | with_reducible refine Touch.alloc ?_ _ | with_reducible refine Touch.drewN ?_ _ | with_reducible refine Touch.drew ?_)))⟩
set_option maxHeartbeats 40000000 in
theorem zero_big (k : Int) (l4 : 4 < k) (w : World) :
    Calls Tryd.prog 3 #[.int .i64 k] w fun e w' => e = .returned (.bool true) ∧ Touch NoB w w' := by
  have hkv : kindV k = 0 := by unfold kindV; rw [if_neg (by omega)]
  have HZ1 := Lib.hid (fun w => zero_any k w)
  rw [hkv] at HZ1
  have HZ2 := Lib.hid (fun w => zero_any 0 w)
  rw [show kindV 0 = 0 from rfl] at HZ2
  have HR := Lib.hid (fun w => right_kind 0 (by decide) w)
  have HS := Lib.hid (fun w => same_val 0 0 0 ⟨#[]⟩ w)
  clear hkv
  unfold zv at HZ1 HZ2 HR
  unfold val at HZ1 HZ2 HR HS
  go_enter Tryd.func3, Tryd.ntmps3
  go_wp2_with fail
  refine (valive_any _).mono ?_
  rintro e w1 ⟨rfl, hT1⟩
  have HT1 := Lib.hid hT1
  clear hT1
  go_wp2_with fail
  refine (HZ1.out _).mono ?_
  rintro e w2 ⟨rfl, hT2⟩
  go_upto_region 3 with fail
  obtain ⟨ga, hga⟩ : ∃ g, w2.heap.size = g := ⟨_, rfl⟩
  have hgb := alloc_blk w2 #[.int .i64 0, .int .i64 0, .int .i64 0, .string ⟨#[]⟩, .complex .f64 0 0] 25 hga
  obtain ⟨w3, hw3⟩ : ∃ w3, w2.alloc (.cells #[.int .i64 0, .int .i64 0, .int .i64 0, .string ⟨#[]⟩, .complex .f64 0 0] 25) = w3 := ⟨_, rfl⟩
  have HW := Lib.hid ((HT1.out.same hT2).alloc (.cells #[.int .i64 0, .int .i64 0, .int .i64 0, .string ⟨#[]⟩, .complex .f64 0 0] 25))
  rw [hw3] at hgb HW
  simp only [hw3, hga]
  clear hT2 hga hw3
  have q0 : w3.cell? ⟨ga, 0, none⟩ = some (.int .i64 0) := cell_blk hgb 0
  have q1 : w3.cell? ⟨ga, 1, none⟩ = some (.int .i64 0) := cell_blk hgb 1
  have q2 : w3.cell? ⟨ga, 2, none⟩ = some (.int .i64 0) := cell_blk hgb 2
  have q3 : w3.cell? ⟨ga, 3, none⟩ = some (.string ⟨#[]⟩) := cell_blk hgb 3
  have q4 : w3.cell? ⟨ga, 4, none⟩ = some (.complex .f64 0 0) := cell_blk hgb 4
  have hga := blk_lt hgb
  clear hgb
  have HT := Lib.hid (Touch.refl NoB w3)
  have l0 : ¬ k < 0 := by omega
  first
    | (go_region_with
      (first | (go_at_call 7; refine (HR.out _).mono ?_; rintro e w6 ⟨rfl, hT5⟩; have hq := HT.out.same (Touch.same (by repeat (first | with_reducible exact Touch.refl _ _ | with_reducible refine Touch.alloc ?_ _ | with_reducible refine Touch.drewN ?_ _ | with_reducible refine Touch.drew ?_)) hT5); have hk0 : w6.cell? ⟨ga, 0, none⟩ = some (.int .i64 0) := (hq.cell (p := ⟨ga, 0, none⟩) hga (fun e => e)).trans q0; have hk1 : w6.cell? ⟨ga, 1, none⟩ = some (.int .i64 0) := (hq.cell (p := ⟨ga, 1, none⟩) hga (fun e => e)).trans q1; have hk2 : w6.cell? ⟨ga, 2, none⟩ = some (.int .i64 0) := (hq.cell (p := ⟨ga, 2, none⟩) hga (fun e => e)).trans q2; have hk3 : w6.cell? ⟨ga, 3, none⟩ = some (.string ⟨#[]⟩) := (hq.cell (p := ⟨ga, 3, none⟩) hga (fun e => e)).trans q3; have hk4 : w6.cell? ⟨ga, 4, none⟩ = some (.complex .f64 0 0) := (hq.cell (p := ⟨ga, 4, none⟩) hga (fun e => e)).trans q4; have hl6 : ga < w6.heap.size := Nat.lt_of_lt_of_le hga hq.size; clear HT; have HT := Lib.hid hq; clear hT5 hq)
             | (go_at_call 6; refine (HZ2.out _).mono ?_; rintro e w6 ⟨rfl, hT5⟩; have hq := HT.out.same (Touch.same (by repeat (first | with_reducible exact Touch.refl _ _ | with_reducible refine Touch.alloc ?_ _ | with_reducible refine Touch.drewN ?_ _ | with_reducible refine Touch.drew ?_)) hT5); have hk0 : w6.cell? ⟨ga, 0, none⟩ = some (.int .i64 0) := (hq.cell (p := ⟨ga, 0, none⟩) hga (fun e => e)).trans q0; have hk1 : w6.cell? ⟨ga, 1, none⟩ = some (.int .i64 0) := (hq.cell (p := ⟨ga, 1, none⟩) hga (fun e => e)).trans q1; have hk2 : w6.cell? ⟨ga, 2, none⟩ = some (.int .i64 0) := (hq.cell (p := ⟨ga, 2, none⟩) hga (fun e => e)).trans q2; have hk3 : w6.cell? ⟨ga, 3, none⟩ = some (.string ⟨#[]⟩) := (hq.cell (p := ⟨ga, 3, none⟩) hga (fun e => e)).trans q3; have hk4 : w6.cell? ⟨ga, 4, none⟩ = some (.complex .f64 0 0) := (hq.cell (p := ⟨ga, 4, none⟩) hga (fun e => e)).trans q4; have hl6 : ga < w6.heap.size := Nat.lt_of_lt_of_le hga hq.size; clear HT; have HT := Lib.hid hq; clear hT5 hq)
             | (go_at_call 8; refine (HS.out _).mono ?_; rintro e w6 ⟨rfl, hT5⟩; have hq := HT.out.same (Touch.same (by repeat (first | with_reducible exact Touch.refl _ _ | with_reducible refine Touch.alloc ?_ _ | with_reducible refine Touch.drewN ?_ _ | with_reducible refine Touch.drew ?_)) hT5); have hk0 : w6.cell? ⟨ga, 0, none⟩ = some (.int .i64 0) := (hq.cell (p := ⟨ga, 0, none⟩) hga (fun e => e)).trans q0; have hk1 : w6.cell? ⟨ga, 1, none⟩ = some (.int .i64 0) := (hq.cell (p := ⟨ga, 1, none⟩) hga (fun e => e)).trans q1; have hk2 : w6.cell? ⟨ga, 2, none⟩ = some (.int .i64 0) := (hq.cell (p := ⟨ga, 2, none⟩) hga (fun e => e)).trans q2; have hk3 : w6.cell? ⟨ga, 3, none⟩ = some (.string ⟨#[]⟩) := (hq.cell (p := ⟨ga, 3, none⟩) hga (fun e => e)).trans q3; have hk4 : w6.cell? ⟨ga, 4, none⟩ = some (.complex .f64 0 0) := (hq.cell (p := ⟨ga, 4, none⟩) hga (fun e => e)).trans q4; have hl6 : ga < w6.heap.size := Nat.lt_of_lt_of_le hga hq.size; clear HT; have HT := Lib.hid hq; clear hT5 hq)))
    | fail
  all_goals
    go_wp2
    go_ret
    exact ⟨rfl, HW.out.same (HT.out.same (by repeat (first | with_reducible exact Touch.refl _ _ | with_reducible refine Touch.alloc ?_ _ | with_reducible refine Touch.drewN ?_ _ | with_reducible refine Touch.drew ?_)))⟩
attribute [local go_sem high] lss_yes lss_no gtr_yes gtr_no
set_option maxHeartbeats 40000000 in
theorem zero_in (k : Int) (h0 : 0 ≤ k) (h4 : k ≤ 4) (w : World) :
    Calls Tryd.prog 3 #[.int .i64 k] w fun e w' => e = .returned (.bool true) ∧ Touch NoB w w' := by
  have hkv : kindV k = k := by unfold kindV; rw [if_pos ⟨h0, h4⟩]
  have HZ1 := Lib.hid (fun w => zero_any k w)
  rw [hkv] at HZ1
  have HZ2 := HZ1
  have HR : Hid (∀ w, Calls Tryd.prog 7 #[zv k] w fun e w' => e = .returned (.bool true) ∧ Touch NoB w w') := by
    obtain ⟨n, rfl⟩ := Int.eq_ofNat_of_zero_le h0
    exact Lib.hid (fun w => right_kind n (by omega) w)
  have HS := Lib.hid (fun w => same_val k 0 0 ⟨#[]⟩ w)
  clear hkv
  unfold zv at HZ1 HZ2 HR
  unfold val at HZ1 HZ2 HR HS
  go_enter Tryd.func3, Tryd.ntmps3
  go_wp2_with fail
  refine (valive_any _).mono ?_
  rintro e w1 ⟨rfl, hT1⟩
  have HT1 := Lib.hid hT1
  clear hT1
  go_wp2_with fail
  refine (HZ1.out _).mono ?_
  rintro e w2 ⟨rfl, hT2⟩
  go_upto_region 3 with fail
  obtain ⟨ga, hga⟩ : ∃ g, w2.heap.size = g := ⟨_, rfl⟩
  have hgb := alloc_blk w2 #[.int .i64 k, .int .i64 0, .int .i64 0, .string ⟨#[]⟩, .complex .f64 0 0] 25 hga
  obtain ⟨w3, hw3⟩ : ∃ w3, w2.alloc (.cells #[.int .i64 k, .int .i64 0, .int .i64 0, .string ⟨#[]⟩, .complex .f64 0 0] 25) = w3 := ⟨_, rfl⟩
  have HW := Lib.hid ((HT1.out.same hT2).alloc (.cells #[.int .i64 k, .int .i64 0, .int .i64 0, .string ⟨#[]⟩, .complex .f64 0 0] 25))
  rw [hw3] at hgb HW
  simp only [hw3, hga]
  clear hT2 hga hw3
  have q0 : w3.cell? ⟨ga, 0, none⟩ = some (.int .i64 k) := cell_blk hgb 0
  have q1 : w3.cell? ⟨ga, 1, none⟩ = some (.int .i64 0) := cell_blk hgb 1
  have q2 : w3.cell? ⟨ga, 2, none⟩ = some (.int .i64 0) := cell_blk hgb 2
  have q3 : w3.cell? ⟨ga, 3, none⟩ = some (.string ⟨#[]⟩) := cell_blk hgb 3
  have q4 : w3.cell? ⟨ga, 4, none⟩ = some (.complex .f64 0 0) := cell_blk hgb 4
  have hga := blk_lt hgb
  clear hgb
  have HT := Lib.hid (Touch.refl NoB w3)
  have l0 : 0 ≤ k := by omega
  have le : (k == k) = true := by simp
  go_region_held3 (fun w' => w'.cell? ⟨ga, 0, none⟩ = some (.int .i64 k) ∧ w'.cell? ⟨ga, 1, none⟩ = some (.int .i64 0) ∧ w'.cell? ⟨ga, 2, none⟩ = some (.int .i64 0) ∧ w'.cell? ⟨ga, 3, none⟩ = some (.string ⟨#[]⟩) ∧ w'.cell? ⟨ga, 4, none⟩ = some (.complex .f64 0 0)) (first | go_keep | exact ⟨hk0, hk1, hk2, hk3, hk4⟩ | exact ⟨q0, q1, q2, q3, q4⟩)
      (first | (go_at_call 7; refine (HR.out _).mono ?_; rintro e w6 ⟨rfl, hT5⟩; have hq := HT.out.same (Touch.same (by repeat (first | with_reducible exact Touch.refl _ _ | with_reducible refine Touch.alloc ?_ _ | with_reducible refine Touch.drewN ?_ _ | with_reducible refine Touch.drew ?_)) hT5); have hk0 : w6.cell? ⟨ga, 0, none⟩ = some (.int .i64 k) := (hq.cell (p := ⟨ga, 0, none⟩) hga (fun e => e)).trans q0; have hk1 : w6.cell? ⟨ga, 1, none⟩ = some (.int .i64 0) := (hq.cell (p := ⟨ga, 1, none⟩) hga (fun e => e)).trans q1; have hk2 : w6.cell? ⟨ga, 2, none⟩ = some (.int .i64 0) := (hq.cell (p := ⟨ga, 2, none⟩) hga (fun e => e)).trans q2; have hk3 : w6.cell? ⟨ga, 3, none⟩ = some (.string ⟨#[]⟩) := (hq.cell (p := ⟨ga, 3, none⟩) hga (fun e => e)).trans q3; have hk4 : w6.cell? ⟨ga, 4, none⟩ = some (.complex .f64 0 0) := (hq.cell (p := ⟨ga, 4, none⟩) hga (fun e => e)).trans q4; have hl6 : ga < w6.heap.size := Nat.lt_of_lt_of_le hga hq.size; clear HT; have HT := Lib.hid hq; clear hT5 hq)
             | (go_at_call 6; refine (HZ2.out _).mono ?_; rintro e w6 ⟨rfl, hT5⟩; have hq := HT.out.same (Touch.same (by repeat (first | with_reducible exact Touch.refl _ _ | with_reducible refine Touch.alloc ?_ _ | with_reducible refine Touch.drewN ?_ _ | with_reducible refine Touch.drew ?_)) hT5); have hk0 : w6.cell? ⟨ga, 0, none⟩ = some (.int .i64 k) := (hq.cell (p := ⟨ga, 0, none⟩) hga (fun e => e)).trans q0; have hk1 : w6.cell? ⟨ga, 1, none⟩ = some (.int .i64 0) := (hq.cell (p := ⟨ga, 1, none⟩) hga (fun e => e)).trans q1; have hk2 : w6.cell? ⟨ga, 2, none⟩ = some (.int .i64 0) := (hq.cell (p := ⟨ga, 2, none⟩) hga (fun e => e)).trans q2; have hk3 : w6.cell? ⟨ga, 3, none⟩ = some (.string ⟨#[]⟩) := (hq.cell (p := ⟨ga, 3, none⟩) hga (fun e => e)).trans q3; have hk4 : w6.cell? ⟨ga, 4, none⟩ = some (.complex .f64 0 0) := (hq.cell (p := ⟨ga, 4, none⟩) hga (fun e => e)).trans q4; have hl6 : ga < w6.heap.size := Nat.lt_of_lt_of_le hga hq.size; clear HT; have HT := Lib.hid hq; clear hT5 hq)
             | (go_at_call 8; refine (HS.out _).mono ?_; rintro e w6 ⟨rfl, hT5⟩; have hq := HT.out.same (Touch.same (by repeat (first | with_reducible exact Touch.refl _ _ | with_reducible refine Touch.alloc ?_ _ | with_reducible refine Touch.drewN ?_ _ | with_reducible refine Touch.drew ?_)) hT5); have hk0 : w6.cell? ⟨ga, 0, none⟩ = some (.int .i64 k) := (hq.cell (p := ⟨ga, 0, none⟩) hga (fun e => e)).trans q0; have hk1 : w6.cell? ⟨ga, 1, none⟩ = some (.int .i64 0) := (hq.cell (p := ⟨ga, 1, none⟩) hga (fun e => e)).trans q1; have hk2 : w6.cell? ⟨ga, 2, none⟩ = some (.int .i64 0) := (hq.cell (p := ⟨ga, 2, none⟩) hga (fun e => e)).trans q2; have hk3 : w6.cell? ⟨ga, 3, none⟩ = some (.string ⟨#[]⟩) := (hq.cell (p := ⟨ga, 3, none⟩) hga (fun e => e)).trans q3; have hk4 : w6.cell? ⟨ga, 4, none⟩ = some (.complex .f64 0 0) := (hq.cell (p := ⟨ga, 4, none⟩) hga (fun e => e)).trans q4; have hl6 : ga < w6.heap.size := Nat.lt_of_lt_of_le hga hq.size; clear HT; have HT := Lib.hid hq; clear hT5 hq))
  all_goals
    go_wp2
    go_ret
    exact ⟨rfl, HW.out.same (HT.out.same (by repeat (first | with_reducible exact Touch.refl _ _ | with_reducible refine Touch.alloc ?_ _ | with_reducible refine Touch.drewN ?_ _ | with_reducible refine Touch.drew ?_)))⟩
theorem valueZero_any (k : Int) (w : World) :
    Calls Tryd.prog 3 #[.int .i64 k] w fun e w' => e = .returned (.bool true) ∧ Touch NoB w w' := by
  by_cases h0 : k < 0
  · exact zero_neg k h0 w
  · by_cases h4 : 4 < k
    · exact zero_big k h4 w
    · exact zero_in k (by omega) (by omega) w
end Go.Proofs.YtfeodhhcclmcmaaDoor
