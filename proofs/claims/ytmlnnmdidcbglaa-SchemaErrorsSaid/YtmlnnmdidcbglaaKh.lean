/-
  The walk of SchemaErrors, list by list.
-/
import Derived.Test.YtmlnnmdidcbglaaKg
namespace Go.Proofs.Ytmlnnmdidcbglaa
open Go.ChangeShapes Go.WideShapes Go.ChangeAt Go.RowKit
set_option maxRecDepth 100000
set_option maxHeartbeats 4000000

theorem errs_out (k : Int) (hk : k < 0 ∨ 11 ≤ k) (w : World) :
    Calls Try.prog 4 #[.int .i64 k] w fun e w' => e = .returned (.bool true) ∧ Touch NoB w w' := by
  have h1 : k < 0 ∨ (¬ k < 0 ∧ (11 : Int) ≤ k) := by omega
  clear hk
  rcases h1 with h0 | ⟨h0, h1⟩
  all_goals
    go_enter Try.func4, Try.ntmps4
    go_wp2_with fail
    refine (alive_any _).mono ?_
    rintro e w1 ⟨rfl, hT1⟩
    have HT1 := Lib.hid hT1
    clear hT1
    go_wp2
    go_ret
    exact ⟨rfl, by repeat (first | with_reducible exact HT1.out | with_reducible refine Touch.alloc ?_ _)⟩

def lst0 : List Ky := [⟨⟨#[]⟩, 0, false⟩]
theorem err0 : errK lst0 = 5 := by decide +kernel
theorem errs_0 (w : World) :
    Calls Try.prog 4 #[.int .i64 0] w fun e w' => e = .returned (.bool true) ∧ Touch NoB w w' := by
  have HN := Lib.hid (fun (W : World) (g : Nat) (h : W.heap[g]? = some (.cells #[.string ⟨#[]⟩, .int .i64 0, .bool false] 35 (0, 0))) => new_no (some ⟨g, 0, none⟩) 1 1 lst0 W rfl (by decide) (kat_blk h rfl (by unfold lst0; intro k hk; simp at hk; rcases hk with rfl <;> decide)) err0 (by decide))
  go_enter Try.func4, Try.ntmps4
  go_wp2_with fail
  refine (alive_any _).mono ?_
  rintro e w1 ⟨rfl, hT1⟩
  have HT1 := Lib.hid hT1
  clear hT1
  go_wp2_with fail
  refine (HN.out _ _ (by ((repeat rw [heap_alloc_old _ _ (by simp only [World.size_alloc]; omega)]); exact alloc_blk _ _ _ rfl))).mono ?_
  rintro e w2 ⟨rfl, hT⟩
  have hc : w2.cell? ⟨w1.heap.size + 1 + 1 + 1 + 1 + 1 + 1 + 1 + 1 + 1 + 1 + 1, 0, none⟩ = some (.int .i64 5) := (hT.cell (p := ⟨w1.heap.size + 1 + 1 + 1 + 1 + 1 + 1 + 1 + 1 + 1 + 1 + 1, 0, none⟩) (by simp only [World.size_alloc]; omega) (fun e => e)).trans (cell_blk (cs := #[.int .i64 5, .int .i64 5, .int .i64 7, .int .i64 7, .int .i64 6, .int .i64 0, .int .i64 7, .int .i64 6, .int .i64 5, .int .i64 0, .int .i64 0]) (t := 3) (fr := (0, 0)) (by ((repeat rw [heap_alloc_old _ _ (by simp only [World.size_alloc]; omega)]); exact alloc_blk _ _ _ (by simp only [World.size_alloc]))) 0)
  have hl : w1.heap.size + 1 + 1 + 1 + 1 + 1 + 1 + 1 + 1 + 1 + 1 + 1 < w2.heap.size := Nat.lt_of_lt_of_le (by simp only [World.size_alloc]; omega) hT.size
  have HT2 := Lib.hid (HT1.out.same (Touch.same (by repeat (first | with_reducible exact Touch.refl _ _ | with_reducible refine Touch.alloc ?_ _)) hT))
  clear hT
  go_wp2
  go_quiet (first | (go_at_call 9; exact quiet_same (num_any _ _)))
  go_wp2
  go_ret
  exact ⟨rfl, HT2.out.drewN _⟩

def lst1 : List Ky := [⟨⟨#[49]⟩, 0, false⟩]
theorem err1 : errK lst1 = 5 := by decide +kernel
theorem errs_1 (w : World) :
    Calls Try.prog 4 #[.int .i64 1] w fun e w' => e = .returned (.bool true) ∧ Touch NoB w w' := by
  have HN := Lib.hid (fun (W : World) (g : Nat) (h : W.heap[g]? = some (.cells #[.string ⟨#[49]⟩, .int .i64 0, .bool false] 35 (0, 0))) => new_no (some ⟨g, 0, none⟩) 1 1 lst1 W rfl (by decide) (kat_blk h rfl (by unfold lst1; intro k hk; simp at hk; rcases hk with rfl <;> decide)) err1 (by decide))
  go_enter Try.func4, Try.ntmps4
  go_wp2_with fail
  refine (alive_any _).mono ?_
  rintro e w1 ⟨rfl, hT1⟩
  have HT1 := Lib.hid hT1
  clear hT1
  go_wp2_with fail
  refine (HN.out _ _ (by ((repeat rw [heap_alloc_old _ _ (by simp only [World.size_alloc]; omega)]); exact alloc_blk _ _ _ (by simp only [World.size_alloc])))).mono ?_
  rintro e w2 ⟨rfl, hT⟩
  have hc : w2.cell? ⟨w1.heap.size + 1 + 1 + 1 + 1 + 1 + 1 + 1 + 1 + 1 + 1 + 1, 1, none⟩ = some (.int .i64 5) := (hT.cell (p := ⟨w1.heap.size + 1 + 1 + 1 + 1 + 1 + 1 + 1 + 1 + 1 + 1 + 1, 1, none⟩) (by simp only [World.size_alloc]; omega) (fun e => e)).trans (cell_blk (cs := #[.int .i64 5, .int .i64 5, .int .i64 7, .int .i64 7, .int .i64 6, .int .i64 0, .int .i64 7, .int .i64 6, .int .i64 5, .int .i64 0, .int .i64 0]) (t := 3) (fr := (0, 0)) (by ((repeat rw [heap_alloc_old _ _ (by simp only [World.size_alloc]; omega)]); exact alloc_blk _ _ _ (by simp only [World.size_alloc]))) 1)
  have hl : w1.heap.size + 1 + 1 + 1 + 1 + 1 + 1 + 1 + 1 + 1 + 1 + 1 < w2.heap.size := Nat.lt_of_lt_of_le (by simp only [World.size_alloc]; omega) hT.size
  have HT2 := Lib.hid (HT1.out.same (Touch.same (by repeat (first | with_reducible exact Touch.refl _ _ | with_reducible refine Touch.alloc ?_ _)) hT))
  clear hT
  go_wp2
  go_quiet (first | (go_at_call 9; exact quiet_same (num_any _ _)))
  go_wp2
  go_ret
  exact ⟨rfl, HT2.out.drewN _⟩

def lst2 : List Ky := [⟨⟨#[97]⟩, 5, false⟩]
theorem err2 : errK lst2 = 7 := by decide +kernel
theorem errs_2 (w : World) :
    Calls Try.prog 4 #[.int .i64 2] w fun e w' => e = .returned (.bool true) ∧ Touch NoB w w' := by
  have HN := Lib.hid (fun (W : World) (g : Nat) (h : W.heap[g]? = some (.cells #[.string ⟨#[97]⟩, .int .i64 5, .bool false] 35 (0, 0))) => new_no (some ⟨g, 0, none⟩) 1 1 lst2 W rfl (by decide) (kat_blk h rfl (by unfold lst2; intro k hk; simp at hk; rcases hk with rfl <;> decide)) err2 (by decide))
  go_enter Try.func4, Try.ntmps4
  go_wp2_with fail
  refine (alive_any _).mono ?_
  rintro e w1 ⟨rfl, hT1⟩
  have HT1 := Lib.hid hT1
  clear hT1
  go_wp2_with fail
  refine (HN.out _ _ (by ((repeat rw [heap_alloc_old _ _ (by simp only [World.size_alloc]; omega)]); exact alloc_blk _ _ _ (by simp only [World.size_alloc])))).mono ?_
  rintro e w2 ⟨rfl, hT⟩
  have hc : w2.cell? ⟨w1.heap.size + 1 + 1 + 1 + 1 + 1 + 1 + 1 + 1 + 1 + 1 + 1, 2, none⟩ = some (.int .i64 7) := (hT.cell (p := ⟨w1.heap.size + 1 + 1 + 1 + 1 + 1 + 1 + 1 + 1 + 1 + 1 + 1, 2, none⟩) (by simp only [World.size_alloc]; omega) (fun e => e)).trans (cell_blk (cs := #[.int .i64 5, .int .i64 5, .int .i64 7, .int .i64 7, .int .i64 6, .int .i64 0, .int .i64 7, .int .i64 6, .int .i64 5, .int .i64 0, .int .i64 0]) (t := 3) (fr := (0, 0)) (by ((repeat rw [heap_alloc_old _ _ (by simp only [World.size_alloc]; omega)]); exact alloc_blk _ _ _ (by simp only [World.size_alloc]))) 2)
  have hl : w1.heap.size + 1 + 1 + 1 + 1 + 1 + 1 + 1 + 1 + 1 + 1 + 1 < w2.heap.size := Nat.lt_of_lt_of_le (by simp only [World.size_alloc]; omega) hT.size
  have HT2 := Lib.hid (HT1.out.same (Touch.same (by repeat (first | with_reducible exact Touch.refl _ _ | with_reducible refine Touch.alloc ?_ _)) hT))
  clear hT
  go_wp2
  go_quiet (first | (go_at_call 9; exact quiet_same (num_any _ _)))
  go_wp2
  go_ret
  exact ⟨rfl, HT2.out.drewN _⟩

def lst3 : List Ky := [⟨⟨#[97]⟩, (-1), false⟩]
theorem err3 : errK lst3 = 7 := by decide +kernel
theorem errs_3 (w : World) :
    Calls Try.prog 4 #[.int .i64 3] w fun e w' => e = .returned (.bool true) ∧ Touch NoB w w' := by
  have HN := Lib.hid (fun (W : World) (g : Nat) (h : W.heap[g]? = some (.cells #[.string ⟨#[97]⟩, .int .i64 (-1), .bool false] 35 (0, 0))) => new_no (some ⟨g, 0, none⟩) 1 1 lst3 W rfl (by decide) (kat_blk h rfl (by unfold lst3; intro k hk; simp at hk; rcases hk with rfl <;> decide)) err3 (by decide))
  go_enter Try.func4, Try.ntmps4
  go_wp2_with fail
  refine (alive_any _).mono ?_
  rintro e w1 ⟨rfl, hT1⟩
  have HT1 := Lib.hid hT1
  clear hT1
  go_wp2_with fail
  refine (HN.out _ _ (by ((repeat rw [heap_alloc_old _ _ (by simp only [World.size_alloc]; omega)]); exact alloc_blk _ _ _ (by simp only [World.size_alloc])))).mono ?_
  rintro e w2 ⟨rfl, hT⟩
  have hc : w2.cell? ⟨w1.heap.size + 1 + 1 + 1 + 1 + 1 + 1 + 1 + 1 + 1 + 1 + 1, 3, none⟩ = some (.int .i64 7) := (hT.cell (p := ⟨w1.heap.size + 1 + 1 + 1 + 1 + 1 + 1 + 1 + 1 + 1 + 1 + 1, 3, none⟩) (by simp only [World.size_alloc]; omega) (fun e => e)).trans (cell_blk (cs := #[.int .i64 5, .int .i64 5, .int .i64 7, .int .i64 7, .int .i64 6, .int .i64 0, .int .i64 7, .int .i64 6, .int .i64 5, .int .i64 0, .int .i64 0]) (t := 3) (fr := (0, 0)) (by ((repeat rw [heap_alloc_old _ _ (by simp only [World.size_alloc]; omega)]); exact alloc_blk _ _ _ (by simp only [World.size_alloc]))) 3)
  have hl : w1.heap.size + 1 + 1 + 1 + 1 + 1 + 1 + 1 + 1 + 1 + 1 + 1 < w2.heap.size := Nat.lt_of_lt_of_le (by simp only [World.size_alloc]; omega) hT.size
  have HT2 := Lib.hid (HT1.out.same (Touch.same (by repeat (first | with_reducible exact Touch.refl _ _ | with_reducible refine Touch.alloc ?_ _)) hT))
  clear hT
  go_wp2
  go_quiet (first | (go_at_call 9; exact quiet_same (num_any _ _)))
  go_wp2
  go_ret
  exact ⟨rfl, HT2.out.drewN _⟩

def lst4 : List Ky := [⟨⟨#[97]⟩, 0, false⟩, ⟨⟨#[97]⟩, 0, false⟩]
theorem err4 : errK lst4 = 6 := by decide +kernel
theorem errs_4 (w : World) :
    Calls Try.prog 4 #[.int .i64 4] w fun e w' => e = .returned (.bool true) ∧ Touch NoB w w' := by
  have HN := Lib.hid (fun (W : World) (g : Nat) (h : W.heap[g]? = some (.cells #[.string ⟨#[97]⟩, .int .i64 0, .bool false, .string ⟨#[97]⟩, .int .i64 0, .bool false] 35 (0, 0))) => new_no (some ⟨g, 0, none⟩) 2 2 lst4 W rfl (by decide) (kat_blk h rfl (by unfold lst4; intro k hk; simp at hk; rcases hk with rfl | rfl <;> decide)) err4 (by decide))
  go_enter Try.func4, Try.ntmps4
  go_wp2_with fail
  refine (alive_any _).mono ?_
  rintro e w1 ⟨rfl, hT1⟩
  have HT1 := Lib.hid hT1
  clear hT1
  go_wp2_with fail
  refine (HN.out _ _ (by ((repeat rw [heap_alloc_old _ _ (by simp only [World.size_alloc]; omega)]); exact alloc_blk _ _ _ (by simp only [World.size_alloc])))).mono ?_
  rintro e w2 ⟨rfl, hT⟩
  have hc : w2.cell? ⟨w1.heap.size + 1 + 1 + 1 + 1 + 1 + 1 + 1 + 1 + 1 + 1 + 1, 4, none⟩ = some (.int .i64 6) := (hT.cell (p := ⟨w1.heap.size + 1 + 1 + 1 + 1 + 1 + 1 + 1 + 1 + 1 + 1 + 1, 4, none⟩) (by simp only [World.size_alloc]; omega) (fun e => e)).trans (cell_blk (cs := #[.int .i64 5, .int .i64 5, .int .i64 7, .int .i64 7, .int .i64 6, .int .i64 0, .int .i64 7, .int .i64 6, .int .i64 5, .int .i64 0, .int .i64 0]) (t := 3) (fr := (0, 0)) (by ((repeat rw [heap_alloc_old _ _ (by simp only [World.size_alloc]; omega)]); exact alloc_blk _ _ _ (by simp only [World.size_alloc]))) 4)
  have hl : w1.heap.size + 1 + 1 + 1 + 1 + 1 + 1 + 1 + 1 + 1 + 1 + 1 < w2.heap.size := Nat.lt_of_lt_of_le (by simp only [World.size_alloc]; omega) hT.size
  have HT2 := Lib.hid (HT1.out.same (Touch.same (by repeat (first | with_reducible exact Touch.refl _ _ | with_reducible refine Touch.alloc ?_ _)) hT))
  clear hT
  go_wp2
  go_quiet (first | (go_at_call 9; exact quiet_same (num_any _ _)))
  go_wp2
  go_ret
  exact ⟨rfl, HT2.out.drewN _⟩

def lst5 : List Ky := [⟨⟨#[97]⟩, 0, false⟩, ⟨⟨#[97, 95]⟩, 0, false⟩]
theorem err5 : errK lst5 = 0 := by decide +kernel
theorem errs_5 (w : World) :
    Calls Try.prog 4 #[.int .i64 5] w fun e w' => e = .returned (.bool true) ∧ Touch NoB w w' := by
  have HN := Lib.hid (fun (W : World) (g : Nat) (h : W.heap[g]? = some (.cells #[.string ⟨#[97]⟩, .int .i64 0, .bool false, .string ⟨#[97, 95]⟩, .int .i64 0, .bool false] 35 (0, 0))) => new_yes (some ⟨g, 0, none⟩) 2 2 lst5 W rfl (by decide) (kat_blk h rfl (by unfold lst5; intro k hk; simp at hk; rcases hk with rfl | rfl <;> decide)) err5)
  go_enter Try.func4, Try.ntmps4
  go_wp2_with fail
  refine (alive_any _).mono ?_
  rintro e w1 ⟨rfl, hT1⟩
  have HT1 := Lib.hid hT1
  clear hT1
  go_wp2_with fail
  refine (HN.out _ _ (by ((repeat rw [heap_alloc_old _ _ (by simp only [World.size_alloc]; omega)]); exact alloc_blk _ _ _ (by simp only [World.size_alloc])))).mono ?_
  rintro e w2 ⟨g, rfl, -, hT⟩
  have hc : w2.cell? ⟨w1.heap.size + 1 + 1 + 1 + 1 + 1 + 1 + 1 + 1 + 1 + 1 + 1, 5, none⟩ = some (.int .i64 0) := (hT.cell (p := ⟨w1.heap.size + 1 + 1 + 1 + 1 + 1 + 1 + 1 + 1 + 1 + 1 + 1, 5, none⟩) (by simp only [World.size_alloc]; omega) (fun e => e)).trans (cell_blk (cs := #[.int .i64 5, .int .i64 5, .int .i64 7, .int .i64 7, .int .i64 6, .int .i64 0, .int .i64 7, .int .i64 6, .int .i64 5, .int .i64 0, .int .i64 0]) (t := 3) (fr := (0, 0)) (by ((repeat rw [heap_alloc_old _ _ (by simp only [World.size_alloc]; omega)]); exact alloc_blk _ _ _ (by simp only [World.size_alloc]))) 5)
  have hl : w1.heap.size + 1 + 1 + 1 + 1 + 1 + 1 + 1 + 1 + 1 + 1 + 1 < w2.heap.size := Nat.lt_of_lt_of_le (by simp only [World.size_alloc]; omega) hT.size
  have HT2 := Lib.hid (HT1.out.same (Touch.same (by repeat (first | with_reducible exact Touch.refl _ _ | with_reducible refine Touch.alloc ?_ _)) hT))
  clear hT
  go_wp2
  go_quiet (first | (go_at_call 9; exact quiet_same (num_any _ _)))
  go_wp2
  go_ret
  exact ⟨rfl, HT2.out.drewN _⟩

def lst6 : List Ky := [⟨⟨#[97]⟩, 9, false⟩, ⟨⟨#[]⟩, 0, false⟩]
theorem err6 : errK lst6 = 7 := by decide +kernel
theorem errs_6 (w : World) :
    Calls Try.prog 4 #[.int .i64 6] w fun e w' => e = .returned (.bool true) ∧ Touch NoB w w' := by
  have HN := Lib.hid (fun (W : World) (g : Nat) (h : W.heap[g]? = some (.cells #[.string ⟨#[97]⟩, .int .i64 9, .bool false, .string ⟨#[]⟩, .int .i64 0, .bool false] 35 (0, 0))) => new_no (some ⟨g, 0, none⟩) 2 2 lst6 W rfl (by decide) (kat_blk h rfl (by unfold lst6; intro k hk; simp at hk; rcases hk with rfl | rfl <;> decide)) err6 (by decide))
  go_enter Try.func4, Try.ntmps4
  go_wp2_with fail
  refine (alive_any _).mono ?_
  rintro e w1 ⟨rfl, hT1⟩
  have HT1 := Lib.hid hT1
  clear hT1
  go_wp2_with fail
  refine (HN.out _ _ (by ((repeat rw [heap_alloc_old _ _ (by simp only [World.size_alloc]; omega)]); exact alloc_blk _ _ _ (by simp only [World.size_alloc])))).mono ?_
  rintro e w2 ⟨rfl, hT⟩
  have hc : w2.cell? ⟨w1.heap.size + 1 + 1 + 1 + 1 + 1 + 1 + 1 + 1 + 1 + 1 + 1, 6, none⟩ = some (.int .i64 7) := (hT.cell (p := ⟨w1.heap.size + 1 + 1 + 1 + 1 + 1 + 1 + 1 + 1 + 1 + 1 + 1, 6, none⟩) (by simp only [World.size_alloc]; omega) (fun e => e)).trans (cell_blk (cs := #[.int .i64 5, .int .i64 5, .int .i64 7, .int .i64 7, .int .i64 6, .int .i64 0, .int .i64 7, .int .i64 6, .int .i64 5, .int .i64 0, .int .i64 0]) (t := 3) (fr := (0, 0)) (by ((repeat rw [heap_alloc_old _ _ (by simp only [World.size_alloc]; omega)]); exact alloc_blk _ _ _ (by simp only [World.size_alloc]))) 6)
  have hl : w1.heap.size + 1 + 1 + 1 + 1 + 1 + 1 + 1 + 1 + 1 + 1 + 1 < w2.heap.size := Nat.lt_of_lt_of_le (by simp only [World.size_alloc]; omega) hT.size
  have HT2 := Lib.hid (HT1.out.same (Touch.same (by repeat (first | with_reducible exact Touch.refl _ _ | with_reducible refine Touch.alloc ?_ _)) hT))
  clear hT
  go_wp2
  go_quiet (first | (go_at_call 9; exact quiet_same (num_any _ _)))
  go_wp2
  go_ret
  exact ⟨rfl, HT2.out.drewN _⟩

def lst7 : List Ky := [⟨⟨#[97]⟩, 0, true⟩, ⟨⟨#[97]⟩, 2, false⟩]
theorem err7 : errK lst7 = 6 := by decide +kernel
theorem errs_7 (w : World) :
    Calls Try.prog 4 #[.int .i64 7] w fun e w' => e = .returned (.bool true) ∧ Touch NoB w w' := by
  have HN := Lib.hid (fun (W : World) (g : Nat) (h : W.heap[g]? = some (.cells #[.string ⟨#[97]⟩, .int .i64 0, .bool true, .string ⟨#[97]⟩, .int .i64 2, .bool false] 35 (0, 0))) => new_no (some ⟨g, 0, none⟩) 2 2 lst7 W rfl (by decide) (kat_blk h rfl (by unfold lst7; intro k hk; simp at hk; rcases hk with rfl | rfl <;> decide)) err7 (by decide))
  go_enter Try.func4, Try.ntmps4
  go_wp2_with fail
  refine (alive_any _).mono ?_
  rintro e w1 ⟨rfl, hT1⟩
  have HT1 := Lib.hid hT1
  clear hT1
  go_wp2_with fail
  refine (HN.out _ _ (by ((repeat rw [heap_alloc_old _ _ (by simp only [World.size_alloc]; omega)]); exact alloc_blk _ _ _ (by simp only [World.size_alloc])))).mono ?_
  rintro e w2 ⟨rfl, hT⟩
  have hc : w2.cell? ⟨w1.heap.size + 1 + 1 + 1 + 1 + 1 + 1 + 1 + 1 + 1 + 1 + 1, 7, none⟩ = some (.int .i64 6) := (hT.cell (p := ⟨w1.heap.size + 1 + 1 + 1 + 1 + 1 + 1 + 1 + 1 + 1 + 1 + 1, 7, none⟩) (by simp only [World.size_alloc]; omega) (fun e => e)).trans (cell_blk (cs := #[.int .i64 5, .int .i64 5, .int .i64 7, .int .i64 7, .int .i64 6, .int .i64 0, .int .i64 7, .int .i64 6, .int .i64 5, .int .i64 0, .int .i64 0]) (t := 3) (fr := (0, 0)) (by ((repeat rw [heap_alloc_old _ _ (by simp only [World.size_alloc]; omega)]); exact alloc_blk _ _ _ (by simp only [World.size_alloc]))) 7)
  have hl : w1.heap.size + 1 + 1 + 1 + 1 + 1 + 1 + 1 + 1 + 1 + 1 + 1 < w2.heap.size := Nat.lt_of_lt_of_le (by simp only [World.size_alloc]; omega) hT.size
  have HT2 := Lib.hid (HT1.out.same (Touch.same (by repeat (first | with_reducible exact Touch.refl _ _ | with_reducible refine Touch.alloc ?_ _)) hT))
  clear hT
  go_wp2
  go_quiet (first | (go_at_call 9; exact quiet_same (num_any _ _)))
  go_wp2
  go_ret
  exact ⟨rfl, HT2.out.drewN _⟩

def lst8 : List Ky := [⟨⟨#[97, 98, 99, 100, 101, 102, 103, 104, 105, 106, 107, 108, 109, 110, 111, 112, 113, 114, 115, 116, 117, 118, 119, 120, 121]⟩, 0, false⟩]
theorem err8 : errK lst8 = 5 := by decide +kernel
theorem errs_8 (w : World) :
    Calls Try.prog 4 #[.int .i64 8] w fun e w' => e = .returned (.bool true) ∧ Touch NoB w w' := by
  have HN := Lib.hid (fun (W : World) (g : Nat) (h : W.heap[g]? = some (.cells #[.string ⟨#[97, 98, 99, 100, 101, 102, 103, 104, 105, 106, 107, 108, 109, 110, 111, 112, 113, 114, 115, 116, 117, 118, 119, 120, 121]⟩, .int .i64 0, .bool false] 35 (0, 0))) => new_no (some ⟨g, 0, none⟩) 1 1 lst8 W rfl (by decide) (kat_blk h rfl (by unfold lst8; intro k hk; simp at hk; rcases hk with rfl <;> decide)) err8 (by decide))
  go_enter Try.func4, Try.ntmps4
  go_wp2_with fail
  refine (alive_any _).mono ?_
  rintro e w1 ⟨rfl, hT1⟩
  have HT1 := Lib.hid hT1
  clear hT1
  go_wp2_with fail
  refine (HN.out _ _ (by ((repeat rw [heap_alloc_old _ _ (by simp only [World.size_alloc]; omega)]); exact alloc_blk _ _ _ (by simp only [World.size_alloc])))).mono ?_
  rintro e w2 ⟨rfl, hT⟩
  have hc : w2.cell? ⟨w1.heap.size + 1 + 1 + 1 + 1 + 1 + 1 + 1 + 1 + 1 + 1 + 1, 8, none⟩ = some (.int .i64 5) := (hT.cell (p := ⟨w1.heap.size + 1 + 1 + 1 + 1 + 1 + 1 + 1 + 1 + 1 + 1 + 1, 8, none⟩) (by simp only [World.size_alloc]; omega) (fun e => e)).trans (cell_blk (cs := #[.int .i64 5, .int .i64 5, .int .i64 7, .int .i64 7, .int .i64 6, .int .i64 0, .int .i64 7, .int .i64 6, .int .i64 5, .int .i64 0, .int .i64 0]) (t := 3) (fr := (0, 0)) (by ((repeat rw [heap_alloc_old _ _ (by simp only [World.size_alloc]; omega)]); exact alloc_blk _ _ _ (by simp only [World.size_alloc]))) 8)
  have hl : w1.heap.size + 1 + 1 + 1 + 1 + 1 + 1 + 1 + 1 + 1 + 1 + 1 < w2.heap.size := Nat.lt_of_lt_of_le (by simp only [World.size_alloc]; omega) hT.size
  have HT2 := Lib.hid (HT1.out.same (Touch.same (by repeat (first | with_reducible exact Touch.refl _ _ | with_reducible refine Touch.alloc ?_ _)) hT))
  clear hT
  go_wp2
  go_quiet (first | (go_at_call 9; exact quiet_same (num_any _ _)))
  go_wp2
  go_ret
  exact ⟨rfl, HT2.out.drewN _⟩

def lst9 : List Ky := [⟨⟨#[116, 114, 101, 101]⟩, 0, false⟩]
theorem err9 : errK lst9 = 0 := by decide +kernel
theorem errs_9 (w : World) :
    Calls Try.prog 4 #[.int .i64 9] w fun e w' => e = .returned (.bool true) ∧ Touch NoB w w' := by
  have HN := Lib.hid (fun (W : World) (g : Nat) (h : W.heap[g]? = some (.cells #[.string ⟨#[116, 114, 101, 101]⟩, .int .i64 0, .bool false] 35 (0, 0))) => new_yes (some ⟨g, 0, none⟩) 1 1 lst9 W rfl (by decide) (kat_blk h rfl (by unfold lst9; intro k hk; simp at hk; rcases hk with rfl <;> decide)) err9)
  go_enter Try.func4, Try.ntmps4
  go_wp2_with fail
  refine (alive_any _).mono ?_
  rintro e w1 ⟨rfl, hT1⟩
  have HT1 := Lib.hid hT1
  clear hT1
  go_wp2_with fail
  refine (HN.out _ _ (by ((repeat rw [heap_alloc_old _ _ (by simp only [World.size_alloc]; omega)]); exact alloc_blk _ _ _ (by simp only [World.size_alloc])))).mono ?_
  rintro e w2 ⟨g, rfl, -, hT⟩
  have hc : w2.cell? ⟨w1.heap.size + 1 + 1 + 1 + 1 + 1 + 1 + 1 + 1 + 1 + 1 + 1, 9, none⟩ = some (.int .i64 0) := (hT.cell (p := ⟨w1.heap.size + 1 + 1 + 1 + 1 + 1 + 1 + 1 + 1 + 1 + 1 + 1, 9, none⟩) (by simp only [World.size_alloc]; omega) (fun e => e)).trans (cell_blk (cs := #[.int .i64 5, .int .i64 5, .int .i64 7, .int .i64 7, .int .i64 6, .int .i64 0, .int .i64 7, .int .i64 6, .int .i64 5, .int .i64 0, .int .i64 0]) (t := 3) (fr := (0, 0)) (by ((repeat rw [heap_alloc_old _ _ (by simp only [World.size_alloc]; omega)]); exact alloc_blk _ _ _ (by simp only [World.size_alloc]))) 9)
  have hl : w1.heap.size + 1 + 1 + 1 + 1 + 1 + 1 + 1 + 1 + 1 + 1 + 1 < w2.heap.size := Nat.lt_of_lt_of_le (by simp only [World.size_alloc]; omega) hT.size
  have HT2 := Lib.hid (HT1.out.same (Touch.same (by repeat (first | with_reducible exact Touch.refl _ _ | with_reducible refine Touch.alloc ?_ _)) hT))
  clear hT
  go_wp2
  go_quiet (first | (go_at_call 9; exact quiet_same (num_any _ _)))
  go_wp2
  go_ret
  exact ⟨rfl, HT2.out.drewN _⟩

def lst10 : List Ky := []
theorem err10 : errK lst10 = 0 := by decide +kernel
theorem errs_10 (w : World) :
    Calls Try.prog 4 #[.int .i64 10] w fun e w' => e = .returned (.bool true) ∧ Touch NoB w w' := by
  have HN := Lib.hid (fun (W : World) => new_yes none 0 0 lst10 W rfl (by decide) (kat_nil W none) err10)
  go_enter Try.func4, Try.ntmps4
  go_wp2_with fail
  refine (alive_any _).mono ?_
  rintro e w1 ⟨rfl, hT1⟩
  have HT1 := Lib.hid hT1
  clear hT1
  go_wp2_with fail
  refine (HN.out _).mono ?_
  rintro e w2 ⟨g, rfl, -, hT⟩
  have hc : w2.cell? ⟨w1.heap.size + 1 + 1 + 1 + 1 + 1 + 1 + 1 + 1 + 1 + 1 + 1, 10, none⟩ = some (.int .i64 0) := (hT.cell (p := ⟨w1.heap.size + 1 + 1 + 1 + 1 + 1 + 1 + 1 + 1 + 1 + 1 + 1, 10, none⟩) (by simp only [World.size_alloc]; omega) (fun e => e)).trans (cell_blk (cs := #[.int .i64 5, .int .i64 5, .int .i64 7, .int .i64 7, .int .i64 6, .int .i64 0, .int .i64 7, .int .i64 6, .int .i64 5, .int .i64 0, .int .i64 0]) (t := 3) (fr := (0, 0)) (by ((repeat rw [heap_alloc_old _ _ (by simp only [World.size_alloc]; omega)]); exact alloc_blk _ _ _ (by simp only [World.size_alloc]))) 10)
  have hl : w1.heap.size + 1 + 1 + 1 + 1 + 1 + 1 + 1 + 1 + 1 + 1 + 1 < w2.heap.size := Nat.lt_of_lt_of_le (by simp only [World.size_alloc]; omega) hT.size
  have HT2 := Lib.hid (HT1.out.same (Touch.same (by repeat (first | with_reducible exact Touch.refl _ _ | with_reducible refine Touch.alloc ?_ _)) hT))
  clear hT
  go_wp2
  go_quiet (first | (go_at_call 9; exact quiet_same (num_any _ _)))
  go_wp2
  go_ret
  exact ⟨rfl, HT2.out.drewN _⟩

theorem errs_any (k : Int) (w : World) :
    Calls Try.prog 4 #[.int .i64 k] w fun e w' => e = .returned (.bool true) ∧ Touch NoB w w' := by
  by_cases h : 0 ≤ k ∧ k < 11
  · obtain ⟨n, rfl⟩ := Int.eq_ofNat_of_zero_le h.1
    have hn : n < 11 := by omega
    clear h
    rcases n with _ | _ | _ | _ | _ | _ | _ | _ | _ | _ | _ | n
    · exact errs_0 w
    · exact errs_1 w
    · exact errs_2 w
    · exact errs_3 w
    · exact errs_4 w
    · exact errs_5 w
    · exact errs_6 w
    · exact errs_7 w
    · exact errs_8 w
    · exact errs_9 w
    · exact errs_10 w
    · exact absurd hn (by omega)
  · exact errs_out k (by omega) w
end Go.Proofs.Ytmlnnmdidcbglaa
