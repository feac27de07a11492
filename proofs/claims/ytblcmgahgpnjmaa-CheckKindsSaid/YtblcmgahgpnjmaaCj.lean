/-
  What package check's Check returns of the zero program; the law's own num and alive. No condition.
-/
import Derived.Test.YtblcmgahgpnjmaaCi
import Derived.Shelf.Abstract
namespace Go.Proofs.Ytblcmgahgpnjmaa
open Go.ChangeShapes Go.WideShapes Go.ChangeAt Go.RowKit Go.Maps
set_option maxRecDepth 100000
set_option maxHeartbeats 4000000

theorem num13_any (n : Int) (w : World) : Calls Try.prog 8 #[.int .i64 n] w fun e w' => e = .returned (.int .i64 n) ∧ w = w' := by
  go_enter Try.func8, Try.ntmps8
  go_wp2
  go_ret
  exact ⟨rfl, rfl⟩
theorem new_nil (w : World) : Calls Try.prog 24 #[.slice none 0 0] w fun e w' => (∃ p, e = .returned (.tuple #[p, .int .i64 0])) ∧ Touch NoB w w' := by
  go_enter Try.func24, Try.ntmps24
  go_wp2
  refine wp_loop_rounds 1 ?_
  rw [rounds_succ]
  go_wp2
  go_ret2
  exact ⟨⟨_, rfl⟩, by repeat (first | with_reducible exact Touch.refl _ _ | with_reducible refine Touch.drew ?_ | with_reducible refine Touch.alloc ?_ _)⟩
theorem first_nil (f : Value) (w : World) : Calls Try.prog 27 #[.slice none 0 0, f] w fun e w' => e = .returned (.tuple #[.string ⟨#[]⟩, .int .i64 0]) ∧ w = w' := by
  go_enter Try.func27, Try.ntmps27
  go_wp2
  refine wp_loop_rounds 1 ?_
  rw [rounds_succ]
  go_wp2
  go_ret2
  exact ⟨rfl, rfl⟩
/-- What each step returns of the zero program. -/
def StepOk (w : World) (e : Ending) (w' : World) : Prop := e = .returned (.tuple #[.string ⟨#[]⟩, .int .i64 0]) ∧ Touch NoB w w'
theorem keys_zero (w : World) : Calls Try.prog 14 #[.agg #[.slice none 0 0, .slice none 0 0, .slice none 0 0]] w (StepOk w) := by
  have HN := Lib.hid (fun w => new_nil w)
  go_enter Try.func14, Try.ntmps14
  go_wp2_with (first | (go_at_call 24; refine (HN.out _).mono ?_; rintro r w2 ⟨⟨p, rfl⟩, hT2⟩; have HT2 := Lib.hid hT2; clear hT2))
  go_ret2
  exact ⟨rfl, Touch.same (by repeat (first | with_reducible exact Touch.refl _ _ | with_reducible refine Touch.drew ?_ | with_reducible refine Touch.alloc ?_ _)) HT2.out⟩
theorem trees_zero (w : World) (c : Addr) : Calls Try.prog 15 #[.pointer (some c), .agg #[.slice none 0 0, .slice none 0 0, .slice none 0 0]] w (StepOk w) := by
  have HF := Lib.hid (fun f w => first_nil f w)
  go_enter Try.func15, Try.ntmps15
  go_wp2_with (first | (go_at_call 27; refine (HF.out _ _).mono ?_; rintro r w2 ⟨rfl, rfl⟩))
  go_ret2
  exact ⟨rfl, by repeat (first | with_reducible exact Touch.refl _ _ | with_reducible refine Touch.drew ?_ | with_reducible refine Touch.alloc ?_ _)⟩
theorem nodes_zero (w : World) (c : Addr) : Calls Try.prog 17 #[.pointer (some c), .agg #[.slice none 0 0, .slice none 0 0, .slice none 0 0]] w (StepOk w) := by
  have HF := Lib.hid (fun f w => first_nil f w)
  go_enter Try.func17, Try.ntmps17
  go_wp2_with (first | (go_at_call 27; refine (HF.out _ _).mono ?_; rintro r w2 ⟨rfl, rfl⟩))
  go_ret2
  exact ⟨rfl, by repeat (first | with_reducible exact Touch.refl _ _ | with_reducible refine Touch.drew ?_ | with_reducible refine Touch.alloc ?_ _)⟩
theorem rings_zero (w : World) (c : Addr) : Calls Try.prog 18 #[.pointer (some c), .agg #[.slice none 0 0, .slice none 0 0, .slice none 0 0]] w (StepOk w) := by
  have HF := Lib.hid (fun f w => first_nil f w)
  go_enter Try.func18, Try.ntmps18
  go_wp2_with (first | (go_at_call 27; refine (HF.out _ _).mono ?_; rintro r w2 ⟨rfl, rfl⟩))
  go_ret2
  exact ⟨rfl, by repeat (first | with_reducible exact Touch.refl _ _ | with_reducible refine Touch.drew ?_ | with_reducible refine Touch.alloc ?_ _)⟩
theorem sizes_zero (w : World) (c : Addr) : Calls Try.prog 19 #[.pointer (some c), .agg #[.slice none 0 0, .slice none 0 0, .slice none 0 0]] w (StepOk w) := by
  have HF := Lib.hid (fun f w => first_nil f w)
  go_enter Try.func19, Try.ntmps19
  go_wp2_with (first | (go_at_call 27; refine (HF.out _ _).mono ?_; rintro r w2 ⟨rfl, rfl⟩))
  go_ret2
  exact ⟨rfl, by repeat (first | with_reducible exact Touch.refl _ _ | with_reducible refine Touch.drew ?_ | with_reducible refine Touch.alloc ?_ _)⟩
theorem doms_zero (w : World) (c : Addr) : Calls Try.prog 16 #[.pointer (some c), .agg #[.slice none 0 0, .slice none 0 0, .slice none 0 0]] w (StepOk w) := by
  go_enter Try.func16, Try.ntmps16
  go_wp2
  refine wp_loop_rounds 1 ?_
  rw [rounds_succ]
  go_wp2
  go_ret2
  exact ⟨rfl, by repeat (first | with_reducible exact Touch.refl _ _ | with_reducible refine Touch.drew ?_ | with_reducible refine Touch.alloc ?_ _)⟩
def fnC (c : Addr) : Array Value := #[.func (.func 14) #[] #[], .func (.func 15) #[.pointer (some c)] #[], .func (.func 16) #[.pointer (some c)] #[], .func (.func 17) #[.pointer (some c)] #[], .func (.func 18) #[.pointer (some c)] #[], .func (.func 19) #[.pointer (some c)] #[]]
/-- The program and the steps stand in memory. -/
def CzRel (q g : Nat) (c : Addr) (w : World) (v24 : Value) (wr : World) : Prop := ∃ i : Nat, i ≤ 6 ∧ v24 = .int .i64 i ∧ wr.heap[q]? = some (.cells #[.slice none 0 0, .slice none 0 0, .slice none 0 0] 42 (0, 0)) ∧ wr.heap[g]? = some (.cells (fnC c) 38 (0, 0)) ∧ Touch NoB w wr
theorem check_zero (w : World) : Calls Try.prog 9 #[.agg #[.slice none 0 0, .slice none 0 0, .slice none 0 0]] w (StepOk w) := by
  have hmm := @run_makeMap Try.prog
  have HK := Lib.hid (fun w => kindsof_any none 0 0 [] w rfl (by omega) (fun j k hj => by simp at hj) (fun k hk => by cases hk))
  have e0 : ∀ (args : Array Value) (w : World), (callFunc 14 args).run Try.prog w = .ok (.enter 14 args) w := enters_of Try.func14 (by kernel_rfl) rfl
  have e1 : ∀ (args : Array Value) (w : World), (callFunc 15 args).run Try.prog w = .ok (.enter 15 args) w := enters_of Try.func15 (by kernel_rfl) rfl
  have e2 : ∀ (args : Array Value) (w : World), (callFunc 16 args).run Try.prog w = .ok (.enter 16 args) w := enters_of Try.func16 (by kernel_rfl) rfl
  have e3 : ∀ (args : Array Value) (w : World), (callFunc 17 args).run Try.prog w = .ok (.enter 17 args) w := enters_of Try.func17 (by kernel_rfl) rfl
  have e4 : ∀ (args : Array Value) (w : World), (callFunc 18 args).run Try.prog w = .ok (.enter 18 args) w := enters_of Try.func18 (by kernel_rfl) rfl
  have e5 : ∀ (args : Array Value) (w : World), (callFunc 19 args).run Try.prog w = .ok (.enter 19 args) w := enters_of Try.func19 (by kernel_rfl) rfl
  go_enter Try.func9, Try.ntmps9
  go_wp2_with fail
  refine (HK.out _).mono ?_
  rintro r w1 ⟨rfl, -, hT1⟩
  have HT1 := Lib.hid (((Touch.refl NoB w).alloc (.cells #[.slice none 0 0, .slice none 0 0, .slice none 0 0] 42)).same hT1)
  have hb : w1.heap[w.heap.size]? = some (.cells #[.slice none 0 0, .slice none 0 0, .slice none 0 0] 42 (0, 0)) := (hT1.block _ (by rw [World.size_alloc]; omega) (fun f => f)).trans (alloc_blk _ _ _ rfl)
  have p0 := cell_blk hb 0
  have p1 := cell_blk hb 1
  have p2 := cell_blk hb 2
  have p3 := blk_lt hb
  have HB := Lib.hid hb
  clear hT1 hb
  go_wp2
  go_loopw [24] (fun v24 wr => CzRel w.heap.size (w1.heap.size + 1 + 1 + 1) ⟨w1.heap.size + 1 + 1, 0, none⟩ w v24 wr) (fun v24 _ => 6 - (intOf v24).toNat)
  case atStart => exact ⟨0, by omega, rfl, (Touch.block (F := NoB) (w := w1) (by repeat (first | with_reducible exact Touch.refl _ _ | with_reducible refine Touch.drew ?_ | with_reducible refine Touch.alloc ?_ _)) _ p3 (fun f => f)).trans HB.out, alloc_blk _ _ _ (by simp only [World.size_alloc]), HT1.out.same (by repeat (first | with_reducible exact Touch.refl _ _ | with_reducible refine Touch.drew ?_ | with_reducible refine Touch.alloc ?_ _))⟩
  case round =>
    obtain ⟨i, hi, rfl, hq, hg, hT⟩ := hrel
    have q0 := cell_blk hq 0
    have q1 := cell_blk hq 1
    have q2 := cell_blk hq 2
    have q3 := blk_lt hq
    have g9 := blk_lt hg
    have HQ := Lib.hid (And.intro hq (And.intro hg hT))
    clear p0 p1 p2 p3 HB HT1
    by_cases h6 : i < 6
    · have hc : i = 0 ∨ i = 1 ∨ i = 2 ∨ i = 3 ∨ i = 4 ∨ i = 5 := by omega
      clear hi h6 hT hq
      rcases hc with rfl | rfl | rfl | rfl | rfl | rfl
      · have g0 := cell_blk hg 0
        clear hg
        unfold fnC at g0
        simp only [List.getElem?_toArray, List.getElem?_cons_zero] at g0
        go_wp2_with (go_at_fn 14; refine (keys_zero _).mono ?_; rintro r w2 ⟨rfl, hT2⟩; have HT2 := Lib.hid hT2; clear hT2)
        go_roundw
        case rel => exact ⟨1, by omega, by go_num, (HT2.out.block _ (blk_lt HQ.out.1) (fun f => f)).trans HQ.out.1, (HT2.out.block _ (blk_lt HQ.out.2.1) (fun f => f)).trans HQ.out.2.1, HQ.out.2.2.same HT2.out⟩
        case measure => simp [intOf] <;> omega
      · have g0 := cell_blk hg 1
        clear hg
        unfold fnC at g0
        simp only [List.getElem?_toArray, List.getElem?_cons_succ, List.getElem?_cons_zero] at g0
        go_wp2_with (go_at_fn 15; refine (trees_zero _ _).mono ?_; rintro r w2 ⟨rfl, hT2⟩; have HT2 := Lib.hid hT2; clear hT2)
        go_roundw
        case rel => exact ⟨2, by omega, by go_num, (HT2.out.block _ (blk_lt HQ.out.1) (fun f => f)).trans HQ.out.1, (HT2.out.block _ (blk_lt HQ.out.2.1) (fun f => f)).trans HQ.out.2.1, HQ.out.2.2.same HT2.out⟩
        case measure => simp [intOf] <;> omega
      · have g0 := cell_blk hg 2
        clear hg
        unfold fnC at g0
        simp only [List.getElem?_toArray, List.getElem?_cons_succ, List.getElem?_cons_zero] at g0
        go_wp2_with (go_at_fn 16; refine (doms_zero _ _).mono ?_; rintro r w2 ⟨rfl, hT2⟩; have HT2 := Lib.hid hT2; clear hT2)
        go_roundw
        case rel => exact ⟨3, by omega, by go_num, (HT2.out.block _ (blk_lt HQ.out.1) (fun f => f)).trans HQ.out.1, (HT2.out.block _ (blk_lt HQ.out.2.1) (fun f => f)).trans HQ.out.2.1, HQ.out.2.2.same HT2.out⟩
        case measure => simp [intOf] <;> omega
      · have g0 := cell_blk hg 3
        clear hg
        unfold fnC at g0
        simp only [List.getElem?_toArray, List.getElem?_cons_succ, List.getElem?_cons_zero] at g0
        go_wp2_with (go_at_fn 17; refine (nodes_zero _ _).mono ?_; rintro r w2 ⟨rfl, hT2⟩; have HT2 := Lib.hid hT2; clear hT2)
        go_roundw
        case rel => exact ⟨4, by omega, by go_num, (HT2.out.block _ (blk_lt HQ.out.1) (fun f => f)).trans HQ.out.1, (HT2.out.block _ (blk_lt HQ.out.2.1) (fun f => f)).trans HQ.out.2.1, HQ.out.2.2.same HT2.out⟩
        case measure => simp [intOf] <;> omega
      · have g0 := cell_blk hg 4
        clear hg
        unfold fnC at g0
        simp only [List.getElem?_toArray, List.getElem?_cons_succ, List.getElem?_cons_zero] at g0
        go_wp2_with (go_at_fn 18; refine (rings_zero _ _).mono ?_; rintro r w2 ⟨rfl, hT2⟩; have HT2 := Lib.hid hT2; clear hT2)
        go_roundw
        case rel => exact ⟨5, by omega, by go_num, (HT2.out.block _ (blk_lt HQ.out.1) (fun f => f)).trans HQ.out.1, (HT2.out.block _ (blk_lt HQ.out.2.1) (fun f => f)).trans HQ.out.2.1, HQ.out.2.2.same HT2.out⟩
        case measure => simp [intOf] <;> omega
      · have g0 := cell_blk hg 5
        clear hg
        unfold fnC at g0
        simp only [List.getElem?_toArray, List.getElem?_cons_succ, List.getElem?_cons_zero] at g0
        go_wp2_with (go_at_fn 19; refine (sizes_zero _ _).mono ?_; rintro r w2 ⟨rfl, hT2⟩; have HT2 := Lib.hid hT2; clear hT2)
        go_roundw
        case rel => exact ⟨6, by omega, by go_num, (HT2.out.block _ (blk_lt HQ.out.1) (fun f => f)).trans HQ.out.1, (HT2.out.block _ (blk_lt HQ.out.2.1) (fun f => f)).trans HQ.out.2.1, HQ.out.2.2.same HT2.out⟩
        case measure => simp [intOf] <;> omega
    · obtain rfl : i = 6 := by omega
      clear hi h6 hT hq hg
      go_wp2
      go_ret2
      exact ⟨rfl, HQ.out.2.2⟩
theorem alive13_any (w : World) : Calls Try.prog 4 #[] w fun e w' => e = .returned (.bool true) ∧ Touch NoB w w' := by
  have HC := Lib.hid (fun w => check_zero w)
  have HX : Hid (∀ w : World, Calls Try.prog 6 #[.agg #[.int .i64 4, .int .i64 0, .string ⟨#[]⟩, .slice none 0 0], .slice none 0 0] w fun e w' => e = .returned (.tuple #[.int .i64 2, .int .i64 0]) ∧ Touch NoB w w') := Lib.hid (fun w => by
    have h := kind_any (ks := []) (K := none) (n := 0) (cp := 0) rfl (by omega) (fun k hk => by cases hk) (.mk 4 0 ⟨#[]⟩ []) w 1 (a := 4) (b := 0) (s := ⟨#[]⟩) (A := none) (m := 0) (c := 0) ⟨rfl, rfl, rfl, rfl, by unfold W64; omega, by unfold W64; omega, by decide, by omega, fun i y hy => by simp at hy⟩ (by omega) (fun j k hj => by simp at hj)
    have e : kindT [] (.mk 4 0 ⟨#[]⟩ []) = (2, 0) := rfl
    rw [e] at h
    exact h)
  go_enter Try.func4, Try.ntmps4
  go_wp2_with fail
  refine (HC.out _).mono ?_
  rintro r w1 ⟨rfl, hT1⟩
  have HT1 := Lib.hid hT1
  clear hT1
  go_wp2_with fail
  refine (HX.out _).mono ?_
  rintro r w2 ⟨rfl, hT2⟩
  have HT2 := Lib.hid (HT1.out.same hT2)
  clear hT2
  go_wp2_with (first | (go_at_call 8; refine (num13_any _ _).mono ?_; rintro e w' ⟨rfl, rfl⟩))
  go_ret
  exact ⟨rfl, HT2.out⟩
end Go.Proofs.Ytblcmgahgpnjmaa
