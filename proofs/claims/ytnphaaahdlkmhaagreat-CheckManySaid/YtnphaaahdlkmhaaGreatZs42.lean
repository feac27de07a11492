/-
  What package check's Check returns of the zero program; the law's own num and alive. No condition.
-/
import Derived.Shelf.Abstract
import Derived.Test.YtnphaaahdlkmhaaGreatZs18
import Derived.Test.YtnphaaahdlkmhaaGreatZs17
import Derived.Test.YtnphaaahdlkmhaaGreatZs15
import Derived.Deep.DeepCutAuto
import Derived.Deep.CutRange
import Derived.Test.YtnphaaahdlkmhaaGreatZs36
import Derived.Test.YtnphaaahdlkmhaaGreatZs41
section
namespace Go.Proofs.YtnphaaahdlkmhaaGreat
open Go.ChangeShapes Go.WideShapes Go.ChangeAt Go.RowKit Go.Maps
set_option maxRecDepth 100000
set_option maxHeartbeats 4000000

theorem num13_any (n : Int) (w : World) : Calls Tryz.prog 9 #[.int .i64 n] w fun e w' => e = .returned (.int .i64 n) ∧ w = w' := by
  go_enter Tryz.func9, Tryz.ntmps9
  go_wp2
  go_ret
  exact ⟨rfl, rfl⟩
theorem new_nil (w : World) : Calls Tryz.prog 39 #[.slice none 0 0] w fun e w' => (∃ p, e = .returned (.tuple #[p, .int .i64 0])) ∧ Touch NoB w w' := by
  go_enter Tryz.func39, Tryz.ntmps39
  go_wp2
  refine wp_loop_rounds 1 ?_
  rw [rounds_succ]
  go_wp2
  go_ret2
  exact ⟨⟨_, rfl⟩, by repeat (first | with_reducible exact Touch.refl _ _ | with_reducible refine Touch.drew ?_ | with_reducible refine Touch.alloc ?_ _)⟩
theorem first_nil (f : Value) (w : World) : Calls Tryz.prog 42 #[.slice none 0 0, f] w fun e w' => e = .returned (.tuple #[.string ⟨#[]⟩, .int .i64 0]) ∧ w = w' := by
  go_enter Tryz.func42, Tryz.ntmps42
  go_wp2
  refine wp_loop_rounds 1 ?_
  rw [rounds_succ]
  go_wp2
  go_ret2
  exact ⟨rfl, rfl⟩
/-- What each step returns of the zero program. -/
def StepOk (w : World) (e : Ending) (w' : World) : Prop := e = .returned (.tuple #[.string ⟨#[]⟩, .int .i64 0]) ∧ Touch NoB w w'
theorem keys_zero (w : World) : Calls Tryz.prog 23 #[.agg #[.slice none 0 0, .slice none 0 0, .slice none 0 0]] w (StepOk w) := by
  have HN := Lib.hid (fun w => new_nil w)
  go_enter Tryz.func23, Tryz.ntmps23
  go_wp2_with (first | (go_at_call 39; refine (HN.out _).mono ?_; rintro r w2 ⟨⟨p, rfl⟩, hT2⟩; have HT2 := Lib.hid hT2; clear hT2))
  go_ret2
  exact ⟨rfl, Touch.same (by repeat (first | with_reducible exact Touch.refl _ _ | with_reducible refine Touch.drew ?_ | with_reducible refine Touch.alloc ?_ _)) HT2.out⟩
theorem trees_zero (w : World) (c : Addr) : Calls Tryz.prog 24 #[.pointer (some c), .agg #[.slice none 0 0, .slice none 0 0, .slice none 0 0]] w (StepOk w) := by
  have HF := Lib.hid (fun f w => first_nil f w)
  go_enter Tryz.func24, Tryz.ntmps24
  go_wp2_with (first | (go_at_call 42; refine (HF.out _ _).mono ?_; rintro r w2 ⟨rfl, rfl⟩))
  go_ret2
  exact ⟨rfl, by repeat (first | with_reducible exact Touch.refl _ _ | with_reducible refine Touch.drew ?_ | with_reducible refine Touch.alloc ?_ _)⟩
theorem nodes_zero (w : World) (c : Addr) : Calls Tryz.prog 26 #[.pointer (some c), .agg #[.slice none 0 0, .slice none 0 0, .slice none 0 0]] w (StepOk w) := by
  have HF := Lib.hid (fun f w => first_nil f w)
  go_enter Tryz.func26, Tryz.ntmps26
  go_wp2_with (first | (go_at_call 42; refine (HF.out _ _).mono ?_; rintro r w2 ⟨rfl, rfl⟩))
  go_ret2
  exact ⟨rfl, by repeat (first | with_reducible exact Touch.refl _ _ | with_reducible refine Touch.drew ?_ | with_reducible refine Touch.alloc ?_ _)⟩
theorem rings_zero (w : World) (c : Addr) : Calls Tryz.prog 27 #[.pointer (some c), .agg #[.slice none 0 0, .slice none 0 0, .slice none 0 0]] w (StepOk w) := by
  have HF := Lib.hid (fun f w => first_nil f w)
  go_enter Tryz.func27, Tryz.ntmps27
  go_wp2_with (first | (go_at_call 42; refine (HF.out _ _).mono ?_; rintro r w2 ⟨rfl, rfl⟩))
  go_ret2
  exact ⟨rfl, by repeat (first | with_reducible exact Touch.refl _ _ | with_reducible refine Touch.drew ?_ | with_reducible refine Touch.alloc ?_ _)⟩
theorem sizes_zero (w : World) (c : Addr) : Calls Tryz.prog 28 #[.pointer (some c), .agg #[.slice none 0 0, .slice none 0 0, .slice none 0 0]] w (StepOk w) := by
  have HF := Lib.hid (fun f w => first_nil f w)
  go_enter Tryz.func28, Tryz.ntmps28
  go_wp2_with (first | (go_at_call 42; refine (HF.out _ _).mono ?_; rintro r w2 ⟨rfl, rfl⟩))
  go_ret2
  exact ⟨rfl, by repeat (first | with_reducible exact Touch.refl _ _ | with_reducible refine Touch.drew ?_ | with_reducible refine Touch.alloc ?_ _)⟩
theorem doms_zero (w : World) (c : Addr) : Calls Tryz.prog 25 #[.pointer (some c), .agg #[.slice none 0 0, .slice none 0 0, .slice none 0 0]] w (StepOk w) := by
  go_enter Tryz.func25, Tryz.ntmps25
  go_wp2
  refine wp_loop_rounds 1 ?_
  rw [rounds_succ]
  go_wp2
  go_ret2
  exact ⟨rfl, by repeat (first | with_reducible exact Touch.refl _ _ | with_reducible refine Touch.drew ?_ | with_reducible refine Touch.alloc ?_ _)⟩
def fnC (c : Addr) : Array Value := #[.func (.func 23) #[] #[], .func (.func 24) #[.pointer (some c)] #[], .func (.func 25) #[.pointer (some c)] #[], .func (.func 26) #[.pointer (some c)] #[], .func (.func 27) #[.pointer (some c)] #[], .func (.func 28) #[.pointer (some c)] #[]]
/-- The program and the steps stand in memory. -/
def CzRel (q g : Nat) (c : Addr) (w : World) (v24 : Value) (wr : World) : Prop := ∃ i : Nat, i ≤ 6 ∧ v24 = .int .i64 i ∧ wr.heap[q]? = some (.cells #[.slice none 0 0, .slice none 0 0, .slice none 0 0] 29 (0, 0)) ∧ wr.heap[g]? = some (.cells (fnC c) 35 (0, 0)) ∧ Touch NoB w wr
theorem check_zero (w : World) : Calls Tryz.prog 8 #[.agg #[.slice none 0 0, .slice none 0 0, .slice none 0 0]] w (StepOk w) := by
  have hmm := @run_makeMap Tryz.prog
  have HK := Lib.hid (fun w => kindsof_any none 0 0 [] w rfl (by omega) (fun j k hj => by simp at hj) (fun k hk => by cases hk))
  have e0 : ∀ (args : Array Value) (w : World), (callFunc 23 args).run Tryz.prog w = .ok (.enter 23 args) w := enters_of Tryz.func23 (by kernel_rfl) rfl
  have e1 : ∀ (args : Array Value) (w : World), (callFunc 24 args).run Tryz.prog w = .ok (.enter 24 args) w := enters_of Tryz.func24 (by kernel_rfl) rfl
  have e2 : ∀ (args : Array Value) (w : World), (callFunc 25 args).run Tryz.prog w = .ok (.enter 25 args) w := enters_of Tryz.func25 (by kernel_rfl) rfl
  have e3 : ∀ (args : Array Value) (w : World), (callFunc 26 args).run Tryz.prog w = .ok (.enter 26 args) w := enters_of Tryz.func26 (by kernel_rfl) rfl
  have e4 : ∀ (args : Array Value) (w : World), (callFunc 27 args).run Tryz.prog w = .ok (.enter 27 args) w := enters_of Tryz.func27 (by kernel_rfl) rfl
  have e5 : ∀ (args : Array Value) (w : World), (callFunc 28 args).run Tryz.prog w = .ok (.enter 28 args) w := enters_of Tryz.func28 (by kernel_rfl) rfl
  go_enter Tryz.func8, Tryz.ntmps8
  go_wp2_with fail
  refine (HK.out _).mono ?_
  rintro r w1 ⟨rfl, -, hT1⟩
  have HT1 := Lib.hid (((Touch.refl NoB w).alloc (.cells #[.slice none 0 0, .slice none 0 0, .slice none 0 0] 29)).same hT1)
  have hb : w1.heap[w.heap.size]? = some (.cells #[.slice none 0 0, .slice none 0 0, .slice none 0 0] 29 (0, 0)) := (hT1.block _ (by rw [World.size_alloc]; omega) (fun f => f)).trans (alloc_blk _ _ _ rfl)
  have p0 := cell_blk hb 0
  have p1 := cell_blk hb 1
  have p2 := cell_blk hb 2
  have p3 := blk_lt hb
  have HB := Lib.hid hb
  clear hT1 hb
  go_wp2
  go_loopw [24] (fun v24 wr => CzRel w.heap.size (w1.heap.size + 1 + 1 + 1) ⟨w1.heap.size + 1 + 1, 0, none⟩ w v24 wr) (fun v24 _ => 6 - (intOf v24).toNat)
  case atStart => exact ⟨0, by omega, rfl, (Touch.block (F := NoB) (w := w1) (by repeat (first | with_reducible exact Touch.refl _ _ | with_reducible refine Touch.drew ?_ | with_reducible refine Touch.alloc ?_ _)) _ p3 (fun f => f)).trans HB.out, alloc_blk _ _ _ (by simp only [World.size_alloc]), HT1.out.same (by repeat (first | with_reducible exact Touch.refl _ _ | with_reducible refine Touch.drew ?_ | with_reducible refine Touch.alloc ?_ _))⟩
  case round =>
    obtain ⟨i, hi, rfl, hq, hg, hT⟩ := hrel
    have q0 := cell_blk hq 0
    have q1 := cell_blk hq 1
    have q2 := cell_blk hq 2
    have q3 := blk_lt hq
    have g9 := blk_lt hg
    have HQ := Lib.hid (And.intro hq (And.intro hg hT))
    clear p0 p1 p2 p3 HB HT1
    by_cases h6 : i < 6
    · have hc : i = 0 ∨ i = 1 ∨ i = 2 ∨ i = 3 ∨ i = 4 ∨ i = 5 := by omega
      clear hi h6 hT hq
      rcases hc with rfl | rfl | rfl | rfl | rfl | rfl
      · have g0 := cell_blk hg 0
        clear hg
        unfold fnC at g0
        simp only [List.getElem?_toArray, List.getElem?_cons_zero] at g0
        go_wp2_with (go_at_fn 23; refine (keys_zero _).mono ?_; rintro r w2 ⟨rfl, hT2⟩; have HT2 := Lib.hid hT2; clear hT2)
        go_roundw
        case rel => exact ⟨1, by omega, by go_num, (HT2.out.block _ (blk_lt HQ.out.1) (fun f => f)).trans HQ.out.1, (HT2.out.block _ (blk_lt HQ.out.2.1) (fun f => f)).trans HQ.out.2.1, HQ.out.2.2.same HT2.out⟩
        case measure => simp [intOf] <;> omega
      · have g0 := cell_blk hg 1
        clear hg
        unfold fnC at g0
        simp only [List.getElem?_toArray, List.getElem?_cons_succ, List.getElem?_cons_zero] at g0
        go_wp2_with (go_at_fn 24; refine (trees_zero _ _).mono ?_; rintro r w2 ⟨rfl, hT2⟩; have HT2 := Lib.hid hT2; clear hT2)
        go_roundw
        case rel => exact ⟨2, by omega, by go_num, (HT2.out.block _ (blk_lt HQ.out.1) (fun f => f)).trans HQ.out.1, (HT2.out.block _ (blk_lt HQ.out.2.1) (fun f => f)).trans HQ.out.2.1, HQ.out.2.2.same HT2.out⟩
        case measure => simp [intOf] <;> omega
      · have g0 := cell_blk hg 2
        clear hg
        unfold fnC at g0
        simp only [List.getElem?_toArray, List.getElem?_cons_succ, List.getElem?_cons_zero] at g0
        go_wp2_with (go_at_fn 25; refine (doms_zero _ _).mono ?_; rintro r w2 ⟨rfl, hT2⟩; have HT2 := Lib.hid hT2; clear hT2)
        go_roundw
        case rel => exact ⟨3, by omega, by go_num, (HT2.out.block _ (blk_lt HQ.out.1) (fun f => f)).trans HQ.out.1, (HT2.out.block _ (blk_lt HQ.out.2.1) (fun f => f)).trans HQ.out.2.1, HQ.out.2.2.same HT2.out⟩
        case measure => simp [intOf] <;> omega
      · have g0 := cell_blk hg 3
        clear hg
        unfold fnC at g0
        simp only [List.getElem?_toArray, List.getElem?_cons_succ, List.getElem?_cons_zero] at g0
        go_wp2_with (go_at_fn 26; refine (nodes_zero _ _).mono ?_; rintro r w2 ⟨rfl, hT2⟩; have HT2 := Lib.hid hT2; clear hT2)
        go_roundw
        case rel => exact ⟨4, by omega, by go_num, (HT2.out.block _ (blk_lt HQ.out.1) (fun f => f)).trans HQ.out.1, (HT2.out.block _ (blk_lt HQ.out.2.1) (fun f => f)).trans HQ.out.2.1, HQ.out.2.2.same HT2.out⟩
        case measure => simp [intOf] <;> omega
      · have g0 := cell_blk hg 4
        clear hg
        unfold fnC at g0
        simp only [List.getElem?_toArray, List.getElem?_cons_succ, List.getElem?_cons_zero] at g0
        go_wp2_with (go_at_fn 27; refine (rings_zero _ _).mono ?_; rintro r w2 ⟨rfl, hT2⟩; have HT2 := Lib.hid hT2; clear hT2)
        go_roundw
        case rel => exact ⟨5, by omega, by go_num, (HT2.out.block _ (blk_lt HQ.out.1) (fun f => f)).trans HQ.out.1, (HT2.out.block _ (blk_lt HQ.out.2.1) (fun f => f)).trans HQ.out.2.1, HQ.out.2.2.same HT2.out⟩
        case measure => simp [intOf] <;> omega
      · have g0 := cell_blk hg 5
        clear hg
        unfold fnC at g0
        simp only [List.getElem?_toArray, List.getElem?_cons_succ, List.getElem?_cons_zero] at g0
        go_wp2_with (go_at_fn 28; refine (sizes_zero _ _).mono ?_; rintro r w2 ⟨rfl, hT2⟩; have HT2 := Lib.hid hT2; clear hT2)
        go_roundw
        case rel => exact ⟨6, by omega, by go_num, (HT2.out.block _ (blk_lt HQ.out.1) (fun f => f)).trans HQ.out.1, (HT2.out.block _ (blk_lt HQ.out.2.1) (fun f => f)).trans HQ.out.2.1, HQ.out.2.2.same HT2.out⟩
        case measure => simp [intOf] <;> omega
    · obtain rfl : i = 6 := by omega
      clear hi h6 hT hq hg
      go_wp2
      go_ret2
      exact ⟨rfl, HQ.out.2.2⟩
theorem alive13_any (w : World) : Calls Tryz.prog 6 #[] w fun e w' => e = .returned (.bool true) ∧ Touch NoB w w' := by
  have HC := Lib.hid (fun w => check_zero w)
  have HX : Hid (∀ w : World, Calls Tryz.prog 11 #[.agg #[.int .i64 4, .int .i64 0, .string ⟨#[]⟩, .slice none 0 0], .slice none 0 0] w fun e w' => e = .returned (.tuple #[.int .i64 2, .int .i64 0]) ∧ Touch NoB w w') := Lib.hid (fun w => by
    have h := kind_any (ks := []) (K := none) (n := 0) (cp := 0) rfl (by omega) (fun k hk => by cases hk) (.mk 4 0 ⟨#[]⟩ []) w 1 (a := 4) (b := 0) (s := ⟨#[]⟩) (A := none) (m := 0) (c := 0) ⟨rfl, rfl, rfl, rfl, by unfold W64; omega, by unfold W64; omega, by decide, by omega, fun i y hy => by simp at hy⟩ (by omega) (fun j k hj => by simp at hj)
    have e : kindT [] (.mk 4 0 ⟨#[]⟩ []) = (2, 0) := rfl
    rw [e] at h
    exact h)
  go_enter Tryz.func6, Tryz.ntmps6
  go_wp2_with fail
  refine (HC.out _).mono ?_
  rintro r w1 ⟨rfl, hT1⟩
  have HT1 := Lib.hid hT1
  clear hT1
  go_wp2_with fail
  refine (HX.out _).mono ?_
  rintro r w2 ⟨rfl, hT2⟩
  have HT2 := Lib.hid (HT1.out.same hT2)
  clear hT2
  go_wp2_with (first | (go_at_call 9; refine (num13_any _ _).mono ?_; rintro e w' ⟨rfl, rfl⟩))
  go_ret
  exact ⟨rfl, HT2.out⟩
end Go.Proofs.YtnphaaahdlkmhaaGreat
end
/-
  Package check's Check, of any program that fits. Conditions: those that each theorem names.
-/
section
namespace Go.Proofs.YtnphaaahdlkmhaaGreat
open Go.ChangeShapes Go.WideShapes Go.ChangeAt Go.RowKit Go.Maps
set_option maxRecDepth 100000
set_option maxHeartbeats 4000000

theorem szT_zero {rt : Bs → Option Nd} : ∀ (l : List Tr) (x : ByteArray × Int), szT rt l = some x → x.2 = 0 → x = (⟨#[]⟩, 0)
  | [], x, h, _ => by simp only [szT, Option.some.injEq] at h; exact h.symm
  | t :: l, x, h, h0 => by
    simp only [szT] at h
    cases hg : epF rt 100 t.root 1 0 with
    | none => rw [hg] at h; cases h
    | some X =>
      obtain ⟨x1, x2⟩ := X
      rw [hg] at h
      simp only at h
      by_cases he : x1 = 0
      · rw [if_pos he] at h; exact szT_zero l x h h0
      · rw [if_neg he] at h
        injection h with h
        subst h
        exact absurd h0 he
/-- What is left to answer ahead of step i. -/
def rstE (p : Pg) : Nat → Option (ByteArray × Int)
  | 0 => checkE p
  | 1 => r1E p
  | 2 => r2E p
  | 3 => r3E p
  | 4 => r4E p
  | 5 => r5E p
  | _ => some (⟨#[]⟩, 0)
/-- What Check's loop carries. -/
structure CkS (p : Pg) (x : ByteArray × Int) (rs : List (ByteArray × Value)) (q g cb kb rb db : Nat) (pv : Array Value) (w : World) (i : Nat) (wr : World) : Prop where
  prog : wr.heap[q]? = some (.cells pv 29 (0, 0))
  fns : wr.heap[g]? = some (.cells (fnC ⟨cb, 0, none⟩) 35 (0, 0))
  km : KM wr kb p.keys.length (p.keys.map kyG)
  rm : if 2 ≤ i then ∃ m, RM wr (vsOf rs) rb m rs else RM wr (vsOf rs) rb 0 []
  nm : if 3 ≤ i then ∃ m, NM wr db m (domsE (p.keys.map kyG) [] p.doms).2 else NM wr db 0 []
  ck : if 4 ≤ i then ∃ k, CkB wr cb kb rb db k else CkB wr cb kb rb db 0
  rest : rstE p i = some x
  t : Touch NoB w wr
def CkRel (p : Pg) (x : ByteArray × Int) (rs : List (ByteArray × Value)) (q g cb kb rb db : Nat) (pv : Array Value) (w : World) (v24 : Value) (wr : World) : Prop := ∃ i : Nat, i ≤ 6 ∧ v24 = .int .i64 i ∧ CkS p x rs q g cb kb rb db pv w i wr
/-- The blocks lie apart. -/
structure Apt (N q g cb kb rb db : Nat) : Prop where
  a1 : N ≤ q
  a2 : q < kb
  a3 : kb < rb
  a4 : rb < db
  a5 : db < cb
  a6 : cb < g
variable {p : Pg} {x : ByteArray × Int} {rs : List (ByteArray × Value)} {q g cb kb rb db : Nat} {A1 A2 A3 : Option Addr} {n1 c1 n2 c2 n3 c3 : Nat} {w : World} {R : Nat → Prop} {xs ys : List Value}
/-- What Check is given. -/
structure GivP (p : Pg) (x : ByteArray × Int) (rs : List (ByteArray × Value)) (A1 A2 A3 : Option Addr) (n1 c1 n2 c2 n3 c3 : Nat) (w : World) (R : Nat → Prop) (xs ys : List Value) : Prop where
  k1 : SlAt w R (.slice A1 n1 c1) n1 (kyC p.keys)
  t1 : SlAt w R (.slice A2 n2 c2) n2 xs
  t2 : LsAt (TrAt w R) p.trees xs
  d1 : SlAt w R (.slice A3 n3 c3) n3 ys
  d2 : LsAt (DmAt w R) p.doms ys
  l1 : p.keys.length = n1
  l2 : p.trees.length = n2
  l3 : p.doms.length = n3
  rr : RsAt w R p.trees rs
  rx : RsX rs xs
  hR : ∀ b, R b → b < w.heap.size
  cap : n1 ≤ c1
  fit : pgFitC p = true
theorem fit_parts {p : Pg} (h : pgFitC p = true) : p.keys.length ≤ 1000 ∧ (∀ k ∈ p.keys, nmB k.nm = true ∧ k.kd ≤ 1000000) ∧ p.trees.length ≤ 100 ∧ (∀ t ∈ p.trees, nmB t.nm = true ∧ ndFit 45 t.root = true) ∧ sumC (p.trees.map fun t => ndC 45 t.root) ≤ 65536 ∧ p.doms.length ≤ 100 ∧ ∀ d ∈ p.doms, dmFitB d = true := by
  simp only [pgFitC, Bool.and_eq_true, decide_eq_true_eq, List.all_eq_true] at h
  obtain ⟨⟨⟨⟨⟨⟨h1, h2⟩, h3⟩, h4⟩, h5⟩, h6⟩, h7⟩ := h
  exact ⟨h1, h2, h3, h4, h5, h6, h7⟩
/-- The program's value. -/
def pgV (A1 A2 A3 : Option Addr) (n1 c1 n2 c2 n3 c3 : Nat) : Array Value := #[.slice A1 n1 c1, .slice A2 n2 c2, .slice A3 n3 c3]
theorem step0 (hg : GivP p x rs A1 A2 A3 n1 c1 n2 c2 n3 c3 w R xs ys) {wr W : World} (hs : CkS p x rs q g cb kb rb db (pgV A1 A2 A3 n1 c1 n2 c2 n3 c3) w 0 wr) (t : Touch NoB wr W) :
    Calls Tryz.prog 23 #[.agg (pgV A1 A2 A3 n1 c1 n2 c2 n3 c3)] W fun e w' => ∃ y : ByteArray × Int, e = .returned (.tuple #[.string y.1, .int .i64 y.2]) ∧ Touch NoB w w' ∧ (y.2 = 0 → CkS p x rs q g cb kb rb db (pgV A1 A2 A3 n1 c1 n2 c2 n3 c3) w 1 w') ∧ (y.2 ≠ 0 → x = y) := by
  obtain ⟨f1, f2, f3, f4, f5, f6, f7⟩ := fit_parts hg.fit
  have tw := hs.t.same t
  refine (ckeys_any p.keys W ⟨_, _, _, rfl⟩ ⟨_, _, _, rfl⟩ hg.l1 (by have := hg.l1; omega) hg.cap (hg.k1.touch tw (fun b _ f => f)) (fun k hk => (f2 k hk).1)).mono ?_
  rintro e w' ⟨rfl, hT⟩
  have tt := t.same hT
  refine ⟨_, rfl, hs.t.same tt, fun h0 => ⟨(tt.block _ (blk_lt hs.prog) (fun f => f)).trans hs.prog, (tt.block _ (blk_lt hs.fns) (fun f => f)).trans hs.fns, hs.km.touch tt (fun f => f), ?_, ?_, ?_, ?_, hs.t.same tt⟩, fun h0 => ?_⟩
  · have h := hs.rm; rw [if_neg (by decide)] at h ⊢; exact h.touch tt (fun f => f)
  · have h := hs.nm; rw [if_neg (by decide)] at h ⊢; exact h.touch tt (fun f => f)
  · have h := hs.ck; rw [if_neg (by decide)] at h ⊢; exact h.touch tt (fun f => f)
  · have h : checkE p = some x := hs.rest
    unfold checkE at h
    rw [if_pos h0] at h
    exact h
  · have h : checkE p = some x := hs.rest
    unfold checkE at h
    rw [if_neg h0] at h
    injection h with h
    exact h.symm
theorem step1 (ha : Apt w.heap.size q g cb kb rb db) (hg : GivP p x rs A1 A2 A3 n1 c1 n2 c2 n3 c3 w R xs ys) {wr W : World} (hs : CkS p x rs q g cb kb rb db (pgV A1 A2 A3 n1 c1 n2 c2 n3 c3) w 1 wr) (t : Touch NoB wr W) :
    Calls Tryz.prog 24 #[.pointer (some ⟨cb, 0, none⟩), .agg (pgV A1 A2 A3 n1 c1 n2 c2 n3 c3)] W fun e w' => ∃ y : ByteArray × Int, e = .returned (.tuple #[.string y.1, .int .i64 y.2]) ∧ Touch NoB w w' ∧ (y.2 = 0 → CkS p x rs q g cb kb rb db (pgV A1 A2 A3 n1 c1 n2 c2 n3 c3) w 2 w') ∧ (y.2 ≠ 0 → x = y) := by
  obtain ⟨f1, f2, f3, f4, f5, f6, f7⟩ := fit_parts hg.fit
  obtain ⟨a1, a2, a3, a4, a5, a6⟩ := ha
  have tw := hs.t.same t
  have hrm := hs.rm
  rw [if_neg (by decide)] at hrm
  have hck := hs.ck
  rw [if_neg (by decide)] at hck
  have hnm := hs.nm
  rw [if_neg (by decide)] at hnm
  have hte : treesE p.trees = trsE [] p.trees := by unfold treesE; rw [if_neg (by omega)]
  refine (ctrees_any p.trees (fun t ht => by have := (f4 t ht).1; unfold nmB at this; simpa using this) A1 n1 c1 A2 n2 c2 A3 n3 c3 xs W hg.l2 (by have := hg.l2; omega) (hg.t1.touch tw (fun b _ f => f)) (hg.t2.mono (fun x ys h => h.touch tw (fun b _ f => f))) (hg.rr.touch tw (fun b _ f => f)) hg.rx (hck.touch t (fun f => f)) (hrm.touch t (fun f => f)) (fun b hb => by have := hg.hR b hb; omega) (by omega)).mono ?_
  rintro e w' ⟨rfl, hr, hT⟩
  have tt := (t.mono (F := NoB) (G := fun b => b = rb) (fun b f => f.elim)).same hT
  have tw' : Touch NoB w w' := hs.t.trans tt (fun b hb => .inr (by subst hb; omega))
  refine ⟨_, rfl, tw', fun h0 => ⟨(tt.block _ (blk_lt hs.prog) (by omega)).trans hs.prog, (tt.block _ (blk_lt hs.fns) (by omega)).trans hs.fns, hs.km.touch tt (by omega), ?_, ?_, ?_, ?_, tw'⟩, fun h0 => ?_⟩
  · rw [if_pos (by decide)]; exact hr h0
  · rw [if_neg (by decide)]; exact hnm.touch tt (by omega)
  · rw [if_neg (by decide)]; exact hck.touch tt (by omega)
  · have h : r1E p = some x := hs.rest
    unfold r1E at h
    rw [hte, if_pos h0] at h
    exact h
  · have h : r1E p = some x := hs.rest
    unfold r1E at h
    rw [hte, if_neg h0] at h
    injection h with h
    exact h.symm
theorem step2 (ha : Apt w.heap.size q g cb kb rb db) (hg : GivP p x rs A1 A2 A3 n1 c1 n2 c2 n3 c3 w R xs ys) {wr W : World} (hs : CkS p x rs q g cb kb rb db (pgV A1 A2 A3 n1 c1 n2 c2 n3 c3) w 2 wr) (t : Touch NoB wr W) :
    Calls Tryz.prog 25 #[.pointer (some ⟨cb, 0, none⟩), .agg (pgV A1 A2 A3 n1 c1 n2 c2 n3 c3)] W fun e w' => ∃ y : ByteArray × Int, e = .returned (.tuple #[.string y.1, .int .i64 y.2]) ∧ Touch NoB w w' ∧ (y.2 = 0 → CkS p x rs q g cb kb rb db (pgV A1 A2 A3 n1 c1 n2 c2 n3 c3) w 3 w') ∧ (y.2 ≠ 0 → x = y) := by
  obtain ⟨f1, f2, f3, f4, f5, f6, f7⟩ := fit_parts hg.fit
  obtain ⟨a1, a2, a3, a4, a5, a6⟩ := ha
  have tw := hs.t.same t
  have hrm := hs.rm
  rw [if_pos (by decide)] at hrm
  have hck := hs.ck
  rw [if_neg (by decide)] at hck
  have hnm := hs.nm
  rw [if_neg (by decide)] at hnm
  have htws := tw.size
  have hd1 := hg.d1
  rw [← hg.l3] at hd1
  unfold pgV
  rw [← hg.l3]
  refine (cdoms_any (ks := p.keys.map kyG) p.doms (.slice A1 n1 c1) (.slice A2 n2 c2) (.slice A3 p.doms.length c3) ys W (hck.touch t (fun f => f)) (hd1.touch tw (fun b _ f => f)) (hg.d2.mono (fun x ys h => h.touch tw (fun b _ f => f))) (fun b hb => by have := hg.hR b hb; exact ⟨by omega, by omega⟩) (hs.km.touch t (fun f => f)) (hnm.touch t (fun f => f)) (by omega) (by omega) f6 (fun d hd => dmFit_of (f7 d hd))).mono ?_
  rintro e w' ⟨rfl, hr, hT⟩
  have tt := (t.mono (F := NoB) (G := fun b => b = db) (fun b f => f.elim)).same hT
  have tw' : Touch NoB w w' := hs.t.trans tt (fun b hb => .inr (by subst hb; omega))
  refine ⟨_, rfl, tw', fun h0 => ⟨?_, (tt.block _ (blk_lt hs.fns) (by omega)).trans hs.fns, hs.km.touch tt (by omega), ?_, ?_, ?_, ?_, tw'⟩, fun h0 => ?_⟩
  · have h := (tt.block _ (blk_lt hs.prog) (by omega)).trans hs.prog
    unfold pgV at h
    rw [← hg.l3] at h
    exact h
  · rw [if_pos (by decide)]; obtain ⟨m, hm⟩ := hrm; exact ⟨m, hm.touch tt (by omega)⟩
  · rw [if_pos (by decide)]; exact hr
  · rw [if_neg (by decide)]; exact hck.touch tt (by omega)
  · have h : r2E p = some x := hs.rest
    unfold r2E at h
    rw [if_pos h0] at h
    exact h
  · have h : r2E p = some x := hs.rest
    unfold r2E at h
    rw [if_neg h0] at h
    injection h with h
    exact h.symm
theorem step3 (ha : Apt w.heap.size q g cb kb rb db) (hg : GivP p x rs A1 A2 A3 n1 c1 n2 c2 n3 c3 w R xs ys) {wr W : World} (hs : CkS p x rs q g cb kb rb db (pgV A1 A2 A3 n1 c1 n2 c2 n3 c3) w 3 wr) (t : Touch NoB wr W) :
    Calls Tryz.prog 26 #[.pointer (some ⟨cb, 0, none⟩), .agg (pgV A1 A2 A3 n1 c1 n2 c2 n3 c3)] W fun e w' => ∃ y : ByteArray × Int, e = .returned (.tuple #[.string y.1, .int .i64 y.2]) ∧ Touch NoB w w' ∧ (y.2 = 0 → CkS p x rs q g cb kb rb db (pgV A1 A2 A3 n1 c1 n2 c2 n3 c3) w 4 w') ∧ (y.2 ≠ 0 → x = y) := by
  obtain ⟨f1, f2, f3, f4, f5, f6, f7⟩ := fit_parts hg.fit
  obtain ⟨a1, a2, a3, a4, a5, a6⟩ := ha
  have tw := hs.t.same t
  have hrm := hs.rm
  rw [if_pos (by decide)] at hrm
  obtain ⟨m, hrm⟩ := hrm
  have hck := hs.ck
  rw [if_neg (by decide)] at hck
  have hnm := hs.nm
  rw [if_pos (by decide)] at hnm
  obtain ⟨md, hnm⟩ := hnm
  have hne : nodesE p = fstT (fun t => nodE (p.keys.map kyG) (rs.map (·.1)) (domsE (p.keys.map kyG) [] p.doms).2 45 t.root) p.trees := by unfold nodesE; rw [rs_names hg.rr]
  refine (cnodes_any (ks := p.keys.map kyG) (vs := vsOf rs) (dn := (domsE (p.keys.map kyG) [] p.doms).2) p.trees 45 (fun t ht => (f4 t ht).2) A1 n1 c1 A2 n2 c2 A3 n3 c3 xs W hg.l2 (by have := hg.l2; omega) (hg.t1.touch tw (fun b _ f => f)) (hg.t2.mono (fun x ys h => h.touch tw (fun b _ f => f))) ⟨⟨_, hs.km.touch t (fun f => f)⟩, ⟨m, hrm.touch t (fun f => f)⟩, ⟨md, hnm.touch t (fun f => f)⟩, vs_form hg.rr, by omega, by omega, by omega, fun b hb => by have := hg.hR b hb; omega⟩ (hck.touch t (fun f => f)) f5).mono ?_
  rw [← hne]
  rintro e w' ⟨rfl, hr, hT⟩
  have tt := (t.mono (F := NoB) (G := fun b => b = cb) (fun b f => f.elim)).same hT
  have tw' : Touch NoB w w' := hs.t.trans tt (fun b hb => .inr (by subst hb; omega))
  refine ⟨_, rfl, tw', fun h0 => ⟨(tt.block _ (blk_lt hs.prog) (by omega)).trans hs.prog, (tt.block _ (blk_lt hs.fns) (by omega)).trans hs.fns, hs.km.touch tt (by omega), ?_, ?_, ?_, ?_, tw'⟩, fun h0 => ?_⟩
  · rw [if_pos (by decide)]; exact ⟨m, hrm.touch tt (by omega)⟩
  · rw [if_pos (by decide)]; exact ⟨md, hnm.touch tt (by omega)⟩
  · rw [if_pos (by decide)]; exact hr
  · have h : r3E p = some x := hs.rest
    unfold r3E at h
    rw [if_pos h0] at h
    exact h
  · have h : r3E p = some x := hs.rest
    unfold r3E at h
    rw [if_neg h0] at h
    injection h with h
    exact h.symm
theorem step4 (ha : Apt w.heap.size q g cb kb rb db) (hg : GivP p x rs A1 A2 A3 n1 c1 n2 c2 n3 c3 w R xs ys) {wr W : World} (hs : CkS p x rs q g cb kb rb db (pgV A1 A2 A3 n1 c1 n2 c2 n3 c3) w 4 wr) (t : Touch NoB wr W) :
    Calls Tryz.prog 27 #[.pointer (some ⟨cb, 0, none⟩), .agg (pgV A1 A2 A3 n1 c1 n2 c2 n3 c3)] W fun e w' => ∃ y : ByteArray × Int, e = .returned (.tuple #[.string y.1, .int .i64 y.2]) ∧ Touch NoB w w' ∧ (y.2 = 0 → CkS p x rs q g cb kb rb db (pgV A1 A2 A3 n1 c1 n2 c2 n3 c3) w 5 w') ∧ (y.2 ≠ 0 → x = y) := by
  obtain ⟨f1, f2, f3, f4, f5, f6, f7⟩ := fit_parts hg.fit
  obtain ⟨a1, a2, a3, a4, a5, a6⟩ := ha
  have tw := hs.t.same t
  have htws := tw.size
  have hrm := hs.rm
  rw [if_pos (by decide)] at hrm
  obtain ⟨m, hrm⟩ := hrm
  have hck := hs.ck
  rw [if_pos (by decide)] at hck
  obtain ⟨kk, hck⟩ := hck
  have hnm := hs.nm
  rw [if_pos (by decide)] at hnm
  have hrest : r4E p = some x := hs.rest
  unfold r4E at hrest
  cases hy : rngT (findR p.trees) p.trees with
  | none => rw [hy] at hrest; cases hrest
  | some y =>
    rw [hy] at hrest
    simp only at hrest
    refine (crings_any p.trees y hy (fun t ht => ⟨45, (f4 t ht).2⟩) (fun t ht => by have := (f4 t ht).1; unfold nmB at this; simpa using this) A1 n1 c1 A2 n2 c2 A3 n3 c3 xs W hg.l2 (by have := hg.l2; omega) (hg.t1.touch tw (fun b _ f => f)) (hg.t2.mono (fun x ys h => h.touch tw (fun b _ f => f))) (hck.touch t (fun f => f)) (hrm.touch t (fun f => f)) (hg.rr.touch tw (fun b _ f => f)) (fun b hb => by have := hg.hR b hb; omega)).mono ?_
    rintro e w' ⟨rfl, hT⟩
    have tt := t.same hT
    refine ⟨_, rfl, hs.t.same tt, fun h0 => ⟨(tt.block _ (blk_lt hs.prog) (fun f => f)).trans hs.prog, (tt.block _ (blk_lt hs.fns) (fun f => f)).trans hs.fns, hs.km.touch tt (fun f => f), ?_, ?_, ?_, ?_, hs.t.same tt⟩, fun h0 => ?_⟩
    · rw [if_pos (by decide)]; exact ⟨m, hrm.touch tt (fun f => f)⟩
    · rw [if_pos (by decide)]; obtain ⟨md, hnm⟩ := hnm; exact ⟨md, hnm.touch tt (fun f => f)⟩
    · rw [if_pos (by decide)]; exact ⟨kk, hck.touch tt (fun f => f)⟩
    · rw [if_pos h0] at hrest
      exact hrest
    · rw [if_neg h0] at hrest
      injection hrest with h
      exact h.symm
theorem step5 (ha : Apt w.heap.size q g cb kb rb db) (hg : GivP p x rs A1 A2 A3 n1 c1 n2 c2 n3 c3 w R xs ys) {wr W : World} (hs : CkS p x rs q g cb kb rb db (pgV A1 A2 A3 n1 c1 n2 c2 n3 c3) w 5 wr) (t : Touch NoB wr W) :
    Calls Tryz.prog 28 #[.pointer (some ⟨cb, 0, none⟩), .agg (pgV A1 A2 A3 n1 c1 n2 c2 n3 c3)] W fun e w' => ∃ y : ByteArray × Int, e = .returned (.tuple #[.string y.1, .int .i64 y.2]) ∧ Touch NoB w w' ∧ (y.2 = 0 → CkS p x rs q g cb kb rb db (pgV A1 A2 A3 n1 c1 n2 c2 n3 c3) w 6 w') ∧ (y.2 ≠ 0 → x = y) := by
  obtain ⟨f1, f2, f3, f4, f5, f6, f7⟩ := fit_parts hg.fit
  obtain ⟨a1, a2, a3, a4, a5, a6⟩ := ha
  have tw := hs.t.same t
  have htws := tw.size
  have hrm := hs.rm
  rw [if_pos (by decide)] at hrm
  obtain ⟨m, hrm⟩ := hrm
  have hck := hs.ck
  rw [if_pos (by decide)] at hck
  obtain ⟨kk, hck⟩ := hck
  have hnm := hs.nm
  rw [if_pos (by decide)] at hnm
  have hrest : r5E p = some x := hs.rest
  unfold r5E at hrest
  refine (csizes_any p.trees x hrest (fun t ht => ⟨45, (f4 t ht).2⟩) A1 n1 c1 A2 n2 c2 A3 n3 c3 xs W hg.l2 (by have := hg.l2; omega) (hg.t1.touch tw (fun b _ f => f)) (hg.t2.mono (fun x ys h => h.touch tw (fun b _ f => f))) (hck.touch t (fun f => f)) (hrm.touch t (fun f => f)) (hg.rr.touch tw (fun b _ f => f)) (fun b hb => by have := hg.hR b hb; omega)).mono ?_
  rintro e w' ⟨rfl, hT⟩
  have tt := t.same hT
  refine ⟨_, rfl, hs.t.same tt, fun h0 => ⟨(tt.block _ (blk_lt hs.prog) (fun f => f)).trans hs.prog, (tt.block _ (blk_lt hs.fns) (fun f => f)).trans hs.fns, hs.km.touch tt (fun f => f), ?_, ?_, ?_, ?_, hs.t.same tt⟩, fun _ => rfl⟩
  · rw [if_pos (by decide)]; exact ⟨m, hrm.touch tt (fun f => f)⟩
  · rw [if_pos (by decide)]; obtain ⟨md, hnm⟩ := hnm; exact ⟨md, hnm.touch tt (fun f => f)⟩
  · rw [if_pos (by decide)]; exact ⟨kk, hck.touch tt (fun f => f)⟩
  · rw [szT_zero p.trees x hrest h0]; rfl
end Go.Proofs.YtnphaaahdlkmhaaGreat
end
