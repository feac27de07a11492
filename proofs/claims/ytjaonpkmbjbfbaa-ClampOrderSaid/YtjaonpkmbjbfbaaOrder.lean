/-
  The walk of ClampOrder: for any three ints, in whatever world, the call returns true; the world has at most drawn an order.
-/
import Derived.Test.YtjaonpkmbjbfbaaLaws1
import Derived.Deep.QuietTactic
import Derived.BigQuiet
namespace Go.Proofs.Ytjaonpkmbjbfbaa
open Go.ChangeShapes Go.WideShapes Go.ChangeAt Go.RowKit

theorem quiet_same {P : Program} {f : FuncId} {args : Array Value} {w : World} {n : Nat} {v : Value}
    (h : Calls P f args (w.drewN n) fun e w' => e = .returned v ∧ w.drewN n = w') : Calls P f args (w.drewN n) fun e w'' => e = .returned v ∧ ∃ m, w'' = w.drewN m :=
  h.mono fun _ _ ⟨he, hm⟩ => ⟨he, n, hm.symm⟩

set_option maxRecDepth 100000 in
set_option maxHeartbeats 2000000 in
theorem order_out (a b c : Int) (w : World) (ha1 : -9223372036854775808 ≤ a) (ha2 : a ≤ 9223372036854775807) (hb1 : -9223372036854775808 ≤ b) (hb2 : b ≤ 9223372036854775807)
    (hc1 : -9223372036854775808 ≤ c) (hc2 : c ≤ 9223372036854775807) (ho : 1073741824 < a ∨ a < -1073741824 ∨ 1073741824 < b ∨ b < -1073741824) :
    Calls Try.prog 5 #[.int .i64 a, .int .i64 b, .int .i64 c] w fun e w' => e = .returned (.bool true) ∧ w = w' := by
  have h1 := add_any a b w ha1 ha2 hb1 hb2
  have h2 := add_any b a w hb1 hb2 ha1 ha2
  rw [Int.add_comm b a] at h2
  have h3 := mul_any a b w ha1 ha2 hb1 hb2
  have h4 := mul_any b a w hb1 hb2 ha1 ha2
  rw [Int.mul_comm b a] at h4
  have h5 := sub_any a 0 w ha1 ha2 (by decide) (by decide)
  rw [Int.sub_zero, lim_in ha1 ha2] at h5
  have h6 := mul_any a 1 w ha1 ha2 (by decide) (by decide)
  rw [Int.mul_one, lim_in ha1 ha2] at h6
  have h7 := add_any a c w ha1 ha2 hc1 hc2
  have h8 := add_any b c w hb1 hb2 hc1 hc2
  have h9 := sub_any a c w ha1 ha2 hc1 hc2
  have h10 := sub_any b c w hb1 hb2 hc1 hc2
  have le1 : a ≤ b → lim (a + c) ≤ lim (b + c) := fun h => lim_mono (by omega)
  have le2 : a ≤ b → lim (a - c) ≤ lim (b - c) := fun h => lim_mono (by omega)
  obtain ⟨s, hs⟩ : ∃ s, lim (a + b) = s := ⟨_, rfl⟩
  obtain ⟨m, hm⟩ : ∃ m, lim (a * b) = m := ⟨_, rfl⟩
  obtain ⟨x, hx⟩ : ∃ x, lim (a + c) = x := ⟨_, rfl⟩
  obtain ⟨y, hy⟩ : ∃ y, lim (b + c) = y := ⟨_, rfl⟩
  obtain ⟨u, hu⟩ : ∃ u, lim (a - c) = u := ⟨_, rfl⟩
  obtain ⟨v, hv⟩ : ∃ v, lim (b - c) = v := ⟨_, rfl⟩
  rw [hs] at h1 h2
  rw [hm] at h3 h4
  rw [hx] at h7 le1
  rw [hy] at h8 le1
  rw [hu] at h9 le2
  rw [hv] at h10 le2
  have H1 := Lib.hid h1
  have H2 := Lib.hid h2
  have H3 := Lib.hid h3
  have H4 := Lib.hid h4
  have H5 := Lib.hid h5
  have H6 := Lib.hid h6
  have H7 := Lib.hid h7
  have H8 := Lib.hid h8
  have H9 := Lib.hid h9
  have H10 := Lib.hid h10
  clear h1 h2 h3 h4 h5 h6 h7 h8 h9 h10 hs hm hx hy hu hv
  have hoo : 1073741824 < a ∨ (a ≤ 1073741824 ∧ a < -1073741824) ∨ (a ≤ 1073741824 ∧ -1073741824 ≤ a ∧ 1073741824 < b) ∨ (a ≤ 1073741824 ∧ -1073741824 ≤ a ∧ b ≤ 1073741824 ∧ b < -1073741824) := by omega
  clear ho
  by_cases hab : a ≤ b
  · have le1' := le1 hab
    have le2' := le2 hab
    clear le1 le2
    rcases hoo with g | ⟨g1, g2⟩ | ⟨g1, g2, g3⟩ | ⟨g1, g2, g3, g4⟩
    all_goals (try (exfalso; omega))
    all_goals
      go_enter Try.func5, Try.ntmps5
      go_wp2_with fail
      refine (alive_any _).mono ?_
      rintro e w' ⟨rfl, rfl⟩
      go_wp2_with fail
      refine H1.out.mono ?_
      rintro e w' ⟨rfl, rfl⟩
      go_wp2_with fail
      refine H2.out.mono ?_
      rintro e w' ⟨rfl, rfl⟩
      go_wp2_with fail
      refine H3.out.mono ?_
      rintro e w' ⟨rfl, rfl⟩
      go_wp2_with fail
      refine H4.out.mono ?_
      rintro e w' ⟨rfl, rfl⟩
      go_wp2_with fail
      refine H5.out.mono ?_
      rintro e w' ⟨rfl, rfl⟩
      go_wp2_with fail
      refine H6.out.mono ?_
      rintro e w' ⟨rfl, rfl⟩
      go_wp2_with fail
      refine H7.out.mono ?_
      rintro e w' ⟨rfl, rfl⟩
      go_wp2_with fail
      refine H8.out.mono ?_
      rintro e w' ⟨rfl, rfl⟩
      go_wp2_with fail
      refine H9.out.mono ?_
      rintro e w' ⟨rfl, rfl⟩
      go_wp2_with fail
      refine H10.out.mono ?_
      rintro e w' ⟨rfl, rfl⟩
      go_wp2
      go_ret
      exact ⟨rfl, rfl⟩
  · clear le1 le2
    rcases hoo with g | ⟨g1, g2⟩ | ⟨g1, g2, g3⟩ | ⟨g1, g2, g3, g4⟩
    all_goals (try (exfalso; omega))
    all_goals
      go_enter Try.func5, Try.ntmps5
      go_wp2_with fail
      refine (alive_any _).mono ?_
      rintro e w' ⟨rfl, rfl⟩
      go_wp2_with fail
      refine H1.out.mono ?_
      rintro e w' ⟨rfl, rfl⟩
      go_wp2_with fail
      refine H2.out.mono ?_
      rintro e w' ⟨rfl, rfl⟩
      go_wp2_with fail
      refine H3.out.mono ?_
      rintro e w' ⟨rfl, rfl⟩
      go_wp2_with fail
      refine H4.out.mono ?_
      rintro e w' ⟨rfl, rfl⟩
      go_wp2_with fail
      refine H5.out.mono ?_
      rintro e w' ⟨rfl, rfl⟩
      go_wp2_with fail
      refine H6.out.mono ?_
      rintro e w' ⟨rfl, rfl⟩
      go_wp2
      go_ret
      exact ⟨rfl, rfl⟩

set_option maxRecDepth 100000 in
set_option maxHeartbeats 4000000 in
theorem order_small_le (a b c : Int) (w : World) (ha : -1073741824 ≤ a) (ha' : a ≤ 1073741824) (hb : -1073741824 ≤ b) (hb' : b ≤ 1073741824)
    (hc1 : -9223372036854775808 ≤ c) (hc2 : c ≤ 9223372036854775807) (hb0 : b ≠ 0) (hab : a ≤ b) :
    Calls Try.prog 5 #[.int .i64 a, .int .i64 b, .int .i64 c] w fun e w' => e = .returned (.bool true) ∧ ∃ n, w' = w.drewN n := by
  have ha1 : -9223372036854775808 ≤ a := by omega
  have ha2 : a ≤ 9223372036854775807 := by omega
  have hb1 : -9223372036854775808 ≤ b := by omega
  have hb2 : b ≤ 9223372036854775807 := by omega
  have h1 := add_any a b w ha1 ha2 hb1 hb2
  have h2 := add_any b a w hb1 hb2 ha1 ha2
  rw [Int.add_comm b a] at h2
  have h3 := mul_any a b w ha1 ha2 hb1 hb2
  have h4 := mul_any b a w hb1 hb2 ha1 ha2
  rw [Int.mul_comm b a] at h4
  have h5 := sub_any a 0 w ha1 ha2 (by decide) (by decide)
  rw [Int.sub_zero, lim_in ha1 ha2] at h5
  have h6 := mul_any a 1 w ha1 ha2 (by decide) (by decide)
  rw [Int.mul_one, lim_in ha1 ha2] at h6
  have h7 := add_any a c w ha1 ha2 hc1 hc2
  have h8 := add_any b c w hb1 hb2 hc1 hc2
  have h9 := sub_any a c w ha1 ha2 hc1 hc2
  have h10 := sub_any b c w hb1 hb2 hc1 hc2
  have le1 : a ≤ b → lim (a + c) ≤ lim (b + c) := fun h => lim_mono (by omega)
  have le2 : a ≤ b → lim (a - c) ≤ lim (b - c) := fun h => lim_mono (by omega)
  obtain ⟨s, hs⟩ : ∃ s, lim (a + b) = s := ⟨_, rfl⟩
  obtain ⟨m, hm⟩ : ∃ m, lim (a * b) = m := ⟨_, rfl⟩
  obtain ⟨x, hx⟩ : ∃ x, lim (a + c) = x := ⟨_, rfl⟩
  obtain ⟨y, hy⟩ : ∃ y, lim (b + c) = y := ⟨_, rfl⟩
  obtain ⟨u, hu⟩ : ∃ u, lim (a - c) = u := ⟨_, rfl⟩
  obtain ⟨v, hv⟩ : ∃ v, lim (b - c) = v := ⟨_, rfl⟩
  rw [hs] at h1 h2
  rw [hm] at h3 h4
  rw [hx] at h7 le1
  rw [hy] at h8 le1
  rw [hu] at h9 le2
  rw [hv] at h10 le2
  have H1 := Lib.hid h1
  have H2 := Lib.hid h2
  have H3 := Lib.hid h3
  have H4 := Lib.hid h4
  have H5 := Lib.hid h5
  have H6 := Lib.hid h6
  have H7 := Lib.hid h7
  have H8 := Lib.hid h8
  have H9 := Lib.hid h9
  have H10 := Lib.hid h10
  have hM := mul_small a b ha ha' hb hb'
  obtain rfl : s = a + b := by rw [← hs]; exact lim_in (by omega) (by omega)
  obtain rfl : m = a * b := by rw [← hm]; exact lim_in (by omega) (by omega)
  have C1 := Lib.hid fun W => add_any a b W ha1 ha2 hb1 hb2
  have C2 := Lib.hid fun W => sub_any a b W ha1 ha2 hb1 hb2
  have C3 := Lib.hid fun W => mul_any a b W ha1 ha2 hb1 hb2
  have C4 := Lib.hid fun W => div_any a b W ha1 ha2 hb1 hb2
  rw [lim_in (by omega) (by omega)] at C1 C2 C3
  have hq := quo_range a b ha1 ha2 hb0 (by omega)
  rw [div_in a b hb0 hq] at C4
  clear h1 h2 h3 h4 h5 h6 h7 h8 h9 h10 hs hm hx hy hu hv
  have le1' := le1 hab
  have le2' := le2 hab
  clear le1 le2
  have r1 : IntKind.i64.wrap (a + b) = a + b := IntWalk.i64_in _ (by omega)
  have r2 : IntKind.i64.wrap (a - b) = a - b := IntWalk.i64_in _ (by omega)
  have r3 : IntKind.i64.wrap (a * b) = a * b := IntWalk.i64_in _ (by omega)
  have r4 : IntKind.i64.wrap (a.tdiv b) = a.tdiv b := IntWalk.i64_in _ hq
  have e0 : (b == 0) = false := by simpa using hb0
  have e1 : (b != 0) = true := by simpa using hb0
  go_enter Try.func5, Try.ntmps5
  go_wp2_with fail
  refine (alive_any _).mono ?_
  rintro e w' ⟨rfl, rfl⟩
  go_wp2_with fail
  refine H1.out.mono ?_
  rintro e w' ⟨rfl, rfl⟩
  go_wp2_with fail
  refine H2.out.mono ?_
  rintro e w' ⟨rfl, rfl⟩
  go_wp2_with fail
  refine H3.out.mono ?_
  rintro e w' ⟨rfl, rfl⟩
  go_wp2_with fail
  refine H4.out.mono ?_
  rintro e w' ⟨rfl, rfl⟩
  go_wp2_with fail
  refine H5.out.mono ?_
  rintro e w' ⟨rfl, rfl⟩
  go_wp2_with fail
  refine H6.out.mono ?_
  rintro e w' ⟨rfl, rfl⟩
  go_wp2_with fail
  refine H7.out.mono ?_
  rintro e w' ⟨rfl, rfl⟩
  go_wp2_with fail
  refine H8.out.mono ?_
  rintro e w' ⟨rfl, rfl⟩
  go_wp2_with fail
  refine H9.out.mono ?_
  rintro e w' ⟨rfl, rfl⟩
  go_wp2_with fail
  refine H10.out.mono ?_
  rintro e w' ⟨rfl, rfl⟩
  go_wp2_with fail
  go_quiet (first
    | (go_at_call 9; exact quiet_same (C1.out _))
    | (go_at_call 11; exact quiet_same (C2.out _))
    | (go_at_call 13; exact quiet_same (C3.out _))
    | (go_at_call 15; exact quiet_same (C4.out _)))
  go_wp2
  go_ret
  exact ⟨rfl, nq, rfl⟩

set_option maxRecDepth 100000 in
set_option maxHeartbeats 4000000 in
theorem order_small_gt (a b c : Int) (w : World) (ha : -1073741824 ≤ a) (ha' : a ≤ 1073741824) (hb : -1073741824 ≤ b) (hb' : b ≤ 1073741824)
    (hc1 : -9223372036854775808 ≤ c) (hc2 : c ≤ 9223372036854775807) (hb0 : b ≠ 0) (hab : ¬ a ≤ b) :
    Calls Try.prog 5 #[.int .i64 a, .int .i64 b, .int .i64 c] w fun e w' => e = .returned (.bool true) ∧ ∃ n, w' = w.drewN n := by
  have ha1 : -9223372036854775808 ≤ a := by omega
  have ha2 : a ≤ 9223372036854775807 := by omega
  have hb1 : -9223372036854775808 ≤ b := by omega
  have hb2 : b ≤ 9223372036854775807 := by omega
  have h1 := add_any a b w ha1 ha2 hb1 hb2
  have h2 := add_any b a w hb1 hb2 ha1 ha2
  rw [Int.add_comm b a] at h2
  have h3 := mul_any a b w ha1 ha2 hb1 hb2
  have h4 := mul_any b a w hb1 hb2 ha1 ha2
  rw [Int.mul_comm b a] at h4
  have h5 := sub_any a 0 w ha1 ha2 (by decide) (by decide)
  rw [Int.sub_zero, lim_in ha1 ha2] at h5
  have h6 := mul_any a 1 w ha1 ha2 (by decide) (by decide)
  rw [Int.mul_one, lim_in ha1 ha2] at h6
  have h7 := add_any a c w ha1 ha2 hc1 hc2
  have h8 := add_any b c w hb1 hb2 hc1 hc2
  have h9 := sub_any a c w ha1 ha2 hc1 hc2
  have h10 := sub_any b c w hb1 hb2 hc1 hc2
  have le1 : a ≤ b → lim (a + c) ≤ lim (b + c) := fun h => lim_mono (by omega)
  have le2 : a ≤ b → lim (a - c) ≤ lim (b - c) := fun h => lim_mono (by omega)
  obtain ⟨s, hs⟩ : ∃ s, lim (a + b) = s := ⟨_, rfl⟩
  obtain ⟨m, hm⟩ : ∃ m, lim (a * b) = m := ⟨_, rfl⟩
  obtain ⟨x, hx⟩ : ∃ x, lim (a + c) = x := ⟨_, rfl⟩
  obtain ⟨y, hy⟩ : ∃ y, lim (b + c) = y := ⟨_, rfl⟩
  obtain ⟨u, hu⟩ : ∃ u, lim (a - c) = u := ⟨_, rfl⟩
  obtain ⟨v, hv⟩ : ∃ v, lim (b - c) = v := ⟨_, rfl⟩
  rw [hs] at h1 h2
  rw [hm] at h3 h4
  rw [hx] at h7 le1
  rw [hy] at h8 le1
  rw [hu] at h9 le2
  rw [hv] at h10 le2
  have H1 := Lib.hid h1
  have H2 := Lib.hid h2
  have H3 := Lib.hid h3
  have H4 := Lib.hid h4
  have H5 := Lib.hid h5
  have H6 := Lib.hid h6
  have H7 := Lib.hid h7
  have H8 := Lib.hid h8
  have H9 := Lib.hid h9
  have H10 := Lib.hid h10
  have hM := mul_small a b ha ha' hb hb'
  obtain rfl : s = a + b := by rw [← hs]; exact lim_in (by omega) (by omega)
  obtain rfl : m = a * b := by rw [← hm]; exact lim_in (by omega) (by omega)
  have C1 := Lib.hid fun W => add_any a b W ha1 ha2 hb1 hb2
  have C2 := Lib.hid fun W => sub_any a b W ha1 ha2 hb1 hb2
  have C3 := Lib.hid fun W => mul_any a b W ha1 ha2 hb1 hb2
  have C4 := Lib.hid fun W => div_any a b W ha1 ha2 hb1 hb2
  rw [lim_in (by omega) (by omega)] at C1 C2 C3
  have hq := quo_range a b ha1 ha2 hb0 (by omega)
  rw [div_in a b hb0 hq] at C4
  clear h1 h2 h3 h4 h5 h6 h7 h8 h9 h10 hs hm hx hy hu hv
  clear le1 le2
  have r1 : IntKind.i64.wrap (a + b) = a + b := IntWalk.i64_in _ (by omega)
  have r2 : IntKind.i64.wrap (a - b) = a - b := IntWalk.i64_in _ (by omega)
  have r3 : IntKind.i64.wrap (a * b) = a * b := IntWalk.i64_in _ (by omega)
  have r4 : IntKind.i64.wrap (a.tdiv b) = a.tdiv b := IntWalk.i64_in _ hq
  have e0 : (b == 0) = false := by simpa using hb0
  have e1 : (b != 0) = true := by simpa using hb0
  go_enter Try.func5, Try.ntmps5
  go_wp2_with fail
  refine (alive_any _).mono ?_
  rintro e w' ⟨rfl, rfl⟩
  go_wp2_with fail
  refine H1.out.mono ?_
  rintro e w' ⟨rfl, rfl⟩
  go_wp2_with fail
  refine H2.out.mono ?_
  rintro e w' ⟨rfl, rfl⟩
  go_wp2_with fail
  refine H3.out.mono ?_
  rintro e w' ⟨rfl, rfl⟩
  go_wp2_with fail
  refine H4.out.mono ?_
  rintro e w' ⟨rfl, rfl⟩
  go_wp2_with fail
  refine H5.out.mono ?_
  rintro e w' ⟨rfl, rfl⟩
  go_wp2_with fail
  refine H6.out.mono ?_
  rintro e w' ⟨rfl, rfl⟩
  go_wp2_with fail
  go_quiet (first
    | (go_at_call 9; exact quiet_same (C1.out _))
    | (go_at_call 11; exact quiet_same (C2.out _))
    | (go_at_call 13; exact quiet_same (C3.out _))
    | (go_at_call 15; exact quiet_same (C4.out _)))
  go_wp2
  go_ret
  exact ⟨rfl, nq, rfl⟩

set_option maxRecDepth 100000 in
set_option maxHeartbeats 4000000 in
theorem order_zero_le (a b c : Int) (w : World) (ha : -1073741824 ≤ a) (ha' : a ≤ 1073741824) (hb : -1073741824 ≤ b) (hb' : b ≤ 1073741824)
    (hc1 : -9223372036854775808 ≤ c) (hc2 : c ≤ 9223372036854775807) (hb0 : b = 0) (hab : a ≤ b) :
    Calls Try.prog 5 #[.int .i64 a, .int .i64 b, .int .i64 c] w fun e w' => e = .returned (.bool true) ∧ ∃ n, w' = w.drewN n := by
  have ha1 : -9223372036854775808 ≤ a := by omega
  have ha2 : a ≤ 9223372036854775807 := by omega
  have hb1 : -9223372036854775808 ≤ b := by omega
  have hb2 : b ≤ 9223372036854775807 := by omega
  have h1 := add_any a b w ha1 ha2 hb1 hb2
  have h2 := add_any b a w hb1 hb2 ha1 ha2
  rw [Int.add_comm b a] at h2
  have h3 := mul_any a b w ha1 ha2 hb1 hb2
  have h4 := mul_any b a w hb1 hb2 ha1 ha2
  rw [Int.mul_comm b a] at h4
  have h5 := sub_any a 0 w ha1 ha2 (by decide) (by decide)
  rw [Int.sub_zero, lim_in ha1 ha2] at h5
  have h6 := mul_any a 1 w ha1 ha2 (by decide) (by decide)
  rw [Int.mul_one, lim_in ha1 ha2] at h6
  have h7 := add_any a c w ha1 ha2 hc1 hc2
  have h8 := add_any b c w hb1 hb2 hc1 hc2
  have h9 := sub_any a c w ha1 ha2 hc1 hc2
  have h10 := sub_any b c w hb1 hb2 hc1 hc2
  have le1 : a ≤ b → lim (a + c) ≤ lim (b + c) := fun h => lim_mono (by omega)
  have le2 : a ≤ b → lim (a - c) ≤ lim (b - c) := fun h => lim_mono (by omega)
  obtain ⟨s, hs⟩ : ∃ s, lim (a + b) = s := ⟨_, rfl⟩
  obtain ⟨m, hm⟩ : ∃ m, lim (a * b) = m := ⟨_, rfl⟩
  obtain ⟨x, hx⟩ : ∃ x, lim (a + c) = x := ⟨_, rfl⟩
  obtain ⟨y, hy⟩ : ∃ y, lim (b + c) = y := ⟨_, rfl⟩
  obtain ⟨u, hu⟩ : ∃ u, lim (a - c) = u := ⟨_, rfl⟩
  obtain ⟨v, hv⟩ : ∃ v, lim (b - c) = v := ⟨_, rfl⟩
  rw [hs] at h1 h2
  rw [hm] at h3 h4
  rw [hx] at h7 le1
  rw [hy] at h8 le1
  rw [hu] at h9 le2
  rw [hv] at h10 le2
  have H1 := Lib.hid h1
  have H2 := Lib.hid h2
  have H3 := Lib.hid h3
  have H4 := Lib.hid h4
  have H5 := Lib.hid h5
  have H6 := Lib.hid h6
  have H7 := Lib.hid h7
  have H8 := Lib.hid h8
  have H9 := Lib.hid h9
  have H10 := Lib.hid h10
  have hM := mul_small a b ha ha' hb hb'
  obtain rfl : s = a + b := by rw [← hs]; exact lim_in (by omega) (by omega)
  obtain rfl : m = a * b := by rw [← hm]; exact lim_in (by omega) (by omega)
  have C1 := Lib.hid fun W => add_any a b W ha1 ha2 hb1 hb2
  have C2 := Lib.hid fun W => sub_any a b W ha1 ha2 hb1 hb2
  have C3 := Lib.hid fun W => mul_any a b W ha1 ha2 hb1 hb2
  have C4 := Lib.hid fun W => div_any a b W ha1 ha2 hb1 hb2
  rw [lim_in (by omega) (by omega)] at C1 C2 C3
  rw [hb0, div_zero, ← hb0] at C4
  clear h1 h2 h3 h4 h5 h6 h7 h8 h9 h10 hs hm hx hy hu hv
  have le1' := le1 hab
  have le2' := le2 hab
  clear le1 le2
  have r1 : IntKind.i64.wrap (a + b) = a + b := IntWalk.i64_in _ (by omega)
  have r2 : IntKind.i64.wrap (a - b) = a - b := IntWalk.i64_in _ (by omega)
  have r3 : IntKind.i64.wrap (a * b) = a * b := IntWalk.i64_in _ (by omega)
  have e0 : (b == 0) = true := by simpa using hb0
  have H0 := Lib.hid hb0
  clear hb0
  go_enter Try.func5, Try.ntmps5
  go_wp2_with fail
  refine (alive_any _).mono ?_
  rintro e w' ⟨rfl, rfl⟩
  go_wp2_with fail
  refine H1.out.mono ?_
  rintro e w' ⟨rfl, rfl⟩
  go_wp2_with fail
  refine H2.out.mono ?_
  rintro e w' ⟨rfl, rfl⟩
  go_wp2_with fail
  refine H3.out.mono ?_
  rintro e w' ⟨rfl, rfl⟩
  go_wp2_with fail
  refine H4.out.mono ?_
  rintro e w' ⟨rfl, rfl⟩
  go_wp2_with fail
  refine H5.out.mono ?_
  rintro e w' ⟨rfl, rfl⟩
  go_wp2_with fail
  refine H6.out.mono ?_
  rintro e w' ⟨rfl, rfl⟩
  go_wp2_with fail
  refine H7.out.mono ?_
  rintro e w' ⟨rfl, rfl⟩
  go_wp2_with fail
  refine H8.out.mono ?_
  rintro e w' ⟨rfl, rfl⟩
  go_wp2_with fail
  refine H9.out.mono ?_
  rintro e w' ⟨rfl, rfl⟩
  go_wp2_with fail
  refine H10.out.mono ?_
  rintro e w' ⟨rfl, rfl⟩
  go_wp2_with fail
  go_quiet (first
    | (go_at_call 9; exact quiet_same (C1.out _))
    | (go_at_call 11; exact quiet_same (C2.out _))
    | (go_at_call 13; exact quiet_same (C3.out _))
    | (go_at_call 15; exact quiet_same (C4.out _)))
  go_wp2
  go_ret
  exact ⟨rfl, nq, rfl⟩

set_option maxRecDepth 100000 in
set_option maxHeartbeats 4000000 in
theorem order_zero_gt (a b c : Int) (w : World) (ha : -1073741824 ≤ a) (ha' : a ≤ 1073741824) (hb : -1073741824 ≤ b) (hb' : b ≤ 1073741824)
    (hc1 : -9223372036854775808 ≤ c) (hc2 : c ≤ 9223372036854775807) (hb0 : b = 0) (hab : ¬ a ≤ b) :
    Calls Try.prog 5 #[.int .i64 a, .int .i64 b, .int .i64 c] w fun e w' => e = .returned (.bool true) ∧ ∃ n, w' = w.drewN n := by
  have ha1 : -9223372036854775808 ≤ a := by omega
  have ha2 : a ≤ 9223372036854775807 := by omega
  have hb1 : -9223372036854775808 ≤ b := by omega
  have hb2 : b ≤ 9223372036854775807 := by omega
  have h1 := add_any a b w ha1 ha2 hb1 hb2
  have h2 := add_any b a w hb1 hb2 ha1 ha2
  rw [Int.add_comm b a] at h2
  have h3 := mul_any a b w ha1 ha2 hb1 hb2
  have h4 := mul_any b a w hb1 hb2 ha1 ha2
  rw [Int.mul_comm b a] at h4
  have h5 := sub_any a 0 w ha1 ha2 (by decide) (by decide)
  rw [Int.sub_zero, lim_in ha1 ha2] at h5
  have h6 := mul_any a 1 w ha1 ha2 (by decide) (by decide)
  rw [Int.mul_one, lim_in ha1 ha2] at h6
  have h7 := add_any a c w ha1 ha2 hc1 hc2
  have h8 := add_any b c w hb1 hb2 hc1 hc2
  have h9 := sub_any a c w ha1 ha2 hc1 hc2
  have h10 := sub_any b c w hb1 hb2 hc1 hc2
  have le1 : a ≤ b → lim (a + c) ≤ lim (b + c) := fun h => lim_mono (by omega)
  have le2 : a ≤ b → lim (a - c) ≤ lim (b - c) := fun h => lim_mono (by omega)
  obtain ⟨s, hs⟩ : ∃ s, lim (a + b) = s := ⟨_, rfl⟩
  obtain ⟨m, hm⟩ : ∃ m, lim (a * b) = m := ⟨_, rfl⟩
  obtain ⟨x, hx⟩ : ∃ x, lim (a + c) = x := ⟨_, rfl⟩
  obtain ⟨y, hy⟩ : ∃ y, lim (b + c) = y := ⟨_, rfl⟩
  obtain ⟨u, hu⟩ : ∃ u, lim (a - c) = u := ⟨_, rfl⟩
  obtain ⟨v, hv⟩ : ∃ v, lim (b - c) = v := ⟨_, rfl⟩
  rw [hs] at h1 h2
  rw [hm] at h3 h4
  rw [hx] at h7 le1
  rw [hy] at h8 le1
  rw [hu] at h9 le2
  rw [hv] at h10 le2
  have H1 := Lib.hid h1
  have H2 := Lib.hid h2
  have H3 := Lib.hid h3
  have H4 := Lib.hid h4
  have H5 := Lib.hid h5
  have H6 := Lib.hid h6
  have H7 := Lib.hid h7
  have H8 := Lib.hid h8
  have H9 := Lib.hid h9
  have H10 := Lib.hid h10
  have hM := mul_small a b ha ha' hb hb'
  obtain rfl : s = a + b := by rw [← hs]; exact lim_in (by omega) (by omega)
  obtain rfl : m = a * b := by rw [← hm]; exact lim_in (by omega) (by omega)
  have C1 := Lib.hid fun W => add_any a b W ha1 ha2 hb1 hb2
  have C2 := Lib.hid fun W => sub_any a b W ha1 ha2 hb1 hb2
  have C3 := Lib.hid fun W => mul_any a b W ha1 ha2 hb1 hb2
  have C4 := Lib.hid fun W => div_any a b W ha1 ha2 hb1 hb2
  rw [lim_in (by omega) (by omega)] at C1 C2 C3
  rw [hb0, div_zero, ← hb0] at C4
  clear h1 h2 h3 h4 h5 h6 h7 h8 h9 h10 hs hm hx hy hu hv
  clear le1 le2
  have r1 : IntKind.i64.wrap (a + b) = a + b := IntWalk.i64_in _ (by omega)
  have r2 : IntKind.i64.wrap (a - b) = a - b := IntWalk.i64_in _ (by omega)
  have r3 : IntKind.i64.wrap (a * b) = a * b := IntWalk.i64_in _ (by omega)
  have e0 : (b == 0) = true := by simpa using hb0
  have H0 := Lib.hid hb0
  clear hb0
  go_enter Try.func5, Try.ntmps5
  go_wp2_with fail
  refine (alive_any _).mono ?_
  rintro e w' ⟨rfl, rfl⟩
  go_wp2_with fail
  refine H1.out.mono ?_
  rintro e w' ⟨rfl, rfl⟩
  go_wp2_with fail
  refine H2.out.mono ?_
  rintro e w' ⟨rfl, rfl⟩
  go_wp2_with fail
  refine H3.out.mono ?_
  rintro e w' ⟨rfl, rfl⟩
  go_wp2_with fail
  refine H4.out.mono ?_
  rintro e w' ⟨rfl, rfl⟩
  go_wp2_with fail
  refine H5.out.mono ?_
  rintro e w' ⟨rfl, rfl⟩
  go_wp2_with fail
  refine H6.out.mono ?_
  rintro e w' ⟨rfl, rfl⟩
  go_wp2_with fail
  go_quiet (first
    | (go_at_call 9; exact quiet_same (C1.out _))
    | (go_at_call 11; exact quiet_same (C2.out _))
    | (go_at_call 13; exact quiet_same (C3.out _))
    | (go_at_call 15; exact quiet_same (C4.out _)))
  go_wp2
  go_ret
  exact ⟨rfl, nq, rfl⟩

theorem order_any (a b c : Int) (w : World) (ha1 : -9223372036854775808 ≤ a) (ha2 : a ≤ 9223372036854775807) (hb1 : -9223372036854775808 ≤ b) (hb2 : b ≤ 9223372036854775807)
    (hc1 : -9223372036854775808 ≤ c) (hc2 : c ≤ 9223372036854775807) :
    Calls Try.prog 5 #[.int .i64 a, .int .i64 b, .int .i64 c] w fun e w' => e = .returned (.bool true) ∧ ∃ n, w' = w.drewN n := by
  by_cases ho : 1073741824 < a ∨ a < -1073741824 ∨ 1073741824 < b ∨ b < -1073741824
  · exact (order_out a b c w ha1 ha2 hb1 hb2 hc1 hc2 ho).mono fun _ _ ⟨he, hw⟩ => ⟨he, 0, hw.symm⟩
  · by_cases hb0 : b = 0 <;> by_cases hab : a ≤ b
    · exact order_zero_le a b c w (by omega) (by omega) (by omega) (by omega) hc1 hc2 hb0 hab
    · exact order_zero_gt a b c w (by omega) (by omega) (by omega) (by omega) hc1 hc2 hb0 hab
    · exact order_small_le a b c w (by omega) (by omega) (by omega) (by omega) hc1 hc2 hb0 hab
    · exact order_small_gt a b c w (by omega) (by omega) (by omega) (by omega) hc1 hc2 hb0 hab

end Go.Proofs.Ytjaonpkmbjbfbaa
