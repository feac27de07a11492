/-
  The walks of four statements of chapter 1: for any ints, in whatever world, each call returns true and leaves the world as it was.
-/
import Derived.Test.YtjaonpkmbjbfbaaAlive
namespace Go.Proofs.Ytjaonpkmbjbfbaa
open Go.ChangeShapes Go.WideShapes Go.ChangeAt Go.RowKit

theorem ret_bool {a : Bool} (h : a = true) : Ending.returned (.bool a) = .returned (.bool true) := by rw [h]

theorem reckons_any (a b : Int) (w : World) (ha1 : -9223372036854775808 ≤ a) (ha2 : a ≤ 9223372036854775807) (hb1 : -9223372036854775808 ≤ b) (hb2 : b ≤ 9223372036854775807) :
    Calls Try.prog 3 #[.int .i64 a, .int .i64 b] w fun e w' => e = .returned (.bool true) ∧ w = w' := by
  go_enter Try.func3, Try.ntmps3
  go_wp2_with (first
    | (go_at_call 8; refine (alive_any _).mono ?_; rintro e w' ⟨rfl, rfl⟩)
    | (go_at_call 9; refine (add_any _ _ _ ha1 ha2 hb1 hb2).mono ?_; rintro e w' ⟨rfl, rfl⟩)
    | (go_at_call 10; refine (refAdd_any _ _ _ ha1 ha2 hb1 hb2).mono ?_; rintro e w' ⟨rfl, rfl⟩)
    | (go_at_call 11; refine (sub_any _ _ _ ha1 ha2 hb1 hb2).mono ?_; rintro e w' ⟨rfl, rfl⟩)
    | (go_at_call 12; refine (refSub_any _ _ _ ha1 ha2 hb1 hb2).mono ?_; rintro e w' ⟨rfl, rfl⟩)
    | (go_at_call 13; refine (mul_any _ _ _ ha1 ha2 hb1 hb2).mono ?_; rintro e w' ⟨rfl, rfl⟩)
    | (go_at_call 14; refine (refMul_any _ _ _ ha1 ha2 hb1 hb2).mono ?_; rintro e w' ⟨rfl, rfl⟩)
    | (go_at_call 15; refine (div_any _ _ _ ha1 ha2 hb1 hb2).mono ?_; rintro e w' ⟨rfl, rfl⟩)
    | (go_at_call 16; refine (refDiv_any _ _ _ ha1 ha2 hb1 hb2).mono ?_; rintro e w' ⟨rfl, rfl⟩))
  go_ret
  exact ⟨rfl, rfl⟩

theorem withinL_any (n lo hi : Int) (w : World) :
    Calls Try.prog 4 #[.int .i64 n, .int .i64 lo, .int .i64 hi] w fun e w' => e = .returned (.bool true) ∧ w = w' := by
  have h1 := within_any n lo hi w
  have h2 := refWithin_any n lo hi w
  have h3 := within_any (withinI n lo hi) lo hi w
  rw [within_idem] at h3
  have hl := within_lo n lo hi
  have hh := within_hi n lo hi
  obtain ⟨m, hm⟩ : ∃ m, withinI n lo hi = m := ⟨_, rfl⟩
  rw [hm] at h1 h2 h3 hl hh
  have H1 := Lib.hid h1
  have H2 := Lib.hid h2
  have H3 := Lib.hid h3
  clear h1 h2 h3 hm
  rcases hh with hh | hh
  · go_enter Try.func4, Try.ntmps4
    go_wp2_with fail
    refine (alive_any _).mono ?_
    rintro e w' ⟨rfl, rfl⟩
    go_wp2_with fail
    refine H1.out.mono ?_
    rintro e w' ⟨rfl, rfl⟩
    go_wp2_with fail
    refine H2.out.mono ?_
    rintro e w' ⟨rfl, rfl⟩
    go_wp2_with fail
    refine H3.out.mono ?_
    rintro e w' ⟨rfl, rfl⟩
    go_wp2
    go_ret
    exact ⟨rfl, rfl⟩
  · by_cases h : hi < lo
    all_goals
      go_enter Try.func4, Try.ntmps4
      go_wp2_with fail
      refine (alive_any _).mono ?_
      rintro e w' ⟨rfl, rfl⟩
      go_wp2_with fail
      refine H1.out.mono ?_
      rintro e w' ⟨rfl, rfl⟩
      go_wp2_with fail
      refine H2.out.mono ?_
      rintro e w' ⟨rfl, rfl⟩
      go_wp2_with fail
      refine H3.out.mono ?_
      rintro e w' ⟨rfl, rfl⟩
      go_wp2
      go_ret
      exact ⟨rfl, rfl⟩

theorem ends_any (n : Int) (w : World) (hn2 : n ≤ 9223372036854775807) :
    Calls Try.prog 6 #[.int .i64 n] w fun e w' => e = .returned (.bool true) ∧ w = w' := by
  by_cases hn : n < 1
  · go_enter Try.func6, Try.ntmps6
    go_wp2_with (go_at_call 8; refine (alive_any _).mono ?_; rintro e w' ⟨rfl, rfl⟩)
    go_ret
    exact ⟨rfl, rfl⟩
  have h1 := add_any 9223372036854775807 n w (by decide) (by decide) (by omega) (by omega)
  rw [lim_hi (by omega)] at h1
  have h2 := sub_any (-9223372036854775808) n w (by decide) (by decide) (by omega) (by omega)
  rw [lim_lo (by omega)] at h2
  have h3 := add_any (-9223372036854775808) (-n) w (by decide) (by decide) (by omega) (by omega)
  rw [lim_lo (by omega)] at h3
  have h4 := sub_any 9223372036854775807 (-n) w (by decide) (by decide) (by omega) (by omega)
  rw [lim_hi (by omega)] at h4
  have h5 := div_any (-9223372036854775808) (-1) w (by decide) (by decide) (by decide) (by decide)
  rw [div_least] at h5
  have h6 := mul_any (-9223372036854775808) (-n) w (by decide) (by decide) (by omega) (by omega)
  rw [lim_hi (by omega)] at h6
  have h7 := mul_any (-9223372036854775808) n w (by decide) (by decide) (by omega) (by omega)
  rw [lim_low (by omega)] at h7
  have h8 := sub_any 0 (-9223372036854775808) w (by decide) (by decide) (by decide) (by decide)
  rw [lim_hi (by decide)] at h8
  have h9 := div_any n 0 w (by omega) (by omega) (by decide) (by decide)
  rw [div_zero] at h9
  have H1 := Lib.hid h1
  have H2 := Lib.hid h2
  have H3 := Lib.hid h3
  have H4 := Lib.hid h4
  have H5 := Lib.hid h5
  have H6 := Lib.hid h6
  have H7 := Lib.hid h7
  have H8 := Lib.hid h8
  have H9 := Lib.hid h9
  clear h1 h2 h3 h4 h5 h6 h7 h8 h9
  go_enter Try.func6, Try.ntmps6
  go_wp2_with fail
  refine (alive_any _).mono ?_
  rintro e w' ⟨rfl, rfl⟩
  go_wp2_with fail
  refine H1.out.mono ?_
  rintro e w' ⟨rfl, rfl⟩
  go_wp2_with fail
  refine H2.out.mono ?_
  rintro e w' ⟨rfl, rfl⟩
  go_wp2_with fail
  refine H3.out.mono ?_
  rintro e w' ⟨rfl, rfl⟩
  go_wp2_with fail
  refine H4.out.mono ?_
  rintro e w' ⟨rfl, rfl⟩
  go_wp2_with fail
  refine H5.out.mono ?_
  rintro e w' ⟨rfl, rfl⟩
  go_wp2_with fail
  refine H6.out.mono ?_
  rintro e w' ⟨rfl, rfl⟩
  go_wp2_with fail
  refine H7.out.mono ?_
  rintro e w' ⟨rfl, rfl⟩
  go_wp2_with fail
  refine H8.out.mono ?_
  rintro e w' ⟨rfl, rfl⟩
  go_wp2_with fail
  refine H9.out.mono ?_
  rintro e w' ⟨rfl, rfl⟩
  go_wp2
  go_ret
  exact ⟨rfl, rfl⟩

theorem parts_any (a b : Int) (w : World) (ha1 : -9223372036854775808 ≤ a) (ha2 : a ≤ 9223372036854775807) (hb1 : -9223372036854775808 ≤ b) (hb2 : b ≤ 9223372036854775807) :
    Calls Try.prog 7 #[.int .i64 a, .int .i64 b] w fun e w' => e = .returned (.bool true) ∧ w = w' := by
  cases eb0 : (b == 0)
  case true =>
    go_enter Try.func7, Try.ntmps7
    go_wp2_with (go_at_call 8; refine (alive_any _).mono ?_; rintro e w' ⟨rfl, rfl⟩)
    go_ret
    exact ⟨rfl, rfl⟩
  cases eam : (a == -9223372036854775808)
  case true =>
    go_enter Try.func7, Try.ntmps7
    go_wp2_with (go_at_call 8; refine (alive_any _).mono ?_; rintro e w' ⟨rfl, rfl⟩)
    go_ret
    exact ⟨rfl, rfl⟩
  cases ebm : (b == -9223372036854775808)
  case true =>
    go_enter Try.func7, Try.ntmps7
    go_wp2_with (go_at_call 8; refine (alive_any _).mono ?_; rintro e w' ⟨rfl, rfl⟩)
    go_ret
    exact ⟨rfl, rfl⟩
  have hb0 : b ≠ 0 := by simpa using eb0
  have ham : a ≠ -9223372036854775808 := by simpa using eam
  have hbm : b ≠ -9223372036854775808 := by simpa using ebm
  have hq := quo_range a b ha1 ha2 hb0 (fun h => ham (by omega))
  have h1 := div_any a b w ha1 ha2 hb1 hb2
  rw [div_in a b hb0 hq] at h1
  have hp := back_range a b ha1 ha2
  have h2 := mul_any (a.tdiv b) b w hq.1 hq.2 hb1 hb2
  rw [lim_in hp.1 hp.2] at h2
  have hr := rest_range a b ha1 ha2 hb0 ham
  have h3 := sub_any a (a.tdiv b * b) w ha1 ha2 hp.1 hp.2
  rw [lim_in hr.1 hr.2.1] at h3
  have hs := rest_sign a b
  have hn := hr.2.2
  obtain ⟨r, hrr⟩ : ∃ r, a - a.tdiv b * b = r := ⟨_, rfl⟩
  rw [hrr] at h3 hs hn
  obtain ⟨p, hpp⟩ : ∃ p, a.tdiv b * b = p := ⟨_, rfl⟩
  rw [hpp] at h2 h3
  obtain ⟨q, hqq⟩ : ∃ q, a.tdiv b = q := ⟨_, rfl⟩
  rw [hqq] at h1 h2
  have H1 := Lib.hid h1
  have H2 := Lib.hid h2
  have H3 := Lib.hid h3
  clear h1 h2 h3 hrr hpp hqq hq hp hr
  have hb' : -9223372036854775808 < b := by omega
  have hnn : (b < 0 ∧ b < r ∧ r < -b) ∨ (0 < b ∧ -b < r ∧ r < b) := by omega
  clear hn hbm ham
  rcases hnn with ⟨g1, g2, g3⟩ | ⟨g1, g2, g3⟩ <;> rcases hs with hs | ⟨hs1, hs2⟩ | ⟨hs1, hs2⟩
  all_goals
    (try subst hs)
    go_enter Try.func7, Try.ntmps7
    go_wp2_with fail
    refine (alive_any _).mono ?_
    rintro e w' ⟨rfl, rfl⟩
    go_wp2_with fail
    refine H1.out.mono ?_
    rintro e w' ⟨rfl, rfl⟩
    go_wp2_with fail
    refine H2.out.mono ?_
    rintro e w' ⟨rfl, rfl⟩
    go_wp2_with fail
    refine H3.out.mono ?_
    rintro e w' ⟨rfl, rfl⟩
    go_wp2
    go_ret
    first
      | exact ⟨rfl, rfl⟩
      | exact ⟨ret_bool (by rw [decide_eq_false (show ¬ r < 0 by omega), decide_eq_false (show ¬ a < 0 by omega)]; simp), rfl⟩

end Go.Proofs.Ytjaonpkmbjbfbaa
