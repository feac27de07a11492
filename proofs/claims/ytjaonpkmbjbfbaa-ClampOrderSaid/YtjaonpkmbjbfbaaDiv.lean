/-
  What clamp.Div, clamp.Within and the document's own Div, Within return, for any ints, in whatever world, which they leave as it was.
-/
import Derived.Test.YtjaonpkmbjbfbaaAdd
import Derived.Lib.Hide
namespace Go.Proofs.Ytjaonpkmbjbfbaa
open Go.ChangeShapes Go.WideShapes Go.ChangeAt Go.RowKit

theorem div_any (a b : Int) (w : World) (ha1 : -9223372036854775808 ≤ a) (ha2 : a ≤ 9223372036854775807) (hb1 : -9223372036854775808 ≤ b) (hb2 : b ≤ 9223372036854775807) :
    Calls Try.prog 15 #[.int .i64 a, .int .i64 b] w fun e w' => e = .returned (.int .i64 (divI a b)) ∧ w = w' := by
  by_cases hb : b = 0
  · subst hb
    go_enter Try.func15, Try.ntmps15
    go_wp2
    go_ret
    exact ⟨ret_int (div_zero a).symm, rfl⟩
  by_cases hm : a ≤ -9223372036854775808 ∧ b = -1
  · obtain ⟨h1, rfl⟩ := hm
    obtain rfl : a = -9223372036854775808 := by omega
    go_enter Try.func15, Try.ntmps15
    go_wp2
    go_ret
    exact ⟨ret_int div_least.symm, rfl⟩
  have HQ := Lib.hid (quo_in a b ha1 ha2 hb hm)
  by_cases h1 : a = -9223372036854775808
  · have h2 : b ≠ -1 := by omega
    have e1 : (a == -9223372036854775808) = true := by simpa using h1
    have H1 := Lib.hid h1
    clear h1 hm
    go_enter Try.func15, Try.ntmps15
    go_wp2
    go_ret
    exact ⟨ret_int (HQ.out), rfl⟩
  · have e1 : (a == -9223372036854775808) = false := by simpa using h1
    clear hm
    go_enter Try.func15, Try.ntmps15
    go_wp2
    go_ret
    exact ⟨ret_int (HQ.out), rfl⟩

theorem refDiv_any (a b : Int) (w : World) (ha1 : -9223372036854775808 ≤ a) (ha2 : a ≤ 9223372036854775807) (hb1 : -9223372036854775808 ≤ b) (hb2 : b ≤ 9223372036854775807) :
    Calls Try.prog 16 #[.int .i64 a, .int .i64 b] w fun e w' => e = .returned (.int .i64 (divI a b)) ∧ w = w' := by
  by_cases hb : b = 0
  · subst hb
    go_enter Try.func16, Try.ntmps16
    go_wp2
    go_ret
    exact ⟨ret_int (div_zero a).symm, rfl⟩
  by_cases hm : a ≤ -9223372036854775808 ∧ b = -1
  · obtain ⟨h1, rfl⟩ := hm
    obtain rfl : a = -9223372036854775808 := by omega
    go_enter Try.func16, Try.ntmps16
    go_wp2
    go_ret
    exact ⟨ret_int div_least.symm, rfl⟩
  have HQ := Lib.hid (quo_in a b ha1 ha2 hb hm)
  by_cases h1 : a = -9223372036854775808
  · have h2 : b ≠ -1 := by omega
    have e1 : (a == -9223372036854775808) = true := by simpa using h1
    have H1 := Lib.hid h1
    clear h1 hm
    go_enter Try.func16, Try.ntmps16
    go_wp2
    go_ret
    exact ⟨ret_int (HQ.out), rfl⟩
  · have e1 : (a == -9223372036854775808) = false := by simpa using h1
    clear hm
    go_enter Try.func16, Try.ntmps16
    go_wp2
    go_ret
    exact ⟨ret_int (HQ.out), rfl⟩

theorem within_any (n lo hi : Int) (w : World) :
    Calls Try.prog 17 #[.int .i64 n, .int .i64 lo, .int .i64 hi] w fun e w' => e = .returned (.int .i64 (withinI n lo hi)) ∧ w = w' := by
  by_cases h1 : n < lo <;> by_cases h2 : hi < lo <;> by_cases h3 : hi < n
  all_goals
    go_enter Try.func17, Try.ntmps17
    go_wp2
    all_goals
      go_ret
      exact ⟨ret_int (by unfold withinI; repeat' split <;> omega), rfl⟩

theorem refWithin_any (n lo hi : Int) (w : World) :
    Calls Try.prog 18 #[.int .i64 n, .int .i64 lo, .int .i64 hi] w fun e w' => e = .returned (.int .i64 (withinI n lo hi)) ∧ w = w' := by
  by_cases h1 : n < lo <;> by_cases h2 : hi < lo <;> by_cases h3 : hi < n
  all_goals
    go_enter Try.func18, Try.ntmps18
    go_wp2
    all_goals
      go_ret
      exact ⟨ret_int (by unfold withinI; repeat' split <;> omega), rfl⟩

end Go.Proofs.Ytjaonpkmbjbfbaa
