/-
  What point.isPart, Parts, orZero, limitedPart, Of and limited return at numbers that are points, in whatever world, which they leave as it was.
-/
import Derived.Test.YteacpfknfbmjkaaRows
import Derived.Test.YteacpfknfbmjkaaNum
import Derived.Test.YteacpfknfbmjkaaFlt
import Derived.WalkKit
import Derived.ProofKit
import Derived.OpenShut
import Derived.OwnWalk
import Derived.WalkLawsBesides
import Derived.KernelRfl
import Derived.Lib.Hide
namespace Go.Proofs.Yteacpfknfbmjkaa
open Go.ChangeShapes Go.WideShapes Go.ChangeAt Go.RowKit

theorem ret_int {k : IntKind} {a b : Int} (h : a = b) : Ending.returned (.int k a) = .returned (.int k b) := by rw [h]

/-- A number limited to the range of a point's part. -/
def cl (n : Int) : Int := withinI n (-1099511627776) 1099511627776
theorem cl_in {n : Int} (h1 : -1099511627776 ≤ n) (h2 : n ≤ 1099511627776) : cl n = n := by unfold cl withinI; repeat' split <;> omega
theorem cl_range (n : Int) : -1099511627776 ≤ cl n ∧ cl n ≤ 1099511627776 := by unfold cl withinI; repeat' split <;> omega

theorem rep_lo : Rep 14010698440749613056 (-1099511627776) := rep_bits (by decide) (by decide)
theorem rep_hi : Rep 4787326403894837248 1099511627776 := rep_bits (by decide) (by decide)

theorem to_int {x : Nat} {n : Int} (hx : Rep x n) (w : World) : (convert 87 3 (.float .f64 x)).run Try.prog w = .ok (.int .i64 n) w :=
  run_convert_float_int w 87 3 .f64 .i64 x n (by rw [Try.underlying87]; rfl) Try.underlying3 hx.toInt

theorem isPart_at (x : Nat) (n : Int) (w : World) (hx : Rep x n) (h1 : -1099511627776 ≤ n) (h2 : n ≤ 1099511627776) :
    Calls Try.prog 33 #[.float .f64 x] w fun e w' => e = .returned (.bool true) ∧ w = w' := by
  have hc := to_int hx
  have e1 : FloatKind.f64.format.order x (floatOfInt .f64 n) = some .eq := by
    have := hx.order (rep_fi n (by omega))
    simpa [compare, compareOfLessAndEq, fi] using this
  have o1 := rep_lo.order hx
  have o2 := hx.order rep_hi
  simp only [compare, compareOfLessAndEq] at o1 o2
  clear hx
  by_cases g1 : (-1099511627776 : Int) < n <;> by_cases g2 : n < 1099511627776
  all_goals
    try rw [if_pos g1] at o1
    try rw [if_neg g1, if_pos (by omega)] at o1
    try rw [if_pos g2] at o2
    try rw [if_neg g2, if_pos (by omega)] at o2
    go_enter Try.func33, Try.ntmps33
    go_wp2_with (simp only [hc])
    go_ret
    exact ⟨rfl, rfl⟩

theorem parts_at (x y : Nat) (a b : Int) (w : World) (hx : Rep x a) (hy : Rep y b) (ha1 : -1099511627776 ≤ a) (ha2 : a ≤ 1099511627776) (hb1 : -1099511627776 ≤ b) (hb2 : b ≤ 1099511627776) :
    Calls Try.prog 31 #[.complex .f64 x y] w fun e w' => e = .returned (.tuple #[.int .i64 a, .int .i64 b, .bool true]) ∧ w = w' := by
  have hc := to_int hx
  have hd := to_int hy
  have H1 := Lib.hid (isPart_at x a w hx ha1 ha2)
  have H2 := Lib.hid (isPart_at y b w hy hb1 hb2)
  clear hx hy
  go_enter Try.func31, Try.ntmps31
  go_wp2_with fail
  refine H1.out.mono ?_
  rintro e w' ⟨rfl, rfl⟩
  go_wp2_with fail
  refine H2.out.mono ?_
  rintro e w' ⟨rfl, rfl⟩
  go_wp2
  go_ret3
  exact ⟨rfl, rfl⟩

/-- The point (a, b). -/
def pt (a b : Int) : Value := .complex .f64 (fi a) (fi b)

end Go.Proofs.Yteacpfknfbmjkaa
