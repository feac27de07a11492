/-
  The walk of PointProduct.
-/
import Derived.Test.YtaampnccgkcbdaaPd
namespace Go.Proofs.Ytaampnccgkcbdaa
open Go.ChangeShapes Go.WideShapes Go.ChangeAt Go.RowKit

set_option maxRecDepth 100000 in
set_option maxHeartbeats 2000000 in
theorem pointProduct_out (a b : Int) (w : World) (ho : (1099511627776 < a) ∨ (a ≤ 1099511627776 ∧ a < -1099511627776) ∨ (a ≤ 1099511627776 ∧ -1099511627776 ≤ a ∧ 1099511627776 < b) ∨ (a ≤ 1099511627776 ∧ -1099511627776 ≤ a ∧ b ≤ 1099511627776 ∧ b < -1099511627776)) :
    Calls Try.prog 4 #[.int .i64 a, .int .i64 b] w fun e w' => e = .returned (.bool true) ∧ w = w' := by
  have H0 := Lib.hid (alive_any w)
  rcases ho with g0 | ⟨g0, g1⟩ | ⟨g0, g1, g2⟩ | ⟨g0, g1, g2, g3⟩
  all_goals
    go_enter Try.func4, Try.ntmps4
    go_wp2_with fail
    refine H0.out.mono ?_
    rintro e w' ⟨rfl, rfl⟩
    go_wp2
    go_ret
    exact ⟨rfl, rfl⟩

set_option maxRecDepth 100000 in
set_option maxHeartbeats 2000000 in
theorem pointProduct_in (a b : Int) (w : World) (g0 : a ≤ 1099511627776) (g1 : -1099511627776 ≤ a) (g2 : b ≤ 1099511627776) (g3 : -1099511627776 ≤ b) :
    Calls Try.prog 4 #[.int .i64 a, .int .i64 b] w fun e w' => e = .returned (.bool true) ∧ w = w' := by
  have ia : InP a := by unfold InP; omega
  have ib : InP b := by unfold InP; omega
  have z0 : InP 0 := inP_small (by decide) (by decide)
  have z1 : InP 1 := inP_small (by decide) (by decide)
  have h1 := of_any a b w
  rw [cl_of ia, cl_of ib] at h1
  have h2 := turn_at a b 1 w ia ib
  have h3 := turn_at a b 3 w ia ib
  have k1 : rx (1 % 4 : Int).toNat a b = -b := rfl
  have k2 : ry (1 % 4 : Int).toNat a b = a := rfl
  have k3 : rx (3 % 4 : Int).toNat a b = b := by show - -b = b; omega
  have k4 : ry (3 % 4 : Int).toNat a b = -a := rfl
  rw [k1, k2] at h2
  rw [k3, k4] at h3
  have h4 := add_at a b 0 1 w ia ib z0 z1
  rw [fi0, fi1, Int.add_zero, cl_of ia] at h4
  have h5 := of_any a (b + 1) w
  rw [cl_of ia] at h5
  obtain ⟨r, z, m1, r1, r2⟩ := mul_unit (rep_in ia) (rep_in ib) rep0 rep1 ia ib (Or.inl rfl)
  obtain ⟨s, t, m2, r3, r4⟩ := mul_unit (rep_in ia) (rep_in ib) rep0 repm1 ia ib (Or.inr rfl)
  have p1 := fun t w => run_complex_mul (P := Try.prog) w t _ _ _ _ r z m1
  have p2 := fun y w => run_complex_mul (P := Try.prog) w y _ _ _ _ s t m2
  have nb : InP (-b) := by unfold InP; omega
  have na : InP (-a) := by unfold InP; omega
  have o1 := (rep_in nb).eq r1
  have o2 := (rep_in ia).eq r2
  have o3 := (rep_in ib).eq r3
  have o4 := (rep_in na).eq r4
  have o5 := ord_eq a ia
  have o6 := ord_eq (cl (b + 1)) (inP_cl _)
  rw [decide_eq_true (by omega)] at o1 o2 o3 o4
  have w1 : IntKind.i64.wrap (b + 1) = b + 1 := IntWalk.i64_in _ (by omega)
  have H0 := Lib.hid (alive_any w)
  have H1 := Lib.hid h1
  have H2 := Lib.hid h2
  have H3 := Lib.hid h3
  have H4 := Lib.hid h4
  have H5 := Lib.hid h5
  clear h1 h2 h3 h4 h5 k1 k2 k3 k4 ia ib z0 z1 nb na r1 r2 r3 r4 m1 m2
  go_enter Try.func4, Try.ntmps4
  go_wp2_with fail
  refine H0.out.mono ?_
  rintro e w' ⟨rfl, rfl⟩
  go_wp2_with fail
  refine H1.out.mono ?_
  rintro e w' ⟨rfl, rfl⟩
  go_wp2_with fail
  refine H2.out.mono ?_
  rintro e w' ⟨rfl, rfl⟩
  go_wp2_with fail
  refine H3.out.mono ?_
  rintro e w' ⟨rfl, rfl⟩
  go_wp2_with fail
  refine H4.out.mono ?_
  rintro e w' ⟨rfl, rfl⟩
  go_wp2_with fail
  refine H5.out.mono ?_
  rintro e w' ⟨rfl, rfl⟩
  go_wp2
  go_ret
  exact ⟨rfl, rfl⟩

theorem pointProduct_any (a b : Int) (w : World) :
    Calls Try.prog 4 #[.int .i64 a, .int .i64 b] w fun e w' => e = .returned (.bool true) ∧ w = w' := by
  by_cases h : a ≤ 1099511627776 ∧ -1099511627776 ≤ a ∧ b ≤ 1099511627776 ∧ -1099511627776 ≤ b
  · obtain ⟨g0, g1, g2, g3⟩ := h
    exact pointProduct_in a b w g0 g1 g2 g3
  · exact pointProduct_out a b w (by omega)

end Go.Proofs.Ytaampnccgkcbdaa
