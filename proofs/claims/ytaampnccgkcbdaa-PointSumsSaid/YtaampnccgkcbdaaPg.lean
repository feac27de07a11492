/-
  The walk of PointSums.
-/
import Derived.Test.YtaampnccgkcbdaaPd
namespace Go.Proofs.Ytaampnccgkcbdaa
open Go.ChangeShapes Go.WideShapes Go.ChangeAt Go.RowKit

set_option maxRecDepth 100000 in
set_option maxHeartbeats 2000000 in
theorem pointSums_out (a b c d : Int) (w : World) (ho : (274877906944 < a) ∨ (a ≤ 274877906944 ∧ a < -274877906944) ∨ (a ≤ 274877906944 ∧ -274877906944 ≤ a ∧ 274877906944 < b) ∨ (a ≤ 274877906944 ∧ -274877906944 ≤ a ∧ b ≤ 274877906944 ∧ b < -274877906944) ∨ (a ≤ 274877906944 ∧ -274877906944 ≤ a ∧ b ≤ 274877906944 ∧ -274877906944 ≤ b ∧ 274877906944 < c) ∨ (a ≤ 274877906944 ∧ -274877906944 ≤ a ∧ b ≤ 274877906944 ∧ -274877906944 ≤ b ∧ c ≤ 274877906944 ∧ c < -274877906944) ∨ (a ≤ 274877906944 ∧ -274877906944 ≤ a ∧ b ≤ 274877906944 ∧ -274877906944 ≤ b ∧ c ≤ 274877906944 ∧ -274877906944 ≤ c ∧ 274877906944 < d) ∨ (a ≤ 274877906944 ∧ -274877906944 ≤ a ∧ b ≤ 274877906944 ∧ -274877906944 ≤ b ∧ c ≤ 274877906944 ∧ -274877906944 ≤ c ∧ d ≤ 274877906944 ∧ d < -274877906944)) :
    Calls Try.prog 8 #[.int .i64 a, .int .i64 b, .int .i64 c, .int .i64 d] w fun e w' => e = .returned (.bool true) ∧ w = w' := by
  have H0 := Lib.hid (alive_any w)
  rcases ho with g0 | ⟨g0, g1⟩ | ⟨g0, g1, g2⟩ | ⟨g0, g1, g2, g3⟩ | ⟨g0, g1, g2, g3, g4⟩ | ⟨g0, g1, g2, g3, g4, g5⟩ | ⟨g0, g1, g2, g3, g4, g5, g6⟩ | ⟨g0, g1, g2, g3, g4, g5, g6, g7⟩
  all_goals
    go_enter Try.func8, Try.ntmps8
    go_wp2_with fail
    refine H0.out.mono ?_
    rintro e w' ⟨rfl, rfl⟩
    go_wp2
    go_ret
    exact ⟨rfl, rfl⟩

set_option maxRecDepth 100000 in
set_option maxHeartbeats 2000000 in
theorem pointSums_in (a b c d : Int) (w : World) (g0 : a ≤ 274877906944) (g1 : -274877906944 ≤ a) (g2 : b ≤ 274877906944) (g3 : -274877906944 ≤ b) (g4 : c ≤ 274877906944) (g5 : -274877906944 ≤ c) (g6 : d ≤ 274877906944) (g7 : -274877906944 ≤ d) :
    Calls Try.prog 8 #[.int .i64 a, .int .i64 b, .int .i64 c, .int .i64 d] w fun e w' => e = .returned (.bool true) ∧ w = w' := by
  have ia : InP a := by unfold InP; omega
  have ib : InP b := by unfold InP; omega
  have ic : InP c := by unfold InP; omega
  have jd : InP d := by unfold InP; omega
  have iac : InP (a + c) := by unfold InP; omega
  have ibd : InP (b + d) := by unfold InP; omega
  have z0 : InP 0 := inP_small (by decide) (by decide)
  have h1 := of_any a b w
  rw [cl_of ia, cl_of ib] at h1
  have h2 := of_any c d w
  rw [cl_of ic, cl_of jd] at h2
  have h3 := add_at a b c d w ia ib ic jd
  rw [cl_of iac, cl_of ibd] at h3
  have h4 := sub_at (a + c) (b + d) c d w iac ibd ic jd
  rw [Int.add_sub_cancel, Int.add_sub_cancel, cl_of ia, cl_of ib] at h4
  have h5 := add_at c d a b w ic jd ia ib
  rw [Int.add_comm c a, Int.add_comm d b, cl_of iac, cl_of ibd] at h5
  have h6 := sub_at a b a b w ia ib ia ib
  rw [Int.sub_self, Int.sub_self, cl_of z0, fi0] at h6
  have h7 := far_at (a + c) (b + d) a b w iac ibd ia ib
  have h8 := far_at c d 0 0 w ic jd z0 z0
  have e8 : ((a - (a + c)).natAbs + (b - (b + d)).natAbs : Int) = (0 - c).natAbs + (0 - d).natAbs := by omega
  rw [e8] at h7
  rw [fi0] at h8
  generalize ((0 - c).natAbs + (0 - d).natAbs : Int) = X at h7 h8
  obtain ⟨x, hx, rx⟩ := (rep_in ia).add (rep_in ic) (by omega)
  obtain ⟨y, hy, ry⟩ := (rep_in ib).add (rep_in jd) (by omega)
  have p1 := fun t w => run_complex_sum (P := Try.prog) w .add (Or.inl rfl) t .f64 _ _ _ _ x y (csum_of hx hy)
  have o1 := ord_eq a ia
  have o2 := ord_eq b ib
  have o3 := ord_eq (a + c) iac
  have o4 := ord_eq (b + d) ibd
  have o5 := (rep_in iac).eq rx
  have o6 := (rep_in ibd).eq ry
  have o7 : FloatKind.f64.format.order 0 0 = some .eq := by decide
  rw [decide_eq_true rfl] at o5 o6
  have H0 := Lib.hid (alive_any w)
  have H1 := Lib.hid h1
  have H2 := Lib.hid h2
  have H3 := Lib.hid h3
  have H4 := Lib.hid h4
  have H5 := Lib.hid h5
  have H6 := Lib.hid h6
  have H7 := Lib.hid h7
  have H8 := Lib.hid h8
  clear h1 h2 h3 h4 h5 h6 h7 h8 e8 ia ib ic jd iac ibd z0 rx ry hx hy
  go_enter Try.func8, Try.ntmps8
  go_wp2_with fail
  refine H0.out.mono ?_
  rintro e w' ⟨rfl, rfl⟩
  go_wp2_with fail
  refine H1.out.mono ?_
  rintro e w' ⟨rfl, rfl⟩
  go_wp2_with fail
  refine H2.out.mono ?_
  rintro e w' ⟨rfl, rfl⟩
  go_wp2_with fail
  refine H3.out.mono ?_
  rintro e w' ⟨rfl, rfl⟩
  go_wp2_with fail
  refine H4.out.mono ?_
  rintro e w' ⟨rfl, rfl⟩
  go_wp2_with fail
  refine H3.out.mono ?_
  rintro e w' ⟨rfl, rfl⟩
  go_wp2_with fail
  refine H5.out.mono ?_
  rintro e w' ⟨rfl, rfl⟩
  go_wp2_with fail
  refine H3.out.mono ?_
  rintro e w' ⟨rfl, rfl⟩
  go_wp2_with fail
  refine H6.out.mono ?_
  rintro e w' ⟨rfl, rfl⟩
  go_wp2_with fail
  refine H3.out.mono ?_
  rintro e w' ⟨rfl, rfl⟩
  go_wp2_with fail
  refine H7.out.mono ?_
  rintro e w' ⟨rfl, rfl⟩
  go_wp2_with fail
  refine H8.out.mono ?_
  rintro e w' ⟨rfl, rfl⟩
  go_wp2
  go_ret
  exact ⟨rfl, rfl⟩

theorem pointSums_any (a b c d : Int) (w : World) :
    Calls Try.prog 8 #[.int .i64 a, .int .i64 b, .int .i64 c, .int .i64 d] w fun e w' => e = .returned (.bool true) ∧ w = w' := by
  by_cases h : a ≤ 274877906944 ∧ -274877906944 ≤ a ∧ b ≤ 274877906944 ∧ -274877906944 ≤ b ∧ c ≤ 274877906944 ∧ -274877906944 ≤ c ∧ d ≤ 274877906944 ∧ -274877906944 ≤ d
  · obtain ⟨g0, g1, g2, g3, g4, g5, g6, g7⟩ := h
    exact pointSums_in a b c d w g0 g1 g2 g3 g4 g5 g6 g7
  · exact pointSums_out a b c d w (by omega)

end Go.Proofs.Ytaampnccgkcbdaa
