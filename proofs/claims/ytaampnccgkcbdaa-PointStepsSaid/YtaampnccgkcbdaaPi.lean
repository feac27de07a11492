/-
  The walk of PointSteps.
-/
import Derived.Test.YtaampnccgkcbdaaPe
namespace Go.Proofs.Ytaampnccgkcbdaa
open Go.ChangeShapes Go.WideShapes Go.ChangeAt Go.RowKit

set_option maxRecDepth 100000 in
set_option maxHeartbeats 4000000 in
theorem pointSteps_out (a b c d : Int) (w : World) (ho : (60 < a) ∨ (a ≤ 60 ∧ a < -60) ∨ (a ≤ 60 ∧ -60 ≤ a ∧ 60 < b) ∨ (a ≤ 60 ∧ -60 ≤ a ∧ b ≤ 60 ∧ b < -60) ∨ (a ≤ 60 ∧ -60 ≤ a ∧ b ≤ 60 ∧ -60 ≤ b ∧ 60 < c) ∨ (a ≤ 60 ∧ -60 ≤ a ∧ b ≤ 60 ∧ -60 ≤ b ∧ c ≤ 60 ∧ c < -60) ∨ (a ≤ 60 ∧ -60 ≤ a ∧ b ≤ 60 ∧ -60 ≤ b ∧ c ≤ 60 ∧ -60 ≤ c ∧ 60 < d) ∨ (a ≤ 60 ∧ -60 ≤ a ∧ b ≤ 60 ∧ -60 ≤ b ∧ c ≤ 60 ∧ -60 ≤ c ∧ d ≤ 60 ∧ d < -60)) :
    Calls Try.prog 6 #[.int .i64 a, .int .i64 b, .int .i64 c, .int .i64 d] w fun e w' => e = .returned (.bool true) ∧ w = w' := by
  have H0 := Lib.hid (alive_any w)
  rcases ho with g0 | ⟨g0, g1⟩ | ⟨g0, g1, g2⟩ | ⟨g0, g1, g2, g3⟩ | ⟨g0, g1, g2, g3, g4⟩ | ⟨g0, g1, g2, g3, g4, g5⟩ | ⟨g0, g1, g2, g3, g4, g5, g6⟩ | ⟨g0, g1, g2, g3, g4, g5, g6, g7⟩
  all_goals
    go_enter Try.func6, Try.ntmps6
    go_wp2_with fail
    refine H0.out.mono ?_
    rintro e w' ⟨rfl, rfl⟩
    go_wp2
    go_ret
    exact ⟨rfl, rfl⟩

set_option maxRecDepth 100000 in
set_option maxHeartbeats 4000000 in
theorem pointSteps_in (a b c d : Int) (w : World) (g0 : a ≤ 60) (g1 : -60 ≤ a) (g2 : b ≤ 60) (g3 : -60 ≤ b) (g4 : c ≤ 60) (g5 : -60 ≤ c) (g6 : d ≤ 60) (g7 : -60 ≤ d) :
    Calls Try.prog 6 #[.int .i64 a, .int .i64 b, .int .i64 c, .int .i64 d] w fun e w' => e = .returned (.bool true) ∧ w = w' := by
  have ia : InP a := by unfold InP; omega
  have ib : InP b := by unfold InP; omega
  have ic : InP c := by unfold InP; omega
  have jd : InP d := by unfold InP; omega
  have h1 := of_any a b w
  rw [cl_of ia, cl_of ib] at h1
  have h2 := of_any c d w
  rw [cl_of ic, cl_of jd] at h2
  have h3 := far_at a b c d w ia ib ic jd
  have hX : ((c - a).natAbs + (d - b).natAbs : Int) ≤ 1000 := by omega
  have hX0 : (0 : Int) ≤ ((c - a).natAbs + (d - b).natAbs : Int) := by omega
  have HC := Lib.hid (And.intro ic jd)
  generalize hx : ((c - a).natAbs + (d - b).natAbs : Int) = X0 at h3 hX hX0
  have HS : Hid (InP a ∧ InP b ∧ X0 = (c - a).natAbs + (d - b).natAbs) := Lib.hid ⟨ia, ib, hx.symm⟩
  have H0 := Lib.hid (alive_any w)
  have H1 := Lib.hid h1
  have H2 := Lib.hid h2
  have H3 := Lib.hid h3
  clear h1 h2 h3 ia ib ic jd hx
  go_enter Try.func6, Try.ntmps6
  go_wp2_with fail
  refine H0.out.mono ?_
  rintro e w' ⟨rfl, rfl⟩
  go_wp2_with fail
  refine H1.out.mono ?_
  rintro e w' ⟨rfl, rfl⟩
  go_wp2_with fail
  refine H2.out.mono ?_
  rintro e w' ⟨rfl, rfl⟩
  go_wp2_with fail
  refine H3.out.mono ?_
  rintro e w' ⟨rfl, rfl⟩
  go_wp2
  go_loop [10, 12] (fun p n => ∃ A B X : Int, Hid (InP A ∧ InP B ∧ X = (c - A).natAbs + (d - B).natAbs) ∧ 0 ≤ X ∧ X ≤ 1000 ∧ p = .complex .f64 (fi A) (fi B) ∧ n = .int .i64 X) (fun _ n => (intOf n).toNat)
  case atStart => exact ⟨a, b, X0, HS, hX0, hX, rfl, rfl⟩
  case round =>
    clear HS hX hX0
    obtain ⟨A, B, X, HA, hx0, hx1, rfl, rfl⟩ := hrel
    have iA := HA.out.1
    have iB := HA.out.2.1
    have eX := HA.out.2.2
    have hst := st_in A B c d iA iB HC.out.1 HC.out.2
    have hs := step_at A B c d w iA iB HC.out.1 HC.out.2
    have hn := step_near A B c d
    have hf := far_at (stX A B c d) (stY A B c d) c d w hst.1 hst.2 HC.out.1 HC.out.2
    by_cases hp : 0 < X
    · have e1 : ((c - stX A B c d).natAbs + (d - stY A B c d).natAbs : Int) = X - 1 := by omega
      rw [e1] at hf
      have HN : Hid (InP (stX A B c d) ∧ InP (stY A B c d) ∧ X - 1 = (c - stX A B c d).natAbs + (d - stY A B c d).natAbs) := Lib.hid ⟨hst.1, hst.2, e1.symm⟩
      have G1 := Lib.hid hs
      have G2 := Lib.hid hf
      have w1 : IntKind.i64.wrap (X - 1) = X - 1 := IntWalk.i64_in _ (by omega)
      clear hs hf hn hst iA iB eX e1 HA
      generalize stX A B c d = S at *
      generalize stY A B c d = T at *
      go_wp2_with fail
      refine G1.out.mono ?_
      rintro e w' ⟨rfl, rfl⟩
      go_wp2_with fail
      refine G2.out.mono ?_
      rintro e w' ⟨rfl, rfl⟩
      go_wp2
      go_round
      case rel => exact ⟨S, T, X - 1, HN, by omega, by omega, rfl, rfl⟩
      case measure => simp [intOf]; omega
    · obtain rfl : X = 0 := by omega
      obtain rfl : A = c := by omega
      obtain rfl : B = d := by omega
      have e1 : stX A B A B = A := by unfold stX; have := sgn_spec (A - A); split <;> omega
      have e2 : stY A B A B = B := by unfold stY; have := sgn_spec (B - B); split <;> omega
      rw [e1, e2] at hs
      have G1 := Lib.hid hs
      have o1 := ord_eq A iA
      have o2 := ord_eq B iB
      clear hs hf hn hst iA iB eX e1 e2 HA
      go_wp2_with fail
      refine G1.out.mono ?_
      rintro e w' ⟨rfl, rfl⟩
      go_wp2
      go_ret
      exact ⟨rfl, rfl⟩

theorem pointSteps_any (a b c d : Int) (w : World) :
    Calls Try.prog 6 #[.int .i64 a, .int .i64 b, .int .i64 c, .int .i64 d] w fun e w' => e = .returned (.bool true) ∧ w = w' := by
  by_cases g0 : a ≤ 60
  case neg => exact pointSteps_out a b c d w (Or.inl (Int.not_le.mp g0))
  by_cases g1 : -60 ≤ a
  case neg => exact pointSteps_out a b c d w (Or.inr (Or.inl (⟨g0, Int.not_le.mp g1⟩)))
  by_cases g2 : b ≤ 60
  case neg => exact pointSteps_out a b c d w (Or.inr (Or.inr (Or.inl (⟨g0, g1, Int.not_le.mp g2⟩))))
  by_cases g3 : -60 ≤ b
  case neg => exact pointSteps_out a b c d w (Or.inr (Or.inr (Or.inr (Or.inl (⟨g0, g1, g2, Int.not_le.mp g3⟩)))))
  by_cases g4 : c ≤ 60
  case neg => exact pointSteps_out a b c d w (Or.inr (Or.inr (Or.inr (Or.inr (Or.inl (⟨g0, g1, g2, g3, Int.not_le.mp g4⟩))))))
  by_cases g5 : -60 ≤ c
  case neg => exact pointSteps_out a b c d w (Or.inr (Or.inr (Or.inr (Or.inr (Or.inr (Or.inl (⟨g0, g1, g2, g3, g4, Int.not_le.mp g5⟩)))))))
  by_cases g6 : d ≤ 60
  case neg => exact pointSteps_out a b c d w (Or.inr (Or.inr (Or.inr (Or.inr (Or.inr (Or.inr (Or.inl (⟨g0, g1, g2, g3, g4, g5, Int.not_le.mp g6⟩))))))))
  by_cases g7 : -60 ≤ d
  case neg => exact pointSteps_out a b c d w (Or.inr (Or.inr (Or.inr (Or.inr (Or.inr (Or.inr (Or.inr (⟨g0, g1, g2, g3, g4, g5, g6, Int.not_le.mp g7⟩))))))))
  exact pointSteps_in a b c d w g0 g1 g2 g3 g4 g5 g6 g7

end Go.Proofs.Ytaampnccgkcbdaa
