/-
  The walks of PointNear and PointProduct.
-/
import Derived.Test.YtaampnccgkcbdaaPd
namespace Go.Proofs.Ytaampnccgkcbdaa
open Go.ChangeShapes Go.WideShapes Go.ChangeAt Go.RowKit

theorem step_near (a b c d : Int) :
    (((c - a).natAbs + (d - b).natAbs : Int) = 0 ∧ ((c - stX a b c d).natAbs + (d - stY a b c d).natAbs : Int) = 0 ∨
     ((c - a).natAbs + (d - b).natAbs : Int) ≠ 0 ∧ ((c - stX a b c d).natAbs + (d - stY a b c d).natAbs : Int) = ((c - a).natAbs + (d - b).natAbs : Int) - 1)
    ∧ ((stX a b c d - a).natAbs + (stY a b c d - b).natAbs : Int) ≤ 1 := by
  unfold stX stY
  have h1 := sgn_spec (c - a)
  have h2 := sgn_spec (d - b)
  split <;> omega

set_option maxHeartbeats 1000000 in
theorem pointNear_any (a b c d : Int) (w : World) :
    Calls Try.prog 7 #[.int .i64 a, .int .i64 b, .int .i64 c, .int .i64 d] w fun e w' => e = .returned (.bool true) ∧ w = w' := by
  have h0 := alive_any w
  have h1 := of_any a b w
  have h2 := of_any c d w
  have ia := inP_cl a
  have ib := inP_cl b
  have ic := inP_cl c
  have jd := inP_cl d
  generalize cl a = A at h1 ia
  generalize cl b = B at h1 ib
  generalize cl c = C at h2 ic
  generalize cl d = D at h2 jd
  have hs := st_in A B C D ia ib ic jd
  have g1 := far_at A B C D w ia ib ic jd
  have g2 := step_at A B C D w ia ib ic jd
  have g3 := far_at (stX A B C D) (stY A B C D) C D w hs.1 hs.2 ic jd
  have g4 := far_at A B (stX A B C D) (stY A B C D) w ia ib hs.1 hs.2
  have hn := step_near A B C D
  have b1 : (0 : Int) ≤ (C - A).natAbs + (D - B).natAbs ∧ ((C - A).natAbs + (D - B).natAbs : Int) ≤ 4398046511104 := by unfold InP at *; omega
  clear hs ia ib ic jd
  generalize ((C - A).natAbs + (D - B).natAbs : Int) = X at *
  generalize ((C - stX A B C D).natAbs + (D - stY A B C D).natAbs : Int) = Y at *
  generalize ((stX A B C D - A).natAbs + (stY A B C D - B).natAbs : Int) = Z at *
  generalize stX A B C D = S at *
  generalize stY A B C D = T at *
  have H0 := Lib.hid h0
  have H1 := Lib.hid h1
  have H2 := Lib.hid h2
  have G1 := Lib.hid g1
  have G2 := Lib.hid g2
  have G3 := Lib.hid g3
  have G4 := Lib.hid g4
  obtain ⟨hn, hz⟩ := hn
  clear h0 h1 h2 g1 g2 g3 g4
  rcases hn with ⟨hx, hy⟩ | ⟨hx, hy⟩
  · subst hx hy
    clear b1
    go_enter Try.func7, Try.ntmps7
    go_wp2_with fail
    refine H0.out.mono ?_
    rintro e w' ⟨rfl, rfl⟩
    go_wp2_with fail
    refine H1.out.mono ?_
    rintro e w' ⟨rfl, rfl⟩
    go_wp2_with fail
    refine H2.out.mono ?_
    rintro e w' ⟨rfl, rfl⟩
    go_wp2_with fail
    refine G1.out.mono ?_
    rintro e w' ⟨rfl, rfl⟩
    go_wp2_with fail
    refine G2.out.mono ?_
    rintro e w' ⟨rfl, rfl⟩
    go_wp2_with fail
    refine G3.out.mono ?_
    rintro e w' ⟨rfl, rfl⟩
    go_wp2_with fail
    refine G2.out.mono ?_
    rintro e w' ⟨rfl, rfl⟩
    go_wp2_with fail
    refine G4.out.mono ?_
    rintro e w' ⟨rfl, rfl⟩
    go_wp2
    go_ret
    exact ⟨rfl, rfl⟩
  · subst hy
    have e0 : (X == 0) = false := by simpa using hx
    go_enter Try.func7, Try.ntmps7
    go_wp2_with fail
    refine H0.out.mono ?_
    rintro e w' ⟨rfl, rfl⟩
    go_wp2_with fail
    refine H1.out.mono ?_
    rintro e w' ⟨rfl, rfl⟩
    go_wp2_with fail
    refine H2.out.mono ?_
    rintro e w' ⟨rfl, rfl⟩
    go_wp2_with fail
    refine G1.out.mono ?_
    rintro e w' ⟨rfl, rfl⟩
    go_wp2_with fail
    refine G2.out.mono ?_
    rintro e w' ⟨rfl, rfl⟩
    go_wp2_with fail
    refine G3.out.mono ?_
    rintro e w' ⟨rfl, rfl⟩
    go_wp2_with fail
    refine G2.out.mono ?_
    rintro e w' ⟨rfl, rfl⟩
    go_wp2_with fail
    refine G4.out.mono ?_
    rintro e w' ⟨rfl, rfl⟩
    go_wp2
    go_ret
    exact ⟨rfl, rfl⟩

end Go.Proofs.Ytaampnccgkcbdaa
