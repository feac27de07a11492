/-
  What clamp.Mul and the document's own Mul return: the product limited to 64 bits, for any two ints, in whatever world, which they leave as it was.
-/
import Derived.Test.YtjaonpkmbjbfbaaAdd
import Derived.Lib.Hide
namespace Go.Proofs.Ytjaonpkmbjbfbaa
open Go.ChangeShapes Go.WideShapes Go.ChangeAt Go.RowKit

set_option maxHeartbeats 1000000 in
theorem mul_any (a b : Int) (w : World) (ha1 : -9223372036854775808 ≤ a) (ha2 : a ≤ 9223372036854775807) (hb1 : -9223372036854775808 ≤ b) (hb2 : b ≤ 9223372036854775807) :
    Calls Try.prog 13 #[.int .i64 a, .int .i64 b] w fun e w' => e = .returned (.int .i64 (lim (a * b))) ∧ w = w' := by
  by_cases ha : a = 0
  · subst ha
    go_enter Try.func13, Try.ntmps13
    go_wp2
    go_ret
    exact ⟨ret_int (by rw [Int.zero_mul]; exact lim_zero.symm), rfl⟩
  by_cases hb : b = 0
  · subst hb
    go_enter Try.func13, Try.ntmps13
    go_wp2
    go_ret
    exact ⟨ret_int (by rw [Int.mul_zero]; exact lim_zero.symm), rfl⟩
  by_cases hm : a = -9223372036854775808 ∧ b = -1
  · obtain ⟨rfl, rfl⟩ := hm
    go_enter Try.func13, Try.ntmps13
    go_wp2
    all_goals
      go_ret
      exact ⟨ret_int mul_least.symm, rfl⟩
  have ea : (a == 0) = false := by simpa using ha
  have eb : (b == 0) = false := by simpa using hb
  obtain ⟨p, hp⟩ : ∃ p, IntKind.i64.wrap (a * b) = p := ⟨_, rfl⟩
  by_cases hin : -9223372036854775808 ≤ a * b ∧ a * b ≤ 9223372036854775807
  · have hm2 : ¬ (a = -1 ∧ b = -9223372036854775808) := by rintro ⟨rfl, rfl⟩; omega
    have hq : IntKind.i64.wrap (p.tdiv b) = a := mul_back a b p ha1 ha2 hb hin hp
    have HP := Lib.hid (mul_same a b p hin hp)
    clear hin
    cases e1 : (a == -9223372036854775808) <;> cases e2 : (b == -1) <;> cases e3 : (a == -1) <;> cases e4 : (b == -9223372036854775808)
    all_goals first
      | (exfalso; simp only [beq_iff_eq, beq_eq_false_iff_ne] at e1 e2 e3 e4; omega)
      | (clear hm hm2
         go_enter Try.func13, Try.ntmps13
         go_wp2
         go_ret
         exact ⟨ret_int HP.out, rfl⟩)
  · obtain ⟨q, hq⟩ : ∃ q, IntKind.i64.wrap (p.tdiv b) = q := ⟨_, rfl⟩
    have hqa : (q == a) = false := by
      have := mul_over a b p hb1 hb2 hb hm ha1 ha2 hin hp
      rw [hq] at this; simpa using this
    have hqn : (q != a) = true := by simp [bne, hqa]
    have e1 : (a == -9223372036854775808 && b == -1) = false := by
      cases h1 : (a == -9223372036854775808) <;> cases h2 : (b == -1) <;> simp_all
    have HI := Lib.hid hin
    clear hin hm
    by_cases hsa : a < 0 <;> by_cases hsb : b < 0
    · have HL := Lib.hid (mul_sign_pos (Int.mul_nonneg_of_nonpos_of_nonpos (by omega) (by omega)) HI.out)
      cases e2 : (a == -9223372036854775808) <;> cases e3 : (b == -1)
      all_goals first
        | (exfalso; rw [e2, e3] at e1; exact absurd e1 (by decide))
        | (clear e1
           go_enter Try.func13, Try.ntmps13
           go_wp2
           go_ret
           exact ⟨ret_int HL.out, rfl⟩)
    · have HL := Lib.hid (mul_sign_neg (Int.mul_nonpos_of_nonpos_of_nonneg (by omega) (by omega)) HI.out)
      have e3 : (b == -1) = false := by simp; omega
      cases e2 : (a == -9223372036854775808)
      all_goals
        clear e1
        go_enter Try.func13, Try.ntmps13
        go_wp2
        go_ret
        exact ⟨ret_int HL.out, rfl⟩
    · have HL := Lib.hid (mul_sign_neg (Int.mul_nonpos_of_nonneg_of_nonpos (by omega) (by omega)) HI.out)
      have e2 : (a == -9223372036854775808) = false := by simp; omega
      clear e1
      go_enter Try.func13, Try.ntmps13
      go_wp2
      go_ret
      exact ⟨ret_int HL.out, rfl⟩
    · have HL := Lib.hid (mul_sign_pos (Int.mul_nonneg (by omega) (by omega)) HI.out)
      have e2 : (a == -9223372036854775808) = false := by simp; omega
      clear e1
      go_enter Try.func13, Try.ntmps13
      go_wp2
      go_ret
      exact ⟨ret_int HL.out, rfl⟩

set_option maxHeartbeats 1000000 in
theorem refMul_any (a b : Int) (w : World) (ha1 : -9223372036854775808 ≤ a) (ha2 : a ≤ 9223372036854775807) (hb1 : -9223372036854775808 ≤ b) (hb2 : b ≤ 9223372036854775807) :
    Calls Try.prog 14 #[.int .i64 a, .int .i64 b] w fun e w' => e = .returned (.int .i64 (lim (a * b))) ∧ w = w' := by
  by_cases ha : a = 0
  · subst ha
    go_enter Try.func14, Try.ntmps14
    go_wp2
    go_ret
    exact ⟨ret_int (by rw [Int.zero_mul]; exact lim_zero.symm), rfl⟩
  by_cases hb : b = 0
  · subst hb
    go_enter Try.func14, Try.ntmps14
    go_wp2
    go_ret
    exact ⟨ret_int (by rw [Int.mul_zero]; exact lim_zero.symm), rfl⟩
  by_cases hm : a = -9223372036854775808 ∧ b = -1
  · obtain ⟨rfl, rfl⟩ := hm
    go_enter Try.func14, Try.ntmps14
    go_wp2
    all_goals
      go_ret
      exact ⟨ret_int mul_least.symm, rfl⟩
  have ea : (a == 0) = false := by simpa using ha
  have eb : (b == 0) = false := by simpa using hb
  obtain ⟨p, hp⟩ : ∃ p, IntKind.i64.wrap (a * b) = p := ⟨_, rfl⟩
  by_cases hin : -9223372036854775808 ≤ a * b ∧ a * b ≤ 9223372036854775807
  · have hm2 : ¬ (a = -1 ∧ b = -9223372036854775808) := by rintro ⟨rfl, rfl⟩; omega
    have hq : IntKind.i64.wrap (p.tdiv b) = a := mul_back a b p ha1 ha2 hb hin hp
    have HP := Lib.hid (mul_same a b p hin hp)
    clear hin
    cases e1 : (a == -9223372036854775808) <;> cases e2 : (b == -1) <;> cases e3 : (a == -1) <;> cases e4 : (b == -9223372036854775808)
    all_goals first
      | (exfalso; simp only [beq_iff_eq, beq_eq_false_iff_ne] at e1 e2 e3 e4; omega)
      | (clear hm hm2
         go_enter Try.func14, Try.ntmps14
         go_wp2
         go_ret
         exact ⟨ret_int HP.out, rfl⟩)
  · obtain ⟨q, hq⟩ : ∃ q, IntKind.i64.wrap (p.tdiv b) = q := ⟨_, rfl⟩
    have hqa : (q == a) = false := by
      have := mul_over a b p hb1 hb2 hb hm ha1 ha2 hin hp
      rw [hq] at this; simpa using this
    have hqn : (q != a) = true := by simp [bne, hqa]
    have e1 : (a == -9223372036854775808 && b == -1) = false := by
      cases h1 : (a == -9223372036854775808) <;> cases h2 : (b == -1) <;> simp_all
    have HI := Lib.hid hin
    clear hin hm
    by_cases hsa : a < 0 <;> by_cases hsb : b < 0
    · have HL := Lib.hid (mul_sign_pos (Int.mul_nonneg_of_nonpos_of_nonpos (by omega) (by omega)) HI.out)
      cases e2 : (a == -9223372036854775808) <;> cases e3 : (b == -1)
      all_goals first
        | (exfalso; rw [e2, e3] at e1; exact absurd e1 (by decide))
        | (clear e1
           go_enter Try.func14, Try.ntmps14
           go_wp2
           go_ret
           exact ⟨ret_int HL.out, rfl⟩)
    · have HL := Lib.hid (mul_sign_neg (Int.mul_nonpos_of_nonpos_of_nonneg (by omega) (by omega)) HI.out)
      have e3 : (b == -1) = false := by simp; omega
      cases e2 : (a == -9223372036854775808)
      all_goals
        clear e1
        go_enter Try.func14, Try.ntmps14
        go_wp2
        go_ret
        exact ⟨ret_int HL.out, rfl⟩
    · have HL := Lib.hid (mul_sign_neg (Int.mul_nonpos_of_nonneg_of_nonpos (by omega) (by omega)) HI.out)
      have e2 : (a == -9223372036854775808) = false := by simp; omega
      clear e1
      go_enter Try.func14, Try.ntmps14
      go_wp2
      go_ret
      exact ⟨ret_int HL.out, rfl⟩
    · have HL := Lib.hid (mul_sign_pos (Int.mul_nonneg (by omega) (by omega)) HI.out)
      have e2 : (a == -9223372036854775808) = false := by simp; omega
      clear e1
      go_enter Try.func14, Try.ntmps14
      go_wp2
      go_ret
      exact ⟨ret_int HL.out, rfl⟩

end Go.Proofs.Ytjaonpkmbjbfbaa
