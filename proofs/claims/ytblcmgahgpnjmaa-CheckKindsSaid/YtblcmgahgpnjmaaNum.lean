/-
  Plain arithmetic on Lean's integers: what a number comes to when it is limited to 64 bits, with the facts on sums, products and quotients that the contracts of package clamp use. No condition beyond those that each theorem names.
-/
import Derived.IntWalk
namespace Go.Proofs.Ytblcmgahgpnjmaa
open Go.RowKit (wrap64)

/-- A number limited to the range of 64 bits. -/
def lim (n : Int) : Int := if n < -9223372036854775808 then -9223372036854775808 else if 9223372036854775807 < n then 9223372036854775807 else n
def In64 (n : Int) : Prop := -9223372036854775808 ≤ n ∧ n ≤ 9223372036854775807
def divI (a b : Int) : Int := if b = 0 then 0 else lim (a.tdiv b)
def withinI (n lo hi : Int) : Int := if n < lo ∨ hi < lo then lo else if hi < n then hi else n

theorem lim_lo {n : Int} (h : n < -9223372036854775808) : lim n = -9223372036854775808 := by unfold lim; rw [if_pos h]
theorem lim_hi {n : Int} (h : 9223372036854775807 < n) : lim n = 9223372036854775807 := by unfold lim; rw [if_neg (by omega), if_pos h]
theorem lim_in {n : Int} (h1 : -9223372036854775808 ≤ n) (h2 : n ≤ 9223372036854775807) : lim n = n := by unfold lim; rw [if_neg (by omega), if_neg (by omega)]
theorem lim_range (n : Int) : -9223372036854775808 ≤ lim n ∧ lim n ≤ 9223372036854775807 := by unfold lim; split <;> (try split) <;> omega
theorem lim_mono {a b : Int} (h : a ≤ b) : lim a ≤ lim b := by unfold lim; repeat' split <;> omega

theorem tdiv_abs_le (x y : Int) : (x.tdiv y).natAbs ≤ x.natAbs := by
  rw [Int.natAbs_tdiv]; exact Nat.div_le_self _ _

theorem lim_zero : lim 0 = 0 := by decide
theorem mul_least : lim (-9223372036854775808 * -1) = 9223372036854775807 := by decide
theorem div_zero (a : Int) : divI a 0 = 0 := by unfold divI; rw [if_pos rfl]
theorem div_least : divI (-9223372036854775808) (-1) = 9223372036854775807 := by decide
/-- The quotient that Go computes, where it is within 64 bits. -/
theorem quo_range (a b : Int) (h1 : -9223372036854775808 ≤ a) (h2 : a ≤ 9223372036854775807) (hb : b ≠ 0) (hm : ¬ (a ≤ -9223372036854775808 ∧ b = -1)) :
    -9223372036854775808 ≤ a.tdiv b ∧ a.tdiv b ≤ 9223372036854775807 := by
  have h := tdiv_abs_le a b
  by_cases ha : a = -9223372036854775808
  · by_cases hb1 : b = 1
    · subst ha hb1; decide
    · have hab : (a.tdiv b).natAbs ≤ a.natAbs / 2 := by
        rw [Int.natAbs_tdiv]
        exact Nat.div_le_div_left (by omega) (by omega)
      omega
  · omega
theorem quo_in (a b : Int) (h1 : -9223372036854775808 ≤ a) (h2 : a ≤ 9223372036854775807) (hb : b ≠ 0) (hm : ¬ (a ≤ -9223372036854775808 ∧ b = -1)) :
    wrap64 (a.tdiv b) = divI a b := by
  have h := quo_range a b h1 h2 hb hm
  unfold divI
  rw [if_neg hb, lim_in h.1 h.2]; unfold wrap64; omega

theorem mul_same (a b p : Int) (hin : -9223372036854775808 ≤ a * b ∧ a * b ≤ 9223372036854775807) (hp : IntKind.i64.wrap (a * b) = p) : p = lim (a * b) := by
  rw [IntWalk.i64_in _ hin] at hp; rw [lim_in hin.1 hin.2]; exact hp.symm
theorem mul_back (a b p : Int) (ha1 : -9223372036854775808 ≤ a) (ha2 : a ≤ 9223372036854775807) (hb : b ≠ 0) (hin : -9223372036854775808 ≤ a * b ∧ a * b ≤ 9223372036854775807)
    (hp : IntKind.i64.wrap (a * b) = p) : IntKind.i64.wrap (p.tdiv b) = a := by
  rw [IntWalk.i64_in _ hin] at hp; subst hp
  rw [Int.mul_tdiv_cancel _ hb]; exact IntWalk.i64_in _ ⟨ha1, ha2⟩
theorem wrap_range (n : Int) : -9223372036854775808 ≤ IntKind.i64.wrap n ∧ IntKind.i64.wrap n ≤ 9223372036854775807 := by rw [IntKind.wrap_i64]; omega
theorem mul_over (a b p : Int) (hb1 : -9223372036854775808 ≤ b) (hb2 : b ≤ 9223372036854775807) (hb : b ≠ 0) (hm : ¬ (a = -9223372036854775808 ∧ b = -1))
    (ha1 : -9223372036854775808 ≤ a) (ha2 : a ≤ 9223372036854775807)
    (hin : ¬ (-9223372036854775808 ≤ a * b ∧ a * b ≤ 9223372036854775807)) (hp : IntKind.i64.wrap (a * b) = p) : IntKind.i64.wrap (p.tdiv b) ≠ a := by
  have hr := wrap_range (a * b)
  rw [hp] at hr
  have hpm : ¬ (p ≤ -9223372036854775808 ∧ b = -1) := by
    rintro ⟨_, rfl⟩
    omega
  have hq := quo_range p b hr.1 hr.2 hb hpm
  rw [IntWalk.i64_in _ hq]
  intro he
  have h1 := Int.mul_tdiv_add_tmod p b
  rw [he, Int.mul_comm b a] at h1
  have h2 : (p.tmod b).natAbs < b.natAbs := by
    rw [Int.natAbs_tmod]; exact Nat.mod_lt _ (by omega)
  rw [IntKind.wrap_i64] at hp
  omega
theorem mul_sign_pos {a b : Int} (h : 0 ≤ a * b) (hin : ¬ (-9223372036854775808 ≤ a * b ∧ a * b ≤ 9223372036854775807)) : 9223372036854775807 = lim (a * b) := (lim_hi (by omega)).symm
theorem mul_sign_neg {a b : Int} (h : a * b ≤ 0) (hin : ¬ (-9223372036854775808 ≤ a * b ∧ a * b ≤ 9223372036854775807)) : -9223372036854775808 = lim (a * b) := (lim_lo (by omega)).symm

theorem lim_low {n : Int} (h : n ≤ -9223372036854775808) : lim n = -9223372036854775808 := by
  unfold lim; split
  · rfl
  · rw [if_neg (by omega)]; omega
theorem within_lo (n lo hi : Int) : lo ≤ withinI n lo hi := by unfold withinI; repeat' split <;> omega
theorem within_hi (n lo hi : Int) : hi < lo ∨ withinI n lo hi ≤ hi := by unfold withinI; repeat' split <;> omega
theorem within_idem (n lo hi : Int) : withinI (withinI n lo hi) lo hi = withinI n lo hi := by unfold withinI; repeat' split <;> omega
theorem div_in (a b : Int) (hb : b ≠ 0) (h : -9223372036854775808 ≤ a.tdiv b ∧ a.tdiv b ≤ 9223372036854775807) : divI a b = a.tdiv b := by
  unfold divI; rw [if_neg hb, lim_in h.1 h.2]
theorem rest_eq (a b : Int) : a - a.tdiv b * b = a.tmod b := by
  have := Int.mul_tdiv_add_tmod a b
  rw [Int.mul_comm b] at this; omega
theorem tmod_abs (a b : Int) : (a.tmod b).natAbs ≤ a.natAbs := by rw [Int.natAbs_tmod]; exact Nat.mod_le _ _
theorem rest_sign (a b : Int) : a - a.tdiv b * b = 0 ∨ (a - a.tdiv b * b < 0 ∧ a < 0) ∨ (0 < a - a.tdiv b * b ∧ 0 ≤ a) := by
  rw [rest_eq]
  rcases Int.lt_or_le a 0 with h | h
  · have h2 := Int.tmod_nonneg (a := -a) b (by omega); rw [Int.neg_tmod] at h2; omega
  · have := Int.tmod_nonneg b h; omega
theorem back_range (a b : Int) (ha1 : -9223372036854775808 ≤ a) (ha2 : a ≤ 9223372036854775807) :
    -9223372036854775808 ≤ a.tdiv b * b ∧ a.tdiv b * b ≤ 9223372036854775807 := by
  have h1 := rest_eq a b
  have h2 := tmod_abs a b
  have h3 := rest_sign a b
  omega
theorem rest_range (a b : Int) (ha1 : -9223372036854775808 ≤ a) (ha2 : a ≤ 9223372036854775807) (hb : b ≠ 0) (ham : a ≠ -9223372036854775808) :
    -9223372036854775808 ≤ a - a.tdiv b * b ∧ a - a.tdiv b * b ≤ 9223372036854775807 ∧ (a - a.tdiv b * b).natAbs < b.natAbs := by
  rw [rest_eq]
  have h2 := tmod_abs a b
  have h3 : (a.tmod b).natAbs < b.natAbs := by rw [Int.natAbs_tmod]; exact Nat.mod_lt _ (by omega)
  omega

theorem mul_small (a b : Int) (h1 : -1073741824 ≤ a) (h2 : a ≤ 1073741824) (h3 : -1073741824 ≤ b) (h4 : b ≤ 1073741824) :
    -1152921504606846976 ≤ a * b ∧ a * b ≤ 1152921504606846976 := by
  have h : (a * b).natAbs ≤ 1073741824 * 1073741824 := by rw [Int.natAbs_mul]; exact Nat.mul_le_mul (by omega) (by omega)
  omega

end Go.Proofs.Ytblcmgahgpnjmaa
