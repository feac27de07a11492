/-
  What point.Turn returns at points, in whatever world, which it leaves as it was; and the document's example, as the statements of chapter 2 ask it first.
-/
import Derived.Test.YtaampnccgkcbdaaPb
namespace Go.Proofs.Ytaampnccgkcbdaa
open Go.ChangeShapes Go.WideShapes Go.ChangeAt Go.RowKit

theorem i64_and3 (n : Int) : bits .and .i64 n 3 = n % 4 := by
  have h3 : (BitVec.ofInt 64 3).toNat = 2 ^ 2 - 1 := by decide
  have key : (BitVec.ofInt 64 n &&& BitVec.ofInt 64 3).toNat = (n % ((2 ^ 64 : Nat) : Int)).toNat % 2 ^ 2 := by
    rw [BitVec.toNat_and, BitVec.toNat_ofInt, h3, Nat.and_two_pow_sub_one_eq_mod]
  show IntKind.i64.wrap ((BitVec.ofInt 64 n &&& BitVec.ofInt 64 3).toNat : Nat) = n % 4
  rw [key, IntKind.wrap_i64]
  omega

/-- (a, b) after k quarter turns to the left. -/
def rx : Nat → Int → Int → Int
  | 0, a, _ => a
  | 1, _, b => -b
  | k + 2, a, b => -rx k a b
def ry : Nat → Int → Int → Int
  | 0, _, b => b
  | 1, a, _ => a
  | k + 2, a, b => -ry k a b
theorem r_succ (k : Nat) (a b : Int) : rx (k + 1) a b = -ry k a b ∧ ry (k + 1) a b = rx k a b := by
  induction k using Nat.strongRecOn with
  | _ k ih =>
    match k with
    | 0 => exact ⟨rfl, rfl⟩
    | 1 => exact ⟨rfl, rfl⟩
    | k + 2 =>
      have h := ih k (by omega)
      constructor
      · show -rx (k + 1) a b = - -ry k a b
        rw [h.1]
      · show -ry (k + 1) a b = -rx k a b
        rw [h.2]
theorem r_in (k : Nat) (a b : Int) (ha : InP a) (hb : InP b) : InP (rx k a b) ∧ InP (ry k a b) := by
  induction k with
  | zero => exact ⟨ha, hb⟩
  | succ k ih =>
    rw [(r_succ k a b).1, (r_succ k a b).2]
    unfold InP at *; omega

theorem rep0 : Rep 0 0 := rep_bits (by decide) (by decide)
theorem rep1 : Rep 4607182418800017408 1 := rep_bits (by decide) (by decide)
theorem repm1 : Rep 13830554455654793216 (-1) := rep_bits (by decide) (by decide)

theorem cmul_of {x y u v p q r s t z : Nat} (h1 : floatBits .mul .f64 x u = some p) (h2 : floatBits .mul .f64 y v = some q) (h3 : floatBits .sub .f64 p q = some r)
    (h4 : floatBits .mul .f64 x v = some s) (h5 : floatBits .mul .f64 y u = some t) (h6 : floatBits .add .f64 s t = some z) : cMulBits x y u v = some (r, z) := by
  simp [cMulBits, h1, h2, h3, h4, h5, h6]

theorem mul_unit {x y u v : Nat} {a b d : Int} (hx : Rep x a) (hy : Rep y b) (hu : Rep u 0) (hv : Rep v d) (ha : InP a) (hb : InP b) (hd : d = 1 ∨ d = -1) :
    ∃ r z, cMulBits x y u v = some (r, z) ∧ Rep r (-(b * d)) ∧ Rep z (a * d) := by
  unfold InP at ha hb
  have ba : (a * d).natAbs < 9007199254740992 := by rcases hd with rfl | rfl <;> omega
  have bb : (b * d).natAbs < 9007199254740992 := by rcases hd with rfl | rfl <;> omega
  obtain ⟨p, h1, r1⟩ := hx.mul hu (by omega)
  obtain ⟨q, h2, r2⟩ := hy.mul hv bb
  rw [Int.mul_zero] at r1
  obtain ⟨r, h3, r3⟩ := r1.sub r2 (by omega)
  obtain ⟨s, h4, r4⟩ := hx.mul hv ba
  obtain ⟨t, h5, r5⟩ := hy.mul hu (by omega)
  rw [Int.mul_zero] at r5
  obtain ⟨z, h6, r6⟩ := r4.add r5 (by omega)
  refine ⟨r, z, cmul_of h1 h2 h3 h4 h5 h6, ?_, ?_⟩
  · rw [Int.zero_sub] at r3; exact r3
  · rw [Int.add_zero] at r6; exact r6

set_option maxHeartbeats 1000000 in
theorem turn_at (a b n : Int) (w : World) (ha : InP a) (hb : InP b) :
    Calls Try.prog 11 #[.complex .f64 (fi a) (fi b), .int .i64 n] w fun e w' => e = .returned (.complex .f64 (fi (rx (n % 4).toNat a b)) (fi (ry (n % 4).toNat a b))) ∧ w = w' := by
  have H1 := Lib.hid (orZero_at (fi a) (fi b) a b w (rep_in ha) (rep_in hb) ha.1 ha.2 hb.1 hb.2)
  have e1 := i64_and3 n
  obtain ⟨m, hm, hm4⟩ : ∃ m : Nat, n % 4 = m ∧ m < 4 := ⟨(n % 4).toNat, by omega, by omega⟩
  rw [hm] at e1 ⊢
  rw [Int.toNat_natCast]
  have HR := Lib.hid (fun k : Nat => r_in k a b ha hb)
  have HI := Lib.hid (And.intro (rep_in ha) (rep_in hb))
  clear hm ha hb
  go_enter Try.func11, Try.ntmps11
  go_wp2_with fail
  refine H1.out.mono ?_
  rintro e w' ⟨rfl, rfl⟩
  go_wp2
  go_loop [5, 10] (fun t i => ∃ (k : Nat) (x y : Nat), k ≤ m ∧ i = .int .i64 k ∧ t = .complex .f64 x y ∧ Hid (Rep x (rx k a b) ∧ Rep y (ry k a b))) (fun _ i => m - (intOf i).toNat)
  case atStart => exact ⟨0, _, _, Nat.zero_le _, rfl, rfl, HI⟩
  case round =>
    obtain ⟨k, x, y, hk, rfl, rfl, HX⟩ := hrel
    by_cases hlt : k < m
    · obtain ⟨r, z, hmul, hr, hz⟩ := mul_unit HX.out.1 HX.out.2 rep0 rep1 (HR.out k).1 (HR.out k).2 (Or.inl rfl)
      have hop := fun t w => run_complex_mul (P := Try.prog) w t x y 0 4607182418800017408 r z hmul
      have HN : Hid (Rep r (rx (k + 1) a b) ∧ Rep z (ry (k + 1) a b)) := Lib.hid (by
        rw [(r_succ k a b).1, (r_succ k a b).2]
        rw [Int.mul_one] at hr hz
        exact ⟨hr, hz⟩)
      clear hr hz hmul
      go_wp2
      go_round
      case rel => exact ⟨k + 1, r, z, by omega, by go_num, rfl, HN⟩
      case measure => simp [intOf]; omega
    · obtain rfl : k = m := by omega
      have hlim := limited_at x y _ _ w HX.out.1 HX.out.2
      rw [cl_of (HR.out k).1, cl_of (HR.out k).2] at hlim
      have H3 := Lib.hid hlim
      clear hlim
      go_wp2_with fail
      refine H3.out.mono ?_
      rintro e w' ⟨rfl, rfl⟩
      go_wp2
      go_ret
      exact ⟨rfl, rfl⟩

end Go.Proofs.Ytaampnccgkcbdaa
