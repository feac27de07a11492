/-
  Floats that stand for whole numbers below 2^53: what +, -, *, the comparisons and the conversions to int give on them. Plain arithmetic over Ieee; no program.
-/
import Derived.Laws.ComplexArith
namespace Go.Proofs.Yteacpfknfbmjkaa
open Ieee

/-- The integer of a sign and a magnitude. -/
def sv (s : Bool) (k : Nat) : Int := if s then -(k : Int) else (k : Int)
/-- The word of a sign and a whole number. -/
def fw (s : Bool) (k : Nat) : Nat := double.write (.number s k 0)

theorem sv_natAbs (s : Bool) (k : Nat) : (sv s k).natAbs = k := by cases s <;> simp [sv]
theorem sv_not (s : Bool) (k : Nat) : sv (!s) k = -sv s k := by cases s <;> simp [sv]
theorem sv_pow (s : Bool) (k u : Nat) : sv s (k * 2 ^ u) = sv s k * 2 ^ u := by
  cases s <;> simp [sv, Int.neg_mul]
theorem sv_mul (s t : Bool) (k l : Nat) : sv (s ^^ t) (k * l) = sv s k * sv t l := by
  cases s <;> cases t <;> simp [sv, Int.neg_mul, Int.mul_neg]
theorem signed_sv (s : Bool) (m u : Nat) : signed s m u = sv s (m * 2 ^ u) := by
  cases s <;> simp [signed, sv, Nat.shiftLeft_eq]

theorem log2_shift (z M : Nat) (h : z ≠ 0) : (z * 2 ^ M).log2 = z.log2 + M := by
  have hp : 0 < 2 ^ M := Nat.two_pow_pos M
  have hz : z * 2 ^ M ≠ 0 := Nat.mul_ne_zero h (by omega)
  rw [Nat.log2_eq_iff hz]
  have h1 := Nat.log2_self_le h
  have h2 := @Nat.lt_log2_self z
  constructor
  · rw [Nat.pow_add]; exact Nat.mul_le_mul_right _ h1
  · rw [show z.log2 + M + 1 = (z.log2 + 1) + M from by omega, Nat.pow_add]
    exact Nat.mul_lt_mul_of_pos_right h2 hp

theorem cut_exact (way : Toward) (s : Bool) (n d : Nat) : way.cut s (n * 2 ^ d) d = n := by
  have key : n * 2 ^ d / (1 <<< min d ((n * 2 ^ d).log2 + 2)) = n ∧ n * 2 ^ d % (1 <<< min d ((n * 2 ^ d).log2 + 2)) = 0 := by
    by_cases h : n = 0
    · subst h; simp
    · have : min d ((n * 2 ^ d).log2 + 2) = d := by rw [log2_shift n d h]; omega
      rw [this, Nat.shiftLeft_eq, Nat.one_mul]
      exact ⟨Nat.mul_div_cancel _ (Nat.two_pow_pos d), Nat.mul_mod_left _ _⟩
  have hg : 0 < 1 <<< min d ((n * 2 ^ d).log2 + 2) := by rw [Nat.shiftLeft_eq, Nat.one_mul]; exact Nat.two_pow_pos _
  unfold Toward.cut
  dsimp only
  rw [key.1, key.2]
  generalize 1 <<< min d ((n * 2 ^ d).log2 + 2) = g at hg
  cases way <;> simp
  · omega

theorem log2_le52 {z : Nat} (h : z ≠ 0) (hb : z < 9007199254740992) : z.log2 ≤ 52 := by
  have := (Nat.log2_lt h (k := 53)).2 (by simpa using hb)
  omega

theorem span52 {z : Nat} (h : z ≠ 0) (hb : z < 9007199254740992) : 4503599627370496 ≤ z * 2 ^ (52 - z.log2) ∧ z * 2 ^ (52 - z.log2) < 9007199254740992 := by
  have hl := log2_le52 h hb
  have h1 := Nat.log2_self_le h
  have h2 := @Nat.lt_log2_self z
  have e1 : 2 ^ z.log2 * 2 ^ (52 - z.log2) = 4503599627370496 := by
    rw [← Nat.pow_add, show z.log2 + (52 - z.log2) = 52 from by omega]
  have e2 : 2 ^ (z.log2 + 1) * 2 ^ (52 - z.log2) = 9007199254740992 := by
    rw [← Nat.pow_add, show z.log2 + 1 + (52 - z.log2) = 53 from by omega]
  constructor
  · rw [← e1]; exact Nat.mul_le_mul_right _ h1
  · rw [← e2]; exact Nat.mul_lt_mul_of_pos_right h2 (Nat.two_pow_pos _)

theorem near_exact (s : Bool) (z M : Nat) (h : z ≠ 0) (hb : z < 9007199254740992) :
    double.nearest s (z * 2 ^ M) (-(M : Int)) = double.word s ((1022 + z.log2) * 4503599627370496 + z * 2 ^ (52 - z.log2)) := by
  have hz : z * 2 ^ M ≠ 0 := Nat.mul_ne_zero h (by have := Nat.two_pow_pos M; omega)
  have hl := log2_le52 h hb
  have hs := span52 h hb
  have lp : double.leastPlace = -1074 := by decide
  have fb : double.fractionBits = 52 := rfl
  have bi : double.binade = 4503599627370496 := by decide
  have ir : double.infRung = 9218868437227405312 := by decide
  unfold Format.nearest
  rw [if_neg hz]
  dsimp only
  rw [log2_shift z M h, lp, fb, bi, ir]
  have el : max (-(M : Int) + ((z.log2 + M : Nat) : Int) - ((52 : Nat) : Int)) (-1074) = (z.log2 : Int) - 52 := by omega
  rw [el]
  have ek : Toward.even.cut s ((z * 2 ^ M) <<< (-(M : Int) - ((z.log2 : Int) - 52)).toNat) ((z.log2 : Int) - 52 - -(M : Int)).toNat = z * 2 ^ (52 - z.log2) := by
    by_cases hc : 52 ≤ z.log2 + M
    · have q1 : (-(M : Int) - ((z.log2 : Int) - 52)).toNat = 0 := by omega
      have q2 : ((z.log2 : Int) - 52 - -(M : Int)).toNat = z.log2 + M - 52 := by omega
      rw [q1, q2, Nat.shiftLeft_zero]
      have : z * 2 ^ M = z * 2 ^ (52 - z.log2) * 2 ^ (z.log2 + M - 52) := by
        rw [Nat.mul_assoc, ← Nat.pow_add, show 52 - z.log2 + (z.log2 + M - 52) = M from by omega]
      rw [this]
      exact cut_exact _ _ _ _
    · have q1 : (-(M : Int) - ((z.log2 : Int) - 52)).toNat = 52 - z.log2 - M := by omega
      have q2 : ((z.log2 : Int) - 52 - -(M : Int)).toNat = 0 := by omega
      rw [q1, q2, Nat.shiftLeft_eq, Nat.mul_assoc, ← Nat.pow_add, show M + (52 - z.log2 - M) = 52 - z.log2 from by omega]
      have := cut_exact .even s (z * 2 ^ (52 - z.log2)) 0
      simpa using this
  rw [ek]
  have q3 : ((z.log2 : Int) - 52 - -1074).toNat = 1022 + z.log2 := by omega
  rw [q3, Nat.min_eq_left (by omega)]

theorem write_scaled (s : Bool) (z M : Nat) (hb : z < 9007199254740992) : double.write (.number s (z * 2 ^ M) (-(M : Int))) = fw s z := by
  by_cases h : z = 0
  · subst h; simp [fw, Format.write, Format.nearest]
  · unfold fw Format.write
    dsimp only
    rw [near_exact s z M h hb]
    have := near_exact s z 0 h hb
    simpa using this.symm

theorem read_word (s : Bool) (L y : Nat) (hL : L ≤ 52) (h1 : 4503599627370496 ≤ y) (h2 : y < 9007199254740992) :
    double.read (double.word s ((1022 + L) * 4503599627370496 + y)) = .number s y (-((52 - L : Nat) : Int)) := by
  have lp : double.leastPlace = -1074 := by decide
  have sw : double.signWeight = 9223372036854775808 := by decide
  have bi : double.binade = 4503599627370496 := by decide
  have ir : double.infRung = 9218868437227405312 := by decide
  obtain ⟨r, hr⟩ : ∃ r, (1022 + L) * 4503599627370496 + y = r := ⟨_, rfl⟩
  have hrr : r < 9223372036854775808 := by omega
  have d1 : double.word s r / 9223372036854775808 % 2 = s.toNat := by
    unfold Format.word; rw [sw]; cases s <;> simp <;> omega
  have d2 : double.word s r % 9223372036854775808 = r := by
    unfold Format.word; rw [sw]; cases s <;> simp <;> omega
  rw [hr]
  unfold Format.read
  dsimp only
  rw [sw, bi, ir, lp, d1, d2]
  have n1 : ¬ r < 4503599627370496 := by omega
  have n2 : r < 9218868437227405312 := by omega
  have n3 : 4503599627370496 + r % 4503599627370496 = y := by omega
  have n4 : r / 4503599627370496 = 1023 + L := by omega
  rw [if_neg n1, if_pos n2, n3, n4]
  have n5 : (-1074 : Int) + ((1023 + L - 1 : Nat) : Int) = -((52 - L : Nat) : Int) := by omega
  rw [n5]
  cases s <;> rfl

theorem read_fw (s : Bool) (z : Nat) (hb : z < 9007199254740992) : ∃ e : Nat, double.read (fw s z) = .number s (z * 2 ^ e) (-(e : Int)) := by
  by_cases h : z = 0
  · subst h
    obtain ⟨e, he⟩ : ∃ e : Nat, e = 1074 := ⟨_, rfl⟩
    refine ⟨e, ?_⟩
    have : double.read (fw s 0) = .number s 0 (-1074) := by cases s <;> decide
    rw [this, Nat.zero_mul, he]
    rfl
  · refine ⟨52 - z.log2, ?_⟩
    have e : fw s z = double.word s ((1022 + z.log2) * 4503599627370496 + z * 2 ^ (52 - z.log2)) := by
      have := near_exact s z 0 h hb
      simpa [fw, Format.write] using this
    rw [e]
    have hs := span52 h hb
    exact read_word s z.log2 _ (log2_le52 h hb) hs.1 hs.2

theorem up_left (e f : Nat) : (-(e : Int) - min (-(e : Int)) (-(f : Int))).toNat = max e f - e := by omega
theorem up_right (e f : Nat) : (-(f : Int) - min (-(e : Int)) (-(f : Int))).toNat = max e f - f := by omega
theorem base_max (e f : Nat) : min (-(e : Int)) (-(f : Int)) = -((max e f : Nat) : Int) := by omega

theorem scale_to (k e m : Nat) (h : e ≤ m) : k * 2 ^ e * 2 ^ (m - e) = k * 2 ^ m := by
  rw [Nat.mul_assoc, ← Nat.pow_add, show e + (m - e) = m from by omega]

theorem sum_num (s t : Bool) (k l e f : Nat) : Datum.sum (.number s (k * 2 ^ e) (-(e : Int))) (.number t (l * 2 ^ f) (-(f : Int)))
    = some (.number (if sv s k + sv t l = 0 then s && t else decide (sv s k + sv t l < 0)) ((sv s k + sv t l).natAbs * 2 ^ (max e f)) (-((max e f : Nat) : Int))) := by
  unfold Datum.sum
  dsimp only
  rw [up_left, up_right, signed_sv, signed_sv, scale_to k e _ (Nat.le_max_left ..), scale_to l f _ (Nat.le_max_right ..), sv_pow, sv_pow, ← Int.add_mul, base_max]
  have hp : (0 : Int) < 2 ^ max e f := Int.pow_pos (by decide)
  generalize sv s k + sv t l = z
  have c0 : z * 2 ^ max e f = 0 ↔ z = 0 := by
    constructor
    · intro h; rcases Int.mul_eq_zero.1 h with h | h
      · exact h
      · omega
    · rintro rfl; simp
  have c1 : z * 2 ^ max e f < 0 ↔ z < 0 := by
    constructor
    · intro h
      rcases Int.lt_trichotomy z 0 with g | g | g
      · exact g
      · subst g; simp at h
      · have := Int.mul_pos g hp; omega
    · intro h; exact Int.mul_neg_of_neg_of_pos h hp
  have c2 : (z * 2 ^ max e f).natAbs = z.natAbs * 2 ^ max e f := by
    rw [Int.natAbs_mul, Int.natAbs_pow]; rfl
  rw [c2]
  simp only [c0, c1]

/-- A word that stands for the whole number n (either zero for 0). -/
def Rep (x : Nat) (n : Int) : Prop := ∃ s : Bool, x = fw s n.natAbs ∧ sv s n.natAbs = n ∧ n.natAbs < 9007199254740992

theorem Rep.sum_some {s t : Bool} {a b : Int} (ha : sv s a.natAbs = a) (hb : sv t b.natAbs = b) (h : (a + b).natAbs < 9007199254740992) (e f : Nat) :
    ∃ r, ((Datum.sum (.number s (a.natAbs * 2 ^ e) (-(e : Int))) (.number t (b.natAbs * 2 ^ f) (-(f : Int)))).map double.write) = some r ∧ Rep r (a + b) := by
  rw [sum_num, ha, hb]
  refine ⟨_, rfl, (if a + b = 0 then s && t else decide (a + b < 0)), write_scaled _ _ _ h, ?_, h⟩
  by_cases h0 : a + b = 0
  · rw [if_pos h0, h0]; cases (s && t) <;> rfl
  · rw [if_neg h0]
    by_cases h1 : a + b < 0
    · simp [h1, sv]; omega
    · simp [h1, sv]; omega

theorem Rep.add {x y : Nat} {a b : Int} (hx : Rep x a) (hy : Rep y b) (h : (a + b).natAbs < 9007199254740992) : ∃ r, floatBits .add .f64 x y = some r ∧ Rep r (a + b) := by
  obtain ⟨s, rfl, ha, ha'⟩ := hx
  obtain ⟨t, rfl, hb, hb'⟩ := hy
  obtain ⟨e, he⟩ := read_fw s _ ha'
  obtain ⟨f, hf⟩ := read_fw t _ hb'
  show ∃ r, ((double.read _).sum (double.read _)).map double.write = some r ∧ _
  rw [he, hf]
  exact Rep.sum_some ha hb h e f

theorem Rep.sub {x y : Nat} {a b : Int} (hx : Rep x a) (hy : Rep y b) (h : (a - b).natAbs < 9007199254740992) : ∃ r, floatBits .sub .f64 x y = some r ∧ Rep r (a - b) := by
  obtain ⟨s, rfl, ha, ha'⟩ := hx
  obtain ⟨t, rfl, hb, hb'⟩ := hy
  obtain ⟨e, he⟩ := read_fw s _ ha'
  obtain ⟨f, hf⟩ := read_fw t _ hb'
  show ∃ r, ((double.read _).sum (double.read _).opposite).map double.write = some r ∧ _
  rw [he, hf]
  have hb2 : sv (!t) (-b).natAbs = -b := by rw [Int.natAbs_neg, sv_not, hb]
  have := Rep.sum_some ha hb2 (by rw [← Int.sub_eq_add_neg]; exact h) e f
  rw [Int.natAbs_neg, ← Int.sub_eq_add_neg] at this
  exact this

theorem Rep.mul {x y : Nat} {a b : Int} (hx : Rep x a) (hy : Rep y b) (h : (a * b).natAbs < 9007199254740992) : ∃ r, floatBits .mul .f64 x y = some r ∧ Rep r (a * b) := by
  obtain ⟨s, rfl, ha, ha'⟩ := hx
  obtain ⟨t, rfl, hb, hb'⟩ := hy
  obtain ⟨e, he⟩ := read_fw s _ ha'
  obtain ⟨f, hf⟩ := read_fw t _ hb'
  show ∃ r, ((double.read _).product (double.read _)).map double.write = some r ∧ _
  rw [he, hf]
  unfold Datum.product
  dsimp only
  have e1 : a.natAbs * 2 ^ e * (b.natAbs * 2 ^ f) = (a * b).natAbs * 2 ^ (e + f) := by
    rw [Int.natAbs_mul, Nat.pow_add, Nat.mul_assoc, Nat.mul_assoc, Nat.mul_left_comm (2 ^ e)]
  have e2 : -(e : Int) + -(f : Int) = -((e + f : Nat) : Int) := by omega
  rw [e1, e2]
  refine ⟨_, rfl, (s ^^ t), write_scaled _ _ _ h, ?_, h⟩
  rw [Int.natAbs_mul, sv_mul, ha, hb]

theorem compare_scaled (a b : Int) (m : Nat) : compare (a * 2 ^ m) (b * 2 ^ m) = compare a b := by
  have hp : (0 : Int) < 2 ^ m := Int.pow_pos (by decide)
  have e1 : a * 2 ^ m < b * 2 ^ m ↔ a < b := Int.mul_lt_mul_right hp
  have e2 : a * 2 ^ m = b * 2 ^ m ↔ a = b := by
    constructor
    · intro h; exact Int.eq_of_mul_eq_mul_right (by omega) h
    · rintro rfl; rfl
  simp only [compare, compareOfLessAndEq, e1, e2]

theorem Rep.order {x y : Nat} {a b : Int} (hx : Rep x a) (hy : Rep y b) : FloatKind.f64.format.order x y = some (compare a b) := by
  obtain ⟨s, rfl, ha, ha'⟩ := hx
  obtain ⟨t, rfl, hb, hb'⟩ := hy
  obtain ⟨e, he⟩ := read_fw s _ ha'
  obtain ⟨f, hf⟩ := read_fw t _ hb'
  show (double.read _).order (double.read _) = _
  rw [he, hf]
  unfold Datum.order
  dsimp only
  rw [up_left, up_right, signed_sv, signed_sv, scale_to _ e _ (Nat.le_max_left ..), scale_to _ f _ (Nat.le_max_right ..), sv_pow, sv_pow, ha, hb, compare_scaled]

theorem Rep.eq {x y : Nat} {a b : Int} (hx : Rep x a) (hy : Rep y b) : (FloatKind.f64.format.order x y == some .eq) = decide (a = b) := by
  rw [hx.order hy]
  simp only [compare, compareOfLessAndEq]
  by_cases h : a = b
  · subst h; simp
  · by_cases h' : a < b <;> simp [h, h']

theorem Rep.le {x y : Nat} {a b : Int} (hx : Rep x a) (hy : Rep y b) : (FloatKind.f64.format.order x y == some .lt || FloatKind.f64.format.order x y == some .eq) = decide (a ≤ b) := by
  rw [hx.order hy]
  simp only [compare, compareOfLessAndEq]
  by_cases h : a = b
  · subst h; simp
  · by_cases h' : a < b
    · simp [h']; omega
    · simp [h, h']; omega

theorem Rep.toInt {x : Nat} {a : Int} (hx : Rep x a) : floatToIntVal .f64 x .i64 = some a := by
  obtain ⟨s, rfl, ha, ha'⟩ := hx
  obtain ⟨e, he⟩ := read_fw s _ ha'
  have h1 : (FloatKind.f64.decode (fw s a.natAbs)).toInt .zero = some a := by
    show (double.read _).toInt .zero = _
    rw [he]
    unfold Datum.toInt Datum.integral
    dsimp only
    have q1 : (-(e : Int)).toNat = 0 := by omega
    have q2 : (-(-(e : Int))).toNat = e := by omega
    rw [q1, q2, Nat.shiftLeft_zero, cut_exact, signed_sv, Nat.pow_zero, Nat.mul_one, ha]
  unfold floatToIntVal
  rw [h1]
  dsimp only
  have mn : IntKind.i64.min = -9223372036854775808 := by decide
  have mx : IntKind.i64.max = 9223372036854775807 := by decide
  rw [if_pos]
  rw [mn, mx]
  omega

/-- The word of float64(n). -/
def fi (n : Int) : Nat := floatOfInt .f64 n

theorem rep_fi (n : Int) (h : n.natAbs < 9007199254740992) : Rep (fi n) n := by
  refine ⟨decide (n < 0), rfl, ?_, h⟩
  by_cases h1 : n < 0
  · simp [sv, h1]; omega
  · simp [sv, h1]; omega

theorem rep_bits {x : Nat} {n : Int} (hx : fw (decide (n < 0)) n.natAbs = x) (h : n.natAbs < 9007199254740992) : Rep x n := by
  subst hx; exact rep_fi n h

end Go.Proofs.Yteacpfknfbmjkaa
