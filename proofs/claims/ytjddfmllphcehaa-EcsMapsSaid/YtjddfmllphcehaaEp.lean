/-
  Plain words for masks: a bit set, a bit struck; the mask of a list of cells. No program is named here.
-/
import Derived.Test.YtjddfmllphcehaaTm
import Derived.Laws.BitsAllLaws
namespace Go.Proofs.Ytjddfmllphcehaa

/-- The bit of component k. -/
def bw (k : Nat) : Int := ((2 ^ k : Nat) : Int)
theorem bw_range {k : Nat} (h : k < 16) : 0 < bw k ∧ bw k < 65536 := by
  unfold bw
  have h1 : 0 < 2 ^ k := Nat.two_pow_pos k
  have h2 : 2 ^ k < 2 ^ 16 := Nat.pow_lt_pow_right (by decide) h
  omega
theorem bitB_test {m : Nat} {k : Nat} : bitB (m : Int) k = m.testBit k := by
  unfold bitB
  have e : (m : Int) / 2 ^ k % 2 = ((m / 2 ^ k % 2 : Nat) : Int) := by simp
  rw [e, Nat.testBit_eq_decide_div_mod_eq]
  congr 1
  apply propext
  omega
/-- m with bit k. -/
def orM (m : Int) (k : Nat) : Int := ((m.toNat ||| 2 ^ k : Nat) : Int)
/-- m without bit k. -/
def clM (m : Int) (k : Nat) : Int := ((m.toNat &&& (65535 - 2 ^ k) : Nat) : Int)
theorem two_lt {k : Nat} (h : k < 16) : 2 ^ k < 65536 := by
  have h2 : 2 ^ k < 2 ^ 16 := Nat.pow_lt_pow_right (by decide) h
  exact Nat.lt_of_lt_of_eq h2 (by decide)
theorem cast_nn (x : Nat) : (0 : Int) ≤ (x : Int) := Int.natCast_nonneg x
theorem cast_lt {k : Nat} (h : k < 16) : ((2 ^ k : Nat) : Int) < 65536 := Int.ofNat_lt.mpr (two_lt h)
theorem or_bw {m : Int} (h0 : 0 ≤ m) (h1 : m < 65536) {k : Nat} (hk : k < 16) : bits .or .u16 m (bw k) = orM m k := by
  unfold bw orM
  rw [u16_or _ _ h0 h1 (cast_nn _) (cast_lt hk), Int.toNat_natCast]
theorem cl_bw {m : Int} (h0 : 0 ≤ m) (h1 : m < 65536) {k : Nat} (hk : k < 16) : bits .andNot .u16 m (bw k) = clM m k := by
  unfold bw clM
  rw [u16_andNot _ _ h0 h1 (cast_nn _) (cast_lt hk), Int.toNat_natCast]
theorem and_bw {m : Int} (h0 : 0 ≤ m) (h1 : m < 65536) {k : Nat} (hk : k < 16) : bits .and .u16 m (bw k) = if bitB m k = true then bw k else 0 := by
  obtain ⟨n, rfl⟩ := Int.eq_ofNat_of_zero_le h0
  unfold bw
  rw [u16_and _ _ h0 h1 (cast_nn _) (cast_lt hk), Int.toNat_natCast, Int.toNat_natCast, nat_bit, bitB_test, Nat.testBit_eq_decide_div_mod_eq]
  rcases Nat.mod_two_eq_zero_or_one (n / 2 ^ k) with e | e <;> rw [e] <;> simp
theorem orM_range {m : Int} (h1 : m < 65536) {k : Nat} (hk : k < 16) : 0 ≤ orM m k ∧ orM m k < 65536 := by
  unfold orM
  have := Nat.or_lt_two_pow (x := m.toNat) (y := 2 ^ k) (n := 16) (by omega) (two_lt hk)
  omega
theorem clM_range (m : Int) (k : Nat) : 0 ≤ clM m k ∧ clM m k < 65536 := by
  unfold clM
  have h1 := Nat.and_le_right (n := m.toNat) (m := 65535 - 2 ^ k)
  have h2 : 65535 - 2 ^ k ≤ 65535 := Nat.sub_le _ _
  have h3 := Nat.le_trans h1 h2
  omega
theorem orM_bit {m : Int} (h0 : 0 ≤ m) (k c : Nat) : bitB (orM m k) c = (bitB m c || decide (c = k)) := by
  obtain ⟨n, rfl⟩ := Int.eq_ofNat_of_zero_le h0
  unfold orM
  rw [Int.toNat_natCast, bitB_test, bitB_test, Nat.testBit_or, Nat.testBit_two_pow]
  congr 1
  by_cases h : c = k
  · simp [h]
  · simp [h, Ne.symm h]
theorem clM_bit {m : Int} (h0 : 0 ≤ m) {k c : Nat} (hk : k < 16) (hc : c < 16) : bitB (clM m k) c = (bitB m c && !decide (c = k)) := by
  obtain ⟨n, rfl⟩ := Int.eq_ofNat_of_zero_le h0
  unfold clM
  rw [Int.toNat_natCast, bitB_test, bitB_test, Nat.testBit_and]
  congr 1
  have e : 65535 - 2 ^ k = 2 ^ 16 - (2 ^ k + 1) := by omega
  rw [e, Nat.testBit_two_pow_sub_succ (two_lt hk), Nat.testBit_two_pow]
  by_cases h : c = k
  · simp [h]
  · simp [h, Ne.symm h, hc]
theorem bit_ext {a b : Int} (ha0 : 0 ≤ a) (ha1 : a < 65536) (hb0 : 0 ≤ b) (hb1 : b < 65536) (h : ∀ c, c < 16 → bitB a c = bitB b c) : a = b := by
  obtain ⟨n, rfl⟩ := Int.eq_ofNat_of_zero_le ha0
  obtain ⟨m, rfl⟩ := Int.eq_ofNat_of_zero_le hb0
  congr 1
  refine Nat.eq_of_testBit_eq fun c => ?_
  by_cases hc : c < 16
  · have := h c hc
    rwa [bitB_test, bitB_test] at this
  · have hp : 2 ^ 16 ≤ 2 ^ c := Nat.pow_le_pow_right (by decide) (by omega)
    rw [Nat.testBit_lt_two_pow (by omega), Nat.testBit_lt_two_pow (by omega)]
theorem bitB_zero (c : Nat) : bitB 0 c = false := by
  have := bitB_test (m := 0) (k := c)
  simpa using this
theorem orM_has {m : Int} (h0 : 0 ≤ m) (h1 : m < 65536) {k : Nat} (hk : k < 16) (hb : bitB m k = true) : orM m k = m := by
  have hr := orM_range h1 hk
  refine bit_ext hr.1 hr.2 h0 h1 fun c _ => ?_
  rw [orM_bit h0]
  by_cases e : c = k
  · subst e; simp [hb]
  · simp [e]
theorem orM_ne {m : Int} (h0 : 0 ≤ m) {k : Nat} (hb : bitB m k = false) : orM m k ≠ m := by
  intro e
  have := orM_bit h0 k k
  rw [e, hb] at this
  simp at this
theorem clM_ne {m : Int} (h0 : 0 ≤ m) {k : Nat} (hk : k < 16) (hb : bitB m k = true) : clM m k ≠ m := by
  intro e
  have := clM_bit h0 hk hk
  rw [e, hb] at this
  simp at this

/-- Is it a component? -/
def isC (c : Int) : Bool := decide (0 ≤ c) && decide (c < 16)
theorem isC_true {c : Int} (h : isC c = true) : ∃ k : Nat, c = k ∧ k < 16 := by
  unfold isC at h
  simp only [Bool.and_eq_true, decide_eq_true_eq] at h
  obtain ⟨k, rfl⟩ := Int.eq_ofNat_of_zero_le h.1
  exact ⟨k, rfl, by omega⟩
theorem isC_nat {k : Nat} (h : k < 16) : isC (k : Int) = true := by
  unfold isC
  simp
  omega
/-- The mask of the components of cells, if none is wrong or comes twice. -/
def stepM (o : Option Int) (p : Int × Int) : Option Int := o.bind fun m => if isC p.1 = true ∧ bitB m p.1.toNat = false then some (orM m p.1.toNat) else none
def maskO (cl : List (Int × Int)) : Option Int := cl.foldl stepM (some 0)
theorem maskO_snoc (cl : List (Int × Int)) (p : Int × Int) : maskO (cl ++ [p]) = stepM (maskO cl) p := by simp [maskO, List.foldl_append]
theorem maskO_none : ∀ cl : List (Int × Int), cl.foldl stepM none = none
  | [] => rfl
  | _ :: cl => maskO_none cl
theorem maskO_stop {cl : List (Int × Int)} {k : Nat} (h : maskO (cl.take k) = none) : maskO cl = none := by
  rw [← List.take_append_drop k cl]
  unfold maskO at h ⊢
  rw [List.foldl_append, h, maskO_none]
theorem maskO_range : ∀ (cl : List (Int × Int)) (a m : Int), 0 ≤ a → a < 65536 → cl.foldl stepM (some a) = some m → 0 ≤ m ∧ m < 65536
  | [], a, m, h0, h1, h => by simp at h; subst h; exact ⟨h0, h1⟩
  | p :: cl, a, m, h0, h1, h => by
    rw [List.foldl_cons] at h
    unfold stepM at h
    rw [Option.bind_some] at h
    by_cases hc : isC p.1 = true ∧ bitB a p.1.toNat = false
    · rw [if_pos hc] at h
      obtain ⟨k, hk, hk2⟩ := isC_true hc.1
      have hr := orM_range h1 (k := p.1.toNat) (by omega)
      exact maskO_range cl _ m hr.1 hr.2 h
    · rw [if_neg hc] at h
      have := maskO_none cl
      unfold stepM at this
      rw [this] at h
      cases h
end Go.Proofs.Ytjddfmllphcehaa
