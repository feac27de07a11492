/-
  What package expr's Right returns of an expression of any shape. Conditions: those that each theorem names.
-/
import Derived.Test.YtblcmgahgpnjmaaDd
namespace Go.Proofs.Ytblcmgahgpnjmaa
open Go.ChangeShapes Go.WideShapes Go.ChangeAt Go.RowKit
set_option maxRecDepth 100000
set_option maxHeartbeats 4000000

/-- What package expr's operands returns. -/
def operG (k : Int) : Int := if 4 ≤ k ∧ k ≤ 19 then kidsI k else -1
theorem operG_any (k : Int) (w : World) : Calls Try.prog 74 #[.int .i64 k] w fun e w' => e = .returned (.int .i64 (operG k)) ∧ w = w' := by
  by_cases h : 4 ≤ k ∧ k ≤ 19
  · have hk : k = 4 ∨ k = 5 ∨ k = 6 ∨ k = 7 ∨ k = 8 ∨ k = 9 ∨ k = 10 ∨ k = 11 ∨ k = 12 ∨ k = 13 ∨ k = 14 ∨ k = 15 ∨ k = 16 ∨ k = 17 ∨ k = 18 ∨ k = 19 := by omega
    clear h
    rcases hk with rfl | rfl | rfl | rfl | rfl | rfl | rfl | rfl | rfl | rfl | rfl | rfl | rfl | rfl | rfl | rfl
    all_goals
      go_enter Try.func74, Try.ntmps74
      go_wp2
      go_ret
      exact ⟨rfl, rfl⟩
  · have e : operG k = -1 := by unfold operG; rw [if_neg h]
    rw [e]
    have h4 : (k == 4) = false := by simp; omega
    have h5 : (k == 5) = false := by simp; omega
    have h6 : (k == 6) = false := by simp; omega
    have h7 : (k == 7) = false := by simp; omega
    have h8 : (k == 8) = false := by simp; omega
    have h9 : (k == 9) = false := by simp; omega
    have h10 : (k == 10) = false := by simp; omega
    have h11 : (k == 11) = false := by simp; omega
    have h12 : (k == 12) = false := by simp; omega
    have h13 : (k == 13) = false := by simp; omega
    have h14 : (k == 14) = false := by simp; omega
    have h15 : (k == 15) = false := by simp; omega
    have h16 : (k == 16) = false := by simp; omega
    have h17 : (k == 17) = false := by simp; omega
    have h18 : (k == 18) = false := by simp; omega
    have h19 : (k == 19) = false := by simp; omega
    clear h e
    go_enter Try.func74, Try.ntmps74
    go_wp2
    go_ret
    exact ⟨rfl, rfl⟩

theorem beq_dec (a b : Int) : (a == b) = decide (a = b) := by by_cases h : a = b <;> simp [h]
theorem empty_dec (s : ByteArray) : s.toList.isEmpty = decide (s.size = 0) := by
  by_cases h : s.size = 0
  · rw [empty_yes h]; simp [h]
  · rw [empty_no h]; simp [h]
theorem lone_int {n : Int} (hn : W64 n) (s : ByteArray) (m : Nat) : aloneG 0 n s m = (decide (-9223372036854775808 < n) && s.toList.isEmpty && ((m : Int) == 0)) := by
  have e : decide (n ≠ -9223372036854775808) = decide (-9223372036854775808 < n) := by rw [decide_eq_decide]; have := hn.1; omega
  unfold aloneG
  rw [show kidsI 0 = 0 from rfl, if_neg (by omega), if_pos rfl, e, beq_dec, empty_dec, show decide ((0 : Int) ≤ 0 ∧ (0 : Int) ≤ 19) = true from rfl]
  cases decide ((m : Int) = 0) <;> cases decide (s.size = 0) <;> cases decide (-9223372036854775808 < n) <;> rfl
theorem lone_bool (n : Int) (s : ByteArray) (m : Nat) : aloneG 1 n s m = (((n == 0) || (n == 1)) && s.toList.isEmpty && ((m : Int) == 0)) := by
  have e : decide (n = 0 ∨ n = 1) = (decide (n = 0) || decide (n = 1)) := by simp
  unfold aloneG
  rw [show kidsI 1 = 0 from rfl, if_neg (by omega), if_neg (by omega), if_pos rfl, e, beq_dec, beq_dec, beq_dec, empty_dec, show decide ((0 : Int) ≤ 1 ∧ (1 : Int) ≤ 19) = true from rfl]
  cases decide ((m : Int) = 0) <;> cases decide (s.size = 0) <;> cases decide (n = 0) <;> cases decide (n = 1) <;> rfl
theorem lone_name {k : Int} (hk : k = 2 ∨ k = 3) (n : Int) (s : ByteArray) (m : Nat) : aloneG k n s m = ((n == 0) && okS s && ((m : Int) == 0)) := by
  unfold aloneG
  rw [kids_named hk, if_pos hk, if_neg (by omega), if_neg (by omega), beq_dec, beq_dec, decide_eq_true (show 0 ≤ k ∧ k ≤ 19 by omega)]
  cases decide ((m : Int) = 0) <;> cases okS s <;> cases decide (n = 0) <;> rfl
theorem lone_rest {k : Int} (h0 : k ≠ 0) (h1 : k ≠ 1) (h2 : k ≠ 2) (h3 : k ≠ 3) (n : Int) (s : ByteArray) (m : Nat) : aloneG k n s m = ((n == 0) && s.toList.isEmpty && ((m : Int) == operG k)) := by
  unfold aloneG operG
  rw [if_neg (show ¬ (k = 2 ∨ k = 3) by omega), if_neg h0, if_neg h1, beq_dec, beq_dec, empty_dec]
  by_cases h : 4 ≤ k ∧ k ≤ 19
  · rw [if_pos h, decide_eq_true (show 0 ≤ k ∧ k ≤ 19 by omega)]
    cases decide ((m : Int) = kidsI k) <;> cases decide (s.size = 0) <;> cases decide (n = 0) <;> rfl
  · rw [if_neg h, decide_eq_false (show ¬ (0 ≤ k ∧ k ≤ 19) by omega), decide_eq_false (show ¬ ((m : Int) = -1) by omega)]
    cases decide (s.size = 0) <;> cases decide (n = 0) <;> rfl
theorem alone_any {k n : Int} {s : ByteArray} (hn : W64 n) (hs : s.size ≤ 9223372036854775807) (A : Option Addr) (m c : Nat) (w : World) :
    Calls Try.prog 56 #[.agg #[.int .i64 k, .int .i64 n, .string s, .slice A m c]] w fun e w' => e = .returned (.bool (aloneG k n s m)) ∧ Touch NoB w w' := by
  obtain ⟨p3, h3⟩ : ∃ p, ((m : Int) == 0) = p := ⟨_, rfl⟩
  obtain ⟨p2, h2⟩ : ∃ p, s.toList.isEmpty = p := ⟨_, rfl⟩
  by_cases k0 : k = 0
  · subst k0
    obtain ⟨p1, h1⟩ : ∃ p, decide (-9223372036854775808 < n) = p := ⟨_, rfl⟩
    rw [lone_int hn, h1, h2, h3]
    clear hn hs
    cases p1 <;> cases p2 <;> cases p3
    all_goals
      go_enter Try.func56, Try.ntmps56
      go_wp2
      go_ret
      exact ⟨rfl, (Touch.refl _ _).alloc _⟩
  by_cases k1 : k = 1
  · subst k1
    obtain ⟨p1, h1⟩ : ∃ p, (n == 0) = p := ⟨_, rfl⟩
    obtain ⟨p4, h4⟩ : ∃ p, (n == 1) = p := ⟨_, rfl⟩
    rw [lone_bool, h1, h2, h3, h4]
    clear hn hs k0
    cases p1 <;> cases p2 <;> cases p3 <;> cases p4
    all_goals
      go_enter Try.func56, Try.ntmps56
      go_wp2
      go_ret
      exact ⟨rfl, (Touch.refl _ _).alloc _⟩
  by_cases k2 : k = 2 ∨ k = 3
  · have HL := Lib.hid (fun w => lname_any s hs w)
    obtain ⟨p1, h1⟩ : ∃ p, (n == 0) = p := ⟨_, rfl⟩
    rw [lone_name k2, h1, h3]
    unfold okS
    obtain ⟨p4, h4⟩ : ∃ p, (nameB s && !wrd s) = p := ⟨_, rfl⟩
    rw [h4] at HL ⊢
    clear hn hs k0 k1 h2 h4
    rcases k2 with rfl | rfl <;> cases p1 <;> cases p3 <;> cases p4
    all_goals
      go_enter Try.func56, Try.ntmps56
      go_wp2_with (first | (go_at_call 73; refine (HL.out _).mono ?_; rintro e w' ⟨rfl, rfl⟩))
      go_ret
      exact ⟨rfl, (Touch.refl _ _).alloc _⟩
  have HO := Lib.hid (fun w => operG_any k w)
  obtain ⟨p1, h1⟩ : ∃ p, (n == 0) = p := ⟨_, rfl⟩
  obtain ⟨z, hz⟩ : ∃ z, operG k = z := ⟨_, rfl⟩
  rw [lone_rest k0 k1 (by omega) (by omega), h1, h2, hz]
  rw [hz] at HO
  have e0 : (k == 0) = false := by simpa using k0
  have e1 : (k == 1) = false := by simpa using k1
  have e2 : (k == 2) = false := by simp; omega
  have e3 : (k == 3) = false := by simp; omega
  obtain ⟨p4, h4⟩ : ∃ p, ((m : Int) == z) = p := ⟨_, rfl⟩
  rw [h4]
  clear hn hs k0 k1 k2 h3 hz
  cases p1 <;> cases p2 <;> cases p4
  all_goals
    go_enter Try.func56, Try.ntmps56
    go_wp2_with fail
    go_quiet (first | (go_at_call 74; exact quiet_same (HO.out _)))
    go_wp2
    go_ret
    exact ⟨rfl, by repeat (first | with_reducible exact Touch.refl _ _ | with_reducible refine Touch.drew ?_ | with_reducible refine Touch.drewN ?_ _ | with_reducible refine Touch.alloc ?_ _)⟩
end Go.Proofs.Ytblcmgahgpnjmaa
