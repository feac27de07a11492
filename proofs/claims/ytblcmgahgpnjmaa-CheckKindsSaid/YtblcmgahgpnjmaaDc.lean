/-
  Which expressions of any shape are valid: what the document's own RightExpr returns. Conditions: those that each theorem names.
-/
import Derived.Test.YtblcmgahgpnjmaaDb
namespace Go.Proofs.Ytblcmgahgpnjmaa
open Go.ChangeShapes Go.WideShapes Go.ChangeAt Go.RowKit
set_option maxRecDepth 100000
set_option maxHeartbeats 4000000

def okS (s : ByteArray) : Bool := nameB s && !wrd s
/-- How many Kids a kind has. -/
def kidsI (k : Int) : Int := if (6 ≤ k ∧ k ≤ 13) ∨ k = 15 ∨ k = 19 then 2 else if k = 14 ∨ (16 ≤ k ∧ k ≤ 18) then 1 else 0
/-- Is an expression valid if its m Kids are? -/
def aloneG (k n : Int) (s : ByteArray) (m : Nat) : Bool :=
  decide (0 ≤ k ∧ k ≤ 19) && decide ((m : Int) = kidsI k) && (if k = 2 ∨ k = 3 then okS s else decide (s.size = 0)) && (if k = 0 then decide (n ≠ -9223372036854775808) else if k = 1 then decide (n = 0 ∨ n = 1) else decide (n = 0))
def rightG : Nat → GE → Bool
  | 0, _ => false
  | f + 1, .mk k n s l => aloneG k n s l.length && l.all (rightG f)
theorem okS_empty {s : ByteArray} (h : s.size = 0) : okS s = false := by
  unfold okS
  rw [named_yes (fun j hj => by omega)]
  simp [h]
theorem empty_yes {s : ByteArray} (h : s.size = 0) : s.toList.isEmpty = true := by rw [toList_empty h, ByteArray.toList_eq]; rfl
theorem empty_no {s : ByteArray} (h : ¬ s.size = 0) : s.toList.isEmpty = false := toList_ne (by omega)

theorem rkids_kd (k : Int) (h : 0 ≤ k ∧ k ≤ 19) (w : World) : Calls Try.prog 40 #[.int .i64 k] w fun e w' => e = .returned (.int .i64 (kidsI k)) ∧ w = w' := by
  have hk : k = 0 ∨ k = 1 ∨ k = 2 ∨ k = 3 ∨ k = 4 ∨ k = 5 ∨ k = 6 ∨ k = 7 ∨ k = 8 ∨ k = 9 ∨ k = 10 ∨ k = 11 ∨ k = 12 ∨ k = 13 ∨ k = 14 ∨ k = 15 ∨ k = 16 ∨ k = 17 ∨ k = 18 ∨ k = 19 := by omega
  clear h
  rcases hk with rfl | rfl | rfl | rfl | rfl | rfl | rfl | rfl | rfl | rfl | rfl | rfl | rfl | rfl | rfl | rfl | rfl | rfl | rfl | rfl
  all_goals
    go_enter Try.func40, Try.ntmps40
    go_wp2
    go_ret
    exact ⟨rfl, rfl⟩




/- Leaves of the document's own rightExpr. -/
theorem rx_neg {k n : Int} {s : ByteArray} {m : Nat} (hk : k < 0) (A : Option Addr) (c : Nat) (D : Int) (hD : D ≤ 40) (w : World) :
    Calls Try.prog 22 #[.agg #[.int .i64 k, .int .i64 n, .string s, .slice A m c], .int .i64 D] w fun e w' => e = .returned (.bool false) ∧ Touch NoB w w' := by
  have r1 : decide ((40 : Int) < D) = false := by simp; omega
  have r2 : decide (k < 0) = true := by simp; omega
  clear hk
  go_enter Try.func22, Try.ntmps22
  go_wp2_with fail
  go_quiet (fail)
  all_goals
    go_wp2
    go_ret
    exact ⟨rfl, by repeat (first | with_reducible exact Touch.refl _ _ | with_reducible refine Touch.drew ?_ | with_reducible refine Touch.drewN ?_ _ | with_reducible refine Touch.alloc ?_ _)⟩

theorem rx_big {k n : Int} {s : ByteArray} {m : Nat} (hk : 19 < k) (A : Option Addr) (c : Nat) (D : Int) (hD : D ≤ 40) (w : World) :
    Calls Try.prog 22 #[.agg #[.int .i64 k, .int .i64 n, .string s, .slice A m c], .int .i64 D] w fun e w' => e = .returned (.bool false) ∧ Touch NoB w w' := by
  have r1 : decide ((40 : Int) < D) = false := by simp; omega
  have r2 : decide (k < 0) = false := by simp; omega
  have r3 : decide (19 < k) = true := by simp; omega
  clear hk
  go_enter Try.func22, Try.ntmps22
  go_wp2_with fail
  go_quiet (fail)
  all_goals
    go_wp2
    go_ret
    exact ⟨rfl, by repeat (first | with_reducible exact Touch.refl _ _ | with_reducible refine Touch.drew ?_ | with_reducible refine Touch.drewN ?_ _ | with_reducible refine Touch.alloc ?_ _)⟩

theorem rx_kids {k n : Int} {s : ByteArray} {m : Nat} (hk : 0 ≤ k ∧ k ≤ 19) (hm : (m : Int) ≠ kidsI k) (A : Option Addr) (c : Nat) (D : Int) (hD : D ≤ 40) (w : World) :
    Calls Try.prog 22 #[.agg #[.int .i64 k, .int .i64 n, .string s, .slice A m c], .int .i64 D] w fun e w' => e = .returned (.bool false) ∧ Touch NoB w w' := by
  have r1 : decide ((40 : Int) < D) = false := by simp; omega
  have r2 : decide (k < 0) = false := by simp; omega
  have r3 : decide (19 < k) = false := by simp; omega
  have HK := Lib.hid (fun w => rkids_kd k (by omega) w)
  obtain ⟨z, hz⟩ : ∃ z, kidsI k = z := ⟨_, rfl⟩
  rw [hz] at HK
  have r4 : ((m : Int) != z) = true := by rw [hz] at hm; simpa using hm
  clear hm hz hk
  go_enter Try.func22, Try.ntmps22
  go_wp2_with fail
  go_quiet (first | (go_at_call 40; exact quiet_same (HK.out _)))
  all_goals
    go_wp2
    go_ret
    exact ⟨rfl, by repeat (first | with_reducible exact Touch.refl _ _ | with_reducible refine Touch.drew ?_ | with_reducible refine Touch.drewN ?_ _ | with_reducible refine Touch.alloc ?_ _)⟩

theorem rx_nam0 {k n : Int} {s : ByteArray} (hk : k = 2 ∨ k = 3) (h : s.size = 0) (A : Option Addr) (c : Nat) (D : Int) (hD : D ≤ 40) (w : World) :
    Calls Try.prog 22 #[.agg #[.int .i64 k, .int .i64 n, .string s, .slice A 0 c], .int .i64 D] w fun e w' => e = .returned (.bool false) ∧ Touch NoB w w' := by
  have r1 : decide ((40 : Int) < D) = false := by simp; omega
  have HK := Lib.hid (fun w => rkids_kd k (by omega) w)
  have hz : kidsI k = 0 := by rcases hk with rfl | rfl <;> rfl
  rw [hz] at HK
  have e0 := empty_yes h
  clear hz h
  rcases hk with rfl | rfl
  all_goals
    go_enter Try.func22, Try.ntmps22
    go_wp2_with fail
    go_quiet (first | (go_at_call 40; exact quiet_same (HK.out _)))
    all_goals
      go_wp2
      go_ret
      exact ⟨rfl, by repeat (first | with_reducible exact Touch.refl _ _ | with_reducible refine Touch.drew ?_ | with_reducible refine Touch.drewN ?_ _ | with_reducible refine Touch.alloc ?_ _)⟩

theorem rx_nam1 {k n : Int} {s : ByteArray} (hk : k = 2 ∨ k = 3) (h : ¬ s.size = 0) (hs : s.size ≤ 9223372036854775807) (ho : okS s = false) (A : Option Addr) (c : Nat) (D : Int) (hD : D ≤ 40) (w : World) :
    Calls Try.prog 22 #[.agg #[.int .i64 k, .int .i64 n, .string s, .slice A 0 c], .int .i64 D] w fun e w' => e = .returned (.bool false) ∧ Touch NoB w w' := by
  have r1 : decide ((40 : Int) < D) = false := by simp; omega
  have HK := Lib.hid (fun w => rkids_kd k (by omega) w)
  have hz : kidsI k = 0 := by rcases hk with rfl | rfl <;> rfl
  rw [hz] at HK
  have HN := Lib.hid (fun w => rname_any s hs w)
  unfold okS at ho
  rw [ho] at HN
  have e0 := empty_no h
  clear hz h ho hs
  rcases hk with rfl | rfl
  all_goals
    go_enter Try.func22, Try.ntmps22
    go_wp2_with fail
    go_quiet (first | (go_at_call 40; exact quiet_same (HK.out _)))
    all_goals
      go_wp2_with (first | (go_at_call 41; refine (HN.out _).mono ?_; rintro r w3 ⟨rfl, hT3⟩; obtain ⟨p0, p1, p2, p3, p4⟩ := ((gbw_blk w _ n s A 0 c).touch (((Touch.refl NoB (gbw w _ n s A 0 c)).drewN nq).same hT3)).cells; have HT3 := Lib.hid hT3; clear hT3))
      go_ret
      exact ⟨rfl, Touch.same (by repeat (first | with_reducible exact Touch.refl _ _ | with_reducible refine Touch.drew ?_ | with_reducible refine Touch.drewN ?_ _ | with_reducible refine Touch.alloc ?_ _)) HT3.out⟩

theorem rx_nam2 {k n : Int} {s : ByteArray} (hk : k = 2 ∨ k = 3) (h : ¬ s.size = 0) (hs : s.size ≤ 9223372036854775807) (ho : okS s = true) (hn : n ≠ 0) (A : Option Addr) (c : Nat) (D : Int) (hD : D ≤ 40) (w : World) :
    Calls Try.prog 22 #[.agg #[.int .i64 k, .int .i64 n, .string s, .slice A 0 c], .int .i64 D] w fun e w' => e = .returned (.bool false) ∧ Touch NoB w w' := by
  have r1 : decide ((40 : Int) < D) = false := by simp; omega
  have HK := Lib.hid (fun w => rkids_kd k (by omega) w)
  have hz : kidsI k = 0 := by rcases hk with rfl | rfl <;> rfl
  rw [hz] at HK
  have HN := Lib.hid (fun w => rname_any s hs w)
  unfold okS at ho
  rw [ho] at HN
  have e0 := empty_no h
  have n0 : (n != 0) = true := by simpa using hn
  clear hz h ho hs hn
  rcases hk with rfl | rfl
  all_goals
    go_enter Try.func22, Try.ntmps22
    go_wp2_with fail
    go_quiet (first | (go_at_call 40; exact quiet_same (HK.out _)))
    all_goals
      go_wp2_with (first | (go_at_call 41; refine (HN.out _).mono ?_; rintro r w3 ⟨rfl, hT3⟩; obtain ⟨p0, p1, p2, p3, p4⟩ := ((gbw_blk w _ n s A 0 c).touch (((Touch.refl NoB (gbw w _ n s A 0 c)).drewN nq).same hT3)).cells; have HT3 := Lib.hid hT3; clear hT3))
      go_ret
      exact ⟨rfl, Touch.same (by repeat (first | with_reducible exact Touch.refl _ _ | with_reducible refine Touch.drew ?_ | with_reducible refine Touch.drewN ?_ _ | with_reducible refine Touch.alloc ?_ _)) HT3.out⟩

theorem rx_str {k n : Int} {s : ByteArray} {m : Nat} (hk : 0 ≤ k ∧ k ≤ 19 ∧ k ≠ 2 ∧ k ≠ 3) (hm : (m : Int) = kidsI k) (h : ¬ s.size = 0) (A : Option Addr) (c : Nat) (D : Int) (hD : D ≤ 40) (w : World) :
    Calls Try.prog 22 #[.agg #[.int .i64 k, .int .i64 n, .string s, .slice A m c], .int .i64 D] w fun e w' => e = .returned (.bool false) ∧ Touch NoB w w' := by
  have r1 : decide ((40 : Int) < D) = false := by simp; omega
  have r2 : decide (k < 0) = false := by simp; omega
  have r3 : decide (19 < k) = false := by simp; omega
  have HK := Lib.hid (fun w => rkids_kd k (by omega) w)
  obtain ⟨z, hz⟩ : ∃ z, kidsI k = z := ⟨_, rfl⟩
  rw [hz] at HK
  have k2 : (k == 2) = false := by simp; omega
  have k3 : (k == 3) = false := by simp; omega
  have r4 : ((m : Int) != z) = false := by rw [hz] at hm; simpa using hm
  have e0 := empty_no h
  clear hm hz hk h
  go_enter Try.func22, Try.ntmps22
  go_wp2_with fail
  go_quiet (first | (go_at_call 40; exact quiet_same (HK.out _)))
  all_goals
    go_wp2
    go_ret
    exact ⟨rfl, by repeat (first | with_reducible exact Touch.refl _ _ | with_reducible refine Touch.drew ?_ | with_reducible refine Touch.drewN ?_ _ | with_reducible refine Touch.alloc ?_ _)⟩

theorem rx_int {s : ByteArray} (h : s.size = 0) (A : Option Addr) (c : Nat) (D : Int) (hD : D ≤ 40) (w : World) :
    Calls Try.prog 22 #[.agg #[.int .i64 0, .int .i64 (-9223372036854775808), .string s, .slice A 0 c], .int .i64 D] w fun e w' => e = .returned (.bool false) ∧ Touch NoB w w' := by
  have r1 : decide ((40 : Int) < D) = false := by simp; omega
  have HK := Lib.hid (fun w => rkids_kd 0 (by omega) w)
  have hz : kidsI 0 = 0 := rfl
  rw [hz] at HK
  have e0 := empty_yes h
  clear hz h
  go_enter Try.func22, Try.ntmps22
  go_wp2_with fail
  go_quiet (first | (go_at_call 40; exact quiet_same (HK.out _)))
  all_goals
    go_wp2
    go_ret
    exact ⟨rfl, by repeat (first | with_reducible exact Touch.refl _ _ | with_reducible refine Touch.drew ?_ | with_reducible refine Touch.drewN ?_ _ | with_reducible refine Touch.alloc ?_ _)⟩

theorem rx_bool {n : Int} {s : ByteArray} (h : s.size = 0) (h0 : n ≠ 0) (h1 : n ≠ 1) (A : Option Addr) (c : Nat) (D : Int) (hD : D ≤ 40) (w : World) :
    Calls Try.prog 22 #[.agg #[.int .i64 1, .int .i64 n, .string s, .slice A 0 c], .int .i64 D] w fun e w' => e = .returned (.bool false) ∧ Touch NoB w w' := by
  have r1 : decide ((40 : Int) < D) = false := by simp; omega
  have HK := Lib.hid (fun w => rkids_kd 1 (by omega) w)
  have hz : kidsI 1 = 0 := rfl
  rw [hz] at HK
  have e0 := empty_yes h
  have n0 : (n != 0) = true := by simpa using h0
  have n1 : (n != 1) = true := by simpa using h1
  clear hz h h0 h1
  go_enter Try.func22, Try.ntmps22
  go_wp2_with fail
  go_quiet (first | (go_at_call 40; exact quiet_same (HK.out _)))
  all_goals
    go_wp2
    go_ret
    exact ⟨rfl, by repeat (first | with_reducible exact Touch.refl _ _ | with_reducible refine Touch.drew ?_ | with_reducible refine Touch.drewN ?_ _ | with_reducible refine Touch.alloc ?_ _)⟩

theorem rx_num {k n : Int} {s : ByteArray} {m : Nat} (hk : 4 ≤ k ∧ k ≤ 19) (hm : (m : Int) = kidsI k) (h : s.size = 0) (hn : n ≠ 0) (A : Option Addr) (c : Nat) (D : Int) (hD : D ≤ 40) (w : World) :
    Calls Try.prog 22 #[.agg #[.int .i64 k, .int .i64 n, .string s, .slice A m c], .int .i64 D] w fun e w' => e = .returned (.bool false) ∧ Touch NoB w w' := by
  have r1 : decide ((40 : Int) < D) = false := by simp; omega
  have r2 : decide (k < 0) = false := by simp; omega
  have r3 : decide (19 < k) = false := by simp; omega
  have HK := Lib.hid (fun w => rkids_kd k (by omega) w)
  obtain ⟨z, hz⟩ : ∃ z, kidsI k = z := ⟨_, rfl⟩
  rw [hz] at HK
  have k2 : (k == 2) = false := by simp; omega
  have k3 : (k == 3) = false := by simp; omega
  have k0 : (k == 0) = false := by simp; omega
  have k1 : (k == 1) = false := by simp; omega
  have g1 : decide (1 < k) = true := by simp; omega
  have r4 : ((m : Int) != z) = false := by rw [hz] at hm; simpa using hm
  have n0 : (n != 0) = true := by simpa using hn
  have e0 := empty_yes h
  clear hm hz hk h hn
  go_enter Try.func22, Try.ntmps22
  go_wp2_with fail
  go_quiet (first | (go_at_call 40; exact quiet_same (HK.out _)))
  all_goals
    go_wp2
    go_ret
    exact ⟨rfl, by repeat (first | with_reducible exact Touch.refl _ _ | with_reducible refine Touch.drew ?_ | with_reducible refine Touch.drewN ?_ _ | with_reducible refine Touch.alloc ?_ _)⟩

theorem rx_okn {k : Int} {s : ByteArray} (hk : k = 2 ∨ k = 3) (h : ¬ s.size = 0) (hs : s.size ≤ 9223372036854775807) (ho : okS s = true) (A : Option Addr) (c : Nat) (D : Int) (hD : D ≤ 40) (w : World) :
    Calls Try.prog 22 #[.agg #[.int .i64 k, .int .i64 0, .string s, .slice A 0 c], .int .i64 D] w fun e w' => e = .returned (.bool true) ∧ Touch NoB w w' := by
  have r1 : decide ((40 : Int) < D) = false := by simp; omega
  have HK := Lib.hid (fun w => rkids_kd k (by omega) w)
  have hz : kidsI k = 0 := by rcases hk with rfl | rfl <;> rfl
  rw [hz] at HK
  have HN := Lib.hid (fun w => rname_any s hs w)
  unfold okS at ho
  rw [ho] at HN
  have e0 := empty_no h
  clear hz h ho hs
  rcases hk with rfl | rfl
  all_goals
    go_enter Try.func22, Try.ntmps22
    go_wp2_with fail
    go_quiet (first | (go_at_call 40; exact quiet_same (HK.out _)))
    go_wp2_with (first | (go_at_call 41; refine (HN.out _).mono ?_; rintro r w3 ⟨rfl, hT3⟩; obtain ⟨p0, p1, p2, p3, p4⟩ := ((gbw_blk w _ 0 s A 0 c).touch (((Touch.refl NoB (gbw w _ 0 s A 0 c)).drewN nq).same hT3)).cells; have HT3 := Lib.hid hT3; clear hT3))
    refine wp_loop_rounds 1 ?_
    rw [rounds_succ]
    go_wp2
    go_ret
    exact ⟨rfl, Touch.same (by repeat (first | with_reducible exact Touch.refl _ _ | with_reducible refine Touch.drew ?_ | with_reducible refine Touch.drewN ?_ _ | with_reducible refine Touch.alloc ?_ _)) HT3.out⟩

theorem rx_oki {n : Int} {s : ByteArray} (h : s.size = 0) (hn : n ≠ -9223372036854775808) (A : Option Addr) (c : Nat) (D : Int) (hD : D ≤ 40) (w : World) :
    Calls Try.prog 22 #[.agg #[.int .i64 0, .int .i64 n, .string s, .slice A 0 c], .int .i64 D] w fun e w' => e = .returned (.bool true) ∧ Touch NoB w w' := by
  have r1 : decide ((40 : Int) < D) = false := by simp; omega
  have HK := Lib.hid (fun w => rkids_kd 0 (by omega) w)
  have hz : kidsI 0 = 0 := rfl
  rw [hz] at HK
  have e0 := empty_yes h
  have n0 : (n == -9223372036854775808) = false := by simpa using hn
  clear hz h hn
  go_enter Try.func22, Try.ntmps22
  go_wp2_with fail
  go_quiet (first | (go_at_call 40; exact quiet_same (HK.out _)))
  go_wp2
  refine wp_loop_rounds 1 ?_
  rw [rounds_succ]
  go_wp2
  go_ret
  exact ⟨rfl, by repeat (first | with_reducible exact Touch.refl _ _ | with_reducible refine Touch.drew ?_ | with_reducible refine Touch.drewN ?_ _ | with_reducible refine Touch.alloc ?_ _)⟩

theorem rx_okb {n : Int} {s : ByteArray} (h : s.size = 0) (hn : n = 0 ∨ n = 1) (A : Option Addr) (c : Nat) (D : Int) (hD : D ≤ 40) (w : World) :
    Calls Try.prog 22 #[.agg #[.int .i64 1, .int .i64 n, .string s, .slice A 0 c], .int .i64 D] w fun e w' => e = .returned (.bool true) ∧ Touch NoB w w' := by
  have r1 : decide ((40 : Int) < D) = false := by simp; omega
  have HK := Lib.hid (fun w => rkids_kd 1 (by omega) w)
  have hz : kidsI 1 = 0 := rfl
  rw [hz] at HK
  have e0 := empty_yes h
  clear hz h
  rcases hn with rfl | rfl
  all_goals
    go_enter Try.func22, Try.ntmps22
    go_wp2_with fail
    go_quiet (first | (go_at_call 40; exact quiet_same (HK.out _)))
    go_wp2
    refine wp_loop_rounds 1 ?_
    rw [rounds_succ]
    go_wp2
    go_ret
    exact ⟨rfl, by repeat (first | with_reducible exact Touch.refl _ _ | with_reducible refine Touch.drew ?_ | with_reducible refine Touch.drewN ?_ _ | with_reducible refine Touch.alloc ?_ _)⟩

end Go.Proofs.Ytblcmgahgpnjmaa
