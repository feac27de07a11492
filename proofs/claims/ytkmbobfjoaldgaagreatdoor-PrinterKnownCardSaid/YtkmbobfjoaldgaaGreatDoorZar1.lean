/-
  Which expressions are valid; what package expr's Right returns of them. Conditions: those that each theorem names.
-/
import Derived.Test.YtkmbobfjoaldgaaGreatDoorQi
import Derived.Test.YtkmbobfjoaldgaaGreatDoorZa3
import Derived.Deep.RegionLaw
namespace Go.Proofs.YtkmbobfjoaldgaaGreatDoor
open Go.ChangeShapes Go.WideShapes Go.ChangeAt Go.RowKit
set_option maxRecDepth 100000
set_option maxHeartbeats 4000000

/-- How many Kids a kind has that is known by itself. -/
def opnd (k : Int) : Nat := if k = 4 ∨ k = 5 then 0 else if k = 14 ∨ k = 16 ∨ k = 17 ∨ k = 18 then 1 else 2
theorem operands_kd (k : Int) (h : 4 ≤ k ∧ k ≤ 19) (w : World) : Calls Tryz.prog 181 #[.int .i64 k] w fun e w' => e = .returned (.int .i64 (opnd k : Nat)) ∧ w = w' := by
  have hk : k = 4 ∨ k = 5 ∨ k = 6 ∨ k = 7 ∨ k = 8 ∨ k = 9 ∨ k = 10 ∨ k = 11 ∨ k = 12 ∨ k = 13 ∨ k = 14 ∨ k = 15 ∨ k = 16 ∨ k = 17 ∨ k = 18 ∨ k = 19 := by omega
  clear h
  rcases hk with rfl | rfl | rfl | rfl | rfl | rfl | rfl | rfl | rfl | rfl | rfl | rfl | rfl | rfl | rfl | rfl
  all_goals
    go_enter Tryz.func181, Tryz.ntmps181
    go_wp2
    go_ret
    exact ⟨rfl, rfl⟩
theorem operands_neg (w : World) : Calls Tryz.prog 181 #[.int .i64 (-1)] w fun e w' => e = .returned (.int .i64 (-1)) ∧ w = w' := by
  go_enter Tryz.func181, Tryz.ntmps181
  go_wp2
  go_ret
  exact ⟨rfl, rfl⟩

theorem ra_int {b : Int} (hb : -9223372036854775808 < b) (w : World) : Calls Tryz.prog 175 #[.agg #[.int .i64 0, .int .i64 b, .string ⟨#[]⟩, .slice none 0 0]] w fun e w' => e = .returned (.bool true) ∧ Touch NoB w w' := by
  go_enter Tryz.func175, Tryz.ntmps175
  go_wp2
  go_ret
  exact ⟨rfl, (Touch.refl _ _).alloc _⟩
theorem ra_bool {b : Int} (hb : b = 0 ∨ b = 1) (w : World) : Calls Tryz.prog 175 #[.agg #[.int .i64 1, .int .i64 b, .string ⟨#[]⟩, .slice none 0 0]] w fun e w' => e = .returned (.bool true) ∧ Touch NoB w w' := by
  rcases hb with rfl | rfl
  all_goals
    go_enter Tryz.func175, Tryz.ntmps175
    go_wp2
    go_ret
    exact ⟨rfl, (Touch.refl _ _).alloc _⟩
theorem ra_name {a : Int} (ha : a = 2 ∨ a = 3) {s : Bs} (hs : okN s = true) (w : World) : Calls Tryz.prog 175 #[.agg #[.int .i64 a, .int .i64 0, .string (bs s), .slice none 0 0]] w fun e w' => e = .returned (.bool true) ∧ Touch NoB w w' := by
  have HL := Lib.hid (fun w => lname_any (bs s) (by rw [bs_size]; have := okN_len hs; omega) w)
  unfold okN at hs
  rw [hs] at HL
  clear hs
  obtain ⟨sx, hsx⟩ : ∃ sx, bs s = sx := ⟨_, rfl⟩
  rw [hsx] at HL ⊢
  clear hsx
  rcases ha with rfl | rfl
  all_goals
    go_enter Tryz.func175, Tryz.ntmps175
    go_wp2_with (first | (go_at_call 109; refine (HL.out _).mono ?_; rintro e w' ⟨rfl, rfl⟩))
    go_ret
    exact ⟨rfl, (Touch.refl _ _).alloc _⟩
theorem ra_kind {a : Int} (ha : 4 ≤ a ∧ a ≤ 19) {A : Option Addr} {m c : Nat} (hm : m = opnd a) (w : World) : Calls Tryz.prog 175 #[.agg #[.int .i64 a, .int .i64 0, .string ⟨#[]⟩, .slice A m c]] w fun e w' => e = .returned (.bool true) ∧ Touch NoB w w' := by
  have HO := Lib.hid (fun w => operands_kd a ha w)
  have h0 : (a == 0) = false := by simp; omega
  have h1 : (a == 1) = false := by simp; omega
  have h2 : (a == 2) = false := by simp; omega
  have h3 : (a == 3) = false := by simp; omega
  have he : ((m : Int) == ((opnd a : Nat) : Int)) = true := by rw [hm]; simp
  obtain ⟨op, hop⟩ : ∃ op, opnd a = op := ⟨_, rfl⟩
  rw [hop] at HO he
  clear hop hm
  go_enter Tryz.func175, Tryz.ntmps175
  go_wp2_with fail
  go_region_law (go_simp; go_at_call 181; refine (HO.out _).mono ?_; rintro r w2 ⟨rfl, rfl⟩)
  all_goals
    go_wp2
    go_ret
    exact ⟨rfl, by repeat (first | with_reducible exact Touch.refl _ _ | with_reducible refine Touch.drew ?_ | with_reducible refine Touch.alloc ?_ _)⟩
theorem ra_neg (w : World) : Calls Tryz.prog 175 #[.agg #[.int .i64 (-1), .int .i64 0, .string ⟨#[]⟩, .slice none 0 0]] w fun e w' => e = .returned (.bool false) ∧ Touch NoB w w' := by
  have HO := Lib.hid (fun w => operands_neg w)
  go_enter Tryz.func175, Tryz.ntmps175
  go_wp2_with fail
  go_region_law (go_simp; go_at_call 181; refine (HO.out _).mono ?_; rintro r w2 ⟨rfl, rfl⟩)
  all_goals
    go_wp2
    go_ret
    exact ⟨rfl, by repeat (first | with_reducible exact Touch.refl _ _ | with_reducible refine Touch.drew ?_ | with_reducible refine Touch.alloc ?_ _)⟩
end Go.Proofs.YtkmbobfjoaldgaaGreatDoor
