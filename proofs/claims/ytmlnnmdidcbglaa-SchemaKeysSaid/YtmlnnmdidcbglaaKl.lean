/-
  SchemaKeys: no list, and too much.
-/
import Derived.Test.YtmlnnmdidcbglaaKf
import Derived.Test.YtmlnnmdidcbglaaKg
import Derived.Deep.DeepCutAuto
import Derived.Deep.RegionHeld3
namespace Go.Proofs.Ytmlnnmdidcbglaa
open Go.ChangeShapes Go.WideShapes Go.ChangeAt Go.RowKit
set_option maxRecDepth 100000
set_option maxHeartbeats 80000000

theorem keys_out (A : Option Addr) (n cap : Nat) (s : ByteArray) (at_ : Int) (w : World) (hn : n ≤ 9223372036854775807) (hs : s.size ≤ 9223372036854775807) (ho : 120 < n ∨ 60 < s.size) :
    Calls Try.prog 3 #[.slice A n cap, .string s, .int .i64 at_] w fun e w' => e = .returned (.bool true) ∧ Touch NoB w w' := by
  have h1 : 120 < n ∨ (n ≤ 120 ∧ 60 < s.size) := by omega
  clear ho
  rcases h1 with h0 | ⟨h0, h1⟩
  all_goals
    go_enter Try.func3, Try.ntmps3
    go_wp2_with fail
    refine (alive_any _).mono ?_
    rintro e w1 ⟨rfl, hT1⟩
    have HT1 := Lib.hid hT1
    clear hT1
    go_wp2
    go_ret
    exact ⟨rfl, HT1.out⟩

theorem find_nil (s : ByteArray) : findK [] s = none := rfl
theorem key_nil (i : Int) : keyV [] i = .tuple #[.agg #[.string ⟨#[]⟩, .int .i64 0, .bool false], .bool false] := by
  unfold keyV
  rw [show (if 0 ≤ i then ([] : List Ky)[i.toNat]? else none) = none from by split <;> simp]
theorem keys_nil (s : ByteArray) (at_ : Int) (w : World) (hs : s.size ≤ 60) :
    Calls Try.prog 3 #[.slice none 0 0, .string s, .int .i64 at_] w fun e w' => e = .returned (.bool true) ∧ Touch NoB w w' := by
  have g2 : ¬ 60 < (s.size : Int) := by omega
  have hw : decide ((0 : Int) ≤ at_) = false ∨ (decide ((0 : Int) ≤ at_) = true ∧ decide (at_ < 0) = false) := by
    by_cases h : at_ < 0
    · exact .inl (by simpa using h)
    · exact .inr ⟨by simp; omega, by simp; omega⟩
  have HW := Lib.hid hw
  have he0 : errK [] = 0 := by decide +kernel
  have HE := Lib.hid he0
  clear hw he0
  go_enter Try.func3, Try.ntmps3
  go_wp2_with fail
  refine (alive_any _).mono ?_
  rintro e w1 ⟨rfl, hT1⟩
  have HT1 := Lib.hid hT1
  clear hT1
  go_wp2_with fail
  refine (new_yes none 0 0 [] w1 rfl (by decide) (kat_nil w1 none) HE.out).mono ?_
  rintro e w3 ⟨g, rfl, hS, hT3⟩
  have HS := Lib.hid hS
  have HT3 := Lib.hid (HT1.out.same hT3)
  clear hS hT3
  go_wp2_with fail
  refine (checkkeys_any none 0 0 [] w3 rfl (by decide) (by decide) (by decide) (kat_nil w3 none)).mono ?_
  rintro e w4 ⟨p4, rfl, hT4⟩
  rw [HE.out]
  have HT4 := Lib.hid hT4
  clear hT4
  go_wp2_with fail
  refine (num_any _ _).mono ?_
  rintro e w' ⟨rfl, rfl⟩
  go_wp2_with fail
  refine (find_any g [] s _ w4 (HS.out.quiet HT4.out) (by decide)).mono ?_
  rintro e w5 ⟨rfl, hT5⟩
  have HT5 := Lib.hid (HT4.out.same hT5)
  clear hT5
  rw [find_nil]
  unfold fndV
  go_wp2_with fail
  refine (findkey_any none 0 0 [] s NoB w5 rfl (by decide) (kat_nil w5 none)).mono ?_
  rintro e w' ⟨rfl, rfl⟩
  rw [find_nil]
  unfold posV
  go_wp2_with fail
  refine (key_any g at_ [] _ w5 (HS.out.quiet HT5.out)).mono ?_
  rintro e w6 ⟨rfl, hT6⟩
  have HT6 := Lib.hid (HT5.out.same hT6)
  clear hT6
  rw [key_nil]
  rcases HW.out with d0 | ⟨d0, d1⟩
  all_goals
    go_wp2_with fail
    go_region
    go_wp2_with fail
    refine (own_any g [] _ _ (HS.out.quiet (HT6.out.same (by repeat (first | with_reducible exact Touch.refl _ _ | with_reducible refine Touch.alloc ?_ _ | with_reducible refine Touch.drewN ?_ _ | with_reducible refine Touch.drew ?_)))) (by decide)).mono ?_
    rintro e w7 ⟨v7, rfl, hr7, hT7⟩
    rw [show (nmsB false []).length = 0 from rfl] at hr7
    obtain ⟨A7, cap7, rfl, hc7, hm7⟩ := row_any hr7
    have HT7 := Lib.hid (HT6.out.same (Touch.same (by repeat (first | with_reducible exact Touch.refl _ _ | with_reducible refine Touch.alloc ?_ _ | with_reducible refine Touch.drewN ?_ _ | with_reducible refine Touch.drew ?_)) hT7))
    clear hr7 hT7
    go_wp2_with fail
    refine (shared_any g [] _ _ (HS.out.quiet HT7.out) (by decide)).mono ?_
    rintro e w8 ⟨v8, rfl, hr8, hT8⟩
    rw [show (nmsB true []).length = 0 from rfl] at hr8
    obtain ⟨A8, cap8, rfl, hc8, hm8⟩ := row_any hr8
    have HT8 := Lib.hid (HT7.out.same hT8)
    clear hr8 hT8
    go_wp2
    go_loopw [19, 20, 21] (fun v19 v20 v21 wr => v19 = .int .i64 0 ∧ v20 = .int .i64 0 ∧ v21 = .int .i64 0 ∧ Touch NoB w8 wr) (fun _ _ _ _ => 0)
    case atStart => exact ⟨rfl, rfl, rfl, Touch.refl _ _⟩
    case round =>
      obtain ⟨rfl, rfl, rfl, hT⟩ := hrel
      have HTR := Lib.hid hT
      clear hT
      go_wp2
      go_ret
      exact ⟨rfl, HT3.out.same (HT8.out.same HTR.out)⟩
end Go.Proofs.Ytmlnnmdidcbglaa
