/-
  LexNumbers: which digits are a number, up to the greatest one. Conditions: the library's own variable can be read.
-/
import Derived.Test.YtmgmmbeldhleoaaDoorLk
namespace Go.Proofs.YtmgmmbeldhleoaaDoor
open Go.ChangeShapes Go.WideShapes Go.ChangeAt Go.RowKit
set_option maxRecDepth 100000
set_option maxHeartbeats 4000000

theorem bs_app (a b : Bs) : bs (a ++ b) = bs a ++ bs b := by
  apply ByteArray.ext
  simp [bs]
theorem digit_run (k : Nat) (hk : k < 10) (w : World) : (Instr.slice 9 (.string ⟨#[48, 49, 50, 51, 52, 53, 54, 55, 56, 57]⟩) (some (.int .i64 (k : Int))) (some (.int .i64 ((k : Int) + 1))) none).run Tryd.prog w = .ok (.string (bs [UInt8.ofNat (48 + k)])) w := by
  rcases k with _ | _ | _ | _ | _ | _ | _ | _ | _ | _ | k
  case succ.succ.succ.succ.succ.succ.succ.succ.succ.succ => exact absurd hk (by omega)
  all_goals kernel_rfl
theorem decF_low (f n : Nat) (h : n < 10) : decF f n = [UInt8.ofNat (48 + n)] := by
  have e : n % 10 = n := Nat.mod_eq_of_lt h
  cases f with
  | zero => simp only [decF, e]
  | succ f => simp only [decF, e]; rw [if_neg (by omega)]
theorem decF_len : ∀ (f n : Nat), (decF f n).length ≤ f + 1
  | 0, n => by simp [decF]
  | f + 1, n => by
    simp only [decF]
    split
    · rw [List.length_append]; have := decF_len f (n / 10); simp; omega
    · simp
theorem dec_low (f n : Nat) (hn : n < 10) (w : World) :
    Calls Tryd.prog 16 #[.int .i64 n] w fun e w' => e = .returned (.string (bs (decF f n))) ∧ w = w' := by
  have d1 : ((n : Int).tmod 10) = n := by rw [Int.tmod_eq_emod_of_nonneg (by omega)]; omega
  have d0 : ¬ (n : Int) < 0 := by omega
  have d9 : ¬ 9 < (n : Int) := by omega
  have HR := digit_run n hn
  rw [decF_low f n hn]
  go_enter Tryd.func16, Tryd.ntmps16
  go_wp2
  go_ret
  exact ⟨rfl, rfl⟩
theorem dec_step (n : Nat) (s : ByteArray) (hn : ¬ n < 10) (hn2 : n ≤ 9223372036854775807) (w : World) (h : ∀ w, Calls Tryd.prog 16 #[.int .i64 ((n / 10 : Nat) : Int)] w fun e w' => e = .returned (.string s) ∧ w = w') (hs : s.size ≤ 100) :
    Calls Tryd.prog 16 #[.int .i64 n] w fun e w' => e = .returned (.string (s ++ bs [UInt8.ofNat (48 + n % 10)])) ∧ w = w' := by
  have d1 : ((n : Int).tmod 10) = ((n % 10 : Nat) : Int) := by rw [Int.tmod_eq_emod_of_nonneg (by omega)]; omega
  have d2 : ((n : Int).tdiv 10) = ((n / 10 : Nat) : Int) := by rw [Int.tdiv_eq_ediv_of_nonneg (by omega)]; omega
  have d0 : ¬ (n : Int) < 0 := by omega
  have d9 : 9 < (n : Int) := by omega
  have HR := digit_run (n % 10) (by omega)
  have hsz : ¬ 9223372036854775807 < s.size + (bs [UInt8.ofNat (48 + n % 10)]).size := by rw [bs_size]; simp; omega
  have hq1 : n / 10 ≤ 922337203685477580 := by omega
  have H := Lib.hid h
  clear h
  obtain ⟨r, hr⟩ : ∃ r, n % 10 = r := ⟨_, rfl⟩
  obtain ⟨q, hq⟩ : ∃ q, n / 10 = q := ⟨_, rfl⟩
  rw [hr] at d1 HR hsz ⊢
  rw [hq] at d2 H hq1
  obtain ⟨dg, hdg⟩ : ∃ dg, bs [UInt8.ofNat (48 + r)] = dg := ⟨_, rfl⟩
  rw [hdg] at HR hsz ⊢
  have hr2 : r < 10 := by omega
  clear hdg hr hq
  go_enter Tryd.func16, Tryd.ntmps16
  go_wp2_with fail
  refine (H.out _).mono ?_
  rintro e w' ⟨rfl, rfl⟩
  go_wp2
  go_ret
  exact ⟨rfl, rfl⟩
theorem dec_f : ∀ (f n : Nat), f ≤ 18 → n < 10 ^ (f + 1) → n ≤ 9223372036854775807 → ∀ w, Calls Tryd.prog 16 #[.int .i64 n] w fun e w' => e = .returned (.string (bs (decF f n))) ∧ w = w'
  | 0, n, _, h, _, w => dec_low 0 n (by simpa using h) w
  | f + 1, n, hf, h, hn, w => by
    by_cases h9 : n < 10
    · exact dec_low (f + 1) n h9 w
    · have h2 : n / 10 < 10 ^ (f + 1) := by
        rw [Nat.pow_succ] at h
        exact Nat.div_lt_of_lt_mul (by rw [Nat.mul_comm]; exact h)
      have e : decF (f + 1) n = decF f (n / 10) ++ [UInt8.ofNat (48 + n % 10)] := by simp only [decF]; rw [if_pos (by omega)]
      rw [e, bs_app]
      exact dec_step n _ h9 hn w (fun w => dec_f f (n / 10) (by omega) h2 (by omega) w) (by rw [bs_size]; have := decF_len f (n / 10); omega)
theorem dec_any (n : Nat) (hn : n ≤ 9223372036854775807) (w : World) : Calls Tryd.prog 16 #[.int .i64 n] w fun e w' => e = .returned (.string (bs (decF 18 n))) ∧ w = w' :=
  dec_f 18 n (Nat.le_refl _) (by omega) hn w

end Go.Proofs.YtmgmmbeldhleoaaDoor
