/-
  What the document's own Dec returns below 1000.
-/
import Derived.Test.YtmlnnmdidcbglaaKg
namespace Go.Proofs.Ytmlnnmdidcbglaa
open Go.ChangeShapes Go.WideShapes Go.ChangeAt Go.RowKit
set_option maxRecDepth 100000
set_option maxHeartbeats 4000000

/-- A digit. -/
def dgt (k : Nat) : ByteArray := ⟨#[UInt8.ofNat (48 + k)]⟩
theorem digit_run (k : Nat) (hk : k < 10) (w : World) : (Instr.slice 9 (.string ⟨#[48, 49, 50, 51, 52, 53, 54, 55, 56, 57]⟩) (some (.int .i64 (k : Int))) (some (.int .i64 ((k : Int) + 1))) none).run Try.prog w = .ok (.string (dgt k)) w := by
  rcases k with _ | _ | _ | _ | _ | _ | _ | _ | _ | _ | k
  case succ.succ.succ.succ.succ.succ.succ.succ.succ.succ => exact absurd hk (by omega)
  all_goals kernel_rfl
/-- A number below 1000 in digits. -/
def dec1 (n : Nat) : ByteArray := dgt n
def dec2 (n : Nat) : ByteArray := if n < 10 then dgt n else dec1 (n / 10) ++ dgt (n % 10)
def dec3 (n : Nat) : ByteArray := if n < 10 then dgt n else dec2 (n / 10) ++ dgt (n % 10)

theorem dec_low (n : Nat) (hn : n < 10) (w : World) :
    Calls Try.prog 15 #[.int .i64 n] w fun e w' => e = .returned (.string (dgt n)) ∧ w = w' := by
  have d1 : ((n : Int).tmod 10) = n := by rw [Int.tmod_eq_emod_of_nonneg (by omega)]; omega
  have d0 : ¬ (n : Int) < 0 := by omega
  have d9 : ¬ 9 < (n : Int) := by omega
  have HR := digit_run n hn
  go_enter Try.func15, Try.ntmps15
  go_wp2
  go_ret
  exact ⟨rfl, rfl⟩
theorem dec_step (n : Nat) (s : ByteArray) (hn : ¬ n < 10) (hn2 : n < 1000) (w : World) (h : ∀ w, Calls Try.prog 15 #[.int .i64 ((n / 10 : Nat) : Int)] w fun e w' => e = .returned (.string s) ∧ w = w') (hs : s.size ≤ 100) :
    Calls Try.prog 15 #[.int .i64 n] w fun e w' => e = .returned (.string (s ++ dgt (n % 10))) ∧ w = w' := by
  have d1 : ((n : Int).tmod 10) = ((n % 10 : Nat) : Int) := by rw [Int.tmod_eq_emod_of_nonneg (by omega)]; omega
  have d2 : ((n : Int).tdiv 10) = ((n / 10 : Nat) : Int) := by rw [Int.tdiv_eq_ediv_of_nonneg (by omega)]; omega
  have d0 : ¬ (n : Int) < 0 := by omega
  have d9 : 9 < (n : Int) := by omega
  have HR := digit_run (n % 10) (by omega)
  have hsz : ¬ 9223372036854775807 < s.size + (dgt (n % 10)).size := by have : (dgt (n % 10)).size = 1 := rfl; omega
  have H := Lib.hid h
  clear h
  obtain ⟨r, hr⟩ : ∃ r, n % 10 = r := ⟨_, rfl⟩
  obtain ⟨q, hq⟩ : ∃ q, n / 10 = q := ⟨_, rfl⟩
  rw [hr] at d1 HR hsz ⊢
  rw [hq] at d2 H
  go_enter Try.func15, Try.ntmps15
  go_wp2_with fail
  refine (H.out _).mono ?_
  rintro e w' ⟨rfl, rfl⟩
  go_wp2
  go_ret
  exact ⟨rfl, rfl⟩
theorem dec_mid (n : Nat) (hn : n < 100) (w : World) :
    Calls Try.prog 15 #[.int .i64 n] w fun e w' => e = .returned (.string (dec2 n)) ∧ w = w' := by
  unfold dec2
  by_cases h : n < 10
  · rw [if_pos h]; exact dec_low n h w
  · rw [if_neg h]; exact dec_step n (dec1 (n / 10)) h (by omega) w (fun w => dec_low (n / 10) (by omega) w) (by have : (dec1 (n / 10)).size = 1 := rfl; omega)
theorem size_app (a b : ByteArray) : (a ++ b).size = a.size + b.size := ByteArray.size_append
theorem dec2_size (n : Nat) : (dec2 n).size ≤ 2 := by
  unfold dec2
  split
  · have : (dgt n).size = 1 := rfl
    omega
  · rw [size_app]
    have : (dec1 (n / 10)).size = 1 := rfl
    have : (dgt (n % 10)).size = 1 := rfl
    omega
theorem dec3_size (n : Nat) : (dec3 n).size ≤ 3 := by
  unfold dec3
  split
  · have : (dgt n).size = 1 := rfl
    omega
  · rw [size_app]
    have := dec2_size (n / 10)
    have : (dgt (n % 10)).size = 1 := rfl
    omega
theorem dec_any (n : Nat) (hn : n < 1000) (w : World) :
    Calls Try.prog 15 #[.int .i64 n] w fun e w' => e = .returned (.string (dec3 n)) ∧ w = w' := by
  unfold dec3
  by_cases h : n < 10
  · rw [if_pos h]; exact dec_low n h w
  · rw [if_neg h]; exact dec_step n (dec2 (n / 10)) h hn w (fun w => dec_mid (n / 10) (by omega) w) (by have := dec2_size (n / 10); omega)

/-- The name and the key at place i of SchemaMany's list. -/
def nmK (i : Nat) : ByteArray := ⟨#[107]⟩ ++ dec3 i
def kyK (i : Nat) : Ky := ⟨nmK i, 0, i % 2 == 1⟩
def kysK (n : Nat) : List Ky := (List.range n).map kyK
theorem nmK_size (i : Nat) : (nmK i).size ≤ 4 := by
  unfold nmK
  rw [size_app]
  have := dec3_size i
  have : (⟨#[107]⟩ : ByteArray).size = 1 := rfl
  omega
theorem nmK_names : (List.range 110).all (fun i => nameB (nmK i)) = true := by decide +kernel
theorem nmK_apart : (List.range 110).all (fun i => (List.range i).all fun j => !eqS (nmK j) (nmK i)) = true := by decide +kernel
theorem nmK_ok {i : Nat} (h : i < 110) : nameB (nmK i) = true := List.all_eq_true.1 nmK_names i (List.mem_range.2 h)
theorem nmK_ne {i j : Nat} (h : i < 110) (hj : j < i) : eqS (nmK j) (nmK i) = false := by
  have := List.all_eq_true.1 (List.all_eq_true.1 nmK_apart i (List.mem_range.2 h)) j (List.mem_range.2 hj)
  simpa using this
theorem kysK_len (n : Nat) : (kysK n).length = n := by simp [kysK]
theorem kysK_at {n i : Nat} (h : i < n) : (kysK n)[i]? = some (kyK i) := by simp [kysK, h]
theorem kysK_of {n i : Nat} {k : Ky} (h : (kysK n)[i]? = some k) : i < n ∧ k = kyK i := by
  have hi := (List.getElem?_eq_some_iff.1 h).1
  rw [kysK_len] at hi
  rw [kysK_at hi] at h
  injection h with h
  exact ⟨hi, h.symm⟩
theorem kysK_succ (n : Nat) : kysK (n + 1) = kysK n ++ [kyK n] := by simp [kysK, List.range_succ]
theorem eqS_refl (a : ByteArray) : eqS a a = true := by simp [eqS]
theorem kysK_find {n i : Nat} (hn : n ≤ 110) (h : i < n) : findK (kysK n) (nmK i) = some i :=
  findK_some (kysK_at h) (eqS_refl _) (fun j x hj hx => by obtain ⟨_, rfl⟩ := kysK_of hx; exact nmK_ne (by omega) hj)
theorem kysK_take {n i : Nat} (h : i ≤ n) : (kysK n).take i = kysK i := by
  unfold kysK
  rw [← List.map_take, List.take_range, Nat.min_eq_left h]
theorem kysK_err {n : Nat} (hn : n ≤ 100) : errK (kysK n) = 0 := by
  have hI : ∀ d i, i + d = n → errI (kysK n) i = 0 := by
    intro d
    induction d with
    | zero => intro i hi; exact errI_end _ _ (by rw [kysK_len]; omega)
    | succ d ih =>
      intro i hi
      have he : errAt ((kysK n).take i) (kyK i) = 0 := by
        have h1 := nmK_ok (i := i) (by omega)
        have h2 : findK ((kysK n).take i) (nmK i) = none := by
          rw [kysK_take (by omega)]
          exact findK_none (fun j x hx => by obtain ⟨hj, rfl⟩ := kysK_of hx; exact nmK_ne (by omega) hj)
        unfold errAt kyK
        simp [h1, h2, kindB]
      rw [errI_step _ i _ (kysK_at (by omega)), if_pos he]
      exact ih (i + 1) (by omega)
  unfold errK
  rw [if_neg (by rw [kysK_len]; omega), ← errI_zero]
  exact hI n 0 (by omega)
theorem kysK_many {n : Nat} (hn : 100 < n) : errK (kysK n) = 9 := by
  unfold errK; rw [if_pos (by rw [kysK_len]; omega)]
end Go.Proofs.Ytmlnnmdidcbglaa
