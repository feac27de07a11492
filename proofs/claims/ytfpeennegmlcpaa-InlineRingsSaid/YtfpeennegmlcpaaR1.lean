/-
  The document's own Dec below 100; the names t0, t1 and so on; what package inline's Tree makes of trees that use each other in a row or in a ring, in lists. Conditions: those that each theorem names.
-/
import Derived.Test.YtfpeennegmlcpaaJ7
namespace Go.Proofs.Ytfpeennegmlcpaa
open Go.ChangeShapes Go.WideShapes Go.ChangeAt Go.RowKit
set_option maxRecDepth 100000
set_option maxHeartbeats 4000000

def dg1 (k : Nat) : ByteArray := ⟨#[UInt8.ofNat (48 + k)]⟩
def dgS (n : Nat) : ByteArray := if n < 10 then dg1 n else dg1 (n / 10) ++ dg1 (n % 10)
def nmI (i : Nat) : ByteArray := ⟨#[116]⟩ ++ dgS i
theorem digitN_run (k : Nat) (hk : k < 10) (w : World) : (Instr.slice 9 (.string ⟨#[48, 49, 50, 51, 52, 53, 54, 55, 56, 57]⟩) (some (.int .i64 (k : Int))) (some (.int .i64 ((k : Int) + 1))) none).run Try.prog w = .ok (.string (dg1 k)) w := by
  rcases k with _ | _ | _ | _ | _ | _ | _ | _ | _ | _ | k
  case succ.succ.succ.succ.succ.succ.succ.succ.succ.succ => exact absurd hk (by omega)
  all_goals kernel_rfl
theorem decN_low (n : Nat) (hn : n < 10) (w : World) : Calls Try.prog 28 #[.int .i64 n] w fun e w' => e = .returned (.string (dg1 n)) ∧ w = w' := by
  have d1 : ((n : Int).tmod 10) = n := by rw [Int.tmod_eq_emod_of_nonneg (by omega)]; omega
  have d0 : ¬ (n : Int) < 0 := by omega
  have d9 : ¬ 9 < (n : Int) := by omega
  have HR := digitN_run n hn
  go_enter Try.func28, Try.ntmps28
  go_wp2
  go_ret
  exact ⟨rfl, rfl⟩
theorem decN_any (n : Nat) (hn : n < 100) (w : World) : Calls Try.prog 28 #[.int .i64 n] w fun e w' => e = .returned (.string (dgS n)) ∧ w = w' := by
  unfold dgS
  by_cases h9 : n < 10
  · rw [if_pos h9]; exact decN_low n h9 w
  · rw [if_neg h9]
    have d1 : ((n : Int).tmod 10) = ((n % 10 : Nat) : Int) := by rw [Int.tmod_eq_emod_of_nonneg (by omega)]; omega
    have d2 : ((n : Int).tdiv 10) = ((n / 10 : Nat) : Int) := by rw [Int.tdiv_eq_ediv_of_nonneg (by omega)]; omega
    have d0 : ¬ (n : Int) < 0 := by omega
    have d9 : 9 < (n : Int) := by omega
    have HR := digitN_run (n % 10) (by omega)
    have H := Lib.hid (decN_low (n / 10) (by omega))
    obtain ⟨r, hr⟩ : ∃ r, n % 10 = r := ⟨_, rfl⟩
    obtain ⟨q, hq⟩ : ∃ q, n / 10 = q := ⟨_, rfl⟩
    rw [hr] at d1 HR ⊢
    rw [hq] at d2 H ⊢
    have hr2 : r < 10 := by omega
    have hq1 : q ≤ 9 := by omega
    obtain ⟨e1, he1⟩ : ∃ e1, dg1 r = e1 := ⟨_, rfl⟩
    obtain ⟨e2, he2⟩ : ∃ e2, dg1 q = e2 := ⟨_, rfl⟩
    have hsz : ¬ 9223372036854775807 < e2.size + e1.size := by subst he1 he2; unfold dg1; simp [ByteArray.size]
    rw [he1] at HR ⊢
    rw [he2] at H ⊢
    clear hr hq he1 he2
    go_enter Try.func28, Try.ntmps28
    go_wp2_with fail
    refine (H.out _).mono ?_
    rintro e w' ⟨rfl, rfl⟩
    go_wp2
    go_ret
    exact ⟨rfl, rfl⟩
theorem nmI_eq : ∀ i, i < 30 → ∀ j, j < 30 → eqN (nmI i) (nmI j) = decide (i = j) := by decide +kernel
theorem nmI_size : ∀ i, i < 30 → (nmI i).size ≤ 3 := by decide +kernel

/-- What stands in the i-th of n trees. -/
def xR (n i : Nat) (ring : Bool) : BN := if i + 1 = n ∧ ring = false then .mk 15 nmE [] else .mk 10 (nmI ((i + 1) % n)) []
def tsR (n : Nat) (ring : Bool) : List TrP := (List.range n).map fun i => (nmI i, .mk 5 nmE [xR n i ring])
/-- So many nodes above an NWait. -/
def waits : Nat → BN
  | 0 => .mk 15 nmE []
  | k + 1 => .mk 5 nmE [waits k]
theorem tsR_len (n : Nat) (ring : Bool) : (tsR n ring).length = n := by simp [tsR]
theorem tsR_get {n i : Nat} (h : i < n) (ring : Bool) : (tsR n ring)[i]? = some (nmI i, .mk 5 nmE [xR n i ring]) := by
  unfold tsR
  rw [List.getElem?_map, List.getElem?_range h]
  rfl
theorem kdN_nth : ∀ {l : List NmP} {s : ByteArray} {i : Nat} {v : Nat}, l[i]? = some (s, v) → (∀ (j : Nat) (x : NmP), j < i → l[j]? = some x → eqN x.1 s = false) → kdN l s = some v
  | [], s, i, v, h, _ => by simp at h
  | x :: l, s, 0, v, h, _ => by
    simp at h
    subst h
    unfold kdN
    rw [if_pos (eqN_iff.2 rfl)]
  | x :: l, s, i + 1, v, h, hn => by
    have h0 := hn 0 x (by omega) rfl
    unfold kdN
    rw [if_neg (by simp [h0])]
    exact kdN_nth (i := i) (by simpa using h) (fun j y hj hy => hn (j + 1) y (by omega) (by simpa using hy))
theorem kdR {n i : Nat} (hn : n ≤ 30) (h : i < n) (ring : Bool) : kdN (nmsT (tsR n ring)) (nmI i) = some i := by
  refine kdN_nth (i := i) (nmsT_get _ i _ (tsR_get h ring)) (fun j x hj hx => ?_)
  rw [nmsT_get _ j _ (tsR_get (show j < n by omega) ring)] at hx
  injection hx with hx
  subst hx
  rw [nmI_eq j (by omega) i (by omega)]
  simp
  omega
def opnR (n i : Nat) : List Bool := List.replicate i true ++ List.replicate (n - i) false
theorem opnR_at {n i : Nat} (h : i < n) : (opnR n i)[i]? = some false := by
  unfold opnR
  rw [List.getElem?_append_right (by simp), List.length_replicate, Nat.sub_self, List.getElem?_replicate, if_pos (by omega)]
theorem opnR_set {n i : Nat} (h : i < n) : (opnR n i).set i true = opnR n (i + 1) := by
  apply List.ext_getElem?
  intro j
  unfold opnR
  rw [List.getElem?_set]
  by_cases e : i = j
  · subst e
    rw [if_pos rfl, if_pos (by simp; omega), List.getElem?_append_left (by simp), List.getElem?_replicate, if_pos (by omega)]
  · rw [if_neg e]
    by_cases hj : j < i
    · rw [List.getElem?_append_left (by simpa using hj), List.getElem?_append_left (by simp; omega), List.getElem?_replicate, List.getElem?_replicate, if_pos hj, if_pos (by omega)]
    · rw [List.getElem?_append_right (by simp; omega), List.getElem?_append_right (by simp; omega)]
      simp only [List.length_replicate, List.getElem?_replicate]
      by_cases hjn : j < n
      · rw [if_pos (by omega), if_pos (by omega)]
      · rw [if_neg (by omega), if_neg (by omega)]
theorem opnR_back {n i : Nat} (h : i < n) : (opnR n (i + 1)).set i false = opnR n i := by
  rw [← opnR_set h, List.set_set]
  apply List.ext_getElem?
  intro j
  rw [List.getElem?_set]
  by_cases e : i = j
  · subst e
    rw [if_pos rfl, opnR_at h, if_pos (List.getElem?_eq_some_iff.1 (opnR_at h)).1]
  · rw [if_neg e]
theorem opnR_zero {n : Nat} : opnR n 0 = List.replicate n false := by simp [opnR]
theorem ringM {n : Nat} (hn : n ≤ 30) (ring : Bool) : ∀ (k i : Nat), i + (k + 1) = n → ∀ f, k + 2 ≤ f → nodM (tsR n ring) f (i + 1) (opnR n i) i (.mk 10 (nmI i) []) = if ring = true then .error 8 else .ok (waits (k + 1), opnR n i, n + 1)
  | k, i, hi, 0, hf => absurd hf (by omega)
  | k, i, hi, f + 1, hf => by
    have hlt : i < n := by omega
    have hfo : folM (tsR n ring) ((tsR n ring).length + 1) (opnR n i) (.mk 10 (nmI i) []) = .ok (.mk 5 nmE [xR n i ring], [i], opnR n (i + 1)) := by
      rw [tsR_len, show n + 1 = (n - 1) + 2 by omega, ← opnR_set hlt]
      exact folM_one (kdR hn hlt ring) (opnR_at hlt) (tsR_get hlt ring) (by simp [BN.kd])
    have hsh : shutM (opnR n (i + 1)) [i] = opnR n i := by rw [shutM, shutM, opnR_back hlt]
    cases k with
    | zero =>
      by_cases hr : ring = true
      · rw [if_pos hr]
        have hx : xR n i ring = .mk 10 (nmI 0) [] := by
          unfold xR
          rw [if_neg (by simp [hr]), show i + 1 = n by omega, Nat.mod_self]
        have hk : nodM (tsR n ring) f (i + 1 + 1) (opnR n (i + 1)) (i + 1) (.mk 10 (nmI 0) []) = .error 8 := by
          obtain ⟨g, rfl⟩ : ∃ g, f = g + 1 := ⟨f - 1, by omega⟩
          have h0 : folM (tsR n ring) ((tsR n ring).length + 1) (opnR n (i + 1)) (.mk 10 (nmI 0) []) = .error 8 := by
            have hb : (opnR n (i + 1))[0]? = some true := by unfold opnR; rw [List.getElem?_append_left (by simp), List.getElem?_replicate, if_pos (by omega)]
            simp only [folM, BN.kd, BN.nm, if_true, kdR hn (show 0 < n by omega) ring, hb]
          simp only [nodM, h0]
        simp only [nodM, hfo]
        rw [if_neg (by omega), if_neg (by omega)]
        simp only [BN.ks, hx, kidM, hk]
      · rw [if_neg hr]
        have hr2 : ring = false := by cases ring <;> simp_all
        have hx : xR n i ring = .mk 15 nmE [] := by unfold xR; rw [if_pos ⟨by omega, hr2⟩]
        have hk : nodM (tsR n ring) f (i + 1 + 1) (opnR n (i + 1)) (i + 1) (.mk 15 nmE []) = .ok (.mk 15 nmE [], opnR n (i + 1), i + 1 + 1) := by
          obtain ⟨g, rfl⟩ : ∃ g, f = g + 1 := ⟨f - 1, by omega⟩
          exact nodM_ok (folM_plain (by simp [BN.kd])) (by omega) (by omega) rfl
        rw [nodM_ok hfo (by omega) (by omega) (ks := [.mk 15 nmE []]) (o2 := opnR n (i + 1)) (c2 := i + 1 + 1) (by simp only [BN.ks, hx, kidM, hk]), hsh]
        rw [show i + 1 + 1 = n + 1 by omega]
        rfl
    | succ k =>
      have hx : xR n i ring = .mk 10 (nmI (i + 1)) [] := by
        unfold xR
        rw [if_neg (by omega), Nat.mod_eq_of_lt (by omega)]
      have ih := ringM hn ring k (i + 1) (by omega) f (by omega)
      by_cases hr : ring = true
      · rw [if_pos hr] at ih ⊢
        simp only [nodM, hfo]
        rw [if_neg (by omega), if_neg (by omega)]
        simp only [BN.ks, hx, kidM, ih]
      · rw [if_neg hr] at ih ⊢
        rw [nodM_ok hfo (by omega) (by omega) (ks := [waits (k + 1)]) (o2 := opnR n (i + 1)) (c2 := n + 1) (by simp only [BN.ks, hx, kidM, ih]), hsh]
        rfl
theorem ringsM {n : Nat} (h1 : 1 ≤ n) (hn : n ≤ 30) (ring : Bool) : nodM (tsR n ring) 41 1 (List.replicate (tsR n ring).length false) 0 (.mk 10 (nmI 0) []) = if ring = true then .error 8 else .ok (waits n, opnR n 0, n + 1) := by
  have h := ringM hn ring (n - 1) 0 (by omega) 41 (by omega)
  rw [show n - 1 + 1 = n by omega, opnR_zero] at h
  rw [tsR_len, opnR_zero]
  exact h
theorem waits_cnt : ∀ m, (waits m).tt.cnt = m + 1
  | 0 => by simp [waits, BN.tt, Tt.cnt, ttL, cntT]
  | m + 1 => by
    have := waits_cnt m
    simp only [waits, BN.tt, ttL, Tt.cnt, cntT]
    omega
theorem waits_dep : ∀ m, (waits m).tt.dep = m + 1
  | 0 => by simp [waits, BN.tt, Tt.dep, ttL, depT]
  | m + 1 => by
    have := waits_dep m
    simp only [waits, BN.tt, ttL, Tt.dep, depT]
    omega
end Go.Proofs.Ytfpeennegmlcpaa
