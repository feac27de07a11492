/-
  What package tokens' Is does with a reader in memory. Conditions: those that each theorem names.
-/
import Derived.Test.YtkmbobfjoaldgaaGreatDoorQc
namespace Go.Proofs.YtkmbobfjoaldgaaGreatDoor
open Go.ChangeShapes Go.WideShapes Go.ChangeAt Go.RowKit
set_option maxRecDepth 100000
set_option maxHeartbeats 4000000

/-- Is t this word or sign? -/
def acc (t : Tk) (s : Bs) : Bool := (t.kd == 2 || t.kd == 4) && t.tx == s
theorem acc_ok (ts : List Tk) (k : Nat) (s : Bs) : acc (nxt ts k 0) s = sg ts k s := by
  unfold nxt sg
  rw [if_pos rfl]
  cases h : ts[k]? with
  | none => rfl
  | some t => rfl
theorem acc_bad {ts : List Tk} {k e : Nat} {s : Bs} (h : e ≠ 0) : acc (nxt ts k e) s = false := by rw [nxt_bad h]; rfl
theorem acc_zero {ts : List Tk} {k e : Nat} {s : Bs} (h : acc (nxt ts k e) s = true) : e = 0 := by
  by_cases he : e = 0
  · exact he
  · rw [acc_bad he] at h; cases h
theorem PSt.acc_lt {T : TypeId} {w : World} {gp g n cp : Nat} {ts : List Tk} {k e : Nat} {s : Bs} (h : PSt T w gp g n cp ts k e) (ha : acc (nxt ts k e) s = true) : k < n := by
  have := acc_zero ha
  subst this
  rw [acc_ok] at ha
  rw [← h.len]
  exact sg_lt ha
theorem touch_set {w w1 : World} {gp : Nat} (h : Touch (AtB gp) w w1) (i : Nat) (v : Value) : Touch (AtB gp) w (w1.setCell ⟨gp, i, none⟩ v) := h.setCell (p := ⟨gp, i, none⟩) (.inl rfl) v

theorem ne_nat (a b : Nat) : ((a : Int) != (b : Int)) = !(a == b) := by
  by_cases h : a = b
  · subst h; simp
  · have : ¬ (a : Int) = b := by omega
    have h1 : ((a : Int) == (b : Int)) = false := by simpa using this
    have h2 : (a == b) = false := by simpa using h
    show (!((a : Int) == (b : Int))) = _
    rw [h1, h2]
theorem eq_nat (a b : Nat) : ((a : Int) == (b : Int)) = (a == b) := by
  by_cases h : a = b
  · subst h; simp
  · have : ¬ (a : Int) = b := by omega
    have h1 : ((a : Int) == (b : Int)) = false := by simpa using this
    have h2 : (a == b) = false := by simpa using h
    rw [h1, h2]
/-- Does this word or sign come? -/
theorem is_any {T : TypeId} {w : World} {gp g n cp : Nat} {ts : List Tk} {k e : Nat} {s : Bs} (h : PSt T w gp g n cp ts k e) :
    Calls Tryz.prog 79 #[.pointer (some ⟨gp, 0, none⟩), .string (bs s)] w fun x w' => x = .returned (.bool (acc (nxt ts k e) s)) ∧ Touch NoB w w' := by
  have HN := Lib.hid (next_any h)
  obtain ⟨t, ht⟩ : ∃ t, nxt ts k e = t := ⟨_, rfl⟩
  rw [ht] at HN ⊢
  unfold acc
  have hbl : (bs t.tx).toList = t.tx := bs_toList _
  have hsl : (bs s).toList = s := bs_toList _
  have hx : ((bs t.tx).toList == (bs s).toList) = (t.tx == s) := by rw [hbl, hsl]
  have hk2 : ((t.kd : Int) == 2) = (t.kd == 2) := eq_nat _ 2
  have hk4 : ((t.kd : Int) == 4) = (t.kd == 4) := eq_nat _ 4
  clear h ht hbl hsl
  obtain ⟨sx, hsx⟩ : ∃ sx, bs t.tx = sx := ⟨_, rfl⟩
  obtain ⟨sy, hsy⟩ : ∃ sy, bs s = sy := ⟨_, rfl⟩
  rw [hsx] at HN hx
  rw [hsy] at hx ⊢
  clear hsx hsy
  obtain ⟨kd, nn, pl, tx⟩ := t
  simp only at HN hx hk2 hk4 ⊢
  have hk24 : (kd == 2) = true → (kd == 4) = false := by intro h; rw [beq_iff_eq] at h; subst h; rfl
  cases h1 : (kd == 2) <;> cases h2 : (kd == 4) <;> cases h3 : (tx == s) <;> rw [h1] at hk2 hk24 <;> rw [h2] at hk4 hk24 <;> rw [h3] at hx <;> (try (exact absurd (hk24 rfl) (by decide)))
  all_goals
    clear h1 h2 h3 hk24
    go_enter Tryz.func79, Tryz.ntmps79
    go_wp2_with fail
    refine HN.out.mono ?_
    rintro x w1 ⟨rfl, hT1⟩
    have HT1 := Lib.hid hT1
    clear hT1
    go_wp2
    go_ret
    exact ⟨rfl, HT1.out.alloc (.cells #[.int .i64 (kd : Int), .int .i64 (nn : Int), .int .i64 (pl : Int), .string sx] 60)⟩
end Go.Proofs.YtkmbobfjoaldgaaGreatDoor
