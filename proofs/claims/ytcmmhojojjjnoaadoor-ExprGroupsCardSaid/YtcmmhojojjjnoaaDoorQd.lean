/-
  What package expr's accept, fail, number, name and expect do with a parser in memory. Conditions: those that each theorem names.
-/
import Derived.Test.YtcmmhojojjjnoaaDoorQc
namespace Go.Proofs.YtcmmhojojjjnoaaDoor
open Go.ChangeShapes Go.WideShapes Go.ChangeAt Go.RowKit
set_option maxRecDepth 100000
set_option maxHeartbeats 4000000

/-- Is t this word or sign? -/
def acc (t : Tk) (s : Bs) : Bool := (t.kd == 2 || t.kd == 4) && t.tx == s
theorem acc_ok (ts : List Tk) (k : Nat) (s : Bs) : acc (nxt ts k 0) s = sg ts k s := by
  unfold nxt sg
  rw [if_pos rfl]
  cases h : ts[k]? with
  | none => rfl
  | some t => rfl
theorem acc_bad {ts : List Tk} {k e : Nat} {s : Bs} (h : e ≠ 0) : acc (nxt ts k e) s = false := by rw [nxt_bad h]; rfl
theorem acc_zero {ts : List Tk} {k e : Nat} {s : Bs} (h : acc (nxt ts k e) s = true) : e = 0 := by
  by_cases he : e = 0
  · exact he
  · rw [acc_bad he] at h; cases h
theorem PS.acc_lt {w : World} {gp g n cp : Nat} {ts : List Tk} {k e : Nat} {s : Bs} (h : PS w gp g n cp ts k e) (ha : acc (nxt ts k e) s = true) : k < n := by
  have := acc_zero ha
  subst this
  rw [acc_ok] at ha
  rw [← h.len]
  exact sg_lt ha
theorem touch_set {w w1 : World} {gp : Nat} (h : Touch (AtB gp) w w1) (i : Nat) (v : Value) : Touch (AtB gp) w (w1.setCell ⟨gp, i, none⟩ v) := h.setCell (p := ⟨gp, i, none⟩) (.inl rfl) v

theorem ne_nat (a b : Nat) : ((a : Int) != (b : Int)) = !(a == b) := by
  by_cases h : a = b
  · subst h; simp
  · have : ¬ (a : Int) = b := by omega
    have h1 : ((a : Int) == (b : Int)) = false := by simpa using this
    have h2 : (a == b) = false := by simpa using h
    show (!((a : Int) == (b : Int))) = _
    rw [h1, h2]
theorem accept_no {w : World} {gp g n cp : Nat} {ts : List Tk} {k e : Nat} {s : Bs} (h : PS w gp g n cp ts k e) (ha : acc (nxt ts k e) s = false) :
    Calls Tryd.prog 41 #[.pointer (some ⟨gp, 0, none⟩), .string (bs s)] w fun x w' => x = .returned (.bool false) ∧ PS w' gp g n cp ts k e ∧ Touch NoB w w' := by
  have HN := Lib.hid (next_any h)
  have HP := Lib.hid h
  obtain ⟨t, ht⟩ : ∃ t, nxt ts k e = t := ⟨_, rfl⟩
  rw [ht] at HN ha
  unfold acc at ha
  have hbl : (bs t.tx).toList = t.tx := bs_toList _
  have hsl : (bs s).toList = s := bs_toList _
  have hx : ((bs t.tx).toList == (bs s).toList) = (t.tx == s) := by rw [hbl, hsl]
  have hk2 : ((t.kd : Int) != 2) = !(t.kd == 2) := ne_nat _ 2
  have hk4 : ((t.kd : Int) != 4) = !(t.kd == 4) := ne_nat _ 4
  clear h ht hbl hsl
  obtain ⟨sx, hsx⟩ : ∃ sx, bs t.tx = sx := ⟨_, rfl⟩
  obtain ⟨sy, hsy⟩ : ∃ sy, bs s = sy := ⟨_, rfl⟩
  rw [hsx] at HN hx
  rw [hsy] at hx ⊢
  clear hsx hsy
  obtain ⟨kd, nn, pl, tx⟩ := t
  simp only at HN hx hk2 hk4 ha
  cases h1 : (kd == 2) <;> cases h2 : (kd == 4) <;> cases h3 : (tx == s) <;> rw [h1, h2, h3] at ha <;> (try (cases ha; done)) <;> rw [h1] at hk2 <;> rw [h2] at hk4 <;> rw [h3] at hx
  all_goals
    simp only [Bool.not_true, Bool.not_false] at hk2 hk4
    clear ha h1 h2 h3
    go_enter Tryd.func41, Tryd.ntmps41
    go_wp2_with fail
    refine HN.out.mono ?_
    rintro x w1 ⟨rfl, hT1⟩
    have HT1 := Lib.hid hT1
    clear hT1
    go_wp2
    go_ret
    have hT2 : Touch NoB w _ := HT1.out.alloc (.cells #[.int .i64 (kd : Int), .int .i64 (nn : Int), .int .i64 (pl : Int), .string sx] 50)
    exact ⟨rfl, HP.out.touch hT2, hT2⟩
end Go.Proofs.YtcmmhojojjjnoaaDoor
