/-
  What package expr's number and name do with a parser in memory. Conditions: those that each theorem names.
-/
import Derived.Test.YtcmmhojojjjnoaaDoorQe
namespace Go.Proofs.YtcmmhojojjjnoaaDoor
open Go.ChangeShapes Go.WideShapes Go.ChangeAt Go.RowKit
set_option maxRecDepth 100000
set_option maxHeartbeats 4000000

theorem num_nxt {ts : List Tk} {k m : Nat} (h : numAt ts k = some m) : (nxt ts k 0).kd = 3 ∧ (nxt ts k 0).n = m := by
  unfold numAt at h
  cases ht : ts[k]? with
  | none => rw [ht] at h; cases h
  | some t =>
    rw [ht] at h
    simp only at h
    split at h
    · rename_i h3; injection h with h; rw [nxt_at ht]; exact ⟨h3, h⟩
    · cases h
theorem num_not {ts : List Tk} {k : Nat} (h : numAt ts k = none) : (nxt ts k 0).kd ≠ 3 := by
  unfold numAt at h
  cases ht : ts[k]? with
  | none => simp [nxt, ht]
  | some t =>
    rw [ht] at h
    simp only at h
    split at h
    · cases h
    · rename_i h3; rw [nxt_at ht]; exact h3
theorem nam_nxt {ts : List Tk} {k : Nat} {s : Bs} (h : nameAt ts k = some s) : (nxt ts k 0).kd = 1 ∧ (nxt ts k 0).tx = s := by
  unfold nameAt at h
  cases ht : ts[k]? with
  | none => rw [ht] at h; cases h
  | some t =>
    rw [ht] at h
    simp only at h
    split at h
    · rename_i h3; injection h with h; rw [nxt_at ht]; exact ⟨h3, h⟩
    · cases h
theorem nam_not {ts : List Tk} {k : Nat} (h : nameAt ts k = none) : (nxt ts k 0).kd ≠ 1 := by
  unfold nameAt at h
  cases ht : ts[k]? with
  | none => simp [nxt, ht]
  | some t =>
    rw [ht] at h
    simp only at h
    split at h
    · cases h
    · rename_i h3; rw [nxt_at ht]; exact h3

theorem number_yes {w : World} {gp g n cp : Nat} {ts : List Tk} {k m : Nat} (h : PS w gp g n cp ts k 0) (hn : numAt ts k = some m) :
    Calls Tryd.prog 42 #[.pointer (some ⟨gp, 0, none⟩)] w fun x w' => x = .returned (.int .i64 (m : Int)) ∧ PS w' gp g n cp ts (k + 1) 0 ∧ Touch (AtB gp) w w' := by
  have HN := Lib.hid (next_any h)
  have HP := Lib.hid h
  have hlt : k < n := by rw [← h.len]; exact num_lt hn
  have hsm := h.small
  obtain ⟨k1, hkk⟩ : ∃ k1, k + 1 = k1 := ⟨_, rfl⟩
  have hk1 : IntKind.i64.wrap ((k : Int) + 1) = (k1 : Int) := by rw [show (k : Int) + 1 = (k1 : Int) from by omega]; exact IntWalk.i64_in _ (by omega)
  rw [hkk]
  have hk1n : k1 ≤ n := by omega
  obtain ⟨h3, h4⟩ := num_nxt hn
  obtain ⟨t, ht⟩ : ∃ t, nxt ts k 0 = t := ⟨_, rfl⟩
  rw [ht] at HN h3 h4
  obtain ⟨kd, nn, pl, tx⟩ := t
  simp only at h3 h4 HN
  subst h3 h4
  have hmin : ((nn : Int) == -9223372036854775808) = false := by simp
  obtain ⟨sx, hsx⟩ : ∃ sx, bs tx = sx := ⟨_, rfl⟩
  rw [hsx] at HN
  clear hkk hlt hsm h ht hn hsx
  go_enter Tryd.func42, Tryd.ntmps42
  go_wp2_with fail
  refine HN.out.mono ?_
  rintro x w1 ⟨rfl, hT1⟩
  obtain ⟨W, hW⟩ : ∃ W, w1.alloc (.cells #[.int .i64 3, .int .i64 (nn : Int), .int .i64 (pl : Int), .string sx] 50) = W := ⟨_, rfl⟩
  have hT2 : Touch NoB w W := by rw [← hW]; exact hT1.alloc _
  have hp2 := HP.out.touch hT2
  have c1 : W.cell? ⟨gp, 1, none⟩ = some (.int .i64 (k : Int)) := cell_blk hp2.blk 1
  have q1 : W.frozen? ⟨gp, 1, none⟩ = false := free_blk hp2.blk 1
  have hb : W.heap[w1.heap.size]? = some (.cells #[.int .i64 3, .int .i64 (nn : Int), .int .i64 (pl : Int), .string sx] 50 (0, 0)) := by rw [← hW]; exact alloc_blk _ _ _ rfl
  have d0 : W.cell? ⟨w1.heap.size, 0, none⟩ = some (.int .i64 3) := cell_blk hb 0
  have d1 : W.cell? ⟨w1.heap.size, 1, none⟩ = some (.int .i64 nn) := cell_blk hb 1
  have hgp := blk_lt HP.out.blk
  have hgn : w1.heap.size ≠ gp := by have := hT1.size; omega
  have e1 : (W.setCell ⟨gp, 1, none⟩ (.int .i64 (k1 : Int))).cell? ⟨w1.heap.size, 1, none⟩ = some (.int .i64 nn) := by
    have tt := touch_set (gp := gp) (Touch.refl _ W) 1 (.int .i64 (k1 : Int))
    rw [tt.cell (p := ⟨w1.heap.size, 1, none⟩) (blk_lt hb) hgn]; exact d1
  have HE := Lib.hid (And.intro (hp2.setk k1 hk1n) (touch_set (gp := gp) (Touch.anyB hT2) 1 (.int .i64 (k1 : Int))))
  clear hT1 hT2 hp2 hb
  go_wp2
  go_ret
  exact ⟨rfl, HE.out.1, HE.out.2⟩
theorem number_no {w : World} {gp g n cp : Nat} {ts : List Tk} {k : Nat} (h : PS w gp g n cp ts k 0) (hn : numAt ts k = none) :
    Calls Tryd.prog 42 #[.pointer (some ⟨gp, 0, none⟩)] w fun x w' => x = .returned (.int .i64 0) ∧ PS w' gp g n cp ts k 2 ∧ Touch (AtB gp) w w' := by
  have HN := Lib.hid (next_any h)
  have HP := Lib.hid h
  have h3 := num_not hn
  obtain ⟨t, ht⟩ : ∃ t, nxt ts k 0 = t := ⟨_, rfl⟩
  rw [ht] at HN h3
  obtain ⟨kd, nn, pl, tx⟩ := t
  simp only at h3 HN
  have hk3 : ((kd : Int) != 3) = true := by rw [show (3 : Int) = ((3 : Nat) : Int) from rfl, ne_nat]; simpa using h3
  obtain ⟨sx, hsx⟩ : ∃ sx, bs tx = sx := ⟨_, rfl⟩
  rw [hsx] at HN
  clear h ht hn hsx h3
  go_enter Tryd.func42, Tryd.ntmps42
  go_wp2_with fail
  refine HN.out.mono ?_
  rintro x w1 ⟨rfl, hT1⟩
  have hT2 : Touch NoB w (w1.alloc (.cells #[.int .i64 (kd : Int), .int .i64 (nn : Int), .int .i64 (pl : Int), .string sx] 50)) := hT1.alloc _
  have HF := Lib.hid (fail_yes (HP.out.touch hT2) 2)
  have HE := Lib.hid (Touch.anyB (F := AtB gp) hT2)
  clear hT1 hT2
  go_wp2_with fail
  refine HF.out.mono ?_
  rintro x w2 ⟨rfl, h1, h2⟩
  have HE := Lib.hid (And.intro h1 (HE.out.same h2))
  clear h1 h2
  go_wp2
  go_ret
  exact ⟨rfl, HE.out.1, HE.out.2⟩
/-- Is this a name? -/
def okN (s : Bs) : Bool := nameB (bs s) && !wrd (bs s)
theorem okN_len {s : Bs} (h : okN s = true) : s.length ≤ 24 := by
  unfold okN nameB at h
  simp only [Bool.and_eq_true, decide_eq_true_eq, bs_size] at h
  exact h.1.1.1.2
theorem name_yes {w : World} {gp g n cp : Nat} {ts : List Tk} {k : Nat} {s : Bs} (h : PS w gp g n cp ts k 0) (hn : nameAt ts k = some s) (hs : okN s = true) :
    Calls Tryd.prog 56 #[.pointer (some ⟨gp, 0, none⟩)] w fun x w' => x = .returned (.string (bs s)) ∧ PS w' gp g n cp ts (k + 1) 0 ∧ Touch (AtB gp) w w' := by
  have HN := Lib.hid (next_any h)
  have HP := Lib.hid h
  have HL := Lib.hid (fun w => lname_any (bs s) (by rw [bs_size]; have := okN_len hs; omega) w)
  unfold okN at hs
  rw [hs] at HL
  have hlt : k < n := by rw [← h.len]; exact nam_lt hn
  have hsm := h.small
  obtain ⟨k1, hkk⟩ : ∃ k1, k + 1 = k1 := ⟨_, rfl⟩
  have hk1 : IntKind.i64.wrap ((k : Int) + 1) = (k1 : Int) := by rw [show (k : Int) + 1 = (k1 : Int) from by omega]; exact IntWalk.i64_in _ (by omega)
  rw [hkk]
  have hk1n : k1 ≤ n := by omega
  obtain ⟨h3, h4⟩ := nam_nxt hn
  obtain ⟨t, ht⟩ : ∃ t, nxt ts k 0 = t := ⟨_, rfl⟩
  rw [ht] at HN h3 h4
  obtain ⟨kd, nn, pl, tx⟩ := t
  simp only at h3 h4 HN
  subst h3 h4
  obtain ⟨sx, hsx⟩ : ∃ sx, bs tx = sx := ⟨_, rfl⟩
  rw [hsx] at HN HL ⊢
  clear hkk hlt hsm h ht hn hsx hs
  go_enter Tryd.func56, Tryd.ntmps56
  go_wp2_with fail
  refine HN.out.mono ?_
  rintro x w1 ⟨rfl, hT1⟩
  obtain ⟨W, hW⟩ : ∃ W, w1.alloc (.cells #[.int .i64 1, .int .i64 (nn : Int), .int .i64 (pl : Int), .string sx] 50) = W := ⟨_, rfl⟩
  have hT2 : Touch NoB w W := by rw [← hW]; exact hT1.alloc _
  have hp2 := HP.out.touch hT2
  have c1 : W.cell? ⟨gp, 1, none⟩ = some (.int .i64 (k : Int)) := cell_blk hp2.blk 1
  have q1 : W.frozen? ⟨gp, 1, none⟩ = false := free_blk hp2.blk 1
  have hb : W.heap[w1.heap.size]? = some (.cells #[.int .i64 1, .int .i64 (nn : Int), .int .i64 (pl : Int), .string sx] 50 (0, 0)) := by rw [← hW]; exact alloc_blk _ _ _ rfl
  have d0 : W.cell? ⟨w1.heap.size, 0, none⟩ = some (.int .i64 1) := cell_blk hb 0
  have d1 : W.cell? ⟨w1.heap.size, 3, none⟩ = some (.string sx) := cell_blk hb 3
  have hgp := blk_lt HP.out.blk
  have hgn : w1.heap.size ≠ gp := by have := hT1.size; omega
  have e1 : (W.setCell ⟨gp, 1, none⟩ (.int .i64 (k1 : Int))).cell? ⟨w1.heap.size, 3, none⟩ = some (.string sx) := by
    have tt := touch_set (gp := gp) (Touch.refl _ W) 1 (.int .i64 (k1 : Int))
    rw [tt.cell (p := ⟨w1.heap.size, 3, none⟩) (blk_lt hb) hgn]; exact d1
  have HE := Lib.hid (And.intro (hp2.setk k1 hk1n) (touch_set (gp := gp) (Touch.anyB hT2) 1 (.int .i64 (k1 : Int))))
  clear hT1 hT2 hp2 hb
  go_wp2_with (first | (go_at_call 53; refine (HL.out _).mono ?_; rintro e w' ⟨rfl, rfl⟩))
  go_ret
  exact ⟨rfl, HE.out.1, HE.out.2⟩
theorem name_no {w : World} {gp g n cp : Nat} {ts : List Tk} {k : Nat} (h : PS w gp g n cp ts k 0) (hn : nameAt ts k = none) :
    Calls Tryd.prog 56 #[.pointer (some ⟨gp, 0, none⟩)] w fun x w' => x = .returned (.string ⟨#[]⟩) ∧ PS w' gp g n cp ts k 2 ∧ Touch (AtB gp) w w' := by
  have HN := Lib.hid (next_any h)
  have HP := Lib.hid h
  have h3 := nam_not hn
  obtain ⟨t, ht⟩ : ∃ t, nxt ts k 0 = t := ⟨_, rfl⟩
  rw [ht] at HN h3
  obtain ⟨kd, nn, pl, tx⟩ := t
  simp only at h3 HN
  have hk3 : ((kd : Int) != 1) = true := by rw [show (1 : Int) = ((1 : Nat) : Int) from rfl, ne_nat]; simpa using h3
  obtain ⟨sx, hsx⟩ : ∃ sx, bs tx = sx := ⟨_, rfl⟩
  rw [hsx] at HN
  clear h ht hn hsx h3
  go_enter Tryd.func56, Tryd.ntmps56
  go_wp2_with fail
  refine HN.out.mono ?_
  rintro x w1 ⟨rfl, hT1⟩
  have hT2 : Touch NoB w (w1.alloc (.cells #[.int .i64 (kd : Int), .int .i64 (nn : Int), .int .i64 (pl : Int), .string sx] 50)) := hT1.alloc _
  have HF := Lib.hid (fail_yes (HP.out.touch hT2) 2)
  have HE := Lib.hid (Touch.anyB (F := AtB gp) hT2)
  clear hT1 hT2
  go_wp2_with fail
  refine HF.out.mono ?_
  rintro x w2 ⟨rfl, h1, h2⟩
  have HE := Lib.hid (And.intro h1 (HE.out.same h2))
  clear h1 h2
  go_wp2
  go_ret
  exact ⟨rfl, HE.out.1, HE.out.2⟩
end Go.Proofs.YtcmmhojojjjnoaaDoor
