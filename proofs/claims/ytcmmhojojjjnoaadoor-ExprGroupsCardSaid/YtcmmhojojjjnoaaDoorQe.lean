/-
  What package expr's accept, fail, number, name and expect do with a parser in memory. Conditions: those that each theorem names.
-/
import Derived.Test.YtcmmhojojjjnoaaDoorQd
namespace Go.Proofs.YtcmmhojojjjnoaaDoor
open Go.ChangeShapes Go.WideShapes Go.ChangeAt Go.RowKit
set_option maxRecDepth 100000
set_option maxHeartbeats 4000000

theorem accept_yes {w : World} {gp g n cp : Nat} {ts : List Tk} {k e : Nat} {s : Bs} (h : PS w gp g n cp ts k e) (ha : acc (nxt ts k e) s = true) :
    Calls Tryd.prog 41 #[.pointer (some ⟨gp, 0, none⟩), .string (bs s)] w fun x w' => x = .returned (.bool true) ∧ PS w' gp g n cp ts (k + 1) e ∧ Touch (AtB gp) w w' := by
  have HN := Lib.hid (next_any h)
  have HP := Lib.hid h
  have hlt := h.acc_lt ha
  have hsm := h.small
  obtain ⟨k1, hkk⟩ : ∃ k1, k + 1 = k1 := ⟨_, rfl⟩
  have hk1 : IntKind.i64.wrap ((k : Int) + 1) = (k1 : Int) := by rw [show (k : Int) + 1 = (k1 : Int) from by omega]; exact IntWalk.i64_in _ (by omega)
  rw [hkk]
  have hk1n : k1 ≤ n := by omega
  clear hkk hlt hsm
  obtain ⟨t, ht⟩ : ∃ t, nxt ts k e = t := ⟨_, rfl⟩
  rw [ht] at HN ha
  unfold acc at ha
  have hbl : (bs t.tx).toList = t.tx := bs_toList _
  have hsl : (bs s).toList = s := bs_toList _
  have hx : ((bs t.tx).toList == (bs s).toList) = (t.tx == s) := by rw [hbl, hsl]
  have hk2 : ((t.kd : Int) != 2) = !(t.kd == 2) := ne_nat _ 2
  have hk4 : ((t.kd : Int) != 4) = !(t.kd == 4) := ne_nat _ 4
  clear h ht hbl hsl
  obtain ⟨sx, hsx⟩ : ∃ sx, bs t.tx = sx := ⟨_, rfl⟩
  obtain ⟨sy, hsy⟩ : ∃ sy, bs s = sy := ⟨_, rfl⟩
  rw [hsx] at HN hx
  rw [hsy] at hx ⊢
  clear hsx hsy
  obtain ⟨kd, nn, pl, tx⟩ := t
  simp only at HN hx hk2 hk4 ha
  cases h1 : (kd == 2) <;> cases h2 : (kd == 4) <;> cases h3 : (tx == s) <;> rw [h1, h2, h3] at ha <;> (try (cases ha; done)) <;> rw [h1] at hk2 <;> rw [h2] at hk4 <;> rw [h3] at hx
  all_goals
    simp only [Bool.not_true, Bool.not_false] at hk2 hk4
    clear ha h1 h2 h3
    go_enter Tryd.func41, Tryd.ntmps41
    go_wp2_with fail
    refine HN.out.mono ?_
    rintro x w1 ⟨rfl, hT1⟩
    obtain ⟨W, hW⟩ : ∃ W, w1.alloc (.cells #[.int .i64 (kd : Int), .int .i64 (nn : Int), .int .i64 (pl : Int), .string sx] 50) = W := ⟨_, rfl⟩
    have hT2 : Touch NoB w W := by rw [← hW]; exact hT1.alloc _
    have hp2 := HP.out.touch hT2
    have c1 : W.cell? ⟨gp, 1, none⟩ = some (.int .i64 (k : Int)) := cell_blk hp2.blk 1
    have q1 : W.frozen? ⟨gp, 1, none⟩ = false := free_blk hp2.blk 1
    have d0 : W.cell? ⟨w1.heap.size, 0, none⟩ = some (.int .i64 kd) := by rw [← hW]; exact cell_blk (alloc_blk _ _ _ rfl) 0
    have d3 : W.cell? ⟨w1.heap.size, 3, none⟩ = some (.string sx) := by rw [← hW]; exact cell_blk (alloc_blk _ _ _ rfl) 3
    have HE := Lib.hid (And.intro (hp2.setk k1 hk1n) (touch_set (gp := gp) (Touch.anyB hT2) 1 (.int .i64 (k1 : Int))))
    clear hT1 hT2 hp2
    go_wp2
    go_ret
    exact ⟨rfl, HE.out.1, HE.out.2⟩
/-- No error is put over an error. -/
theorem fail_no {w : World} {gp g n cp : Nat} {ts : List Tk} {k e : Nat} (h : PS w gp g n cp ts k e) (he : e ≠ 0) (c : Int) :
    Calls Tryd.prog 40 #[.pointer (some ⟨gp, 0, none⟩), .int .i64 c] w fun x w' => x = .returned (.tuple #[]) ∧ w = w' := by
  have c2 : w.cell? ⟨gp, 2, none⟩ = some (.int .i64 (e : Int)) := cell_blk h.blk 2
  have hl := blk_lt h.blk
  have hee : ((e : Int) == 0) = false := by simp; omega
  clear h
  go_enter Tryd.func40, Tryd.ntmps40
  go_wp2
  go_end0
  exact ⟨rfl, rfl⟩
theorem fail_yes {w : World} {gp g n cp : Nat} {ts : List Tk} {k : Nat} (h : PS w gp g n cp ts k 0) (c : Nat) :
    Calls Tryd.prog 40 #[.pointer (some ⟨gp, 0, none⟩), .int .i64 (c : Int)] w fun x w' => x = .returned (.tuple #[]) ∧ PS w' gp g n cp ts k c ∧ Touch (AtB gp) w w' := by
  have c2 : w.cell? ⟨gp, 2, none⟩ = some (.int .i64 ((0 : Nat) : Int)) := cell_blk h.blk 2
  have q2 : w.frozen? ⟨gp, 2, none⟩ = false := free_blk h.blk 2
  have hl := blk_lt h.blk
  have HE := Lib.hid (And.intro (h.sete c) (touch_set (gp := gp) (Touch.refl _ w) 2 (.int .i64 (c : Int))))
  clear h
  go_enter Tryd.func40, Tryd.ntmps40
  go_wp2
  go_end0
  exact ⟨rfl, HE.out.1, HE.out.2⟩
theorem expect_yes {w : World} {gp g n cp : Nat} {ts : List Tk} {k e : Nat} {s : Bs} (h : PS w gp g n cp ts k e) (ha : acc (nxt ts k e) s = true) :
    Calls Tryd.prog 58 #[.pointer (some ⟨gp, 0, none⟩), .string (bs s)] w fun x w' => x = .returned (.tuple #[]) ∧ PS w' gp g n cp ts (k + 1) e ∧ Touch (AtB gp) w w' := by
  have HA := Lib.hid (accept_yes h ha)
  clear h ha
  go_enter Tryd.func58, Tryd.ntmps58
  go_wp2_with fail
  refine HA.out.mono ?_
  rintro x w1 ⟨rfl, h1, h2⟩
  have HE := Lib.hid (And.intro h1 h2)
  clear h1 h2
  go_wp2
  go_end0
  exact ⟨rfl, HE.out.1, HE.out.2⟩
theorem expect_no {w : World} {gp g n cp : Nat} {ts : List Tk} {k : Nat} {s : Bs} (h : PS w gp g n cp ts k 0) (ha : acc (nxt ts k 0) s = false) :
    Calls Tryd.prog 58 #[.pointer (some ⟨gp, 0, none⟩), .string (bs s)] w fun x w' => x = .returned (.tuple #[]) ∧ PS w' gp g n cp ts k 2 ∧ Touch (AtB gp) w w' := by
  have HA := Lib.hid (accept_no h ha)
  clear h ha
  go_enter Tryd.func58, Tryd.ntmps58
  go_wp2_with fail
  refine HA.out.mono ?_
  rintro x w1 ⟨rfl, h1, h2⟩
  have HF := Lib.hid (fail_yes h1 2)
  have HE := Lib.hid (Touch.anyB (F := AtB gp) h2)
  clear h1 h2
  go_wp2_with fail
  refine HF.out.mono ?_
  rintro x w2 ⟨rfl, h1, h2⟩
  have HE := Lib.hid (And.intro h1 (HE.out.same h2))
  clear h1 h2
  go_wp2
  go_end0
  exact ⟨rfl, HE.out.1, HE.out.2⟩
theorem expect_bad {w : World} {gp g n cp : Nat} {ts : List Tk} {k e : Nat} {s : Bs} (h : PS w gp g n cp ts k e) (he : e ≠ 0) :
    Calls Tryd.prog 58 #[.pointer (some ⟨gp, 0, none⟩), .string (bs s)] w fun x w' => x = .returned (.tuple #[]) ∧ PS w' gp g n cp ts k e ∧ Touch NoB w w' := by
  have HA := Lib.hid (accept_no (s := s) h (acc_bad he))
  clear h
  go_enter Tryd.func58, Tryd.ntmps58
  go_wp2_with fail
  refine HA.out.mono ?_
  rintro x w1 ⟨rfl, h1, h2⟩
  have HF := Lib.hid (fail_no h1 he 2)
  have HE := Lib.hid (And.intro h1 h2)
  clear h1 h2
  go_wp2_with fail
  refine HF.out.mono ?_
  rintro x w2 ⟨rfl, rfl⟩
  go_wp2
  go_end0
  exact ⟨rfl, HE.out.1, HE.out.2⟩
end Go.Proofs.YtcmmhojojjjnoaaDoor
