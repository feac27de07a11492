/-
  What package tokens' Accept, Fail and Expect do with a reader in memory. Conditions: those that each theorem names.
-/
import Derived.Test.YtkmbobfjoaldgaaGreatDoorQd
namespace Go.Proofs.YtkmbobfjoaldgaaGreatDoor
open Go.ChangeShapes Go.WideShapes Go.ChangeAt Go.RowKit
set_option maxRecDepth 100000
set_option maxHeartbeats 4000000

theorem accept_no {T : TypeId} {w : World} {gp g n cp : Nat} {ts : List Tk} {k e : Nat} {s : Bs} (h : PSt T w gp g n cp ts k e) (ha : acc (nxt ts k e) s = false) :
    Calls Tryz.prog 80 #[.pointer (some ⟨gp, 0, none⟩), .string (bs s)] w fun x w' => x = .returned (.bool false) ∧ PSt T w' gp g n cp ts k e ∧ Touch NoB w w' := by
  have HI := Lib.hid (is_any (s := s) h)
  have HP := Lib.hid h
  rw [ha] at HI
  clear h ha
  go_enter Tryz.func80, Tryz.ntmps80
  go_wp2_with fail
  refine HI.out.mono ?_
  rintro x w1 ⟨rfl, hT1⟩
  have HE := Lib.hid (And.intro (HP.out.touch hT1) hT1)
  clear hT1
  go_wp2
  go_ret
  exact ⟨rfl, HE.out.1, HE.out.2⟩
theorem accept_yes {T : TypeId} {w : World} {gp g n cp : Nat} {ts : List Tk} {k e : Nat} {s : Bs} (h : PSt T w gp g n cp ts k e) (ha : acc (nxt ts k e) s = true) :
    Calls Tryz.prog 80 #[.pointer (some ⟨gp, 0, none⟩), .string (bs s)] w fun x w' => x = .returned (.bool true) ∧ PSt T w' gp g n cp ts (k + 1) e ∧ Touch (AtB gp) w w' := by
  have HI := Lib.hid (is_any (s := s) h)
  have HP := Lib.hid h
  have hlt := h.acc_lt ha
  have hsm := h.small
  obtain ⟨k1, hkk⟩ : ∃ k1, k + 1 = k1 := ⟨_, rfl⟩
  have hk1 : IntKind.i64.wrap ((k : Int) + 1) = (k1 : Int) := by rw [show (k : Int) + 1 = (k1 : Int) from by omega]; exact IntWalk.i64_in _ (by omega)
  rw [hkk]
  have hk1n : k1 ≤ n := by omega
  rw [ha] at HI
  clear hkk hlt hsm h ha
  go_enter Tryz.func80, Tryz.ntmps80
  go_wp2_with fail
  refine HI.out.mono ?_
  rintro x W ⟨rfl, hT2⟩
  have hp2 := HP.out.touch hT2
  have c1 : W.cell? ⟨gp, 1, none⟩ = some (.int .i64 (k : Int)) := cell_blk hp2.blk 1
  have q1 : W.frozen? ⟨gp, 1, none⟩ = false := free_blk hp2.blk 1
  have HE := Lib.hid (And.intro (hp2.setk k1 hk1n) (touch_set (gp := gp) (Touch.anyB hT2) 1 (.int .i64 (k1 : Int))))
  clear hT2 hp2
  go_wp2
  go_ret
  exact ⟨rfl, HE.out.1, HE.out.2⟩
/-- No error is put over an error. -/
theorem fail_no {T : TypeId} {w : World} {gp g n cp : Nat} {ts : List Tk} {k e : Nat} (h : PSt T w gp g n cp ts k e) (he : e ≠ 0) (c : Int) :
    Calls Tryz.prog 44 #[.pointer (some ⟨gp, 0, none⟩), .int .i64 c] w fun x w' => x = .returned (.tuple #[]) ∧ w = w' := by
  have c2 : w.cell? ⟨gp, 2, none⟩ = some (.int .i64 (e : Int)) := cell_blk h.blk 2
  have hl := blk_lt h.blk
  have hee : ((e : Int) == 0) = false := by simp; omega
  clear h
  go_enter Tryz.func44, Tryz.ntmps44
  go_wp2
  go_end0
  exact ⟨rfl, rfl⟩
theorem fail_yes {T : TypeId} {w : World} {gp g n cp : Nat} {ts : List Tk} {k : Nat} (h : PSt T w gp g n cp ts k 0) (c : Nat) :
    Calls Tryz.prog 44 #[.pointer (some ⟨gp, 0, none⟩), .int .i64 (c : Int)] w fun x w' => x = .returned (.tuple #[]) ∧ PSt T w' gp g n cp ts k c ∧ Touch (AtB gp) w w' := by
  have c2 : w.cell? ⟨gp, 2, none⟩ = some (.int .i64 ((0 : Nat) : Int)) := cell_blk h.blk 2
  have q2 : w.frozen? ⟨gp, 2, none⟩ = false := free_blk h.blk 2
  have hl := blk_lt h.blk
  have HE := Lib.hid (And.intro (h.sete c) (touch_set (gp := gp) (Touch.refl _ w) 2 (.int .i64 (c : Int))))
  clear h
  go_enter Tryz.func44, Tryz.ntmps44
  go_wp2
  go_end0
  exact ⟨rfl, HE.out.1, HE.out.2⟩
theorem expect_yes {T : TypeId} {w : World} {gp g n cp : Nat} {ts : List Tk} {k e : Nat} {s : Bs} (h : PSt T w gp g n cp ts k e) (ha : acc (nxt ts k e) s = true) :
    Calls Tryz.prog 83 #[.pointer (some ⟨gp, 0, none⟩), .string (bs s)] w fun x w' => x = .returned (.tuple #[]) ∧ PSt T w' gp g n cp ts (k + 1) e ∧ Touch (AtB gp) w w' := by
  have HA := Lib.hid (accept_yes h ha)
  clear h ha
  go_enter Tryz.func83, Tryz.ntmps83
  go_wp2_with fail
  refine HA.out.mono ?_
  rintro x w1 ⟨rfl, h1, h2⟩
  have HE := Lib.hid (And.intro h1 h2)
  clear h1 h2
  go_wp2
  go_end0
  exact ⟨rfl, HE.out.1, HE.out.2⟩
theorem expect_no {T : TypeId} {w : World} {gp g n cp : Nat} {ts : List Tk} {k : Nat} {s : Bs} (h : PSt T w gp g n cp ts k 0) (ha : acc (nxt ts k 0) s = false) :
    Calls Tryz.prog 83 #[.pointer (some ⟨gp, 0, none⟩), .string (bs s)] w fun x w' => x = .returned (.tuple #[]) ∧ PSt T w' gp g n cp ts k 2 ∧ Touch (AtB gp) w w' := by
  have HA := Lib.hid (accept_no h ha)
  clear h ha
  go_enter Tryz.func83, Tryz.ntmps83
  go_wp2_with fail
  refine HA.out.mono ?_
  rintro x w1 ⟨rfl, h1, h2⟩
  have HF := Lib.hid (fail_yes h1 2)
  have HE := Lib.hid (Touch.anyB (F := AtB gp) h2)
  clear h1 h2
  go_wp2_with fail
  refine HF.out.mono ?_
  rintro x w2 ⟨rfl, h1, h2⟩
  have HE := Lib.hid (And.intro h1 (HE.out.same h2))
  clear h1 h2
  go_wp2
  go_end0
  exact ⟨rfl, HE.out.1, HE.out.2⟩
theorem expect_bad {T : TypeId} {w : World} {gp g n cp : Nat} {ts : List Tk} {k e : Nat} {s : Bs} (h : PSt T w gp g n cp ts k e) (he : e ≠ 0) :
    Calls Tryz.prog 83 #[.pointer (some ⟨gp, 0, none⟩), .string (bs s)] w fun x w' => x = .returned (.tuple #[]) ∧ PSt T w' gp g n cp ts k e ∧ Touch NoB w w' := by
  have HA := Lib.hid (accept_no (s := s) h (acc_bad he))
  clear h
  go_enter Tryz.func83, Tryz.ntmps83
  go_wp2_with fail
  refine HA.out.mono ?_
  rintro x w1 ⟨rfl, h1, h2⟩
  have HF := Lib.hid (fail_no h1 he 2)
  have HE := Lib.hid (And.intro h1 h2)
  clear h1 h2
  go_wp2_with fail
  refine HF.out.mono ?_
  rintro x w2 ⟨rfl, rfl⟩
  go_wp2
  go_end0
  exact ⟨rfl, HE.out.1, HE.out.2⟩
end Go.Proofs.YtkmbobfjoaldgaaGreatDoor
