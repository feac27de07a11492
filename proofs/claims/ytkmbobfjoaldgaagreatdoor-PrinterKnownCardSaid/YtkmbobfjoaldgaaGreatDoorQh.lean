/-
  What package expr's form, word and operator return. Conditions: the table of levels can be read; those that each theorem names.
-/
import Derived.Test.YtkmbobfjoaldgaaGreatDoorQg
namespace Go.Proofs.YtkmbobfjoaldgaaGreatDoor
open Go.ChangeShapes Go.WideShapes Go.ChangeAt Go.RowKit
set_option maxRecDepth 100000
set_option maxHeartbeats 4000000

theorem form_small {w : World} {gp g n cp : Nat} {ts : List Tk} {k e : Nat} (h : PS w gp g n cp ts k e) {x : Ex} {kd : Int} {A : Option Addr} {m c : Nat} {Q : Nat → Prop} (hx : ET w Q x kd 0 ⟨#[]⟩ A m c) (hd : x.depth ≤ 40) :
    Calls Tryz.prog 174 #[.pointer (some ⟨gp, 0, none⟩), .int .i64 kd, .slice A m c] w fun r w' => r = .returned (.agg #[.int .i64 kd, .int .i64 0, .string ⟨#[]⟩, .slice A m c]) ∧ PS w' gp g n cp ts k e ∧ Touch NoB w w' := by
  have HD := Lib.hid (fun W (hW : Touch NoB w W) => depth_any 40 x hd (by omega) W Q (hx.touch0 hW))
  have HP := Lib.hid h
  obtain ⟨dp, hdp⟩ : ∃ dp, x.depth = dp := ⟨_, rfl⟩
  rw [hdp] at HD hd
  have hgt : decide ((40 : Int) < (dp : Int)) = false := by simp; omega
  clear h hx hdp
  go_enter Tryz.func174, Tryz.ntmps174
  go_wp2_with fail
  refine (HD.out _ (by repeat (first | with_reducible exact Touch.refl _ _ | with_reducible refine Touch.alloc ?_ _))).mono ?_
  rintro r w1 ⟨rfl, hT1⟩
  have hs1 := hT1.size
  simp only [World.size_alloc] at hs1
  have hb0 : w1.heap[w.heap.size]? = some (.cells #[.int .i64 0, .int .i64 0, .string ⟨#[]⟩, .slice none 0 0] 44 (0, 0)) := by
    rw [hT1.block _ (by simp only [World.size_alloc]; omega) (fun x => x), heap_alloc_old _ _ (by simp only [World.size_alloc]; omega)]; exact alloc_blk _ _ _ rfl
  have hb1 : w1.heap[w.heap.size + 1]? = some (.cells #[.int .i64 kd, .int .i64 0, .string ⟨#[]⟩, .slice A m c] 44 (0, 0)) := by
    rw [hT1.block _ (by simp only [World.size_alloc]; omega) (fun x => x)]; exact alloc_blk _ _ _ (by simp only [World.size_alloc])
  have a0 : w1.cell? ⟨w.heap.size + 1, 0, none⟩ = some (.int .i64 kd) := cell_blk hb1 0
  have a1 : w1.cell? ⟨w.heap.size + 1, 1, none⟩ = some (.int .i64 0) := cell_blk hb1 1
  have a2 : w1.cell? ⟨w.heap.size + 1, 2, none⟩ = some (.string ⟨#[]⟩) := cell_blk hb1 2
  have a3 : w1.cell? ⟨w.heap.size + 1, 3, none⟩ = some (.slice A m c) := cell_blk hb1 3
  have z0 : w1.cell? ⟨w.heap.size, 0, none⟩ = some (.int .i64 0) := cell_blk hb0 0
  have z1 : w1.cell? ⟨w.heap.size, 1, none⟩ = some (.int .i64 0) := cell_blk hb0 1
  have z2 : w1.cell? ⟨w.heap.size, 2, none⟩ = some (.string ⟨#[]⟩) := cell_blk hb0 2
  have z3 : w1.cell? ⟨w.heap.size, 3, none⟩ = some (.slice none 0 0) := cell_blk hb0 3
  have f0 : w1.frozen? ⟨w.heap.size, 0, none⟩ = false := free_blk hb0 0
  have f1 : w1.frozen? ⟨w.heap.size, 1, none⟩ = false := free_blk hb0 1
  have f2 : w1.frozen? ⟨w.heap.size, 2, none⟩ = false := free_blk hb0 2
  have f3 : w1.frozen? ⟨w.heap.size, 3, none⟩ = false := free_blk hb0 3
  have HT := Lib.hid (show Touch NoB w w1 from (((Touch.refl _ w).alloc _).alloc _).same hT1)
  clear hT1 hb0 hb1
  go_wp2
  have hTE : Touch NoB w ((((w1.setCell ⟨w.heap.size, 0, none⟩ (.int .i64 kd)).setCell ⟨w.heap.size, 1, none⟩ (.int .i64 0)).setCell ⟨w.heap.size, 2, none⟩ (.string ⟨#[]⟩)).setCell ⟨w.heap.size, 3, none⟩ (.slice A m c)) := touch4 HT.out (.inr (Nat.le_refl _)) _ _ _ _
  exact bodyPost_ret (v := .agg #[.int .i64 kd, .int .i64 0, .string ⟨#[]⟩, .slice A m c]) (by simp [results, Tryz.results174, go_sem, z0, z1, z2, z3]) rfl ⟨rfl, HP.out.touch hTE, hTE⟩
theorem form_deep {w : World} {gp g n cp : Nat} {ts : List Tk} {k e : Nat} (h : PS w gp g n cp ts k e) {x : Ex} {kd : Int} {A : Option Addr} {m c : Nat} {Q : Nat → Prop} (hx : ET w Q x kd 0 ⟨#[]⟩ A m c) (hd : 40 < x.depth) (hd2 : x.depth ≤ 100000) :
    Calls Tryz.prog 174 #[.pointer (some ⟨gp, 0, none⟩), .int .i64 kd, .slice A m c] w fun r w' => r = .returned (.agg #[.int .i64 kd, .int .i64 0, .string ⟨#[]⟩, .slice A m c]) ∧ PS w' gp g n cp ts k (if e = 0 then 4 else e) ∧ Touch (AtB gp) w w' := by
  have HD := Lib.hid (fun W (hW : Touch NoB w W) => depth_any 100000 x hd2 hd2 W Q (hx.touch0 hW))
  have HP := Lib.hid h
  obtain ⟨e', he'⟩ : ∃ e', (if e = 0 then 4 else e) = e' := ⟨_, rfl⟩
  rw [he']
  have HE' := Lib.hid he'
  clear he'
  obtain ⟨dp, hdp⟩ : ∃ dp, x.depth = dp := ⟨_, rfl⟩
  rw [hdp] at HD hd hd2
  have hgt : decide ((40 : Int) < (dp : Int)) = true := by simp; omega
  have hgp := blk_lt h.blk
  clear h hx hdp
  go_enter Tryz.func174, Tryz.ntmps174
  go_wp2_with fail
  refine (HD.out _ (by repeat (first | with_reducible exact Touch.refl _ _ | with_reducible refine Touch.alloc ?_ _))).mono ?_
  rintro r w1 ⟨rfl, hT1⟩
  have hT0 : Touch NoB w w1 := (((Touch.refl _ w).alloc _).alloc _).same hT1
  have hp1 := HP.out.touch hT0
  have HF : Hid (Calls Tryz.prog 44 #[.pointer (some ⟨gp, 0, none⟩), .int .i64 4] w1 fun r w' => r = .returned (.tuple #[]) ∧ PS w' gp g n cp ts k e' ∧ Touch (AtB gp) w1 w') := by
    rw [← HE'.out]
    by_cases he : e = 0
    · subst he
      exact Lib.hid ((fail_yes hp1 4).mono (fun r w' x => by simpa using x))
    · exact Lib.hid ((fail_no hp1 he 4).mono (fun r w' x => by obtain ⟨rfl, rfl⟩ := x; rw [if_neg he]; exact ⟨rfl, hp1, Touch.refl _ _⟩))
  have HT1 := Lib.hid (Touch.anyB (F := AtB gp) hT1)
  have HT := Lib.hid (Touch.anyB (F := AtB gp) hT0)
  clear hT0 hp1
  have hb1 : w1.heap[w.heap.size + 1]? = some (.cells #[.int .i64 kd, .int .i64 0, .string ⟨#[]⟩, .slice A m c] 44 (0, 0)) := by
    rw [hT1.block _ (by simp only [World.size_alloc]; omega) (fun x => x)]; exact alloc_blk _ _ _ (by simp only [World.size_alloc])
  have a0 : w1.cell? ⟨w.heap.size + 1, 0, none⟩ = some (.int .i64 kd) := cell_blk hb1 0
  have hs0 := hT1.size
  simp only [World.size_alloc] at hs0
  clear hT1 hb1 a0
  go_wp2_with fail
  refine HF.out.mono ?_
  rintro r w2 ⟨rfl, hp2, hT2⟩
  have hT1 : Touch (AtB gp) ((w.alloc (.cells #[.int .i64 0, .int .i64 0, .string ⟨#[]⟩, .slice none 0 0] 44)).alloc (.cells #[.int .i64 kd, .int .i64 0, .string ⟨#[]⟩, .slice A m c] 44)) w2 := HT1.out.same hT2
  have HTW := Lib.hid (HT.out.same hT2)
  have HP2 := Lib.hid hp2
  have hs1 := hT1.size
  simp only [World.size_alloc] at hs1
  have hne : ∀ j, w.heap.size ≤ j → ¬ AtB gp j := fun j hj e => by unfold AtB at e; omega
  clear hp2 hT2
  have hb0 : w2.heap[w.heap.size]? = some (.cells #[.int .i64 0, .int .i64 0, .string ⟨#[]⟩, .slice none 0 0] 44 (0, 0)) := by
    rw [hT1.block _ (by simp only [World.size_alloc]; omega) (hne _ (by omega)), heap_alloc_old _ _ (by simp only [World.size_alloc]; omega)]; exact alloc_blk _ _ _ rfl
  have hb1 : w2.heap[w.heap.size + 1]? = some (.cells #[.int .i64 kd, .int .i64 0, .string ⟨#[]⟩, .slice A m c] 44 (0, 0)) := by
    rw [hT1.block _ (by simp only [World.size_alloc]; omega) (hne _ (by omega))]; exact alloc_blk _ _ _ (by simp only [World.size_alloc])
  have a0 : w2.cell? ⟨w.heap.size + 1, 0, none⟩ = some (.int .i64 kd) := cell_blk hb1 0
  have a1 : w2.cell? ⟨w.heap.size + 1, 1, none⟩ = some (.int .i64 0) := cell_blk hb1 1
  have a2 : w2.cell? ⟨w.heap.size + 1, 2, none⟩ = some (.string ⟨#[]⟩) := cell_blk hb1 2
  have a3 : w2.cell? ⟨w.heap.size + 1, 3, none⟩ = some (.slice A m c) := cell_blk hb1 3
  have z0 : w2.cell? ⟨w.heap.size, 0, none⟩ = some (.int .i64 0) := cell_blk hb0 0
  have z1 : w2.cell? ⟨w.heap.size, 1, none⟩ = some (.int .i64 0) := cell_blk hb0 1
  have z2 : w2.cell? ⟨w.heap.size, 2, none⟩ = some (.string ⟨#[]⟩) := cell_blk hb0 2
  have z3 : w2.cell? ⟨w.heap.size, 3, none⟩ = some (.slice none 0 0) := cell_blk hb0 3
  have f0 : w2.frozen? ⟨w.heap.size, 0, none⟩ = false := free_blk hb0 0
  have f1 : w2.frozen? ⟨w.heap.size, 1, none⟩ = false := free_blk hb0 1
  have f2 : w2.frozen? ⟨w.heap.size, 2, none⟩ = false := free_blk hb0 2
  have f3 : w2.frozen? ⟨w.heap.size, 3, none⟩ = false := free_blk hb0 3
  clear hT1 hb0 hb1
  go_wp2
  have hTE := touch4 (F := AtB gp) HTW.out (.inr (Nat.le_refl w.heap.size)) (.int .i64 kd) (.int .i64 0) (.string ⟨#[]⟩) (.slice A m c)
  have hTX := touch4 (F := fun b => b = w.heap.size) (Touch.refl _ w2) (.inl rfl) (.int .i64 kd) (.int .i64 0) (.string ⟨#[]⟩) (.slice A m c)
  exact bodyPost_ret (v := .agg #[.int .i64 kd, .int .i64 0, .string ⟨#[]⟩, .slice A m c]) (by simp [results, Tryz.results174, go_sem, z0, z1, z2, z3]) rfl ⟨rfl, HP2.out.touchX hTX hgp (by have := HP.out.tl.lt; omega), hTE⟩
end Go.Proofs.YtkmbobfjoaldgaaGreatDoor
