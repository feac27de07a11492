/-
  What Read, Stamp and Now of package board return.
-/
import Derived.Test.YteacpfknfbmjkaaBc
namespace Go.Proofs.Yteacpfknfbmjkaa
open Go.ChangeShapes Go.WideShapes Go.ChangeAt Go.RowKit Go.Maps
set_option maxRecDepth 100000
set_option maxHeartbeats 4000000

attribute [local go_sem] run_equalIn_complex run_store_complex
section
variable {w : World} {F : Nat → Prop} {g : Nat} {l : List Ky} {C : Ow → Nat → Int × Int} {now : Int} {cnt : Nat} {v : Value} {bo : Nat} {D : DataW Unit}

theorem read_yes (h : BB w F g l C now cnt v bo D) (hl : l.length ≤ 100) {s : ByteArray} {j : Nat} {k : Ky} (hf : findK l s = some j) (hj : l[j]? = some k) {i x : Int} (hi : I64 i) (hx : I64 x) :
    Calls Try.prog 10 #[.pointer (some ⟨g, 0, none⟩), .agg #[.int .i64 i, .int .i64 x], .string s] w fun e w' => e = .returned (.tuple #[val 0 (C (ownO k i x) j).1 0 ⟨#[]⟩, .int .i64 0]) ∧ Touch NoB w w' := by
  have HF := Lib.hid (fun w' (t : Touch NoB w w') => find_yes (h.quiet t) hl hf hj hi hx)
  obtain ⟨⟨c1, c2⟩, hc⟩ : ∃ c, C (ownO k i x) j = c := ⟨_, rfl⟩
  obtain ⟨⟨oi, ox, oe⟩, ho⟩ : ∃ o, ownO k i x = o := ⟨_, rfl⟩
  unfold findV at HF
  rw [hc, ho] at HF
  rw [hc]
  unfold cellV at HF
  unfold val
  have hb0 : ∀ W, Touch NoB ((w.alloc (.cells #[.int .i64 i, .int .i64 x] 23)).alloc (.cells #[.int .i64 0, .int .i64 0, .int .i64 0, .string ⟨#[]⟩, .complex .f64 0 0] 36)) W →
      W.heap[w.heap.size + 1]? = some (.cells #[.int .i64 0, .int .i64 0, .int .i64 0, .string ⟨#[]⟩, .complex .f64 0 0] 36 (0, 0)) ∧ w.heap.size + 1 < W.heap.size := by
    intro W hW
    have hs := hW.size
    simp only [World.size_alloc] at hs
    refine ⟨?_, by omega⟩
    rw [hW.block _ (by simp only [World.size_alloc]; omega) (fun e => e)]
    exact alloc_blk _ _ _ (by simp only [World.size_alloc])
  have H0 := Lib.hid hb0
  clear hb0 h hf hj hi hx hc ho
  go_enter Try.func10, Try.ntmps10
  go_wp2_with fail
  refine (HF.out _ (by repeat (first | with_reducible exact Touch.refl _ _ | with_reducible refine Touch.alloc ?_ _))).mono ?_
  rintro e w1 ⟨rfl, hT1⟩
  have HT1 := Lib.hid hT1
  clear hT1
  go_upto_region 2 with fail
  obtain ⟨w2, hw2⟩ : ∃ w2, (w1.alloc (.cells #[.int .i64 oi, .int .i64 ox, .bool oe, .int .i64 j] 61)).alloc (.cells #[.int .i64 0, .int .i64 c1, .int .i64 0, .string ⟨#[]⟩, .complex .f64 0 0, .int .i64 c2] 63) = w2 := ⟨_, rfl⟩
  have hcb : w2.heap[w1.heap.size + 1]? = some (.cells #[.int .i64 0, .int .i64 c1, .int .i64 0, .string ⟨#[]⟩, .complex .f64 0 0, .int .i64 c2] 63 (0, 0)) := by rw [← hw2]; exact alloc_blk _ _ _ (by simp only [World.size_alloc])
  have T2 : Touch NoB w1 w2 := by rw [← hw2]; exact ((Touch.refl NoB w1).alloc _).alloc _
  obtain ⟨hb, hs⟩ := H0.out _ (HT1.out.same T2)
  obtain ⟨-, hs1⟩ := H0.out _ HT1.out
  have HT2 := Lib.hid ((((Touch.refl NoB w).alloc _).alloc _).same (HT1.out.same T2))
  simp only [hw2]
  clear hw2 T2 HT1
  have d0 : w2.cell? ⟨w1.heap.size + 1, 0, none⟩ = some (.int .i64 0) := cell_blk hcb 0
  have d1 : w2.cell? ⟨w1.heap.size + 1, 1, none⟩ = some (.int .i64 c1) := cell_blk hcb 1
  have d2 : w2.cell? ⟨w1.heap.size + 1, 2, none⟩ = some (.int .i64 0) := cell_blk hcb 2
  have d3 : w2.cell? ⟨w1.heap.size + 1, 3, none⟩ = some (.string ⟨#[]⟩) := cell_blk hcb 3
  have d4 : w2.cell? ⟨w1.heap.size + 1, 4, none⟩ = some (.complex .f64 0 0) := cell_blk hcb 4
  have hcl := blk_lt hcb
  have q0 : w2.cell? ⟨w.heap.size + 1, 0, none⟩ = some (.int .i64 0) := cell_blk hb 0
  have q1 : w2.cell? ⟨w.heap.size + 1, 1, none⟩ = some (.int .i64 0) := cell_blk hb 1
  have q2 : w2.cell? ⟨w.heap.size + 1, 2, none⟩ = some (.int .i64 0) := cell_blk hb 2
  have q3 : w2.cell? ⟨w.heap.size + 1, 3, none⟩ = some (.string ⟨#[]⟩) := cell_blk hb 3
  have q4 : w2.cell? ⟨w.heap.size + 1, 4, none⟩ = some (.complex .f64 0 0) := cell_blk hb 4
  have f0 : w2.frozen? ⟨w.heap.size + 1, 0, none⟩ = false := free_blk hb 0
  have f1 : w2.frozen? ⟨w.heap.size + 1, 1, none⟩ = false := free_blk hb 1
  have f2 : w2.frozen? ⟨w.heap.size + 1, 2, none⟩ = false := free_blk hb 2
  have f3 : w2.frozen? ⟨w.heap.size + 1, 3, none⟩ = false := free_blk hb 3
  have f4 : w2.frozen? ⟨w.heap.size + 1, 4, none⟩ = false := free_blk hb 4
  clear hb hcb
  go_wp2
  exact bodyPost_ret (v := .tuple #[.agg #[.int .i64 0, .int .i64 c1, .int .i64 0, .string ⟨#[]⟩, .complex .f64 0 0], .int .i64 0]) (by simp [results, Try.results10, go_sem, q0, q1, q2, q3, q4]) rfl ⟨rfl, by repeat (first | with_reducible exact HT2.out | with_reducible refine Touch.drew ?_ | with_reducible refine Touch.alloc ?_ _ | with_reducible refine Touch.setCell ?_ (.inr (by dsimp only; omega)) _)⟩

theorem stamp_yes (h : BB w F g l C now cnt v bo D) (hl : l.length ≤ 100) {s : ByteArray} {j : Nat} {k : Ky} (hf : findK l s = some j) (hj : l[j]? = some k) {i x : Int} (hi : I64 i) (hx : I64 x) :
    Calls Try.prog 11 #[.pointer (some ⟨g, 0, none⟩), .agg #[.int .i64 i, .int .i64 x], .string s] w fun e w' => e = .returned (.tuple #[.int .i64 (C (ownO k i x) j).2, .int .i64 0]) ∧ Touch NoB w w' := by
  have HF := Lib.hid (fun w' (t : Touch NoB w w') => find_yes (h.quiet t) hl hf hj hi hx)
  obtain ⟨⟨c1, c2⟩, hc⟩ : ∃ c, C (ownO k i x) j = c := ⟨_, rfl⟩
  obtain ⟨⟨oi, ox, oe⟩, ho⟩ : ∃ o, ownO k i x = o := ⟨_, rfl⟩
  unfold findV at HF
  rw [hc, ho] at HF
  rw [hc]
  unfold cellV at HF
  clear h hf hj hi hx hc ho
  go_enter Try.func11, Try.ntmps11
  go_wp2_with fail
  refine (HF.out _ (by repeat (first | with_reducible exact Touch.refl _ _ | with_reducible refine Touch.alloc ?_ _))).mono ?_
  rintro e w1 ⟨rfl, hT1⟩
  have HT1 := Lib.hid ((((Touch.refl NoB w).alloc _)).same hT1)
  clear hT1
  go_wp2
  exact bodyPost_ret (v := .tuple #[.int .i64 c2, .int .i64 0]) (by simp [results, Try.results11, go_sem]) rfl ⟨rfl, by repeat (first | with_reducible exact HT1.out | with_reducible refine Touch.drew ?_ | with_reducible refine Touch.alloc ?_ _)⟩

theorem now_any (h : BB w F g l C now cnt v bo D) :
    Calls Try.prog 12 #[.pointer (some ⟨g, 0, none⟩)] w fun e w' => e = .returned (.int .i64 now) ∧ w = w' := by
  have k2 := h.at2
  have hl := h.lt
  clear h
  go_enter Try.func12, Try.ntmps12
  go_wp2
  go_ret
  exact ⟨rfl, rfl⟩
end
end Go.Proofs.Yteacpfknfbmjkaa
