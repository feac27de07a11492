/-
  What find of package board returns of a name that there is.
-/
import Derived.Test.YteacpfknfbmjkaaBb
namespace Go.Proofs.Yteacpfknfbmjkaa
open Go.ChangeShapes Go.WideShapes Go.ChangeAt Go.RowKit Go.Maps
set_option maxRecDepth 100000
set_option maxHeartbeats 4000000

attribute [local go_sem] run_equalIn_complex run_store_complex

/-- What find returns: where the cell is kept, and the cell. -/
def findV (C : Ow → Nat → Int × Int) (o : Ow) (j : Nat) : Value := .tuple #[.agg #[.int .i64 o.i, .int .i64 o.x, .bool o.e, .int .i64 j], cellV (C o j), .int .i64 0]
theorem find_yes {w : World} {F : Nat → Prop} {g : Nat} {l : List Ky} {C : Ow → Nat → Int × Int} {now : Int} {cnt : Nat} {v : Value} {bo : Nat} {D : DataW Unit} (h : BB w F g l C now cnt v bo D) (hl : l.length ≤ 100) {s : ByteArray} {j : Nat} {k : Ky} (hf : findK l s = some j) (hj : l[j]? = some k) {i x : Int} (hi : I64 i) (hx : I64 x) :
    Calls Try.prog 15 #[.pointer (some ⟨g, 0, none⟩), .agg #[.int .i64 i, .int .i64 x], .string s] w fun e w' => e = .returned (findV C (ownO k i x) j) ∧ Touch NoB w w' := by
  have hjl := (List.getElem?_eq_some_iff.1 hj).1
  have hkd := (h.nms j k hj).2
  have hl1 := h.lt
  have HF := Lib.hid (fun w' (t : Touch NoB w w') => bfind_any (h.quiet t) s (by omega))
  rw [hf] at HF
  have HK := Lib.hid (fun w' (t : Touch NoB w w') => bkey_any (h.quiet t) hj)
  have HO := Lib.hid (ownerOf_any k i x)
  have hLook := h.look (ownO_ok (k := k) hi hx) (i := j) (by omega)
  have HZ := Lib.hid (zero_any 0)
  have HB := Lib.hid h
  obtain ⟨o, ho⟩ : ∃ o, ownO k i x = o := ⟨_, rfl⟩
  rw [ho] at HO hLook
  rw [ho]
  obtain ⟨c, hc⟩ : ∃ c, C o j = c := ⟨_, rfl⟩
  rw [hc] at hLook
  unfold findV
  rw [hc]
  obtain ⟨oi, ox, oe⟩ := o
  obtain ⟨c1, c2⟩ := c
  obtain ⟨nm, kd, sh⟩ := k
  simp only at hkd HK HO
  subst hkd
  unfold owV at HO hLook
  unfold cellV at hLook
  obtain ⟨vm, ok, hok, hL⟩ := hLook
  have HL := Lib.hid hL
  have HOk := Lib.hid hok
  unfold cellV
  clear h hf hj hi hx ho hc hL hok
  have hb0 : ∀ W, Touch NoB (((w.alloc (.cells #[.int .i64 i, .int .i64 x] 23)).alloc (.cells #[.int .i64 0, .int .i64 0, .bool false, .int .i64 0] 61)).alloc (.cells #[.int .i64 0, .int .i64 0, .int .i64 0, .string ⟨#[]⟩, .complex .f64 0 0, .int .i64 0] 63)) W →
      W.heap[w.heap.size]? = some (.cells #[.int .i64 i, .int .i64 x] 23 (0, 0)) ∧ W.heap[w.heap.size + 1]? = some (.cells #[.int .i64 0, .int .i64 0, .bool false, .int .i64 0] 61 (0, 0)) ∧ W.heap[w.heap.size + 1 + 1]? = some (.cells #[.int .i64 0, .int .i64 0, .int .i64 0, .string ⟨#[]⟩, .complex .f64 0 0, .int .i64 0] 63 (0, 0)) ∧ w.heap.size + 1 + 1 < W.heap.size := by
    intro W hW
    have hs := hW.size
    simp only [World.size_alloc] at hs
    refine ⟨?_, ?_, ?_, by omega⟩
    · rw [hW.block _ (by simp only [World.size_alloc]; omega) (fun e => e), heap_alloc_old _ _ (by simp only [World.size_alloc]; omega), heap_alloc_old _ _ (by simp only [World.size_alloc]; omega)]
      exact alloc_blk w _ _ rfl
    · rw [hW.block _ (by simp only [World.size_alloc]; omega) (fun e => e), heap_alloc_old _ _ (by simp only [World.size_alloc]; omega)]
      exact alloc_blk _ _ _ (by simp only [World.size_alloc])
    · rw [hW.block _ (by simp only [World.size_alloc]; omega) (fun e => e)]
      exact alloc_blk _ _ _ (by simp only [World.size_alloc])
  have H0 := Lib.hid hb0
  clear hb0
  go_enter Try.func15, Try.ntmps15
  go_wp2_with fail
  refine (HF.out _ (by repeat (first | with_reducible exact Touch.refl _ _ | with_reducible refine Touch.alloc ?_ _))).mono ?_
  rintro e w1 ⟨rfl, hT1⟩
  have HT1 := Lib.hid hT1
  clear hT1
  unfold fndV
  go_wp2_with fail
  refine (HK.out _ ((((Touch.refl NoB w).alloc _).alloc _).alloc _ |>.same HT1.out)).mono ?_
  rintro e w2 ⟨rfl, hT2⟩
  have HT2 := Lib.hid (HT1.out.same hT2)
  clear hT2
  have hq := H0.out _ HT2.out
  have c0 : w2.cell? ⟨w.heap.size, 0, none⟩ = some (.int .i64 i) := cell_blk hq.1 0
  have c1 : w2.cell? ⟨w.heap.size, 1, none⟩ = some (.int .i64 x) := cell_blk hq.1 1
  have m2 := hq.2.2.2
  have l2 : w.heap.size < w2.heap.size := by omega
  clear hq
  go_wp2_with fail
  refine (HO.out _).mono ?_
  rintro e w3 ⟨rfl, hT3⟩
  have hkb : w3.heap[w2.heap.size]? = some (.cells #[.string nm, .int .i64 0, .bool sh] 30 (0, 0)) := by
    rw [hT3.block _ (by simp) (fun e => e)]
    exact alloc_blk _ _ _ rfl
  have hs3 := hT3.size
  simp only [World.size_alloc] at hs3
  have HT3 := Lib.hid (HT2.out.same (((Touch.refl NoB w2).alloc _).same hT3))
  clear hT3 c0 c1
  go_upto_region 6 with fail
  obtain ⟨w4, hw4⟩ : ∃ w4, w3.alloc (.cells #[.int .i64 oi, .int .i64 ox, .bool oe, .int .i64 j] 61) = w4 := ⟨_, rfl⟩
  have hsb : w4.heap[w3.heap.size]? = some (.cells #[.int .i64 oi, .int .i64 ox, .bool oe, .int .i64 j] 61 (0, 0)) := by rw [← hw4]; exact alloc_blk _ _ _ rfl
  have hkb4 : w4.heap[w2.heap.size]? = some (.cells #[.string nm, .int .i64 0, .bool sh] 30 (0, 0)) := by rw [← hw4, heap_alloc_old _ _ (by omega)]; exact hkb
  have HT4 := Lib.hid (hw4 ▸ HT3.out.alloc (.cells #[.int .i64 oi, .int .i64 ox, .bool oe, .int .i64 j] 61))
  simp only [hw4]
  have HTw := Lib.hid (((((Touch.refl NoB w).alloc _).alloc _).alloc _).same HT4.out)
  have hg4 := HB.out.quiet HTw.out
  have hq1 := hg4.at1
  have hgl4 := hg4.lt
  have s0 : w4.cell? ⟨w3.heap.size, 0, none⟩ = some (.int .i64 oi) := cell_blk hsb 0
  have s1 : w4.cell? ⟨w3.heap.size, 1, none⟩ = some (.int .i64 ox) := cell_blk hsb 1
  have s2 : w4.cell? ⟨w3.heap.size, 2, none⟩ = some (.bool oe) := cell_blk hsb 2
  have s3 : w4.cell? ⟨w3.heap.size, 3, none⟩ = some (.int .i64 j) := cell_blk hsb 3
  have hsl := blk_lt hsb
  obtain ⟨L1, L2⟩ := HL.out w4.drew HTw.out.drew
  obtain ⟨L3, L4⟩ := HL.out ((w4.alloc (.cells #[.int .i64 0, .int .i64 0, .int .i64 0, .string ⟨#[]⟩, .complex .f64 0 0, .int .i64 0] 63)).drew) ((HTw.out.alloc _).drew)
  have SB := Lib.hid (And.intro hsb hkb4)
  have m4 : w3.heap.size < w4.heap.size := hsl
  clear hg4 hkb hsb hkb4 hw4 l2
  go_region
  all_goals
    obtain ⟨w5, hw5⟩ : ∃ w5, (w4.alloc (.cells #[.int .i64 0, .int .i64 c1, .int .i64 0, .string ⟨#[]⟩, .complex .f64 0 0, .int .i64 c2] 63)).drew = w5 := ⟨_, rfl⟩
    have TT : Touch NoB w4 w5 := by rw [← hw5]; exact ((Touch.refl NoB w4).alloc _).drew
    have hcb : w5.heap[w4.heap.size]? = some (.cells #[.int .i64 0, .int .i64 c1, .int .i64 0, .string ⟨#[]⟩, .complex .f64 0 0, .int .i64 c2] 63 (0, 0)) := by rw [← hw5]; exact alloc_blk w4 _ _ rfl
    have hsb := (TT.block _ (blk_lt SB.out.1) (fun e => e)).trans SB.out.1
    have hkb := (TT.block _ (blk_lt SB.out.2) (fun e => e)).trans SB.out.2
    obtain ⟨-, r1, r2, hsz⟩ := H0.out _ (HT4.out.same TT)
    have HT5 := Lib.hid (HTw.out.same TT)
    simp only [hw5]
    clear hw5 TT s0 s1 s2 s3 hsl L1 L2 L3 L4 SB HT4 HTw hq1 hgl4
    have s0 : w5.cell? ⟨w3.heap.size, 0, none⟩ = some (.int .i64 oi) := cell_blk hsb 0
    have s1 : w5.cell? ⟨w3.heap.size, 1, none⟩ = some (.int .i64 ox) := cell_blk hsb 1
    have s2 : w5.cell? ⟨w3.heap.size, 2, none⟩ = some (.bool oe) := cell_blk hsb 2
    have s3 : w5.cell? ⟨w3.heap.size, 3, none⟩ = some (.int .i64 j) := cell_blk hsb 3
    have d0 : w5.cell? ⟨w4.heap.size, 0, none⟩ = some (.int .i64 0) := cell_blk hcb 0
    have d1 : w5.cell? ⟨w4.heap.size, 1, none⟩ = some (.int .i64 c1) := cell_blk hcb 1
    have d2 : w5.cell? ⟨w4.heap.size, 2, none⟩ = some (.int .i64 0) := cell_blk hcb 2
    have d3 : w5.cell? ⟨w4.heap.size, 3, none⟩ = some (.string ⟨#[]⟩) := cell_blk hcb 3
    have d4 : w5.cell? ⟨w4.heap.size, 4, none⟩ = some (.complex .f64 0 0) := cell_blk hcb 4
    have d5 : w5.cell? ⟨w4.heap.size, 5, none⟩ = some (.int .i64 c2) := cell_blk hcb 5
    have p0 : w5.cell? ⟨w.heap.size + 1, 0, none⟩ = some (.int .i64 0) := cell_blk r1 0
    have p1 : w5.cell? ⟨w.heap.size + 1, 1, none⟩ = some (.int .i64 0) := cell_blk r1 1
    have p2 : w5.cell? ⟨w.heap.size + 1, 2, none⟩ = some (.bool false) := cell_blk r1 2
    have p3 : w5.cell? ⟨w.heap.size + 1, 3, none⟩ = some (.int .i64 0) := cell_blk r1 3
    have q0 : w5.cell? ⟨w.heap.size + 1 + 1, 0, none⟩ = some (.int .i64 0) := cell_blk r2 0
    have q1 : w5.cell? ⟨w.heap.size + 1 + 1, 1, none⟩ = some (.int .i64 0) := cell_blk r2 1
    have q2 : w5.cell? ⟨w.heap.size + 1 + 1, 2, none⟩ = some (.int .i64 0) := cell_blk r2 2
    have q3 : w5.cell? ⟨w.heap.size + 1 + 1, 3, none⟩ = some (.string ⟨#[]⟩) := cell_blk r2 3
    have q4 : w5.cell? ⟨w.heap.size + 1 + 1, 4, none⟩ = some (.complex .f64 0 0) := cell_blk r2 4
    have q5 : w5.cell? ⟨w.heap.size + 1 + 1, 5, none⟩ = some (.int .i64 0) := cell_blk r2 5
    have fp : ∀ k, w5.frozen? ⟨w.heap.size + 1, k, none⟩ = false := fun k => free_blk r1 k
    have fq : ∀ k, w5.frozen? ⟨w.heap.size + 1 + 1, k, none⟩ = false := fun k => free_blk r2 k
    have fp0 := fp 0
    have fp1 := fp 1
    have fp2 := fp 2
    have fp3 := fp 3
    have fq0 := fq 0
    have fq1 := fq 1
    have fq2 := fq 2
    have fq3 := fq 3
    have fq4 := fq 4
    have fq5 := fq 5
    have ls := blk_lt hsb
    have lc := blk_lt hcb
    have lk := blk_lt hkb
    have kk : w5.cell? ⟨w2.heap.size, 1, none⟩ = some (.int .i64 0) := cell_blk hkb 1
    have l1 : w.heap.size + 1 < w5.heap.size := by omega
    have n1 : w.heap.size + 1 + 1 < w3.heap.size := by omega
    have n2 : w.heap.size + 1 + 1 < w4.heap.size := by omega
    have HR := Lib.hid (And.intro r1 (And.intro r2 (And.intro hsb hcb)))
    clear fp fq r1 r2 hsb hcb hkb
    cases ok
    case true =>
      go_wp2_with fail
      go_region
      go_wp2
      exact bodyPost_ret (v := .tuple #[.agg #[.int .i64 oi, .int .i64 ox, .bool oe, .int .i64 j], .agg #[.int .i64 0, .int .i64 c1, .int .i64 0, .string ⟨#[]⟩, .complex .f64 0 0, .int .i64 c2], .int .i64 0]) (by simp [results, Try.results15, go_sem, p0, p1, p2, p3, q0, q1, q2, q3, q4, q5]) rfl ⟨rfl, by repeat (first | with_reducible exact HT5.out | with_reducible refine Touch.drew ?_ | with_reducible refine Touch.setCell ?_ (.inr (by dsimp only; omega)) _)⟩
    case false =>
      obtain ⟨rfl, rfl⟩ := Prod.mk.inj (HOk.out rfl)
      go_wp2_with fail
      refine (HZ.out _).mono ?_
      rintro e w6 ⟨rfl, hT6⟩
      have hcb := (hT6.block _ (blk_lt HR.out.2.2.2) (fun e => e)).trans HR.out.2.2.2
      have hsb := (hT6.block _ (blk_lt HR.out.2.2.1) (fun e => e)).trans HR.out.2.2.1
      have r2 := (hT6.block _ (blk_lt HR.out.2.1) (fun e => e)).trans HR.out.2.1
      have r1 := (hT6.block _ (blk_lt HR.out.1) (fun e => e)).trans HR.out.1
      have HT6 := Lib.hid (HT5.out.same hT6)
      have hs6 := hT6.size
      clear hT6 s0 s1 s2 s3 d0 d1 d2 d3 d4 d5 p0 p1 p2 p3 q0 q1 q2 q3 q4 q5 fp0 fp1 fp2 fp3 fq0 fq1 fq2 fq3 fq4 fq5 kk HT5 HR
      have s0 : w6.cell? ⟨w3.heap.size, 0, none⟩ = some (.int .i64 oi) := cell_blk hsb 0
      have s1 : w6.cell? ⟨w3.heap.size, 1, none⟩ = some (.int .i64 ox) := cell_blk hsb 1
      have s2 : w6.cell? ⟨w3.heap.size, 2, none⟩ = some (.bool oe) := cell_blk hsb 2
      have s3 : w6.cell? ⟨w3.heap.size, 3, none⟩ = some (.int .i64 j) := cell_blk hsb 3
      have d0 : w6.cell? ⟨w4.heap.size, 0, none⟩ = some (.int .i64 0) := cell_blk hcb 0
      have d1 : w6.cell? ⟨w4.heap.size, 1, none⟩ = some (.int .i64 0) := cell_blk hcb 1
      have d2 : w6.cell? ⟨w4.heap.size, 2, none⟩ = some (.int .i64 0) := cell_blk hcb 2
      have d3 : w6.cell? ⟨w4.heap.size, 3, none⟩ = some (.string ⟨#[]⟩) := cell_blk hcb 3
      have d4 : w6.cell? ⟨w4.heap.size, 4, none⟩ = some (.complex .f64 0 0) := cell_blk hcb 4
      have d5 : w6.cell? ⟨w4.heap.size, 5, none⟩ = some (.int .i64 0) := cell_blk hcb 5
      have p0 : w6.cell? ⟨w.heap.size + 1, 0, none⟩ = some (.int .i64 0) := cell_blk r1 0
      have p1 : w6.cell? ⟨w.heap.size + 1, 1, none⟩ = some (.int .i64 0) := cell_blk r1 1
      have p2 : w6.cell? ⟨w.heap.size + 1, 2, none⟩ = some (.bool false) := cell_blk r1 2
      have p3 : w6.cell? ⟨w.heap.size + 1, 3, none⟩ = some (.int .i64 0) := cell_blk r1 3
      have q0 : w6.cell? ⟨w.heap.size + 1 + 1, 0, none⟩ = some (.int .i64 0) := cell_blk r2 0
      have q1 : w6.cell? ⟨w.heap.size + 1 + 1, 1, none⟩ = some (.int .i64 0) := cell_blk r2 1
      have q2 : w6.cell? ⟨w.heap.size + 1 + 1, 2, none⟩ = some (.int .i64 0) := cell_blk r2 2
      have q3 : w6.cell? ⟨w.heap.size + 1 + 1, 3, none⟩ = some (.string ⟨#[]⟩) := cell_blk r2 3
      have q4 : w6.cell? ⟨w.heap.size + 1 + 1, 4, none⟩ = some (.complex .f64 0 0) := cell_blk r2 4
      have q5 : w6.cell? ⟨w.heap.size + 1 + 1, 5, none⟩ = some (.int .i64 0) := cell_blk r2 5
      have fp : ∀ k, w6.frozen? ⟨w.heap.size + 1, k, none⟩ = false := fun k => free_blk r1 k
      have fq : ∀ k, w6.frozen? ⟨w.heap.size + 1 + 1, k, none⟩ = false := fun k => free_blk r2 k
      have fc : ∀ k, w6.frozen? ⟨w4.heap.size, k, none⟩ = false := fun k => free_blk hcb k
      have fp0 := fp 0
      have fp1 := fp 1
      have fp2 := fp 2
      have fp3 := fp 3
      have fq0 := fq 0
      have fq1 := fq 1
      have fq2 := fq 2
      have fq3 := fq 3
      have fq4 := fq 4
      have fq5 := fq 5
      have fc0 := fc 0
      have fc1 := fc 1
      have fc2 := fc 2
      have fc3 := fc 3
      have fc4 := fc 4
      have ls := blk_lt hsb
      have lc := blk_lt hcb
      have l1 : w.heap.size + 1 < w6.heap.size := by omega
      clear fp fq fc r1 r2 hsb hcb
      unfold zv val kindV
      go_wp2_with fail
      go_region
      go_wp2
      exact bodyPost_ret (v := .tuple #[.agg #[.int .i64 oi, .int .i64 ox, .bool oe, .int .i64 j], .agg #[.int .i64 0, .int .i64 0, .int .i64 0, .string ⟨#[]⟩, .complex .f64 0 0, .int .i64 0], .int .i64 0]) (by simp [results, Try.results15, go_sem, p0, p1, p2, p3, q0, q1, q2, q3, q4, q5]) rfl ⟨rfl, by repeat (first | with_reducible exact HT6.out | with_reducible refine Touch.drew ?_ | with_reducible refine Touch.setCell ?_ (.inr (by dsimp only; omega)) _)⟩
end Go.Proofs.Yteacpfknfbmjkaa
