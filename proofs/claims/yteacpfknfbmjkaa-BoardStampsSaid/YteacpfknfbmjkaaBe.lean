/-
  What put of package board returns, and what it leaves in memory.
-/
import Derived.Test.YteacpfknfbmjkaaBd
namespace Go.Proofs.Yteacpfknfbmjkaa
open Go.ChangeShapes Go.WideShapes Go.ChangeAt Go.RowKit Go.Maps
set_option maxRecDepth 100000
set_option maxHeartbeats 4000000

attribute [local go_sem] run_equalIn_complex run_store_complex
section
variable {w : World} {F : Nat → Prop} {g : Nat} {l : List Ky} {C : Ow → Nat → Int × Int} {now : Int} {cnt : Nat} {v : Value} {bo : Nat} {D : DataW Unit}

theorem BB.seek (h : BB w F g l C now cnt v bo D) {o : Ow} (ho : OwOk o) :
    (D.atKey (klO o) nd = nd ∧ ∀ W, Touch NoB w W → (Instr.lookup 55 (.map (some bo)) (owV o) false).run Try.prog W = .ok (.map none) W) ∨
    ∃ b E, D.atKey (klO o) nd = bd b ∧ w.ownsMap Try.prog 3 cellElem b cnt E ∧ (∀ i : Nat, i < 1000 → E.atKey (.int .i64 i) (cd (0, 0)) = cd (C o i)) ∧ F b ∧ ∀ W, Touch NoB w W → (Instr.lookup 55 (.map (some bo)) (owV o) false).run Try.prog W = .ok (.map (some b)) W := by
  rcases h.sets o ho with x | ⟨b, E, h1, h2, h3, h4, h5⟩
  · refine .inl ⟨x.1, fun W t => ?_⟩
    obtain ⟨vm, ps, hrun, hv⟩ := (h.quiet t).map.lookup lawOw Try.underlying55 (zeroMap W) (zd := nd) (zp := []) rfl (key_ow ho)
    rw [x.1] at hv
    obtain rfl := map_inv0 hv
    exact hrun
  · refine .inr ⟨b, E, h1, h4, h5, h2, fun W t => ?_⟩
    obtain ⟨vm, ps, hrun, hv⟩ := (h.quiet t).map.lookup lawOw Try.underlying55 (zeroMap W) (zd := nd) (zp := []) rfl (key_ow ho)
    rw [h1] at hv
    obtain rfl := map_inv hv
    exact hrun

theorem BB.up (h : BB w F g l C now cnt v bo D) {n : Nat} (hn : cnt ≤ n) : BB w F g l C now n v bo D :=
  ⟨h.blk, h.row, h.nms, h.map.mono hn, fun o ho => (h.sets o ho).more (fun _ x => x) hn, h.ap, h.fg, h.fv, h.fo⟩
theorem eqlSome (b : Nat) (w : World) : (binOp .eql 76 (.map (some b)) (.map none)).run Try.prog w = .ok (.bool false) w := by kernel_rfl
theorem eqlNil (w : World) : (binOp .eql 76 (.map none) (.map none)).run Try.prog w = .ok (.bool true) w := by kernel_rfl
theorem ext_noF {F : Nat → Prop} {w : World} (hF : InW w 0 F) : ¬ F w.heap.size := fun e => by have := (hF _ e).2; omega

theorem put_any (h : BB w F g l C now cnt v bo D) (hF : InW w 0 F) (hc : cnt ≤ 1000) {o : Ow} (ho : OwOk o) {j : Nat} (hj : j < 1000) (c : Int × Int) :
    Calls Try.prog 18 #[.pointer (some ⟨g, 0, none⟩), .agg #[.int .i64 o.i, .int .i64 o.x, .bool o.e, .int .i64 j], cellV c] w fun e w' => e = .returned (.tuple #[]) ∧ BD w' (Ext F w w') g l (setC C o j c) now (cnt + 2) ∧ Touch F w w' := by
  have hmm := @run_makeMap Try.prog
  obtain ⟨oi, ox, oe⟩ := o
  obtain ⟨c1, c2⟩ := c
  rcases h.seek ho with ⟨hn, hlook⟩ | ⟨b, E, hb, hE, hC, hFb, hlook⟩
  · have heq := eqlNil
    have HL := Lib.hid hlook
    have HB := Lib.hid h
    unfold owV at HL
    clear hlook
    unfold cellV
    go_enter Try.func18, Try.ntmps18
    go_upto_region 1 with fail
    obtain ⟨w1, hw1⟩ : ∃ w1, (w.alloc (.cells #[.int .i64 oi, .int .i64 ox, .bool oe, .int .i64 j] 61)).alloc (.cells #[.int .i64 0, .int .i64 c1, .int .i64 0, .string ⟨#[]⟩, .complex .f64 0 0, .int .i64 c2] 63) = w1 := ⟨_, rfl⟩
    have T1 : Touch NoB w w1 := by rw [← hw1]; exact ((Touch.refl NoB w).alloc _).alloc _
    have hsb : w1.heap[w.heap.size]? = some (.cells #[.int .i64 oi, .int .i64 ox, .bool oe, .int .i64 j] 61 (0, 0)) := by
      rw [← hw1, heap_alloc_old _ _ (by simp only [World.size_alloc]; omega)]; exact alloc_blk _ _ _ rfl
    have hcb : w1.heap[w.heap.size + 1]? = some (.cells #[.int .i64 0, .int .i64 c1, .int .i64 0, .string ⟨#[]⟩, .complex .f64 0 0, .int .i64 c2] 63 (0, 0)) := by
      rw [← hw1]; exact alloc_blk _ _ _ (by simp only [World.size_alloc])
    simp only [hw1]
    clear hw1
    have h1 := h.quiet T1
    have k1 := h1.at1
    have hgl := h1.lt
    have s0 : w1.cell? ⟨w.heap.size, 0, none⟩ = some (.int .i64 oi) := cell_blk hsb 0
    have s1 : w1.cell? ⟨w.heap.size, 1, none⟩ = some (.int .i64 ox) := cell_blk hsb 1
    have s2 : w1.cell? ⟨w.heap.size, 2, none⟩ = some (.bool oe) := cell_blk hsb 2
    have hsl := blk_lt hsb
    have L1 := HL.out w1.drew T1.drew
    have HT1 := Lib.hid T1
    have HS := Lib.hid (And.intro hsb hcb)
    clear T1 hsb hcb h1 h
    go_region
    go_wp2_with fail
    go_upto_region 2 with fail
    obtain ⟨w2, hw2⟩ : ∃ w2, w1.drew = w2 := ⟨_, rfl⟩
    have T2 : Touch NoB w w2 := by rw [← hw2]; exact HT1.out.drew
    have hsb : w2.heap[w.heap.size]? = some (.cells #[.int .i64 oi, .int .i64 ox, .bool oe, .int .i64 j] 61 (0, 0)) := by rw [← hw2]; exact HS.out.1
    have hcb : w2.heap[w.heap.size + 1]? = some (.cells #[.int .i64 0, .int .i64 c1, .int .i64 0, .string ⟨#[]⟩, .complex .f64 0 0, .int .i64 c2] 63 (0, 0)) := by rw [← hw2]; exact HS.out.2
    simp only [hw2]
    have hs12 : w1.heap.size = w2.heap.size := by rw [← hw2]; rfl
    clear hw2 s0 s1 s2 hsl L1 HS k1 hgl
    have T3 : Touch NoB w ((w2.alloc (.map #[] 0)).drew) := (T2.alloc _).drew
    have h2 := HB.out.quiet T2
    have h3 := HB.out.quiet T3
    have hi3 : ((w2.alloc (.map #[] 0)).drew).ownsMap Try.prog 3 cellElem w2.heap.size 0 (.map []) := World.ownsMap_made w2 Try.prog 3 cellElem
    obtain ⟨w4, hrun, ho4, ht4⟩ := h3.map.store lawOw Try.underlying55 (by unfold maxLen; omega) (key_ow ho) (d := bd w2.heap.size) (ps := []) (val := .map (some w2.heap.size)) rfl
    have T4 : Touch (fun k => k = bo) ((w2.alloc (.map #[] 0)).drew) w4 := (Touch.refl (fun k => k = bo) _).grown ht4.grown (fun q e => by injection e with e; subst e; exact .inl rfl)
    have hs2 := T2.size
    have hnF : ∀ k, w.heap.size ≤ k → ¬ F k := fun k hk e => by have := (hF _ e).2; omega
    have hbo := HB.out.fo
    have hi4 := ownsMap_touch hi3 T4 (fun e => hnF w2.heap.size hs2 (by rw [e]; exact hbo))
    have h4 := h3.opened (G := fun k => F k ∨ k = w2.heap.size) ho hn (b := w2.heap.size) (hnF _ hs2) (fun k hk => .inl hk) (.inr rfl) ho4 hi4 T4
    have hs4 := T4.size
    have e4 : ((w2.alloc (.map #[] 0)).drew).heap.size = w2.heap.size + 1 := World.size_alloc _ _
    have hst : w4.heap[w.heap.size]? = some (.cells #[.int .i64 oi, .int .i64 ox, .bool oe, .int .i64 j] 61 (0, 0)) := by
      rw [T4.block _ (by have := blk_lt hsb; omega) (fun e => hnF _ (Nat.le_refl _) (by rw [e]; exact hbo))]
      exact (heap_alloc_old _ _ (blk_lt hsb)).trans hsb
    have hct : w4.heap[w.heap.size + 1]? = some (.cells #[.int .i64 0, .int .i64 c1, .int .i64 0, .string ⟨#[]⟩, .complex .f64 0 0, .int .i64 c2] 63 (0, 0)) := by
      rw [T4.block _ (by have := blk_lt hcb; omega) (fun e => hnF (w.heap.size + 1) (by omega) (by rw [e]; exact hbo))]
      exact (heap_alloc_old _ _ (blk_lt hcb)).trans hcb
    have k1 := h2.at1
    have hgl := h2.lt
    have s0 : w2.cell? ⟨w.heap.size, 0, none⟩ = some (.int .i64 oi) := cell_blk hsb 0
    have s1 : w2.cell? ⟨w.heap.size, 1, none⟩ = some (.int .i64 ox) := cell_blk hsb 1
    have s2 : w2.cell? ⟨w.heap.size, 2, none⟩ = some (.bool oe) := cell_blk hsb 2
    have hsl := blk_lt hsb
    have TF : Touch F w w4 := (T3.mono (fun _ e => e.elim)).trans T4 (fun k e => .inl (by rw [e]; exact hbo))
    have H4 := Lib.hid (And.intro h4 (And.intro TF (And.intro hst (And.intro hct (And.intro hs4 e4)))))
    have HM := Lib.hid h2.map.isMap
    have HS2 := Lib.hid hs2
    unfold owV at hrun
    clear h2 h3 hi3 ho4 ht4 T4 hi4 h4 hst hct TF T2 T3 hs4 e4 hsb hcb hs12 hnF hbo HB HL
    go_region
    go_wp2_with fail
    go_upto_region 3 with fail
    obtain ⟨ht, TFt, hst, hct, hs4, e4⟩ := H4.out
    obtain ⟨wt, hwt⟩ : ∃ wt, w4 = wt := ⟨_, rfl⟩
    subst hwt
    have HTt := Lib.hid TFt
    have HSt := Lib.hid (And.intro hst hct)
    have hne : (D.put (klO ⟨oi, ox, oe⟩) (bd w2.heap.size)).atKey (klO ⟨oi, ox, oe⟩) nd ≠ nd := by
      rw [atKey_put_same HM.out (klO_key ho)]
      exact bd_nd
    have hGt : ∀ k, F k ∨ k = w2.heap.size → F k ∨ (w.heap.size ≤ k ∧ k < w4.heap.size) := fun k hk => hk.imp id (fun e => ⟨by omega, by omega⟩)
    clear H4 TFt hst hct hrun k1 hgl s0 s1 s2 hsl
    rcases ht.seek ho with ⟨hn2, -⟩ | ⟨bt, E, hbt, hEt, hCt, hGb, hlook⟩
    · exact absurd hn2 hne
    have hLt := hlook w4.drew ((Touch.refl NoB w4).drew)
    obtain ⟨w9, hrun, ho9, ht9⟩ := (ownsMap_touch hEt ((Touch.refl NoB w4).drew) (fun e => e)).store lawInt Try.underlying76 (by unfold maxLen; omega) (key_int hj) (cell_mk (c1, c2))
    have T9 : Touch (fun k => k = bt) w4 w9 := ((Touch.refl (fun k => k = bt) w4).drew).grown ht9.grown (fun q e => by injection e with e; subst e; exact .inl rfl)
    have h9 := ht.stored ho hbt hj (c1, c2) hEt hCt ho9 T9
    have hend : BD w9 (Ext F w w9) g l (setC C ⟨oi, ox, oe⟩ j (c1, c2)) now (cnt + 2) ∧ Touch F w w9 := by
      refine ⟨⟨_, _, _, (h9.up (by omega)).more (fun k hk => (hGt k hk).imp id (fun e => ⟨e.1, Nat.lt_of_lt_of_le e.2 T9.size⟩))⟩, HTt.out.trans T9 (fun k e => ?_)⟩
      subst e
      exact (hGt _ hGb).imp id (fun e => e.1)
    have k1 := ht.at1
    have hgl := ht.lt
    have s0 : w4.cell? ⟨w.heap.size, 0, none⟩ = some (.int .i64 oi) := cell_blk HSt.out.1 0
    have s1 : w4.cell? ⟨w.heap.size, 1, none⟩ = some (.int .i64 ox) := cell_blk HSt.out.1 1
    have s2 : w4.cell? ⟨w.heap.size, 2, none⟩ = some (.bool oe) := cell_blk HSt.out.1 2
    have s3 : w4.cell? ⟨w.heap.size, 3, none⟩ = some (.int .i64 j) := cell_blk HSt.out.1 3
    have d0 : w4.cell? ⟨w.heap.size + 1, 0, none⟩ = some (.int .i64 0) := cell_blk HSt.out.2 0
    have d1 : w4.cell? ⟨w.heap.size + 1, 1, none⟩ = some (.int .i64 c1) := cell_blk HSt.out.2 1
    have d2 : w4.cell? ⟨w.heap.size + 1, 2, none⟩ = some (.int .i64 0) := cell_blk HSt.out.2 2
    have d3 : w4.cell? ⟨w.heap.size + 1, 3, none⟩ = some (.string ⟨#[]⟩) := cell_blk HSt.out.2 3
    have d4 : w4.cell? ⟨w.heap.size + 1, 4, none⟩ = some (.complex .f64 0 0) := cell_blk HSt.out.2 4
    have d5 : w4.cell? ⟨w.heap.size + 1, 5, none⟩ = some (.int .i64 c2) := cell_blk HSt.out.2 5
    have hsl := blk_lt HSt.out.1
    have hdl := blk_lt HSt.out.2
    have HEnd := Lib.hid hend
    unfold cellV at hrun
    unfold owV at hLt
    clear ht hEt hCt hGt hGb hbt ho9 ht9 T9 h9 hend hlook hne
    go_region
    go_end0
    exact ⟨rfl, HEnd.out⟩
  · have heq := eqlSome b
    have HL := Lib.hid hlook
    have HB := Lib.hid h
    unfold owV at HL
    clear hlook
    unfold cellV
    go_enter Try.func18, Try.ntmps18
    go_upto_region 1 with fail
    obtain ⟨w1, hw1⟩ : ∃ w1, (w.alloc (.cells #[.int .i64 oi, .int .i64 ox, .bool oe, .int .i64 j] 61)).alloc (.cells #[.int .i64 0, .int .i64 c1, .int .i64 0, .string ⟨#[]⟩, .complex .f64 0 0, .int .i64 c2] 63) = w1 := ⟨_, rfl⟩
    have T1 : Touch NoB w w1 := by rw [← hw1]; exact ((Touch.refl NoB w).alloc _).alloc _
    have hsb : w1.heap[w.heap.size]? = some (.cells #[.int .i64 oi, .int .i64 ox, .bool oe, .int .i64 j] 61 (0, 0)) := by
      rw [← hw1, heap_alloc_old _ _ (by simp only [World.size_alloc]; omega)]; exact alloc_blk _ _ _ rfl
    have hcb : w1.heap[w.heap.size + 1]? = some (.cells #[.int .i64 0, .int .i64 c1, .int .i64 0, .string ⟨#[]⟩, .complex .f64 0 0, .int .i64 c2] 63 (0, 0)) := by
      rw [← hw1]; exact alloc_blk _ _ _ (by simp only [World.size_alloc])
    simp only [hw1]
    clear hw1
    have h1 := h.quiet T1
    have k1 := h1.at1
    have hgl := h1.lt
    have s0 : w1.cell? ⟨w.heap.size, 0, none⟩ = some (.int .i64 oi) := cell_blk hsb 0
    have s1 : w1.cell? ⟨w.heap.size, 1, none⟩ = some (.int .i64 ox) := cell_blk hsb 1
    have s2 : w1.cell? ⟨w.heap.size, 2, none⟩ = some (.bool oe) := cell_blk hsb 2
    have hsl := blk_lt hsb
    have L1 := HL.out w1.drew T1.drew
    have HT1 := Lib.hid T1
    have HS := Lib.hid (And.intro hsb hcb)
    clear T1 hsb hcb h1 h
    go_region
    go_wp2_with fail
    go_upto_region 3 with fail
    obtain ⟨wt, hwt⟩ : ∃ wt, w1.drew = wt := ⟨_, rfl⟩
    have T2 : Touch NoB w wt := by rw [← hwt]; exact HT1.out.drew
    have ht := HB.out.quiet T2
    have HTt := Lib.hid (T2.mono (fun _ e => e.elim) : Touch F w wt)
    have HSt := Lib.hid (show wt.heap[w.heap.size]? = some (.cells #[.int .i64 oi, .int .i64 ox, .bool oe, .int .i64 j] 61 (0, 0)) ∧ wt.heap[w.heap.size + 1]? = some (.cells #[.int .i64 0, .int .i64 c1, .int .i64 0, .string ⟨#[]⟩, .complex .f64 0 0, .int .i64 c2] 63 (0, 0)) by rw [← hwt]; exact HS.out)
    have hne : D.atKey (klO ⟨oi, ox, oe⟩) nd ≠ nd := by rw [hb]; exact bd_nd
    have hGt : ∀ k, F k → F k ∨ (w.heap.size ≤ k ∧ k < wt.heap.size) := fun k hk => .inl hk
    simp only [hwt]
    clear hwt s0 s1 s2 hsl L1 HS k1 hgl T2 hE hb hC hFb HL HB
    rcases ht.seek ho with ⟨hn2, -⟩ | ⟨bt, E, hbt, hEt, hCt, hGb, hlook⟩
    · exact absurd hn2 hne
    have hLt := hlook wt.drew ((Touch.refl NoB wt).drew)
    obtain ⟨w9, hrun, ho9, ht9⟩ := (ownsMap_touch hEt ((Touch.refl NoB wt).drew) (fun e => e)).store lawInt Try.underlying76 (by unfold maxLen; omega) (key_int hj) (cell_mk (c1, c2))
    have T9 : Touch (fun k => k = bt) wt w9 := ((Touch.refl (fun k => k = bt) wt).drew).grown ht9.grown (fun q e => by injection e with e; subst e; exact .inl rfl)
    have h9 := ht.stored ho hbt hj (c1, c2) hEt hCt ho9 T9
    have hend : BD w9 (Ext F w w9) g l (setC C ⟨oi, ox, oe⟩ j (c1, c2)) now (cnt + 2) ∧ Touch F w w9 := by
      refine ⟨⟨_, _, _, (h9.up (by omega)).more (fun k hk => (hGt k hk).imp id (fun e => ⟨e.1, Nat.lt_of_lt_of_le e.2 T9.size⟩))⟩, HTt.out.trans T9 (fun k e => ?_)⟩
      subst e
      exact (hGt _ hGb).imp id (fun e => e.1)
    have k1 := ht.at1
    have hgl := ht.lt
    have s0 : wt.cell? ⟨w.heap.size, 0, none⟩ = some (.int .i64 oi) := cell_blk HSt.out.1 0
    have s1 : wt.cell? ⟨w.heap.size, 1, none⟩ = some (.int .i64 ox) := cell_blk HSt.out.1 1
    have s2 : wt.cell? ⟨w.heap.size, 2, none⟩ = some (.bool oe) := cell_blk HSt.out.1 2
    have s3 : wt.cell? ⟨w.heap.size, 3, none⟩ = some (.int .i64 j) := cell_blk HSt.out.1 3
    have d0 : wt.cell? ⟨w.heap.size + 1, 0, none⟩ = some (.int .i64 0) := cell_blk HSt.out.2 0
    have d1 : wt.cell? ⟨w.heap.size + 1, 1, none⟩ = some (.int .i64 c1) := cell_blk HSt.out.2 1
    have d2 : wt.cell? ⟨w.heap.size + 1, 2, none⟩ = some (.int .i64 0) := cell_blk HSt.out.2 2
    have d3 : wt.cell? ⟨w.heap.size + 1, 3, none⟩ = some (.string ⟨#[]⟩) := cell_blk HSt.out.2 3
    have d4 : wt.cell? ⟨w.heap.size + 1, 4, none⟩ = some (.complex .f64 0 0) := cell_blk HSt.out.2 4
    have d5 : wt.cell? ⟨w.heap.size + 1, 5, none⟩ = some (.int .i64 c2) := cell_blk HSt.out.2 5
    have hsl := blk_lt HSt.out.1
    have hdl := blk_lt HSt.out.2
    have HEnd := Lib.hid hend
    unfold cellV at hrun
    unfold owV at hLt
    clear ht hEt hCt hGt hGb hbt ho9 ht9 T9 h9 hend hlook hne
    go_region
    go_end0
    exact ⟨rfl, HEnd.out⟩
end
end Go.Proofs.Yteacpfknfbmjkaa
