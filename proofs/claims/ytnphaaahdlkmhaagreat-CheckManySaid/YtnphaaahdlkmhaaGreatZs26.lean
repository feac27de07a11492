/-
  What the document's own cond does with a reader in memory. Conditions: tokens as a text has them.
-/
import Derived.Test.YtnphaaahdlkmhaaGreatZs25
import Derived.Test.YtnphaaahdlkmhaaGreatZs8
import Derived.Test.YtnphaaahdlkmhaaGreatZs10
import Derived.Deep.DeepCutAuto
import Derived.Deep.RegionWith
import Derived.Test.YtnphaaahdlkmhaaGreatZs9
section
namespace Go.Proofs.YtnphaaahdlkmhaaGreat
open Go.ChangeShapes Go.WideShapes Go.ChangeAt Go.RowKit
set_option maxRecDepth 100000
set_option maxHeartbeats 8000000

theorem rcond_any {gp g n cp L : Nat} {ts : List Tk} (hnk : NumsOk ts) {w : World} {σ : St} (h : RT w gp g n cp ts L σ) (hg : g < w.heap.size) :
    Calls Tryz.prog 38 #[.pointer (some ⟨gp, 0, none⟩)] w fun x w' => x = .returned (.agg #[.string (bs (rcnV ts σ).nm), .int .i64 ((rcnV ts σ).op : Int), .int .i64 (rcnV ts σ).n]) ∧ RT w' gp g n cp ts L (rcnS ts σ) ∧ Touch (AtB gp) w w' := by
  have hgp := h.lt
  obtain ⟨W0, hW0⟩ : ∃ W, w.alloc (.cells #[.string ⟨#[]⟩, .int .i64 0, .int .i64 0] 98) = W := ⟨_, rfl⟩
  have t0 : Touch NoB w W0 := by rw [← hW0]; exact (Touch.refl _ _).alloc _
  have hb2 : B3 W0 98 w.heap.size (.string ⟨#[]⟩) (.int .i64 0) (.int .i64 0) := by rw [← hW0]; exact B3.new _ _ _ _ _ rfl
  have HN := Lib.hid (t_name (h.touch t0))
  have HB2 := Lib.hid hb2
  have HT0 := Lib.hid t0
  have HNK := Lib.hid hnk
  have hl2 := blk_lt hb2
  obtain ⟨nm, hnm⟩ : ∃ z, bs (naV ts σ) = z := ⟨_, rfl⟩
  obtain ⟨s, hs⟩ : ∃ z, naS ts σ = z := ⟨_, rfl⟩
  have hVS : ∀ op v s', ((isS ts [62, 61] s = true ∧ op = 0 ∧ v = siV ts (acS ts [62, 61] s) ∧ s' = siS ts (acS ts [62, 61] s)) ∨ (isS ts [62, 61] s = false ∧ isS ts [60, 61] s = true ∧ op = 1 ∧ v = siV ts (acS ts [60, 61] s) ∧ s' = siS ts (acS ts [60, 61] s)) ∨ (isS ts [62, 61] s = false ∧ isS ts [60, 61] s = false ∧ op = 2 ∧ v = siV ts (exS ts [61, 61] s) ∧ s' = siS ts (exS ts [61, 61] s))) →
      rcnV ts σ = ⟨naV ts σ, op, v⟩ ∧ rcnS ts σ = exS ts [59] s' := by
    intro op v s' hh
    unfold rcnV rcnS
    rw [hs]
    rcases hh with ⟨h1, rfl, rfl, rfl⟩ | ⟨h1, h2, rfl, rfl, rfl⟩ | ⟨h1, h2, rfl, rfl, rfl⟩
    · simp [h1]
    · simp [h1, h2]
    · simp [h1, h2]
  have HVS := Lib.hid hVS
  have HNM := Lib.hid hnm
  rw [hnm, hs] at HN
  clear h t0 hb2 hnk hnm hs hVS
  go_enter Tryz.func38, Tryz.ntmps38
  go_wp2_with fail
  refine HN.out.mono ?_
  rintro x w1 ⟨rfl, hr, ht⟩
  have hs1 := ht.size
  obtain ⟨W1, hW1⟩ : ∃ W, w1.alloc (.cells #[.string nm, .int .i64 0, .int .i64 0] 98) = W := ⟨_, rfl⟩
  have t1 : Touch NoB w1 W1 := by rw [← hW1]; exact (Touch.refl _ _).alloc _
  have HR := Lib.hid (hr.touch t1)
  have HT := Lib.hid (((Touch.anyB HT0.out).same ht).same (Touch.anyB (F := AtB gp) t1))
  have HB3 := Lib.hid (show B3 W1 98 w1.heap.size (.string nm) (.int .i64 0) (.int .i64 0) by rw [← hW1]; exact B3.new _ _ _ _ _ rfl)
  have HB2 := Lib.hid ((HB2.out.go ht (by omega)).go (Touch.anyB (F := AtB gp) t1) (by omega))
  have hgq : gp < w1.heap.size := by omega
  have hgg : g < w1.heap.size := by omega
  have hq2 : w.heap.size < w1.heap.size := by omega
  have HW1 := Lib.hid hW1
  clear hr ht t1 hs1 hW1
  cases hi : isS ts [62, 61] s with
  | true =>
    have HC := Lib.hid (t_take HR.out [62, 61])
    rw [hi] at HC
    go_wp2_with fail
    rw [HW1.out]
    refine HC.out.mono ?_
    rintro x w3 ⟨rfl, hr, ht⟩
    have HR := Lib.hid hr
    have HT := Lib.hid (HT.out.same ht)
    have HB3 := Lib.hid (HB3.out.go ht (by omega))
    have HB2 := Lib.hid (HB2.out.go ht (by omega))
    clear hr ht HC
    obtain ⟨V, hV⟩ : ∃ V, w3.setCell ⟨w1.heap.size, 1, none⟩ (.int .i64 0) = V := ⟨_, rfl⟩
    have tV : Touch (fun b => b = w1.heap.size) w3 V := by rw [← hV]; exact (Touch.refl (fun b => b = w1.heap.size) w3).setCell (p := ⟨w1.heap.size, 1, none⟩) (.inl rfl) _
    have hbV : B3 V 98 w1.heap.size (.string nm) (.int .i64 0) (.int .i64 0) := by rw [← hV]; exact HB3.out.set1 _
    have HRV := Lib.hid (HR.out.touchX tV hgq hgg)
    have HTV := Lib.hid (show Touch (AtB gp) w V by rw [← hV]; exact HT.out.setCell (p := ⟨w1.heap.size, 1, none⟩) (.inr (by simp only; omega)) _)
    have HB2V := Lib.hid (show B3 V 98 w.heap.size (.string ⟨#[]⟩) (.int .i64 0) (.int .i64 0) from (tV.block _ (blk_lt HB2.out) (by omega)).trans HB2.out)
    have HB3V := Lib.hid hbV
    obtain ⟨z0, z1, z2, zl⟩ := HB3.out.cells
    obtain ⟨f0, f1, f2⟩ := HB3.out.free
    have HC := Lib.hid (t_signed HNK.out HRV.out)
    clear tV hbV
    go_wp2_with fail
    refine HC.out.mono ?_
    rintro x w5 ⟨rfl, hr, ht⟩
    obtain ⟨v, hv⟩ : ∃ v, siV ts (acS ts [62, 61] s) = v := ⟨_, rfl⟩
    rw [hv]
    have hb5 := HB3V.out.go ht (by omega)
    have hb25 := HB2V.out.go ht (by omega)
    obtain ⟨V5, hV5⟩ : ∃ V, w5.setCell ⟨w1.heap.size, 2, none⟩ (.int .i64 v) = V := ⟨_, rfl⟩
    have tV : Touch (fun b => b = w1.heap.size) w5 V5 := by rw [← hV5]; exact (Touch.refl (fun b => b = w1.heap.size) w5).setCell (p := ⟨w1.heap.size, 2, none⟩) (.inl rfl) _
    have HB5 := Lib.hid (show B3 V5 98 w1.heap.size (.string nm) (.int .i64 0) (.int .i64 v) by rw [← hV5]; exact hb5.set2 _)
    have HB25 := Lib.hid (show B3 V5 98 w.heap.size (.string ⟨#[]⟩) (.int .i64 0) (.int .i64 0) from (tV.block _ (blk_lt hb25) (by omega)).trans hb25)
    have HR5 := Lib.hid (hr.touchX tV hgq hgg)
    have HT5 := Lib.hid (show Touch (AtB gp) w V5 by rw [← hV5]; exact (HTV.out.same ht).setCell (p := ⟨w1.heap.size, 2, none⟩) (.inr (by simp only; omega)) _)
    obtain ⟨z0, z1, z2, zl⟩ := hb5.cells
    obtain ⟨f0, f1, f2⟩ := hb5.free
    have HC2 := Lib.hid (t_want HR5.out [59])
    have HVV := Lib.hid hv
    clear hr ht tV hb5 hb25 hv
    go_wp2_with fail
    refine HC2.out.mono ?_
    rintro x w6 ⟨rfl, hr, ht⟩
    have hb6 := HB5.out.go ht (by omega)
    have hb26 := HB25.out.go ht (by omega)
    obtain ⟨z0, z1, z2, zl⟩ := hb6.cells
    obtain ⟨y0, y1, y2, yl⟩ := hb26.cells
    obtain ⟨f0, f1, f2⟩ := hb26.free
    obtain ⟨Y, hY⟩ : ∃ Y, ((w6.setCell ⟨w.heap.size, 0, none⟩ (.string nm)).setCell ⟨w.heap.size, 1, none⟩ (.int .i64 0)).setCell ⟨w.heap.size, 2, none⟩ (.int .i64 v) = Y := ⟨_, rfl⟩
    have tY : Touch (AtB gp) w Y := by rw [← hY]; exact touch3 (HT5.out.same ht) (.inr (Nat.le_refl _)) _ _ _
    have tYX : Touch (fun k => k = w.heap.size) w6 Y := by rw [← hY]; exact touch3 (F := fun k => k = w.heap.size) (Touch.refl _ w6) (.inl rfl) _ _ _
    have bY : B3 Y 98 w.heap.size (.string nm) (.int .i64 0) (.int .i64 v) := by rw [← hY]; exact ((hb26.set0 _).set1 _).set2 _
    obtain ⟨g0, g1, g2, gl⟩ := bY.cells
    have HZ := Lib.hid (And.intro tY (hr.touchX tYX hgp hg))
    clear hr ht hb6 hb26 tY tYX bY
    go_wp2
    obtain ⟨e1, e2⟩ := HVS.out 0 v (siS ts (acS ts [62, 61] s)) (.inl ⟨hi, rfl, HVV.out.symm, rfl⟩)
    exact bodyPost_ret (v := .agg #[.string nm, .int .i64 0, .int .i64 v]) (by simp [results, Tryz.results38, go_sem, g0, g1, g2]) rfl ⟨by rw [e1, HNM.out]; rfl, by rw [e2]; exact HZ.out.2, HZ.out.1⟩
  | false =>
    have HC := Lib.hid (t_no HR.out [62, 61] hi)
    go_wp2_with fail
    rw [HW1.out]
    refine HC.out.mono ?_
    rintro x w2 ⟨rfl, hr, ht⟩
    have HR := Lib.hid hr
    have HT := Lib.hid (HT.out.same (Touch.anyB (F := AtB gp) ht))
    have HB3 := Lib.hid (HB3.out.go (Touch.anyB (F := AtB gp) ht) (by omega))
    have HB2 := Lib.hid (HB2.out.go (Touch.anyB (F := AtB gp) ht) (by omega))
    clear hr ht HC
    cases hj : isS ts [60, 61] s with
    | true =>
      have HC := Lib.hid (t_take HR.out [60, 61])
      rw [hj] at HC
      go_wp2_with fail
      refine HC.out.mono ?_
      rintro x w3 ⟨rfl, hr, ht⟩
      have HR := Lib.hid hr
      have HT := Lib.hid (HT.out.same ht)
      have HB3 := Lib.hid (HB3.out.go ht (by omega))
      have HB2 := Lib.hid (HB2.out.go ht (by omega))
      clear hr ht HC
      obtain ⟨V, hV⟩ : ∃ V, w3.setCell ⟨w1.heap.size, 1, none⟩ (.int .i64 1) = V := ⟨_, rfl⟩
      have tV : Touch (fun b => b = w1.heap.size) w3 V := by rw [← hV]; exact (Touch.refl (fun b => b = w1.heap.size) w3).setCell (p := ⟨w1.heap.size, 1, none⟩) (.inl rfl) _
      have hbV : B3 V 98 w1.heap.size (.string nm) (.int .i64 1) (.int .i64 0) := by rw [← hV]; exact HB3.out.set1 _
      have HRV := Lib.hid (HR.out.touchX tV hgq hgg)
      have HTV := Lib.hid (show Touch (AtB gp) w V by rw [← hV]; exact HT.out.setCell (p := ⟨w1.heap.size, 1, none⟩) (.inr (by simp only; omega)) _)
      have HB2V := Lib.hid (show B3 V 98 w.heap.size (.string ⟨#[]⟩) (.int .i64 0) (.int .i64 0) from (tV.block _ (blk_lt HB2.out) (by omega)).trans HB2.out)
      have HB3V := Lib.hid hbV
      obtain ⟨z0, z1, z2, zl⟩ := HB3.out.cells
      obtain ⟨f0, f1, f2⟩ := HB3.out.free
      have HC := Lib.hid (t_signed HNK.out HRV.out)
      clear tV hbV
      go_wp2_with fail
      refine HC.out.mono ?_
      rintro x w5 ⟨rfl, hr, ht⟩
      obtain ⟨v, hv⟩ : ∃ v, siV ts (acS ts [60, 61] s) = v := ⟨_, rfl⟩
      rw [hv]
      have hb5 := HB3V.out.go ht (by omega)
      have hb25 := HB2V.out.go ht (by omega)
      obtain ⟨V5, hV5⟩ : ∃ V, w5.setCell ⟨w1.heap.size, 2, none⟩ (.int .i64 v) = V := ⟨_, rfl⟩
      have tV : Touch (fun b => b = w1.heap.size) w5 V5 := by rw [← hV5]; exact (Touch.refl (fun b => b = w1.heap.size) w5).setCell (p := ⟨w1.heap.size, 2, none⟩) (.inl rfl) _
      have HB5 := Lib.hid (show B3 V5 98 w1.heap.size (.string nm) (.int .i64 1) (.int .i64 v) by rw [← hV5]; exact hb5.set2 _)
      have HB25 := Lib.hid (show B3 V5 98 w.heap.size (.string ⟨#[]⟩) (.int .i64 0) (.int .i64 0) from (tV.block _ (blk_lt hb25) (by omega)).trans hb25)
      have HR5 := Lib.hid (hr.touchX tV hgq hgg)
      have HT5 := Lib.hid (show Touch (AtB gp) w V5 by rw [← hV5]; exact (HTV.out.same ht).setCell (p := ⟨w1.heap.size, 2, none⟩) (.inr (by simp only; omega)) _)
      obtain ⟨z0, z1, z2, zl⟩ := hb5.cells
      obtain ⟨f0, f1, f2⟩ := hb5.free
      have HC2 := Lib.hid (t_want HR5.out [59])
      have HVV := Lib.hid hv
      clear hr ht tV hb5 hb25 hv
      go_wp2_with fail
      refine HC2.out.mono ?_
      rintro x w6 ⟨rfl, hr, ht⟩
      have hb6 := HB5.out.go ht (by omega)
      have hb26 := HB25.out.go ht (by omega)
      obtain ⟨z0, z1, z2, zl⟩ := hb6.cells
      obtain ⟨y0, y1, y2, yl⟩ := hb26.cells
      obtain ⟨f0, f1, f2⟩ := hb26.free
      obtain ⟨Y, hY⟩ : ∃ Y, ((w6.setCell ⟨w.heap.size, 0, none⟩ (.string nm)).setCell ⟨w.heap.size, 1, none⟩ (.int .i64 1)).setCell ⟨w.heap.size, 2, none⟩ (.int .i64 v) = Y := ⟨_, rfl⟩
      have tY : Touch (AtB gp) w Y := by rw [← hY]; exact touch3 (HT5.out.same ht) (.inr (Nat.le_refl _)) _ _ _
      have tYX : Touch (fun k => k = w.heap.size) w6 Y := by rw [← hY]; exact touch3 (F := fun k => k = w.heap.size) (Touch.refl _ w6) (.inl rfl) _ _ _
      have bY : B3 Y 98 w.heap.size (.string nm) (.int .i64 1) (.int .i64 v) := by rw [← hY]; exact ((hb26.set0 _).set1 _).set2 _
      obtain ⟨g0, g1, g2, gl⟩ := bY.cells
      have HZ := Lib.hid (And.intro tY (hr.touchX tYX hgp hg))
      clear hr ht hb6 hb26 tY tYX bY
      go_wp2
      obtain ⟨e1, e2⟩ := HVS.out 1 v (siS ts (acS ts [60, 61] s)) (.inr (.inl ⟨hi, hj, rfl, HVV.out.symm, rfl⟩))
      exact bodyPost_ret (v := .agg #[.string nm, .int .i64 1, .int .i64 v]) (by simp [results, Tryz.results38, go_sem, g0, g1, g2]) rfl ⟨by rw [e1, HNM.out]; rfl, by rw [e2]; exact HZ.out.2, HZ.out.1⟩
    | false =>
      have HC := Lib.hid (t_no HR.out [60, 61] hj)
      go_wp2_with fail
      refine HC.out.mono ?_
      rintro x w4 ⟨rfl, hr, ht⟩
      have HR := Lib.hid hr
      have HT := Lib.hid (HT.out.same (Touch.anyB (F := AtB gp) ht))
      have HB3 := Lib.hid (HB3.out.go (Touch.anyB (F := AtB gp) ht) (by omega))
      have HB2 := Lib.hid (HB2.out.go (Touch.anyB (F := AtB gp) ht) (by omega))
      clear hr ht HC
      have HC := Lib.hid (t_want HR.out [61, 61])
      go_wp2_with fail
      refine HC.out.mono ?_
      rintro x w3 ⟨rfl, hr, ht⟩
      have HR := Lib.hid hr
      have HT := Lib.hid (HT.out.same ht)
      have HB3 := Lib.hid (HB3.out.go ht (by omega))
      have HB2 := Lib.hid (HB2.out.go ht (by omega))
      clear hr ht HC
      obtain ⟨V, hV⟩ : ∃ V, w3.setCell ⟨w1.heap.size, 1, none⟩ (.int .i64 2) = V := ⟨_, rfl⟩
      have tV : Touch (fun b => b = w1.heap.size) w3 V := by rw [← hV]; exact (Touch.refl (fun b => b = w1.heap.size) w3).setCell (p := ⟨w1.heap.size, 1, none⟩) (.inl rfl) _
      have hbV : B3 V 98 w1.heap.size (.string nm) (.int .i64 2) (.int .i64 0) := by rw [← hV]; exact HB3.out.set1 _
      have HRV := Lib.hid (HR.out.touchX tV hgq hgg)
      have HTV := Lib.hid (show Touch (AtB gp) w V by rw [← hV]; exact HT.out.setCell (p := ⟨w1.heap.size, 1, none⟩) (.inr (by simp only; omega)) _)
      have HB2V := Lib.hid (show B3 V 98 w.heap.size (.string ⟨#[]⟩) (.int .i64 0) (.int .i64 0) from (tV.block _ (blk_lt HB2.out) (by omega)).trans HB2.out)
      have HB3V := Lib.hid hbV
      obtain ⟨z0, z1, z2, zl⟩ := HB3.out.cells
      obtain ⟨f0, f1, f2⟩ := HB3.out.free
      have HC := Lib.hid (t_signed HNK.out HRV.out)
      clear tV hbV
      go_wp2_with fail
      refine HC.out.mono ?_
      rintro x w5 ⟨rfl, hr, ht⟩
      obtain ⟨v, hv⟩ : ∃ v, siV ts (exS ts [61, 61] s) = v := ⟨_, rfl⟩
      rw [hv]
      have hb5 := HB3V.out.go ht (by omega)
      have hb25 := HB2V.out.go ht (by omega)
      obtain ⟨V5, hV5⟩ : ∃ V, w5.setCell ⟨w1.heap.size, 2, none⟩ (.int .i64 v) = V := ⟨_, rfl⟩
      have tV : Touch (fun b => b = w1.heap.size) w5 V5 := by rw [← hV5]; exact (Touch.refl (fun b => b = w1.heap.size) w5).setCell (p := ⟨w1.heap.size, 2, none⟩) (.inl rfl) _
      have HB5 := Lib.hid (show B3 V5 98 w1.heap.size (.string nm) (.int .i64 2) (.int .i64 v) by rw [← hV5]; exact hb5.set2 _)
      have HB25 := Lib.hid (show B3 V5 98 w.heap.size (.string ⟨#[]⟩) (.int .i64 0) (.int .i64 0) from (tV.block _ (blk_lt hb25) (by omega)).trans hb25)
      have HR5 := Lib.hid (hr.touchX tV hgq hgg)
      have HT5 := Lib.hid (show Touch (AtB gp) w V5 by rw [← hV5]; exact (HTV.out.same ht).setCell (p := ⟨w1.heap.size, 2, none⟩) (.inr (by simp only; omega)) _)
      obtain ⟨z0, z1, z2, zl⟩ := hb5.cells
      obtain ⟨f0, f1, f2⟩ := hb5.free
      have HC2 := Lib.hid (t_want HR5.out [59])
      have HVV := Lib.hid hv
      clear hr ht tV hb5 hb25 hv
      go_wp2_with fail
      refine HC2.out.mono ?_
      rintro x w6 ⟨rfl, hr, ht⟩
      have hb6 := HB5.out.go ht (by omega)
      have hb26 := HB25.out.go ht (by omega)
      obtain ⟨z0, z1, z2, zl⟩ := hb6.cells
      obtain ⟨y0, y1, y2, yl⟩ := hb26.cells
      obtain ⟨f0, f1, f2⟩ := hb26.free
      obtain ⟨Y, hY⟩ : ∃ Y, ((w6.setCell ⟨w.heap.size, 0, none⟩ (.string nm)).setCell ⟨w.heap.size, 1, none⟩ (.int .i64 2)).setCell ⟨w.heap.size, 2, none⟩ (.int .i64 v) = Y := ⟨_, rfl⟩
      have tY : Touch (AtB gp) w Y := by rw [← hY]; exact touch3 (HT5.out.same ht) (.inr (Nat.le_refl _)) _ _ _
      have tYX : Touch (fun k => k = w.heap.size) w6 Y := by rw [← hY]; exact touch3 (F := fun k => k = w.heap.size) (Touch.refl _ w6) (.inl rfl) _ _ _
      have bY : B3 Y 98 w.heap.size (.string nm) (.int .i64 2) (.int .i64 v) := by rw [← hY]; exact ((hb26.set0 _).set1 _).set2 _
      obtain ⟨g0, g1, g2, gl⟩ := bY.cells
      have HZ := Lib.hid (And.intro tY (hr.touchX tYX hgp hg))
      clear hr ht hb6 hb26 tY tYX bY
      go_wp2
      obtain ⟨e1, e2⟩ := HVS.out 2 v (siS ts (exS ts [61, 61] s)) (.inr (.inr ⟨hi, hj, rfl, HVV.out.symm, rfl⟩))
      exact bodyPost_ret (v := .agg #[.string nm, .int .i64 2, .int .i64 v]) (by simp [results, Tryz.results38, go_sem, g0, g1, g2]) rfl ⟨by rw [e1, HNM.out]; rfl, by rw [e2]; exact HZ.out.2, HZ.out.1⟩
end Go.Proofs.YtnphaaahdlkmhaaGreat
end
/-
  What stands in memory while the document's own act reads. Conditions: those that each theorem names.
-/
section
namespace Go.Proofs.YtnphaaahdlkmhaaGreat
open Go.ChangeShapes Go.WideShapes Go.ChangeAt Go.RowKit
set_option maxRecDepth 100000
set_option maxHeartbeats 4000000

theorem rcnS_ge (ts : List Tk) (σ : St) : σ.1 ≤ (rcnS ts σ).1 := by
  unfold rcnS
  simp only
  refine Nat.le_trans (naS_ge ts σ) (Nat.le_trans ?_ (Nat.le_trans (siS_ge ts _) (exS_ge ts [59] _)))
  split
  · exact acS_ge ts _ _
  · split
    · exact acS_ge ts _ _
    · exact exS_ge ts _ _
theorem rmkS_ge (ts : List Tk) (σ : St) : σ.1 ≤ (rmkS ts σ).1 := by
  unfold rmkS
  simp only
  refine Nat.le_trans (naS_ge ts σ) (Nat.le_trans ?_ (exS_ge ts [59] _))
  split
  · exact Nat.le_trans (acS_ge ts _ _) (nuS_ge ts _)
  · split
    · exact Nat.le_trans (acS_ge ts _ _) (nuS_ge ts _)
    · exact Nat.le_trans (exS_ge ts _ _) (siS_ge ts _)
theorem acS_keep {ts : List Tk} {s : Bs} {σ : St} : (acS ts s σ).2 = σ.2 := by unfold acS; rfl
theorem exS_keep {ts : List Tk} {s : Bs} {σ : St} (h : σ.2 ≠ 0) : (exS ts s σ).2 ≠ 0 := by rw [exS_bd h]; exact h
theorem rmkS_bad {ts : List Tk} {σ : St} (h : σ.2 ≠ 0) : (rmkS ts σ).2 ≠ 0 := by
  unfold rmkS
  simp only
  refine exS_keep ?_
  have h1 := naS_bad (ts := ts) h
  split
  · exact nuS_bad (by rw [acS_keep]; exact h1)
  · split
    · exact nuS_bad (by rw [acS_keep]; exact h1)
    · unfold siS
      exact nuS_bad (by rw [acS_keep]; exact exS_keep h1)
theorem exS_no {ts : List Tk} {s : Bs} {σ : St} (h : isS ts s σ = false) : (exS ts s σ).2 ≠ 0 := by
  unfold exS
  simp only [h]
  simp
  split <;> omega
section
variable {ts : List Tk} {f : Nat} {a : List Cn} {b : List Mk} {σ : St}
theorem racR_stop (h : ¬ (σ.2 = 0 ∧ isS ts [125] σ = false)) : racR ts f a b σ = ((a, b), σ) := by
  cases f with
  | zero => rfl
  | succ f => rw [racR, if_neg h]
theorem racR_many (h : σ.2 = 0 ∧ isS ts [125] σ = false) (hm : (isS ts needB σ = true ∧ 8 ≤ a.length) ∨ (isS ts makeB σ = true ∧ 8 ≤ b.length)) : racR ts (f + 1) a b σ = racR ts f a b (failS 9 σ) := by
  rw [racR, if_pos h, if_pos hm]
theorem racR_need (h : σ.2 = 0 ∧ isS ts [125] σ = false) (hn : isS ts needB σ = true) (ha : a.length < 8) : racR ts (f + 1) a b σ = racR ts f (a ++ [rcnV ts (acS ts needB σ)]) b (rcnS ts (acS ts needB σ)) := by
  have hm : isS ts makeB σ = false := isS_other hn (by decide)
  rw [racR, if_pos h, if_neg (by rw [hm]; intro h; rcases h with h | h; omega; cases h.1), if_pos hn]
theorem racR_make (h : σ.2 = 0 ∧ isS ts [125] σ = false) (hn : isS ts needB σ = false) (hb : isS ts makeB σ = true → b.length < 8) : racR ts (f + 1) a b σ = racR ts f a (b ++ [rmkV ts (exS ts makeB σ)]) (rmkS ts (exS ts makeB σ)) := by
  rw [racR, if_pos h, if_neg (by rw [hn]; intro h; rcases h with h | h; cases h.1; have := hb h.1; omega), if_neg (by rw [hn]; decide)]
end
/-- An act that is being read, at block q3. -/
structure AM (w : World) (gp g n cp L q3 : Nat) (ts : List Tk) (R0 : (List Cn × List Mk) × St) (nm : ByteArray) (cost : Int) (f : Nat) (a : List Cn) (b : List Mk) (σ : St) (nv mv : Value) (wr : World) : Prop where
  t : Touch (AtB gp) w wr
  b2 : B4 wr 95 w.heap.size (.string ⟨#[]⟩) (.int .i64 0) (.slice none 0 0) (.slice none 0 0)
  b3 : B4 wr 95 q3 (.string nm) (.int .i64 cost) nv mv
  rn : wr.ownsRow w.heap.size 98 3 nv a.length (cnC a)
  rm : wr.ownsRow w.heap.size 126 3 mv b.length (mkC b)
  rt : RT wr gp g n cp ts L σ
  md : racR ts f a b σ = R0
  fu : Fu f n σ
  la : a.length ≤ 8
  lb : b.length ≤ 9 ∧ (σ.2 = 0 → b.length ≤ 8)
/-- What an act's reader leaves. -/
def RAcP (w : World) (gp g n cp L : Nat) (ts : List Tk) (v : Ac) (st : St) (x : Ending) (w' : World) : Prop := ∃ (nv mv : Value), x = .returned (.agg #[.string (bs v.nm), .int .i64 (v.cost : Int), nv, mv]) ∧
  w'.ownsRow w.heap.size 98 3 nv v.need.length (cnC v.need) ∧ w'.ownsRow w.heap.size 126 3 mv v.make.length (mkC v.make) ∧ RT w' gp g n cp ts L st ∧ Touch (AtB gp) w w'
theorem meas2_rt {w : World} {gp g n cp L : Nat} {ts : List Tk} {σ : St} (h : RT w gp g n cp ts L σ) : meas2 gp n w = 2 * (n - σ.1) + (if σ.2 = 0 then 1 else 0) := by
  obtain ⟨h1, h2, -⟩ := h.cells
  unfold meas2
  rw [h1, h2]
  simp [intOf]
section
variable {w wr V wx : World} {gp g n cp L q3 gd cap : Nat} {ts : List Tk} {R0 : (List Cn × List Mk) × St} {nm : ByteArray} {cost : Int} {f : Nat} {a : List Cn} {b : List Mk} {σ τ : St} {nv mv : Value}
/-- The way out of the loop. -/
theorem AM.out (h : AM w gp g n cp L q3 ts R0 nm cost f a b σ nv mv wr) (t : Touch (AtB gp) wr V) (hp : RT V gp g n cp ts L τ) (hgp : gp < w.heap.size) (hgl : g < w.heap.size) :
    ∀ (x0 x1 x2 x3 : Value), let W := (((V.setCell ⟨w.heap.size, 0, none⟩ x0).setCell ⟨w.heap.size, 1, none⟩ x1).setCell ⟨w.heap.size, 2, none⟩ x2).setCell ⟨w.heap.size, 3, none⟩ x3
      W.ownsRow w.heap.size 98 3 nv a.length (cnC a) ∧ W.ownsRow w.heap.size 126 3 mv b.length (mkC b) ∧ RT W gp g n cp ts L τ ∧ Touch (AtB gp) w W := by
  intro x0 x1 x2 x3
  have hb2 := h.b2.go t (by omega)
  have r1 := row_go h.rn t hgp
  have r2 := row_go h.rm t hgp
  have n1 : nv.ownBlock ≠ some w.heap.size := row_ne r1 hb2 (by decide)
  have n2 : mv.ownBlock ≠ some w.heap.size := row_ne r2 hb2 (by decide)
  exact ⟨row_aside (row_aside (row_aside (row_aside r1 n1) n1) n1) n1, row_aside (row_aside (row_aside (row_aside r2 n2) n2) n2) n2,
    hp.touchX (touch4 (F := fun k => k = w.heap.size) (Touch.refl _ V) (.inl rfl) x0 x1 x2 x3) hgp hgl, touch4 (h.t.same t) (.inr (Nat.le_refl _)) x0 x1 x2 x3⟩
/-- Nothing but the reader goes on. -/
theorem AM.next (h : AM w gp g n cp L q3 ts R0 nm cost (f + 1) a b σ nv mv wr) (t : Touch (AtB gp) wr V) (hp : RT V gp g n cp ts L τ) (hgp : gp < w.heap.size) (hq : w.heap.size < q3) (h0 : σ.2 = 0) (hbad : τ.2 ≠ 0) (hmd : racR ts f a b τ = R0) : AM w gp g n cp L q3 ts R0 nm cost f a b τ nv mv V :=
  ⟨h.t.same t, h.b2.go t (by omega), h.b3.go t (by omega), row_go h.rn t hgp, row_go h.rm t hgp, hp, hmd, h.fu.stop h0 hbad, h.la, h.lb.1, fun e => absurd e hbad⟩
/-- A condition more. -/
theorem AM.addN {v : Cn} (h : AM w gp g n cp L q3 ts R0 nm cost (f + 1) a b σ nv mv wr) (t : Touch (AtB gp) wr V) (hp : RT V gp g n cp ts L τ) (hgp : gp < w.heap.size) (hgl : g < w.heap.size) (hq : w.heap.size < q3) (h0 : σ.2 = 0) (hg : σ.1 + 1 ≤ τ.1) (ha : a.length < 8)
    (TR : Touch (fun b => nv.ownBlock = some b) V wx) (hown : wx.ownsRow w.heap.size 98 3 (.slice (some ⟨gd, 0, none⟩) (a.length + 1) cap) (a.length + 1) (cnC a ++ [.string (bs v.nm), .int .i64 (v.op : Int), .int .i64 v.n]))
    (hmd : racR ts f (a ++ [v]) b τ = R0) : AM w gp g n cp L q3 ts R0 nm cost f (a ++ [v]) b τ (.slice (some ⟨gd, 0, none⟩) (a.length + 1) cap) mv (wx.setCell ⟨q3, 2, none⟩ (.slice (some ⟨gd, 0, none⟩) (a.length + 1) cap)) := by
  have rn := row_go h.rn t hgp
  have rm := row_go h.rm t hgp
  have b2 := h.b2.go t (by omega)
  have b3 := h.b3.go t (by omega)
  have hb2 := b2.goR TR (row_ne rn b2 (by decide))
  have hb3 := b3.goR TR (row_ne rn b3 (by decide))
  have rm2 := row_touch rm TR (fun k hk f => row_row_ne rn rm (by decide) f hk)
  have tS := (Touch.refl (fun b => b = q3) wx).setCell (p := ⟨q3, 2, none⟩) (.inl rfl) (.slice (some ⟨gd, 0, none⟩) (a.length + 1) cap)
  have hs := h.t.size
  have hl : q3 < V.heap.size := blk_lt b3
  refine ⟨((h.t.same t).trans TR (fun k hk => .inr (row_base rn k hk))).setCell (p := ⟨q3, 2, none⟩) (.inr (by simp only; omega)) _, hb2.aside (by omega), hb3.set2 _, ?_, row_aside rm2 (row_ne rm2 hb3 (by decide)),
    (hp.row TR (fun e => by have := row_base rn _ e; omega) (fun e => by have := row_base rn _ e; omega)).touchX tS (by omega) (by omega), hmd, h.fu.next h0 (by have := h.rt.le; have := h.rt.ln; omega) hg, by simp; omega, h.lb.1, fun _ => h.lb.2 h0⟩
  rw [List.length_append, cnC_snoc]
  exact row_aside hown (row_ne hown hb3 (by decide))
/-- A make more. -/
theorem AM.addM {v : Mk} (h : AM w gp g n cp L q3 ts R0 nm cost (f + 1) a b σ nv mv wr) (t : Touch (AtB gp) wr V) (hp : RT V gp g n cp ts L τ) (hgp : gp < w.heap.size) (hgl : g < w.heap.size) (hq : w.heap.size < q3) (h0 : σ.2 = 0) (hg : σ.1 + 1 ≤ τ.1 ∧ b.length < 8 ∨ τ.2 ≠ 0)
    (TR : Touch (fun b => mv.ownBlock = some b) V wx) (hown : wx.ownsRow w.heap.size 126 3 (.slice (some ⟨gd, 0, none⟩) (b.length + 1) cap) (b.length + 1) (mkC b ++ [.string (bs v.nm), .bool v.add, .int .i64 v.n]))
    (hmd : racR ts f a (b ++ [v]) τ = R0) : AM w gp g n cp L q3 ts R0 nm cost f a (b ++ [v]) τ nv (.slice (some ⟨gd, 0, none⟩) (b.length + 1) cap) (wx.setCell ⟨q3, 3, none⟩ (.slice (some ⟨gd, 0, none⟩) (b.length + 1) cap)) := by
  have rn := row_go h.rn t hgp
  have rm := row_go h.rm t hgp
  have b2 := h.b2.go t (by omega)
  have b3 := h.b3.go t (by omega)
  have hb2 := b2.goR TR (row_ne rm b2 (by decide))
  have hb3 := b3.goR TR (row_ne rm b3 (by decide))
  have rn2 := row_touch rn TR (fun k hk f => row_row_ne rm rn (by decide) f hk)
  have tS := (Touch.refl (fun b => b = q3) wx).setCell (p := ⟨q3, 3, none⟩) (.inl rfl) (.slice (some ⟨gd, 0, none⟩) (b.length + 1) cap)
  have hs := h.t.size
  have hl : q3 < V.heap.size := blk_lt b3
  have hb8 := h.lb.2 h0
  refine ⟨((h.t.same t).trans TR (fun k hk => .inr (row_base rm k hk))).setCell (p := ⟨q3, 3, none⟩) (.inr (by simp only; omega)) _, hb2.aside (by omega), hb3.set3 _, row_aside rn2 (row_ne rn2 hb3 (by decide)), ?_,
    (hp.row TR (fun e => by have := row_base rm _ e; omega) (fun e => by have := row_base rm _ e; omega)).touchX tS (by omega) (by omega), hmd, ?_, h.la, by simp; omega, fun e => ?_⟩
  · rw [List.length_append, mkC_snoc]
    exact row_aside hown (row_ne hown hb3 (by decide))
  · rcases hg with hg | hg
    · exact h.fu.next h0 (by have := h.rt.le; have := h.rt.ln; omega) hg.1
    · exact h.fu.stop h0 hg
  · rcases hg with hg | hg
    · simp; omega
    · exact absurd e hg
end
end Go.Proofs.YtnphaaahdlkmhaaGreat
end
/-
  What the document's own act does with a reader in memory. Conditions: numbers among the tokens are such.
-/
section
namespace Go.Proofs.YtnphaaahdlkmhaaGreat
open Go.ChangeShapes Go.WideShapes Go.ChangeAt Go.RowKit
set_option maxRecDepth 100000
set_option maxHeartbeats 8000000

theorem meas2_lt {w V : World} {gp g n cp L : Nat} {ts : List Tk} {σ τ : St} (h : RT w gp g n cp ts L σ) (h' : RT V gp g n cp ts L τ) (h0 : σ.2 = 0) (hg : σ.1 + 1 ≤ τ.1 ∨ (τ.2 ≠ 0 ∧ σ.1 ≤ τ.1)) : meas2 gp n V < meas2 gp n w := by
  rw [meas2_rt h, meas2_rt h', if_pos h0]
  have := h.le
  have := h.ln
  have := h'.le
  rcases hg with hg | hg
  · split <;> omega
  · rw [if_neg hg.1]; omega
theorem exS_yes' {ts : List Tk} {s : Bs} {σ : St} (h : isS ts s σ = true) : (exS ts s σ).1 = σ.1 + 1 := by unfold exS; rw [if_pos h]
theorem one_make {nm : ByteArray} {ad : Bool} {v : Int} : ∀ u ∈ [Value.string nm, .bool ad, .int .i64 v], u.oneCell' = true := by
  intro u hu
  simp only [List.mem_cons, List.not_mem_nil, or_false] at hu
  rcases hu with rfl | rfl | rfl <;> rfl
theorem ract_any {gp g n cp L : Nat} {ts : List Tk} (hnk : NumsOk ts) {w : World} {σ : St} (h : RT w gp g n cp ts L σ) :
    Calls Tryz.prog 37 #[.pointer (some ⟨gp, 0, none⟩)] w (RAcP w gp g n cp L ts (racV ts σ) (racS ts σ)) := by
  obtain ⟨W0, hW0⟩ : ∃ W, w.alloc (.cells #[.string ⟨#[]⟩, .int .i64 0, .slice none 0 0, .slice none 0 0] 95) = W := ⟨_, rfl⟩
  have t0 : Touch NoB w W0 := by rw [← hW0]; exact (Touch.refl _ _).alloc _
  have b2 : B4 W0 95 w.heap.size (.string ⟨#[]⟩) (.int .i64 0) (.slice none 0 0) (.slice none 0 0) := by rw [← hW0]; exact B4.new w _ _ _ _ _ rfl
  have hgp := h.lt
  have hgl : g < w.heap.size := h.rs.tl.lt
  have HB2 := Lib.hid b2
  have HT := Lib.hid (Touch.anyB (F := AtB gp) t0)
  have hln : ts.length = n := h.rs.len
  obtain ⟨R0, hR0⟩ : ∃ z, racR ts (ts.length + 5) [] [] (actH ts σ) = z := ⟨_, rfl⟩
  unfold racV racS
  simp only [hR0]
  unfold actH at hR0
  have HC := Lib.hid (t_name (h.touch t0))
  obtain ⟨n1, hn1⟩ : ∃ z, bs (naV ts σ) = z := ⟨_, rfl⟩
  obtain ⟨s1, hs1⟩ : ∃ z, naS ts σ = z := ⟨_, rfl⟩
  obtain ⟨s2, hs2⟩ : ∃ z, exS ts [99, 111, 115, 116] s1 = z := ⟨_, rfl⟩
  obtain ⟨v3, hv3⟩ : ∃ z, nuV ts s2 = z := ⟨_, rfl⟩
  obtain ⟨s3, hs3⟩ : ∃ z, nuS ts s2 = z := ⟨_, rfl⟩
  obtain ⟨s4, hs4⟩ : ∃ z, exS ts [123] s3 = z := ⟨_, rfl⟩
  rw [hn1, hs1] at HC
  rw [hs1, hs2, hs3, hs4] at hR0
  simp only [hs1, hs2, hv3]
  have HN1 := Lib.hid hn1
  have H2 := Lib.hid (fun (W : World) (q : RT W gp g n cp ts L s1) => t_want q [99, 111, 115, 116])
  have H3 := Lib.hid (fun (W : World) (q : RT W gp g n cp ts L s2) => t_number q)
  have H4 := Lib.hid (fun (W : World) (q : RT W gp g n cp ts L s3) => t_want q [123])
  rw [hs2] at H2
  rw [hv3, hs3] at H3
  rw [hs4] at H4
  have HR0 := Lib.hid hR0
  have HNK := Lib.hid hnk
  have HLN := Lib.hid hln
  clear hs4 hs3 hs1 hv3 h t0 b2 hs2 hn1 hR0 hnk hln
  go_enter Tryz.func37, Tryz.ntmps37
  go_wp2_with fail
  refine HC.out.mono ?_
  rintro r w1 ⟨rfl, hp, hT⟩
  obtain ⟨X, hX⟩ : ∃ X, w1.alloc (.cells #[.string n1, .int .i64 0, .slice none 0 0, .slice none 0 0] 95) = X := ⟨_, rfl⟩
  have tx : Touch NoB w1 X := by rw [← hX]; exact (Touch.refl _ _).alloc _
  obtain ⟨q3, hq3⟩ : ∃ q3, w1.heap.size = q3 := ⟨_, rfl⟩
  have hsq : w.heap.size < q3 := by have := hT.size; have := blk_lt HB2.out; omega
  have HB3 := Lib.hid (show B4 X 95 q3 (.string n1) (.int .i64 0) (.slice none 0 0) (.slice none 0 0) by rw [← hX]; exact B4.new _ _ _ _ _ _ hq3)
  have HB2 := Lib.hid ((HB2.out.go hT (by omega)).go (Touch.anyB (F := AtB gp) tx) (by omega))
  have HT := Lib.hid (HT.out.same (hT.same (Touch.anyB tx)))
  have HP := Lib.hid (hp.touch tx)
  clear hp hT tx
  subst hX
  have HC := Lib.hid (H2.out _ HP.out)
  go_wp2_with fail
  refine HC.out.mono ?_
  rintro r uy ⟨rfl, hp, hT⟩
  have HB3 := Lib.hid (HB3.out.go hT (by omega))
  have HB2 := Lib.hid (HB2.out.go hT (by omega))
  have HT := Lib.hid (HT.out.same hT)
  have HP := Lib.hid hp
  clear hp hT
  have HC := Lib.hid (H3.out uy HP.out)
  go_wp2_with fail
  refine HC.out.mono ?_
  rintro r un ⟨rfl, hp, hT⟩
  have HB3 := Lib.hid (HB3.out.go hT (by omega))
  have HB2 := Lib.hid (HB2.out.go hT (by omega))
  have HT := Lib.hid (HT.out.same hT)
  have HP := Lib.hid hp
  clear hp hT
  obtain ⟨x0, x1, x2, x3, xl⟩ := HB3.out.cells
  obtain ⟨y0, y1, y2, y3⟩ := HB3.out.free
  obtain ⟨V, hV⟩ : ∃ V, un.setCell ⟨q3, 1, none⟩ (.int .i64 (v3 : Int)) = V := ⟨_, rfl⟩
  have HP := Lib.hid (show RT V gp g n cp ts L s3 by rw [← hV]; exact HP.out.touchX ((Touch.refl (fun b => b = q3) un).setCell (p := ⟨q3, 1, none⟩) (.inl rfl) _) (by omega) (by omega))
  have HB3 := Lib.hid (show B4 V 95 q3 (.string n1) (.int .i64 (v3 : Int)) (.slice none 0 0) (.slice none 0 0) by rw [← hV]; exact HB3.out.set1 _)
  have HB2 := Lib.hid (show B4 V 95 w.heap.size (.string ⟨#[]⟩) (.int .i64 0) (.slice none 0 0) (.slice none 0 0) by rw [← hV]; exact HB2.out.aside (by omega))
  have HT := Lib.hid (show Touch (AtB gp) w V by rw [← hV]; exact HT.out.setCell (p := ⟨q3, 1, none⟩) (.inr (by simp only; omega)) _)
  have HC := Lib.hid (H4.out V HP.out)
  go_wp2_with fail
  refine HC.out.mono ?_
  rintro r ue ⟨rfl, hp, hT⟩
  have HB3 := Lib.hid (HB3.out.go hT (by omega))
  have HB2 := Lib.hid (HB2.out.go hT (by omega))
  have HT := Lib.hid (HT.out.same hT)
  have HP := Lib.hid hp
  clear hp hT
  have HR : Hid (∃ f a b τ nv mv, AM w gp g n cp L q3 ts R0 n1 (v3 : Int) f a b τ nv mv ue) := Lib.hid ⟨ts.length + 5, [], [], s4, .slice none 0 0, .slice none 0 0, HT.out, HB2.out, HB3.out, World.ownsRow_nil _ _ _ _, World.ownsRow_nil _ _ _ _, HP.out, HR0.out, ⟨by omega, fun _ => by have := HLN.out; omega⟩, by simp, by simp, fun _ => by simp⟩
  clear HC HT HP HB2 HB3 HR0 H2 H3 H4 x0 x1 x2 x3 xl y0 y1 y2 y3 hV
  go_wp2_with fail
  go_loopw [] (fun wr => ∃ f a b τ nv mv, AM w gp g n cp L q3 ts R0 n1 (v3 : Int) f a b τ nv mv wr) (fun wr => meas2 gp n wr)
  case atStart => exact HR.out
  case round =>
    clear HR
    obtain ⟨f, a, b, τ, nv, mv, hR⟩ := hrel
    obtain ⟨A1, kp1, rfl, hc1, hc2⟩ := row_any hR.rn
    obtain ⟨A2, kp2, rfl, hd1, hd2⟩ := row_any hR.rm
    obtain ⟨c1, c2, cl⟩ := hR.rt.cells
    obtain ⟨f1, rfl⟩ : ∃ f1, f = f1 + 1 := ⟨f - 1, by have := hR.fu.1; omega⟩
    have hs0 := hR.t.size
    have HR := Lib.hid hR
    clear hR
    by_cases he : τ.2 = 0
    · have hee : ((τ.2 : Int) == 0) = true := by rw [he]; rfl
      have HI := Lib.hid (t_is HR.out.rt [125] he)
      cases hi : isS ts [125] τ with
      | true =>
        rw [hi] at HI
        have HST := Lib.hid (show R0 = ((a, b), τ) from HR.out.md.symm.trans (racR_stop (by rw [hi]; intro h; cases h.2)))
        go_wp2_with fail
        refine HI.out.mono ?_
        rintro x V4 ⟨rfl, hT4⟩
        have HX := Lib.hid (t_want (HR.out.rt.touch hT4) [125])
        have HT4 := Lib.hid hT4
        clear hT4
        go_wp2_with fail
        refine HX.out.mono ?_
        rintro x V5 ⟨rfl, hp, hT⟩
        have tt : Touch (AtB gp) wr V5 := (Touch.anyB HT4.out).same hT
        obtain ⟨z0, z1, z2, z3, zl⟩ := (HR.out.b2.go tt (by omega)).cells
        obtain ⟨e0, e1, e2, e3⟩ := (HR.out.b2.go tt (by omega)).free
        obtain ⟨p0, p1, p2, p3, pl⟩ := (HR.out.b3.go tt (by omega)).cells
        have HO := Lib.hid (HR.out.out tt hp hgp hgl)
        clear hT hp tt
        go_wp2
        refine bodyPost_ret (v := .agg #[.string n1, .int .i64 (v3 : Int), .slice A1 a.length kp1, .slice A2 b.length kp2]) (by simp [results, Tryz.results37, go_sem, z0, z1, z2, z3]) rfl ?_
        rw [HST.out, ← HN1.out]
        exact ⟨_, _, rfl, HO.out _ _ _ _⟩
      | false =>
        rw [hi] at HI
        have HMD := Lib.hid (show τ.2 = 0 ∧ isS ts [125] τ = false from ⟨he, hi⟩)
        obtain ⟨N, hN⟩ : ∃ z, a.length = z := ⟨_, rfl⟩
        obtain ⟨M, hM⟩ : ∃ z, b.length = z := ⟨_, rfl⟩
        have hN8 : N ≤ 8 := by rw [← hN]; exact HR.out.la
        have hM8 : M ≤ 8 := by rw [← hM]; exact HR.out.lb.2 he
        rw [hN] at hc1
        rw [hM] at hd1
        have HN := Lib.hid hN
        have HM := Lib.hid hM
        clear hN hM
        go_wp2_with fail
        refine HI.out.mono ?_
        rintro x V4 ⟨rfl, hT4⟩
        have HP := Lib.hid (HR.out.rt.touch hT4)
        have HT := Lib.hid (Touch.anyB (F := AtB gp) hT4)
        clear hT4 HI
        cases hn : isS ts needB τ with
        | true =>
          obtain ⟨x0, x1, x2, x3, xl⟩ := (HR.out.b3.go HT.out (by omega)).cells
          rw [HN.out] at x2
          rw [HM.out] at x3
          by_cases h8 : 8 ≤ N
          · have hge : decide ((8 : Int) ≤ (N : Int)) = true := by simp; omega
            have HI := Lib.hid (t_is HP.out [110, 101, 101, 100] he)
            rw [show isS ts [110, 101, 101, 100] τ = true from hn] at HI
            go_wp2_with fail
            refine HI.out.mono ?_
            rintro x V5 ⟨rfl, hT⟩
            have HP := Lib.hid (HP.out.touch hT)
            have HT := Lib.hid (HT.out.same (Touch.anyB (F := AtB gp) hT))
            clear hT HI
            obtain ⟨y0, y1, y2, y3, yl⟩ := (HR.out.b3.go HT.out (by omega)).cells
            rw [HN.out] at y2
            rw [HM.out] at y3
            have HF := Lib.hid (t_fail HP.out 9)
            go_wp2_with fail
            refine HF.out.mono ?_
            rintro x V6 ⟨rfl, hp, hT⟩
            have hA := HR.out.next (HT.out.same hT) hp hgp hsq he (failS_bad (by decide) _) (by have := HR.out.md; rw [racR_many HMD.out (.inl ⟨hn, by rw [HN.out]; exact h8⟩)] at this; exact this)
            have HME := Lib.hid (meas2_lt HR.out.rt hp he (.inr ⟨failS_bad (by decide) _, Nat.le_refl _⟩))
            have HA := Lib.hid hA
            clear hA hp hT
            go_wp2
            go_roundw
            case rel => exact ⟨_, _, _, _, _, _, HA.out⟩
            case measure => exact HME.out
          · have hge : decide ((8 : Int) ≤ (N : Int)) = false := by simp; omega
            have HI := Lib.hid (t_is HP.out [110, 101, 101, 100] he)
            rw [show isS ts [110, 101, 101, 100] τ = true from hn] at HI
            go_wp2_with fail
            refine HI.out.mono ?_
            rintro x V5 ⟨rfl, hT⟩
            have HP := Lib.hid (HP.out.touch hT)
            have HT := Lib.hid (HT.out.same (Touch.anyB (F := AtB gp) hT))
            clear hT HI
            obtain ⟨y0, y1, y2, y3, yl⟩ := (HR.out.b3.go HT.out (by omega)).cells
            rw [HN.out] at y2
            rw [HM.out] at y3
            have hm : isS ts makeB τ = false := isS_other hn (by decide)
            have HI := Lib.hid (t_is HP.out [109, 97, 107, 101] he)
            rw [show isS ts [109, 97, 107, 101] τ = false from hm] at HI
            go_wp2_with fail
            refine HI.out.mono ?_
            rintro x V51 ⟨rfl, hT⟩
            have HP := Lib.hid (HP.out.touch hT)
            have HT := Lib.hid (HT.out.same (Touch.anyB (F := AtB gp) hT))
            clear hT HI
            have HC := Lib.hid (t_take HP.out [110, 101, 101, 100])
            rw [show isS ts [110, 101, 101, 100] τ = true from hn] at HC
            go_wp2_with fail
            refine HC.out.mono ?_
            rintro x V6 ⟨rfl, hp, hT⟩
            obtain ⟨tn, htn⟩ : ∃ z, acS ts needB τ = z := ⟨_, rfl⟩
            have ht1 : tn.1 = τ.1 + 1 := by rw [← htn, acS_yes hn]
            have hp : RT V6 gp g n cp ts L tn := by rw [← htn]; exact hp
            have HP := Lib.hid hp
            have HT := Lib.hid (HT.out.same hT)
            have hmd : racR ts f1 (a ++ [rcnV ts tn]) b (rcnS ts tn) = R0 := by have := HR.out.md; rw [racR_need HMD.out hn (by rw [HN.out]; omega), htn] at this; exact this
            obtain ⟨cv, hcv⟩ : ∃ z, rcnV ts tn = z := ⟨_, rfl⟩
            obtain ⟨cs, hcs⟩ : ∃ z, rcnS ts tn = z := ⟨_, rfl⟩
            have hge : tn.1 ≤ cs.1 := by rw [← hcs]; exact rcnS_ge ts tn
            have HCD := Lib.hid (fun (W : World) (q : RT W gp g n cp ts L tn) => rcond_any HNK.out q q.rs.tl.lt)
            rw [hcv, hcs] at HCD hmd
            obtain ⟨cnm, hcnm⟩ : ∃ z, bs cv.nm = z := ⟨_, rfl⟩
            rw [hcnm] at HCD
            have HCV := Lib.hid hcnm
            have HMD2 := Lib.hid hmd
            have HGE := Lib.hid (show τ.1 + 1 ≤ cs.1 by omega)
            have HE0 := Lib.hid he
            clear hp hT hcv hcs hcnm hmd htn ht1 hge HC x0 x1 x2 x3 xl y0 y1 y2 y3 yl c1 c2 hee hi hm he
            have HRN := Lib.hid (row_go HR.out.rn HT.out hgp)
            rw [HN.out] at HRN
            obtain ⟨i0, hi0, hz0, hz1, hz2⟩ := info_cond'
            unfold maxLen at hc2
            obtain ⟨q0, q1, q2, q3', ql⟩ := (HR.out.b3.go HT.out (by omega)).cells
            rw [HN.out] at q2
            obtain ⟨g0, g1, g2, g3⟩ := (HR.out.b3.go HT.out (by omega)).free
            go_wp2_with fail
            go_region_law? (first
              | (go_simp; go_at_call 38
                 refine (HCD.out _ (HP.out.touch (Touch.refl _ _).drew)).mono ?_
                 rintro r w3 ⟨rfl, hp, hT0⟩
                 have hT := (Touch.refl (AtB gp) V6).drew.same hT0
                 have HX3 := Lib.hid (And.intro hp (HT.out.same hT))
                 obtain ⟨j0, j1, j2, j3, jl⟩ := (HR.out.b3.go HX3.out.2 (by omega)).cells
                 rw [HN.out] at j2
                 obtain ⟨l0, l1, l2, l3⟩ := (HR.out.b3.go HX3.out.2 (by omega)).free
                 have HRN3 := Lib.hid (row_go HRN.out hT hgp)
                 clear hp hT0 hT)
              | (refine step_append_lies _ rfl (.tmp 83) (.tmp 86) 69 rfl w.heap.size 98 i0 (.agg #[.string ⟨#[]⟩, .int .i64 0, .int .i64 0]) 3 32 Tryz.underlying69 hi0 hz0 hz1 hz2 rfl (by decide) (.slice A1 N kp1) N (cnC a) (by simp [Act.eval]) (by exact (HRN3.out.alloc _)) ⟨w3.heap.size, 0, none⟩ 1 1 [.string cnm, .int .i64 (cv.op : Int), .int .i64 cv.n] (by simp [Act.eval]) rfl (by exact World.news_of_block (cs := #[.string cnm, .int .i64 (cv.op : Int), .int .i64 cv.n]) (alloc_blk w3 _ 98 rfl)) (by intro u hu; simp at hu; rcases hu with rfl | rfl | rfl <;> rfl) (by decide) (by unfold maxLen; omega) (by omega) (by have := HX3.out.2.size; simp only [World.size_alloc]; omega) (w3.heap.size + 1) (by simp) ?_
                 intro gd cap2 wx hown hgrow hat hlt
                 have TR : Touch (fun b => (Value.slice A1 N kp1).ownBlock = some b) w3 wx := ((Touch.refl _ w3).alloc _).grown hgrow (fun _ e => .inl e)
                 have hbx := (HR.out.b3.go HX3.out.2 (by omega)).goR TR (row_ne HRN3.out (HR.out.b3.go HX3.out.2 (by omega)) (by decide))
                 rw [HN.out] at hbx
                 obtain ⟨k0, k1, k2, k3, kl⟩ := hbx.cells
                 obtain ⟨m0, m1, m2, m3⟩ := hbx.free
                 have HX := Lib.hid (And.intro hown TR)
                 clear hown hgrow hat TR hbx))
            all_goals
              have hA : AM w gp g n cp L q3 ts R0 n1 (v3 : Int) f1 (a ++ [cv]) b cs (.slice (some ⟨gd, 0, none⟩) (N + 1) cap2) (.slice A2 b.length kp2) (wx.setCell ⟨q3, 2, none⟩ (.slice (some ⟨gd, 0, none⟩) (N + 1) cap2)) := by
                have hown := HX.out.1
                have TR := HX.out.2
                rw [← HCV.out] at hown
                rw [← HN.out] at hown TR ⊢
                exact HR.out.addN (v := cv) HX3.out.2 HX3.out.1 hgp hgl hsq HE0.out HGE.out (by rw [HN.out]; omega) TR hown HMD2.out
              have HA := Lib.hid hA
              clear hA
              have HME := Lib.hid (meas2_lt HR.out.rt HA.out.rt HE0.out (.inl HGE.out))
              go_wp2
              go_roundw
              case rel => exact ⟨_, _, _, _, _, _, HA.out⟩
              case measure => exact HME.out
        | false =>
          have HI := Lib.hid (t_is HP.out [110, 101, 101, 100] he)
          rw [show isS ts [110, 101, 101, 100] τ = false from hn] at HI
          go_wp2_with fail
          refine HI.out.mono ?_
          rintro x V5 ⟨rfl, hT⟩
          have HP := Lib.hid (HP.out.touch hT)
          have HT := Lib.hid (HT.out.same (Touch.anyB (F := AtB gp) hT))
          clear hT HI
          cases hm : isS ts makeB τ with
          | true =>
            have HI := Lib.hid (t_is HP.out [109, 97, 107, 101] he)
            rw [show isS ts [109, 97, 107, 101] τ = true from hm] at HI
            go_wp2_with fail
            refine HI.out.mono ?_
            rintro x V51 ⟨rfl, hT⟩
            have HP := Lib.hid (HP.out.touch hT)
            have HT := Lib.hid (HT.out.same (Touch.anyB (F := AtB gp) hT))
            clear hT HI
            obtain ⟨y0, y1, y2, y3, yl⟩ := (HR.out.b3.go HT.out (by omega)).cells
            rw [HN.out] at y2
            rw [HM.out] at y3
            by_cases h8 : 8 ≤ M
            · have hge : decide ((8 : Int) ≤ (M : Int)) = true := by simp; omega
              have HF := Lib.hid (t_fail HP.out 9)
              go_wp2_with fail
              refine HF.out.mono ?_
              rintro x V6 ⟨rfl, hp, hT⟩
              have hA := HR.out.next (HT.out.same hT) hp hgp hsq he (failS_bad (by decide) _) (by have := HR.out.md; rw [racR_many HMD.out (.inr ⟨hm, by rw [HM.out]; exact h8⟩)] at this; exact this)
              have HME := Lib.hid (meas2_lt HR.out.rt hp he (.inr ⟨failS_bad (by decide) _, Nat.le_refl _⟩))
              have HA := Lib.hid hA
              clear hA hp hT
              go_wp2
              go_roundw
              case rel => exact ⟨_, _, _, _, _, _, HA.out⟩
              case measure => exact HME.out
            · have hge : decide ((8 : Int) ≤ (M : Int)) = false := by simp; omega
              have hHG : τ.1 ≤ (rmkS ts (exS ts makeB τ)).1 ∧ (τ.1 + 1 ≤ (rmkS ts (exS ts makeB τ)).1 ∧ b.length < 8 ∨ (rmkS ts (exS ts makeB τ)).2 ≠ 0) := ⟨Nat.le_trans (exS_ge ts makeB τ) (rmkS_ge ts _), .inl ⟨by have := exS_yes' hm; have := rmkS_ge ts (exS ts makeB τ); omega, by rw [HM.out]; omega⟩⟩
              have hmd : racR ts f1 a (b ++ [rmkV ts (exS ts makeB τ)]) (rmkS ts (exS ts makeB τ)) = R0 := by have := HR.out.md; rw [racR_make HMD.out hn (fun _ => by rw [HM.out]; omega)] at this; exact this
              have HC := Lib.hid (t_no HP.out [110, 101, 101, 100] hn)
              go_wp2_with fail
              refine HC.out.mono ?_
              rintro x V6 ⟨rfl, hp, hT⟩
              have HP := Lib.hid hp
              have HT := Lib.hid (HT.out.same (Touch.anyB (F := AtB gp) hT))
              clear hp hT HC
              have HC := Lib.hid (t_want HP.out [109, 97, 107, 101])
              obtain ⟨s1, hs1⟩ : ∃ z, exS ts makeB τ = z := ⟨_, rfl⟩
              rw [show exS ts [109, 97, 107, 101] τ = s1 from hs1] at HC
              rw [hs1] at hHG hmd
              have HHG := Lib.hid hHG
              have HMD2 := Lib.hid hmd
              clear hHG hmd hs1
              go_wp2_with fail
              refine HC.out.mono ?_
              rintro x V7 ⟨rfl, hp, hT⟩
              have HP := Lib.hid hp
              have HT := Lib.hid (HT.out.same hT)
              clear hp hT HC
              have HC := Lib.hid (t_name HP.out)
              obtain ⟨nm, hnm⟩ : ∃ z, bs (naV ts s1) = z := ⟨_, rfl⟩
              obtain ⟨s2, hs2⟩ : ∃ z, naS ts s1 = z := ⟨_, rfl⟩
              have hVS : ∀ ad v s', ((isS ts [43] s2 = true ∧ ad = true ∧ v = (nuV ts (acS ts [43] s2) : Int) ∧ s' = nuS ts (acS ts [43] s2)) ∨ (isS ts [43] s2 = false ∧ isS ts [45] s2 = true ∧ ad = true ∧ v = -(nuV ts (acS ts [45] s2) : Int) ∧ s' = nuS ts (acS ts [45] s2)) ∨ (isS ts [43] s2 = false ∧ isS ts [45] s2 = false ∧ ad = false ∧ v = siV ts (exS ts [61] s2) ∧ s' = siS ts (exS ts [61] s2))) →
                  rmkV ts s1 = ⟨naV ts s1, ad, v⟩ ∧ rmkS ts s1 = exS ts [59] s' := by
                intro ad v s' hh
                unfold rmkV rmkS
                rw [hs2]
                rcases hh with ⟨h1, rfl, rfl, rfl⟩ | ⟨h1, h2, rfl, rfl, rfl⟩ | ⟨h1, h2, rfl, rfl, rfl⟩
                · simp [h1]
                · simp [h1, h2]
                · simp [h1, h2]
              have HVS := Lib.hid hVS
              rw [hnm, hs2] at HC
              have HNM := Lib.hid hnm
              clear hVS hnm hs2
              go_wp2_with fail
              refine HC.out.mono ?_
              rintro x V8 ⟨rfl, hp, hT⟩
              have HT8 := HT.out.same hT
              have hs8 := HT8.size
              obtain ⟨W1, hW1⟩ : ∃ W, V8.alloc (.cells #[.string nm, .bool false, .int .i64 0] 126) = W := ⟨_, rfl⟩
              have t1 : Touch NoB V8 W1 := by rw [← hW1]; exact (Touch.refl _ _).alloc _
              have HP := Lib.hid (hp.touch t1)
              have HT := Lib.hid (HT8.same (Touch.anyB (F := AtB gp) t1))
              obtain ⟨qm, hqm⟩ : ∃ z, V8.heap.size = z := ⟨_, rfl⟩
              have HBM := Lib.hid (show B3 W1 126 V8.heap.size (.string nm) (.bool false) (.int .i64 0) by rw [← hW1]; exact B3.new _ _ _ _ _ rfl)
              have hq8 : wr.heap.size ≤ V8.heap.size := hs8
              have HW1 := Lib.hid hW1
              clear hp hT t1 hs8 hW1 HC HT8 hqm
              cases hi3 : isS ts [43] s2 with
              | true =>
                have HC := Lib.hid (t_take HP.out [43])
                rw [hi3] at HC
                go_wp2_with fail
                rw [HW1.out]
                refine HC.out.mono ?_
                rintro x w3 ⟨rfl, hp, hT⟩
                have HP := Lib.hid hp
                have HT := Lib.hid (HT.out.same hT)
                have HBM := Lib.hid (HBM.out.go hT (by omega))
                clear hp hT HC
                obtain ⟨z0, z1, z2, zl⟩ := HBM.out.cells
                obtain ⟨e0, e1, e2⟩ := HBM.out.free
                obtain ⟨V, hV⟩ : ∃ V, w3.setCell ⟨V8.heap.size, 1, none⟩ (.bool true) = V := ⟨_, rfl⟩
                have tV : Touch (fun b => b = V8.heap.size) w3 V := by rw [← hV]; exact (Touch.refl (fun b => b = V8.heap.size) w3).setCell (p := ⟨V8.heap.size, 1, none⟩) (.inl rfl) _
                have HBM := Lib.hid (show B3 V 126 V8.heap.size (.string nm) (.bool true) (.int .i64 0) by rw [← hV]; exact HBM.out.set1 _)
                have HP := Lib.hid (HP.out.touchX tV (by omega) (by omega))
                have HT := Lib.hid (show Touch (AtB gp) wr V by rw [← hV]; exact HT.out.setCell (p := ⟨V8.heap.size, 1, none⟩) (.inr hq8) _)
                have HC := Lib.hid (t_number HP.out)
                clear tV
                go_wp2_with fail
                refine HC.out.mono ?_
                rintro x w5 ⟨rfl, hp, hT⟩
                obtain ⟨v, hv⟩ : ∃ v : Int, (nuV ts (acS ts [43] s2) : Int) = v := ⟨_, rfl⟩
                rw [hv]
                have hVV := HVS.out true v (nuS ts (acS ts [43] s2)) (.inl ⟨hi3, rfl, hv.symm, rfl⟩)
                have hbm := HBM.out.go hT (by omega)
                obtain ⟨z0, z1, z2, zl⟩ := hbm.cells
                obtain ⟨e0, e1, e2⟩ := hbm.free
                obtain ⟨Y, hY⟩ : ∃ V, w5.setCell ⟨V8.heap.size, 2, none⟩ (.int .i64 v) = V := ⟨_, rfl⟩
                have tY : Touch (fun b => b = V8.heap.size) w5 Y := by rw [← hY]; exact (Touch.refl (fun b => b = V8.heap.size) w5).setCell (p := ⟨V8.heap.size, 2, none⟩) (.inl rfl) _
                have HBM := Lib.hid (show B3 Y 126 V8.heap.size (.string nm) (.bool true) (.int .i64 v) by rw [← hY]; exact hbm.set2 _)
                have HT := Lib.hid (show Touch (AtB gp) wr Y by rw [← hY]; exact (HT.out.same hT).setCell (p := ⟨V8.heap.size, 2, none⟩) (.inr hq8) _)
                have HP := Lib.hid (hp.touchX tY (by omega) (by omega))
                have HC := Lib.hid (t_want HP.out [59])
                rw [← hVV.2] at HC
                have HVV := Lib.hid hVV.1
                clear hp hT tY hbm hVV hv
                go_wp2_with fail
                refine HC.out.mono ?_
                rintro x w6 ⟨rfl, hp, hT⟩
                have HT := Lib.hid (HT.out.same hT)
                have HBM := Lib.hid (HBM.out.go hT (by omega))
                obtain ⟨z0, z1, z2, zl⟩ := HBM.out.cells
                obtain ⟨p0, p1, p2, p3, pl⟩ := (HR.out.b3.go HT.out (by omega)).cells
                rw [HM.out] at p3
                have hrow := row_go HR.out.rm HT.out hgp
                rw [HM.out] at hrow
                obtain ⟨i0, hi0, hz0, hz1, hz2⟩ := info_make'
                have hs6 := HT.out.size
                obtain ⟨gd, cap2, w8, hrun, hown, TR, hat⟩ := own_app (S := 93) Tryz.underlying93 hi0 hz0 hz1 hz2 rfl (by decide) (by decide) hrow (by omega) [.string nm, .bool true, .int .i64 v] rfl one_make (by omega) rfl
                have HAP := Lib.hid hrun
                have hb38 := (HR.out.b3.go HT.out (by omega)).goR TR (row_ne hrow (HR.out.b3.go HT.out (by omega)) (by decide))
                rw [HM.out] at hb38
                obtain ⟨k0, k1, k2, k3, kl⟩ := hb38.cells
                obtain ⟨m0, m1, m2, m3⟩ := hb38.free
                have hA : AM w gp g n cp L q3 ts R0 n1 (v3 : Int) f1 a (b ++ [rmkV ts s1]) (rmkS ts s1) (.slice A1 a.length kp1) (.slice (some ⟨gd, 0, none⟩) (M + 1) cap2) (w8.setCell ⟨q3, 3, none⟩ (.slice (some ⟨gd, 0, none⟩) (M + 1) cap2)) := by
                  have e : bs (rmkV ts s1).nm = nm ∧ (rmkV ts s1).add = true ∧ (rmkV ts s1).n = v := by rw [HVV.out]; exact ⟨HNM.out, rfl, rfl⟩
                  have hown := hown
                  have TR := TR
                  rw [← e.1, ← e.2.1, ← e.2.2] at hown
                  rw [← HM.out] at hown TR ⊢
                  exact HR.out.addM (v := rmkV ts s1) HT.out hp hgp hgl hsq he HHG.out.2 TR hown HMD2.out
                have HA := Lib.hid hA
                clear hA
                have HME := Lib.hid (meas2_lt HR.out.rt HA.out.rt he (by rcases HHG.out.2 with h | h; exact .inl h.1; exact .inr ⟨h, HHG.out.1⟩))
                clear hp hT hrow hi0 hz0 hz1 hz2 hrun hown TR hat hb38 hs6 HC
                obtain ⟨v7, hv7⟩ : ∃ v7, Value.slice A2 M kp2 = v7 := ⟨_, rfl⟩
                rw [hv7] at HAP p3
                clear hv7
                go_wp2_with (at_builtin; refine Lib.wpList_append_run _ rfl _ _ _ _ rfl _ _ rfl rfl _ _ HAP.out ?_)
                go_roundw
                case rel => exact ⟨_, _, _, _, _, _, HA.out⟩
                case measure => exact HME.out
              | false =>
                have HC := Lib.hid (t_no HP.out [43] hi3)
                go_wp2_with fail
                rw [HW1.out]
                refine HC.out.mono ?_
                rintro x w2 ⟨rfl, hp, hT⟩
                have HP := Lib.hid hp
                have HT := Lib.hid (HT.out.same (Touch.anyB (F := AtB gp) hT))
                have HBM := Lib.hid (HBM.out.go (Touch.anyB (F := AtB gp) hT) (by omega))
                clear hp hT HC
                cases hj3 : isS ts [45] s2 with
                | true =>
                  have HC := Lib.hid (t_take HP.out [45])
                  rw [hj3] at HC
                  go_wp2_with fail
                  refine HC.out.mono ?_
                  rintro x w3 ⟨rfl, hp, hT⟩
                  have HP := Lib.hid hp
                  have HT := Lib.hid (HT.out.same hT)
                  have HBM := Lib.hid (HBM.out.go hT (by omega))
                  clear hp hT HC
                  obtain ⟨z0, z1, z2, zl⟩ := HBM.out.cells
                  obtain ⟨e0, e1, e2⟩ := HBM.out.free
                  obtain ⟨V, hV⟩ : ∃ V, w3.setCell ⟨V8.heap.size, 1, none⟩ (.bool true) = V := ⟨_, rfl⟩
                  have tV : Touch (fun b => b = V8.heap.size) w3 V := by rw [← hV]; exact (Touch.refl (fun b => b = V8.heap.size) w3).setCell (p := ⟨V8.heap.size, 1, none⟩) (.inl rfl) _
                  have HBM := Lib.hid (show B3 V 126 V8.heap.size (.string nm) (.bool true) (.int .i64 0) by rw [← hV]; exact HBM.out.set1 _)
                  have HP := Lib.hid (HP.out.touchX tV (by omega) (by omega))
                  have HT := Lib.hid (show Touch (AtB gp) wr V by rw [← hV]; exact HT.out.setCell (p := ⟨V8.heap.size, 1, none⟩) (.inr hq8) _)
                  have HC := Lib.hid (t_number HP.out)
                  clear tV
                  go_wp2_with fail
                  refine HC.out.mono ?_
                  rintro x w5 ⟨rfl, hp, hT⟩
                  have hmx : nuV ts (acS ts [45] s2) ≤ 9223372036854775807 := nuV_le' HNK.out _
                  obtain ⟨u, hu⟩ : ∃ u : Int, (nuV ts (acS ts [45] s2) : Int) = u := ⟨_, rfl⟩
                  obtain ⟨v, hv⟩ : ∃ v : Int, -u = v := ⟨_, rfl⟩
                  have hng : IntKind.i64.wrap (-u) = v := by rw [hv]; exact IntWalk.i64_in _ (by omega)
                  rw [hu]
                  have hVV := HVS.out true v (nuS ts (acS ts [45] s2)) (.inr (.inl ⟨hi3, hj3, rfl, (by rw [hu]; exact hv.symm), rfl⟩))
                  have hbm := HBM.out.go hT (by omega)
                  obtain ⟨z0, z1, z2, zl⟩ := hbm.cells
                  obtain ⟨e0, e1, e2⟩ := hbm.free
                  obtain ⟨Y, hY⟩ : ∃ V, w5.setCell ⟨V8.heap.size, 2, none⟩ (.int .i64 v) = V := ⟨_, rfl⟩
                  have tY : Touch (fun b => b = V8.heap.size) w5 Y := by rw [← hY]; exact (Touch.refl (fun b => b = V8.heap.size) w5).setCell (p := ⟨V8.heap.size, 2, none⟩) (.inl rfl) _
                  have HBM := Lib.hid (show B3 Y 126 V8.heap.size (.string nm) (.bool true) (.int .i64 v) by rw [← hY]; exact hbm.set2 _)
                  have HT := Lib.hid (show Touch (AtB gp) wr Y by rw [← hY]; exact (HT.out.same hT).setCell (p := ⟨V8.heap.size, 2, none⟩) (.inr hq8) _)
                  have HP := Lib.hid (hp.touchX tY (by omega) (by omega))
                  have HC := Lib.hid (t_want HP.out [59])
                  rw [← hVV.2] at HC
                  have HVV := Lib.hid hVV.1
                  clear hp hT tY hbm hVV hu hv hmx
                  go_wp2_with fail
                  refine HC.out.mono ?_
                  rintro x w6 ⟨rfl, hp, hT⟩
                  have HT := Lib.hid (HT.out.same hT)
                  have HBM := Lib.hid (HBM.out.go hT (by omega))
                  obtain ⟨z0, z1, z2, zl⟩ := HBM.out.cells
                  obtain ⟨p0, p1, p2, p3, pl⟩ := (HR.out.b3.go HT.out (by omega)).cells
                  rw [HM.out] at p3
                  have hrow := row_go HR.out.rm HT.out hgp
                  rw [HM.out] at hrow
                  obtain ⟨i0, hi0, hz0, hz1, hz2⟩ := info_make'
                  have hs6 := HT.out.size
                  obtain ⟨gd, cap2, w8, hrun, hown, TR, hat⟩ := own_app (S := 93) Tryz.underlying93 hi0 hz0 hz1 hz2 rfl (by decide) (by decide) hrow (by omega) [.string nm, .bool true, .int .i64 v] rfl one_make (by omega) rfl
                  have HAP := Lib.hid hrun
                  have hb38 := (HR.out.b3.go HT.out (by omega)).goR TR (row_ne hrow (HR.out.b3.go HT.out (by omega)) (by decide))
                  rw [HM.out] at hb38
                  obtain ⟨k0, k1, k2, k3, kl⟩ := hb38.cells
                  obtain ⟨m0, m1, m2, m3⟩ := hb38.free
                  have hA : AM w gp g n cp L q3 ts R0 n1 (v3 : Int) f1 a (b ++ [rmkV ts s1]) (rmkS ts s1) (.slice A1 a.length kp1) (.slice (some ⟨gd, 0, none⟩) (M + 1) cap2) (w8.setCell ⟨q3, 3, none⟩ (.slice (some ⟨gd, 0, none⟩) (M + 1) cap2)) := by
                    have e : bs (rmkV ts s1).nm = nm ∧ (rmkV ts s1).add = true ∧ (rmkV ts s1).n = v := by rw [HVV.out]; exact ⟨HNM.out, rfl, rfl⟩
                    have hown := hown
                    have TR := TR
                    rw [← e.1, ← e.2.1, ← e.2.2] at hown
                    rw [← HM.out] at hown TR ⊢
                    exact HR.out.addM (v := rmkV ts s1) HT.out hp hgp hgl hsq he HHG.out.2 TR hown HMD2.out
                  have HA := Lib.hid hA
                  clear hA
                  have HME := Lib.hid (meas2_lt HR.out.rt HA.out.rt he (by rcases HHG.out.2 with h | h; exact .inl h.1; exact .inr ⟨h, HHG.out.1⟩))
                  clear hp hT hrow hi0 hz0 hz1 hz2 hrun hown TR hat hb38 hs6 HC
                  obtain ⟨v7, hv7⟩ : ∃ v7, Value.slice A2 M kp2 = v7 := ⟨_, rfl⟩
                  rw [hv7] at HAP p3
                  clear hv7
                  go_wp2_with (at_builtin; refine Lib.wpList_append_run _ rfl _ _ _ _ rfl _ _ rfl rfl _ _ HAP.out ?_)
                  go_roundw
                  case rel => exact ⟨_, _, _, _, _, _, HA.out⟩
                  case measure => exact HME.out
                | false =>
                  have HC := Lib.hid (t_no HP.out [45] hj3)
                  go_wp2_with fail
                  refine HC.out.mono ?_
                  rintro x w4 ⟨rfl, hp, hT⟩
                  have HP := Lib.hid hp
                  have HT := Lib.hid (HT.out.same (Touch.anyB (F := AtB gp) hT))
                  have HBM := Lib.hid (HBM.out.go (Touch.anyB (F := AtB gp) hT) (by omega))
                  clear hp hT HC
                  have HC := Lib.hid (t_want HP.out [61])
                  go_wp2_with fail
                  refine HC.out.mono ?_
                  rintro x w3 ⟨rfl, hp, hT⟩
                  have HP := Lib.hid hp
                  have HT := Lib.hid (HT.out.same hT)
                  have HBM := Lib.hid (HBM.out.go hT (by omega))
                  clear hp hT HC
                  have HC := Lib.hid (t_signed HNK.out HP.out)
                  go_wp2_with fail
                  refine HC.out.mono ?_
                  rintro x w5 ⟨rfl, hp, hT⟩
                  obtain ⟨v, hv⟩ : ∃ v, siV ts (exS ts [61] s2) = v := ⟨_, rfl⟩
                  rw [hv]
                  have hVV := HVS.out false v (siS ts (exS ts [61] s2)) (.inr (.inr ⟨hi3, hj3, rfl, hv.symm, rfl⟩))
                  have hbm := HBM.out.go hT (by omega)
                  obtain ⟨z0, z1, z2, zl⟩ := hbm.cells
                  obtain ⟨e0, e1, e2⟩ := hbm.free
                  obtain ⟨Y, hY⟩ : ∃ V, w5.setCell ⟨V8.heap.size, 2, none⟩ (.int .i64 v) = V := ⟨_, rfl⟩
                  have tY : Touch (fun b => b = V8.heap.size) w5 Y := by rw [← hY]; exact (Touch.refl (fun b => b = V8.heap.size) w5).setCell (p := ⟨V8.heap.size, 2, none⟩) (.inl rfl) _
                  have HBM := Lib.hid (show B3 Y 126 V8.heap.size (.string nm) (.bool false) (.int .i64 v) by rw [← hY]; exact hbm.set2 _)
                  have HT := Lib.hid (show Touch (AtB gp) wr Y by rw [← hY]; exact (HT.out.same hT).setCell (p := ⟨V8.heap.size, 2, none⟩) (.inr hq8) _)
                  have HP := Lib.hid (hp.touchX tY (by omega) (by omega))
                  have HC := Lib.hid (t_want HP.out [59])
                  rw [← hVV.2] at HC
                  have HVV := Lib.hid hVV.1
                  clear hp hT tY hbm hVV hv
                  go_wp2_with fail
                  refine HC.out.mono ?_
                  rintro x w6 ⟨rfl, hp, hT⟩
                  have HT := Lib.hid (HT.out.same hT)
                  have HBM := Lib.hid (HBM.out.go hT (by omega))
                  obtain ⟨z0, z1, z2, zl⟩ := HBM.out.cells
                  obtain ⟨p0, p1, p2, p3, pl⟩ := (HR.out.b3.go HT.out (by omega)).cells
                  rw [HM.out] at p3
                  have hrow := row_go HR.out.rm HT.out hgp
                  rw [HM.out] at hrow
                  obtain ⟨i0, hi0, hz0, hz1, hz2⟩ := info_make'
                  have hs6 := HT.out.size
                  obtain ⟨gd, cap2, w8, hrun, hown, TR, hat⟩ := own_app (S := 93) Tryz.underlying93 hi0 hz0 hz1 hz2 rfl (by decide) (by decide) hrow (by omega) [.string nm, .bool false, .int .i64 v] rfl one_make (by omega) rfl
                  have HAP := Lib.hid hrun
                  have hb38 := (HR.out.b3.go HT.out (by omega)).goR TR (row_ne hrow (HR.out.b3.go HT.out (by omega)) (by decide))
                  rw [HM.out] at hb38
                  obtain ⟨k0, k1, k2, k3, kl⟩ := hb38.cells
                  obtain ⟨m0, m1, m2, m3⟩ := hb38.free
                  have hA : AM w gp g n cp L q3 ts R0 n1 (v3 : Int) f1 a (b ++ [rmkV ts s1]) (rmkS ts s1) (.slice A1 a.length kp1) (.slice (some ⟨gd, 0, none⟩) (M + 1) cap2) (w8.setCell ⟨q3, 3, none⟩ (.slice (some ⟨gd, 0, none⟩) (M + 1) cap2)) := by
                    have e : bs (rmkV ts s1).nm = nm ∧ (rmkV ts s1).add = false ∧ (rmkV ts s1).n = v := by rw [HVV.out]; exact ⟨HNM.out, rfl, rfl⟩
                    have hown := hown
                    have TR := TR
                    rw [← e.1, ← e.2.1, ← e.2.2] at hown
                    rw [← HM.out] at hown TR ⊢
                    exact HR.out.addM (v := rmkV ts s1) HT.out hp hgp hgl hsq he HHG.out.2 TR hown HMD2.out
                  have HA := Lib.hid hA
                  clear hA
                  have HME := Lib.hid (meas2_lt HR.out.rt HA.out.rt he (by rcases HHG.out.2 with h | h; exact .inl h.1; exact .inr ⟨h, HHG.out.1⟩))
                  clear hp hT hrow hi0 hz0 hz1 hz2 hrun hown TR hat hb38 hs6 HC
                  obtain ⟨v7, hv7⟩ : ∃ v7, Value.slice A2 M kp2 = v7 := ⟨_, rfl⟩
                  rw [hv7] at HAP p3
                  clear hv7
                  go_wp2_with (at_builtin; refine Lib.wpList_append_run _ rfl _ _ _ _ rfl _ _ rfl rfl _ _ HAP.out ?_)
                  go_roundw
                  case rel => exact ⟨_, _, _, _, _, _, HA.out⟩
                  case measure => exact HME.out
          | false =>
            have HI := Lib.hid (t_is HP.out [109, 97, 107, 101] he)
            rw [show isS ts [109, 97, 107, 101] τ = false from hm] at HI
            go_wp2_with fail
            refine HI.out.mono ?_
            rintro x V51 ⟨rfl, hT⟩
            have HP := Lib.hid (HP.out.touch hT)
            have HT := Lib.hid (HT.out.same (Touch.anyB (F := AtB gp) hT))
            clear hT HI
            have hHG : τ.1 ≤ (rmkS ts (exS ts makeB τ)).1 ∧ (τ.1 + 1 ≤ (rmkS ts (exS ts makeB τ)).1 ∧ b.length < 8 ∨ (rmkS ts (exS ts makeB τ)).2 ≠ 0) := ⟨Nat.le_trans (exS_ge ts makeB τ) (rmkS_ge ts _), .inr (rmkS_bad (exS_no hm))⟩
            have hmd : racR ts f1 a (b ++ [rmkV ts (exS ts makeB τ)]) (rmkS ts (exS ts makeB τ)) = R0 := by have := HR.out.md; rw [racR_make HMD.out hn (fun e => by rw [hm] at e; cases e)] at this; exact this
            have HC := Lib.hid (t_no HP.out [110, 101, 101, 100] hn)
            go_wp2_with fail
            refine HC.out.mono ?_
            rintro x V6 ⟨rfl, hp, hT⟩
            have HP := Lib.hid hp
            have HT := Lib.hid (HT.out.same (Touch.anyB (F := AtB gp) hT))
            clear hp hT HC
            have HC := Lib.hid (t_want HP.out [109, 97, 107, 101])
            obtain ⟨s1, hs1⟩ : ∃ z, exS ts makeB τ = z := ⟨_, rfl⟩
            rw [show exS ts [109, 97, 107, 101] τ = s1 from hs1] at HC
            rw [hs1] at hHG hmd
            have HHG := Lib.hid hHG
            have HMD2 := Lib.hid hmd
            clear hHG hmd hs1
            go_wp2_with fail
            refine HC.out.mono ?_
            rintro x V7 ⟨rfl, hp, hT⟩
            have HP := Lib.hid hp
            have HT := Lib.hid (HT.out.same hT)
            clear hp hT HC
            have HC := Lib.hid (t_name HP.out)
            obtain ⟨nm, hnm⟩ : ∃ z, bs (naV ts s1) = z := ⟨_, rfl⟩
            obtain ⟨s2, hs2⟩ : ∃ z, naS ts s1 = z := ⟨_, rfl⟩
            have hVS : ∀ ad v s', ((isS ts [43] s2 = true ∧ ad = true ∧ v = (nuV ts (acS ts [43] s2) : Int) ∧ s' = nuS ts (acS ts [43] s2)) ∨ (isS ts [43] s2 = false ∧ isS ts [45] s2 = true ∧ ad = true ∧ v = -(nuV ts (acS ts [45] s2) : Int) ∧ s' = nuS ts (acS ts [45] s2)) ∨ (isS ts [43] s2 = false ∧ isS ts [45] s2 = false ∧ ad = false ∧ v = siV ts (exS ts [61] s2) ∧ s' = siS ts (exS ts [61] s2))) →
                rmkV ts s1 = ⟨naV ts s1, ad, v⟩ ∧ rmkS ts s1 = exS ts [59] s' := by
              intro ad v s' hh
              unfold rmkV rmkS
              rw [hs2]
              rcases hh with ⟨h1, rfl, rfl, rfl⟩ | ⟨h1, h2, rfl, rfl, rfl⟩ | ⟨h1, h2, rfl, rfl, rfl⟩
              · simp [h1]
              · simp [h1, h2]
              · simp [h1, h2]
            have HVS := Lib.hid hVS
            rw [hnm, hs2] at HC
            have HNM := Lib.hid hnm
            clear hVS hnm hs2
            go_wp2_with fail
            refine HC.out.mono ?_
            rintro x V8 ⟨rfl, hp, hT⟩
            have HT8 := HT.out.same hT
            have hs8 := HT8.size
            obtain ⟨W1, hW1⟩ : ∃ W, V8.alloc (.cells #[.string nm, .bool false, .int .i64 0] 126) = W := ⟨_, rfl⟩
            have t1 : Touch NoB V8 W1 := by rw [← hW1]; exact (Touch.refl _ _).alloc _
            have HP := Lib.hid (hp.touch t1)
            have HT := Lib.hid (HT8.same (Touch.anyB (F := AtB gp) t1))
            obtain ⟨qm, hqm⟩ : ∃ z, V8.heap.size = z := ⟨_, rfl⟩
            have HBM := Lib.hid (show B3 W1 126 V8.heap.size (.string nm) (.bool false) (.int .i64 0) by rw [← hW1]; exact B3.new _ _ _ _ _ rfl)
            have hq8 : wr.heap.size ≤ V8.heap.size := hs8
            have HW1 := Lib.hid hW1
            clear hp hT t1 hs8 hW1 HC HT8 hqm
            cases hi3 : isS ts [43] s2 with
            | true =>
              have HC := Lib.hid (t_take HP.out [43])
              rw [hi3] at HC
              go_wp2_with fail
              rw [HW1.out]
              refine HC.out.mono ?_
              rintro x w3 ⟨rfl, hp, hT⟩
              have HP := Lib.hid hp
              have HT := Lib.hid (HT.out.same hT)
              have HBM := Lib.hid (HBM.out.go hT (by omega))
              clear hp hT HC
              obtain ⟨z0, z1, z2, zl⟩ := HBM.out.cells
              obtain ⟨e0, e1, e2⟩ := HBM.out.free
              obtain ⟨V, hV⟩ : ∃ V, w3.setCell ⟨V8.heap.size, 1, none⟩ (.bool true) = V := ⟨_, rfl⟩
              have tV : Touch (fun b => b = V8.heap.size) w3 V := by rw [← hV]; exact (Touch.refl (fun b => b = V8.heap.size) w3).setCell (p := ⟨V8.heap.size, 1, none⟩) (.inl rfl) _
              have HBM := Lib.hid (show B3 V 126 V8.heap.size (.string nm) (.bool true) (.int .i64 0) by rw [← hV]; exact HBM.out.set1 _)
              have HP := Lib.hid (HP.out.touchX tV (by omega) (by omega))
              have HT := Lib.hid (show Touch (AtB gp) wr V by rw [← hV]; exact HT.out.setCell (p := ⟨V8.heap.size, 1, none⟩) (.inr hq8) _)
              have HC := Lib.hid (t_number HP.out)
              clear tV
              go_wp2_with fail
              refine HC.out.mono ?_
              rintro x w5 ⟨rfl, hp, hT⟩
              obtain ⟨v, hv⟩ : ∃ v : Int, (nuV ts (acS ts [43] s2) : Int) = v := ⟨_, rfl⟩
              rw [hv]
              have hVV := HVS.out true v (nuS ts (acS ts [43] s2)) (.inl ⟨hi3, rfl, hv.symm, rfl⟩)
              have hbm := HBM.out.go hT (by omega)
              obtain ⟨z0, z1, z2, zl⟩ := hbm.cells
              obtain ⟨e0, e1, e2⟩ := hbm.free
              obtain ⟨Y, hY⟩ : ∃ V, w5.setCell ⟨V8.heap.size, 2, none⟩ (.int .i64 v) = V := ⟨_, rfl⟩
              have tY : Touch (fun b => b = V8.heap.size) w5 Y := by rw [← hY]; exact (Touch.refl (fun b => b = V8.heap.size) w5).setCell (p := ⟨V8.heap.size, 2, none⟩) (.inl rfl) _
              have HBM := Lib.hid (show B3 Y 126 V8.heap.size (.string nm) (.bool true) (.int .i64 v) by rw [← hY]; exact hbm.set2 _)
              have HT := Lib.hid (show Touch (AtB gp) wr Y by rw [← hY]; exact (HT.out.same hT).setCell (p := ⟨V8.heap.size, 2, none⟩) (.inr hq8) _)
              have HP := Lib.hid (hp.touchX tY (by omega) (by omega))
              have HC := Lib.hid (t_want HP.out [59])
              rw [← hVV.2] at HC
              have HVV := Lib.hid hVV.1
              clear hp hT tY hbm hVV hv
              go_wp2_with fail
              refine HC.out.mono ?_
              rintro x w6 ⟨rfl, hp, hT⟩
              have HT := Lib.hid (HT.out.same hT)
              have HBM := Lib.hid (HBM.out.go hT (by omega))
              obtain ⟨z0, z1, z2, zl⟩ := HBM.out.cells
              obtain ⟨p0, p1, p2, p3, pl⟩ := (HR.out.b3.go HT.out (by omega)).cells
              rw [HM.out] at p3
              have hrow := row_go HR.out.rm HT.out hgp
              rw [HM.out] at hrow
              obtain ⟨i0, hi0, hz0, hz1, hz2⟩ := info_make'
              have hs6 := HT.out.size
              obtain ⟨gd, cap2, w8, hrun, hown, TR, hat⟩ := own_app (S := 93) Tryz.underlying93 hi0 hz0 hz1 hz2 rfl (by decide) (by decide) hrow (by omega) [.string nm, .bool true, .int .i64 v] rfl one_make (by omega) rfl
              have HAP := Lib.hid hrun
              have hb38 := (HR.out.b3.go HT.out (by omega)).goR TR (row_ne hrow (HR.out.b3.go HT.out (by omega)) (by decide))
              rw [HM.out] at hb38
              obtain ⟨k0, k1, k2, k3, kl⟩ := hb38.cells
              obtain ⟨m0, m1, m2, m3⟩ := hb38.free
              have hA : AM w gp g n cp L q3 ts R0 n1 (v3 : Int) f1 a (b ++ [rmkV ts s1]) (rmkS ts s1) (.slice A1 a.length kp1) (.slice (some ⟨gd, 0, none⟩) (M + 1) cap2) (w8.setCell ⟨q3, 3, none⟩ (.slice (some ⟨gd, 0, none⟩) (M + 1) cap2)) := by
                have e : bs (rmkV ts s1).nm = nm ∧ (rmkV ts s1).add = true ∧ (rmkV ts s1).n = v := by rw [HVV.out]; exact ⟨HNM.out, rfl, rfl⟩
                have hown := hown
                have TR := TR
                rw [← e.1, ← e.2.1, ← e.2.2] at hown
                rw [← HM.out] at hown TR ⊢
                exact HR.out.addM (v := rmkV ts s1) HT.out hp hgp hgl hsq he HHG.out.2 TR hown HMD2.out
              have HA := Lib.hid hA
              clear hA
              have HME := Lib.hid (meas2_lt HR.out.rt HA.out.rt he (by rcases HHG.out.2 with h | h; exact .inl h.1; exact .inr ⟨h, HHG.out.1⟩))
              clear hp hT hrow hi0 hz0 hz1 hz2 hrun hown TR hat hb38 hs6 HC
              obtain ⟨v7, hv7⟩ : ∃ v7, Value.slice A2 M kp2 = v7 := ⟨_, rfl⟩
              rw [hv7] at HAP p3
              clear hv7
              go_wp2_with (at_builtin; refine Lib.wpList_append_run _ rfl _ _ _ _ rfl _ _ rfl rfl _ _ HAP.out ?_)
              go_roundw
              case rel => exact ⟨_, _, _, _, _, _, HA.out⟩
              case measure => exact HME.out
            | false =>
              have HC := Lib.hid (t_no HP.out [43] hi3)
              go_wp2_with fail
              rw [HW1.out]
              refine HC.out.mono ?_
              rintro x w2 ⟨rfl, hp, hT⟩
              have HP := Lib.hid hp
              have HT := Lib.hid (HT.out.same (Touch.anyB (F := AtB gp) hT))
              have HBM := Lib.hid (HBM.out.go (Touch.anyB (F := AtB gp) hT) (by omega))
              clear hp hT HC
              cases hj3 : isS ts [45] s2 with
              | true =>
                have HC := Lib.hid (t_take HP.out [45])
                rw [hj3] at HC
                go_wp2_with fail
                refine HC.out.mono ?_
                rintro x w3 ⟨rfl, hp, hT⟩
                have HP := Lib.hid hp
                have HT := Lib.hid (HT.out.same hT)
                have HBM := Lib.hid (HBM.out.go hT (by omega))
                clear hp hT HC
                obtain ⟨z0, z1, z2, zl⟩ := HBM.out.cells
                obtain ⟨e0, e1, e2⟩ := HBM.out.free
                obtain ⟨V, hV⟩ : ∃ V, w3.setCell ⟨V8.heap.size, 1, none⟩ (.bool true) = V := ⟨_, rfl⟩
                have tV : Touch (fun b => b = V8.heap.size) w3 V := by rw [← hV]; exact (Touch.refl (fun b => b = V8.heap.size) w3).setCell (p := ⟨V8.heap.size, 1, none⟩) (.inl rfl) _
                have HBM := Lib.hid (show B3 V 126 V8.heap.size (.string nm) (.bool true) (.int .i64 0) by rw [← hV]; exact HBM.out.set1 _)
                have HP := Lib.hid (HP.out.touchX tV (by omega) (by omega))
                have HT := Lib.hid (show Touch (AtB gp) wr V by rw [← hV]; exact HT.out.setCell (p := ⟨V8.heap.size, 1, none⟩) (.inr hq8) _)
                have HC := Lib.hid (t_number HP.out)
                clear tV
                go_wp2_with fail
                refine HC.out.mono ?_
                rintro x w5 ⟨rfl, hp, hT⟩
                have hmx : nuV ts (acS ts [45] s2) ≤ 9223372036854775807 := nuV_le' HNK.out _
                obtain ⟨u, hu⟩ : ∃ u : Int, (nuV ts (acS ts [45] s2) : Int) = u := ⟨_, rfl⟩
                obtain ⟨v, hv⟩ : ∃ v : Int, -u = v := ⟨_, rfl⟩
                have hng : IntKind.i64.wrap (-u) = v := by rw [hv]; exact IntWalk.i64_in _ (by omega)
                rw [hu]
                have hVV := HVS.out true v (nuS ts (acS ts [45] s2)) (.inr (.inl ⟨hi3, hj3, rfl, (by rw [hu]; exact hv.symm), rfl⟩))
                have hbm := HBM.out.go hT (by omega)
                obtain ⟨z0, z1, z2, zl⟩ := hbm.cells
                obtain ⟨e0, e1, e2⟩ := hbm.free
                obtain ⟨Y, hY⟩ : ∃ V, w5.setCell ⟨V8.heap.size, 2, none⟩ (.int .i64 v) = V := ⟨_, rfl⟩
                have tY : Touch (fun b => b = V8.heap.size) w5 Y := by rw [← hY]; exact (Touch.refl (fun b => b = V8.heap.size) w5).setCell (p := ⟨V8.heap.size, 2, none⟩) (.inl rfl) _
                have HBM := Lib.hid (show B3 Y 126 V8.heap.size (.string nm) (.bool true) (.int .i64 v) by rw [← hY]; exact hbm.set2 _)
                have HT := Lib.hid (show Touch (AtB gp) wr Y by rw [← hY]; exact (HT.out.same hT).setCell (p := ⟨V8.heap.size, 2, none⟩) (.inr hq8) _)
                have HP := Lib.hid (hp.touchX tY (by omega) (by omega))
                have HC := Lib.hid (t_want HP.out [59])
                rw [← hVV.2] at HC
                have HVV := Lib.hid hVV.1
                clear hp hT tY hbm hVV hu hv hmx
                go_wp2_with fail
                refine HC.out.mono ?_
                rintro x w6 ⟨rfl, hp, hT⟩
                have HT := Lib.hid (HT.out.same hT)
                have HBM := Lib.hid (HBM.out.go hT (by omega))
                obtain ⟨z0, z1, z2, zl⟩ := HBM.out.cells
                obtain ⟨p0, p1, p2, p3, pl⟩ := (HR.out.b3.go HT.out (by omega)).cells
                rw [HM.out] at p3
                have hrow := row_go HR.out.rm HT.out hgp
                rw [HM.out] at hrow
                obtain ⟨i0, hi0, hz0, hz1, hz2⟩ := info_make'
                have hs6 := HT.out.size
                obtain ⟨gd, cap2, w8, hrun, hown, TR, hat⟩ := own_app (S := 93) Tryz.underlying93 hi0 hz0 hz1 hz2 rfl (by decide) (by decide) hrow (by omega) [.string nm, .bool true, .int .i64 v] rfl one_make (by omega) rfl
                have HAP := Lib.hid hrun
                have hb38 := (HR.out.b3.go HT.out (by omega)).goR TR (row_ne hrow (HR.out.b3.go HT.out (by omega)) (by decide))
                rw [HM.out] at hb38
                obtain ⟨k0, k1, k2, k3, kl⟩ := hb38.cells
                obtain ⟨m0, m1, m2, m3⟩ := hb38.free
                have hA : AM w gp g n cp L q3 ts R0 n1 (v3 : Int) f1 a (b ++ [rmkV ts s1]) (rmkS ts s1) (.slice A1 a.length kp1) (.slice (some ⟨gd, 0, none⟩) (M + 1) cap2) (w8.setCell ⟨q3, 3, none⟩ (.slice (some ⟨gd, 0, none⟩) (M + 1) cap2)) := by
                  have e : bs (rmkV ts s1).nm = nm ∧ (rmkV ts s1).add = true ∧ (rmkV ts s1).n = v := by rw [HVV.out]; exact ⟨HNM.out, rfl, rfl⟩
                  have hown := hown
                  have TR := TR
                  rw [← e.1, ← e.2.1, ← e.2.2] at hown
                  rw [← HM.out] at hown TR ⊢
                  exact HR.out.addM (v := rmkV ts s1) HT.out hp hgp hgl hsq he HHG.out.2 TR hown HMD2.out
                have HA := Lib.hid hA
                clear hA
                have HME := Lib.hid (meas2_lt HR.out.rt HA.out.rt he (by rcases HHG.out.2 with h | h; exact .inl h.1; exact .inr ⟨h, HHG.out.1⟩))
                clear hp hT hrow hi0 hz0 hz1 hz2 hrun hown TR hat hb38 hs6 HC
                obtain ⟨v7, hv7⟩ : ∃ v7, Value.slice A2 M kp2 = v7 := ⟨_, rfl⟩
                rw [hv7] at HAP p3
                clear hv7
                go_wp2_with (at_builtin; refine Lib.wpList_append_run _ rfl _ _ _ _ rfl _ _ rfl rfl _ _ HAP.out ?_)
                go_roundw
                case rel => exact ⟨_, _, _, _, _, _, HA.out⟩
                case measure => exact HME.out
              | false =>
                have HC := Lib.hid (t_no HP.out [45] hj3)
                go_wp2_with fail
                refine HC.out.mono ?_
                rintro x w4 ⟨rfl, hp, hT⟩
                have HP := Lib.hid hp
                have HT := Lib.hid (HT.out.same (Touch.anyB (F := AtB gp) hT))
                have HBM := Lib.hid (HBM.out.go (Touch.anyB (F := AtB gp) hT) (by omega))
                clear hp hT HC
                have HC := Lib.hid (t_want HP.out [61])
                go_wp2_with fail
                refine HC.out.mono ?_
                rintro x w3 ⟨rfl, hp, hT⟩
                have HP := Lib.hid hp
                have HT := Lib.hid (HT.out.same hT)
                have HBM := Lib.hid (HBM.out.go hT (by omega))
                clear hp hT HC
                have HC := Lib.hid (t_signed HNK.out HP.out)
                go_wp2_with fail
                refine HC.out.mono ?_
                rintro x w5 ⟨rfl, hp, hT⟩
                obtain ⟨v, hv⟩ : ∃ v, siV ts (exS ts [61] s2) = v := ⟨_, rfl⟩
                rw [hv]
                have hVV := HVS.out false v (siS ts (exS ts [61] s2)) (.inr (.inr ⟨hi3, hj3, rfl, hv.symm, rfl⟩))
                have hbm := HBM.out.go hT (by omega)
                obtain ⟨z0, z1, z2, zl⟩ := hbm.cells
                obtain ⟨e0, e1, e2⟩ := hbm.free
                obtain ⟨Y, hY⟩ : ∃ V, w5.setCell ⟨V8.heap.size, 2, none⟩ (.int .i64 v) = V := ⟨_, rfl⟩
                have tY : Touch (fun b => b = V8.heap.size) w5 Y := by rw [← hY]; exact (Touch.refl (fun b => b = V8.heap.size) w5).setCell (p := ⟨V8.heap.size, 2, none⟩) (.inl rfl) _
                have HBM := Lib.hid (show B3 Y 126 V8.heap.size (.string nm) (.bool false) (.int .i64 v) by rw [← hY]; exact hbm.set2 _)
                have HT := Lib.hid (show Touch (AtB gp) wr Y by rw [← hY]; exact (HT.out.same hT).setCell (p := ⟨V8.heap.size, 2, none⟩) (.inr hq8) _)
                have HP := Lib.hid (hp.touchX tY (by omega) (by omega))
                have HC := Lib.hid (t_want HP.out [59])
                rw [← hVV.2] at HC
                have HVV := Lib.hid hVV.1
                clear hp hT tY hbm hVV hv
                go_wp2_with fail
                refine HC.out.mono ?_
                rintro x w6 ⟨rfl, hp, hT⟩
                have HT := Lib.hid (HT.out.same hT)
                have HBM := Lib.hid (HBM.out.go hT (by omega))
                obtain ⟨z0, z1, z2, zl⟩ := HBM.out.cells
                obtain ⟨p0, p1, p2, p3, pl⟩ := (HR.out.b3.go HT.out (by omega)).cells
                rw [HM.out] at p3
                have hrow := row_go HR.out.rm HT.out hgp
                rw [HM.out] at hrow
                obtain ⟨i0, hi0, hz0, hz1, hz2⟩ := info_make'
                have hs6 := HT.out.size
                obtain ⟨gd, cap2, w8, hrun, hown, TR, hat⟩ := own_app (S := 93) Tryz.underlying93 hi0 hz0 hz1 hz2 rfl (by decide) (by decide) hrow (by omega) [.string nm, .bool false, .int .i64 v] rfl one_make (by omega) rfl
                have HAP := Lib.hid hrun
                have hb38 := (HR.out.b3.go HT.out (by omega)).goR TR (row_ne hrow (HR.out.b3.go HT.out (by omega)) (by decide))
                rw [HM.out] at hb38
                obtain ⟨k0, k1, k2, k3, kl⟩ := hb38.cells
                obtain ⟨m0, m1, m2, m3⟩ := hb38.free
                have hA : AM w gp g n cp L q3 ts R0 n1 (v3 : Int) f1 a (b ++ [rmkV ts s1]) (rmkS ts s1) (.slice A1 a.length kp1) (.slice (some ⟨gd, 0, none⟩) (M + 1) cap2) (w8.setCell ⟨q3, 3, none⟩ (.slice (some ⟨gd, 0, none⟩) (M + 1) cap2)) := by
                  have e : bs (rmkV ts s1).nm = nm ∧ (rmkV ts s1).add = false ∧ (rmkV ts s1).n = v := by rw [HVV.out]; exact ⟨HNM.out, rfl, rfl⟩
                  have hown := hown
                  have TR := TR
                  rw [← e.1, ← e.2.1, ← e.2.2] at hown
                  rw [← HM.out] at hown TR ⊢
                  exact HR.out.addM (v := rmkV ts s1) HT.out hp hgp hgl hsq he HHG.out.2 TR hown HMD2.out
                have HA := Lib.hid hA
                clear hA
                have HME := Lib.hid (meas2_lt HR.out.rt HA.out.rt he (by rcases HHG.out.2 with h | h; exact .inl h.1; exact .inr ⟨h, HHG.out.1⟩))
                clear hp hT hrow hi0 hz0 hz1 hz2 hrun hown TR hat hb38 hs6 HC
                obtain ⟨v7, hv7⟩ : ∃ v7, Value.slice A2 M kp2 = v7 := ⟨_, rfl⟩
                rw [hv7] at HAP p3
                clear hv7
                go_wp2_with (at_builtin; refine Lib.wpList_append_run _ rfl _ _ _ _ rfl _ _ rfl rfl _ _ HAP.out ?_)
                go_roundw
                case rel => exact ⟨_, _, _, _, _, _, HA.out⟩
                case measure => exact HME.out
    · have hee : ((τ.2 : Int) == 0) = false := by simp; omega
      have HST := Lib.hid (show R0 = ((a, b), τ) from HR.out.md.symm.trans (racR_stop (fun h => he h.1)))
      have HX := Lib.hid (t_want HR.out.rt [125])
      go_wp2_with fail
      refine HX.out.mono ?_
      rintro x V5 ⟨rfl, hp, hT⟩
      have tt : Touch (AtB gp) wr V5 := hT
      obtain ⟨z0, z1, z2, z3, zl⟩ := (HR.out.b2.go tt (by omega)).cells
      obtain ⟨e0, e1, e2, e3⟩ := (HR.out.b2.go tt (by omega)).free
      obtain ⟨p0, p1, p2, p3, pl⟩ := (HR.out.b3.go tt (by omega)).cells
      have HO := Lib.hid (HR.out.out tt hp hgp hgl)
      clear hT hp tt
      go_wp2
      refine bodyPost_ret (v := .agg #[.string n1, .int .i64 (v3 : Int), .slice A1 a.length kp1, .slice A2 b.length kp2]) (by simp [results, Tryz.results37, go_sem, z0, z1, z2, z3]) rfl ?_
      rw [HST.out, ← HN1.out]
      exact ⟨_, _, rfl, HO.out _ _ _ _⟩
end Go.Proofs.YtnphaaahdlkmhaaGreat
end
/-
  A domain's loop in the document's own reader, round by round. Conditions: those that each theorem names.
-/
section
namespace Go.Proofs.YtnphaaahdlkmhaaGreat
open Go.ChangeShapes Go.WideShapes Go.ChangeAt Go.RowKit
set_option maxRecDepth 100000
set_option maxHeartbeats 4000000

theorem racR_ge (ts : List Tk) : ∀ (f : Nat) (a : List Cn) (b : List Mk) (σ : St), σ.1 ≤ (racR ts f a b σ).2.1
  | 0, _, _, _ => Nat.le_refl _
  | f + 1, a, b, σ => by
    unfold racR
    split
    · split
      · exact racR_ge ts f a b (failS 9 σ)
      · split
        · exact Nat.le_trans (acS_ge ts _ _) (Nat.le_trans (rcnS_ge ts _) (racR_ge ts f _ _ _))
        · exact Nat.le_trans (exS_ge ts _ _) (Nat.le_trans (rmkS_ge ts _) (racR_ge ts f _ _ _))
    · exact Nat.le_refl _
theorem racS_ge (ts : List Tk) (σ : St) : σ.1 ≤ (racS ts σ).1 := by
  unfold racS
  refine Nat.le_trans ?_ (Nat.le_trans (racR_ge ts _ _ _ _) (exS_ge ts _ _))
  unfold actH
  exact Nat.le_trans (naS_ge ts σ) (Nat.le_trans (exS_ge ts _ _) (Nat.le_trans (nuS_ge ts _) (exS_ge ts _ _)))
theorem rcnS_bad {ts : List Tk} {σ : St} (h : σ.2 ≠ 0) : (rcnS ts σ).2 ≠ 0 := by
  unfold rcnS
  simp only
  refine exS_keep ?_
  have h1 := naS_bad (ts := ts) h
  unfold siS
  refine nuS_bad ?_
  rw [acS_keep]
  split
  · rw [acS_keep]; exact h1
  · split
    · rw [acS_keep]; exact h1
    · exact exS_keep h1
section
variable {ts : List Tk} {f : Nat} {a : List Va} {b : List Ac} {c : List Cn} {σ : St}
theorem rdoR_stop (h : ¬ (σ.2 = 0 ∧ isS ts [125] σ = false)) : rdoR ts f a b c σ = ((a, b, c), σ) := by
  cases f with
  | zero => rfl
  | succ f => rw [rdoR, if_neg h]
theorem rdoR_many (h : σ.2 = 0 ∧ isS ts [125] σ = false) (hm : (isS ts varB σ = true ∧ 8 ≤ a.length) ∨ (isS ts actB σ = true ∧ 20 ≤ b.length) ∨ (isS ts goalB σ = true ∧ 8 ≤ c.length)) : rdoR ts (f + 1) a b c σ = rdoR ts f a b c (failS 9 σ) := by
  rw [rdoR, if_pos h, if_pos hm]
theorem rdoR_var (h : σ.2 = 0 ∧ isS ts [125] σ = false) (hn : isS ts varB σ = true) (ha : a.length < 8) : rdoR ts (f + 1) a b c σ = rdoR ts f (a ++ [varV ts (acS ts varB σ)]) b c (varS ts (acS ts varB σ)) := by
  have h1 : isS ts actB σ = false := isS_other hn (by decide)
  have h2 : isS ts goalB σ = false := isS_other hn (by decide)
  rw [rdoR, if_pos h, if_neg (by rw [h1, h2]; intro h; rcases h with h | h | h; omega; cases h.1; cases h.1), if_pos hn]
theorem rdoR_act (h : σ.2 = 0 ∧ isS ts [125] σ = false) (hn : isS ts actB σ = true) (hb : b.length < 20) : rdoR ts (f + 1) a b c σ = rdoR ts f a (b ++ [racV ts (acS ts actB σ)]) c (racS ts (acS ts actB σ)) := by
  have h1 : isS ts varB σ = false := isS_other hn (by decide)
  have h2 : isS ts goalB σ = false := isS_other hn (by decide)
  rw [rdoR, if_pos h, if_neg (by rw [h1, h2]; intro h; rcases h with h | h | h; cases h.1; omega; cases h.1), if_neg (by rw [h1]; decide), if_pos hn]
theorem rdoR_goal (h : σ.2 = 0 ∧ isS ts [125] σ = false) (hn : isS ts varB σ = false) (hm : isS ts actB σ = false) (hc : isS ts goalB σ = true → c.length < 8) : rdoR ts (f + 1) a b c σ = rdoR ts f a b (c ++ [rcnV ts (exS ts goalB σ)]) (rcnS ts (exS ts goalB σ)) := by
  rw [rdoR, if_pos h, if_neg (by rw [hn, hm]; intro h; rcases h with h | h | h; cases h.1; cases h.1; have := hc h.1; omega), if_neg (by rw [hn]; decide), if_neg (by rw [hm]; decide)]
end
structure DQ (ts : List Tk) (R0 : (List Va × List Ac × List Cn) × St) (n f : Nat) (a : List Va) (b : List Ac) (c : List Cn) (σ : St) : Prop where
  md : rdoR ts f a b c σ = R0
  fu : Fu f n σ
  la : a.length ≤ 8
  lb : b.length ≤ 20
  lc : c.length ≤ 9 ∧ (σ.2 = 0 → c.length ≤ 8)
/-- What a domain's reader leaves. -/
def RDoP (w : World) (gp g n cp L : Nat) (ts : List Tk) (v : Dm) (st : St) (x : Ending) (w' : World) : Prop := ∃ l, x = .returned (.agg l.toArray) ∧ DmAt w' (fun k => w.heap.size ≤ k) v l ∧ RT w' gp g n cp ts L st ∧ Touch (AtB gp) w w'
theorem rdom_out {w V : World} {gp g n cp L q3 : Nat} {Q : Nat → Prop} {ts : List Tk} {nm : Bs} {a : List Va} {b : List Ac} {c : List Cn} {vv va vg : Value} {xs : List Value} {st : St} (h : DM w V gp q3 Q (bs nm) a b c vv va vg xs) (hp : RT V gp g n cp ts L st) (hgp : gp < w.heap.size) (hgl : g < w.heap.size) :
    ∀ (x0 x1 x2 x3 : Value), let W := (((V.setCell ⟨w.heap.size, 0, none⟩ x0).setCell ⟨w.heap.size, 1, none⟩ x1).setCell ⟨w.heap.size, 2, none⟩ x2).setCell ⟨w.heap.size, 3, none⟩ x3
      DmAt W (fun k => w.heap.size ≤ k) ⟨nm, a, b, c⟩ [.string (bs nm), vv, va, vg] ∧ RT W gp g n cp ts L st ∧ Touch (AtB gp) w W := by
  intro x0 x1 x2 x3
  have n1 := row_ne h.rv h.b2 (by decide)
  have n2 := row_ne h.ra h.b2 (by decide)
  have n3 := row_ne h.rg h.b2 (by decide)
  have tX := touch4 (F := fun k => k = w.heap.size) (Touch.refl _ V) (.inl rfl) x0 x1 x2 x3
  have r1 := row_aside (row_aside (row_aside (row_aside (i := 0) (x := x0) h.rv n1) n1 (i := 1) (x := x1)) n1 (i := 2) (x := x2)) n1 (i := 3) (x := x3)
  have r2 := row_aside (row_aside (row_aside (row_aside (i := 0) (x := x0) h.ra n2) n2 (i := 1) (x := x1)) n2 (i := 2) (x := x2)) n2 (i := 3) (x := x3)
  have r3 := row_aside (row_aside (row_aside (row_aside (i := 0) (x := x0) h.rg n3) n3 (i := 1) (x := x1)) n3 (i := 2) (x := x2)) n3 (i := 3) (x := x3)
  exact ⟨⟨_, _, _, xs, rfl, slat_of r1, slat_of r2, h.ls.mono (fun x ys hx => (hx.touch tX (fun k hk => by have := (h.hQ k hk).1; omega)).via (fun k hk _ => Nat.le_of_lt (h.hQ k hk).1)), slat_of r3⟩, hp.touchX tX hgp hgl, touch4 h.t (.inr (Nat.le_refl _)) x0 x1 x2 x3⟩
/-- What lies elsewhere than the domain's rows goes on: a block of one's own is made and filled. -/
theorem DM.aside {w wr V : World} {gp q3 : Nat} {Q : Nat → Prop} {nm : ByteArray} {a : List Va} {b : List Ac} {c : List Cn} {vv va vg : Value} {xs : List Value} (h : DM w wr gp q3 Q nm a b c vv va vg xs) (t : Touch (AtB gp) wr V) (hgp : gp < w.heap.size) (hsq : w.heap.size < q3) : DM w V gp q3 Q nm a b c vv va vg xs := h.go t hgp hsq
theorem DM.addV' {w w3 wx : World} {gp q3 gd cap : Nat} {Q : Nat → Prop} {nm : ByteArray} {a : List Va} {b : List Ac} {c : List Cn} {vv va vg : Value} {xs : List Value} {v : Va} (h : DM w w3 gp q3 Q nm a b c vv va vg xs) (hsq : w.heap.size < q3) (TR : Touch (fun b => vv.ownBlock = some b) w3 wx)
    (hown : wx.ownsRow w.heap.size 92 3 (.slice (some ⟨gd, 0, none⟩) (a.length + 1) cap) (a.length + 1) (vaC a ++ [.string (bs v.nm), .int .i64 v.lo, .int .i64 v.hi])) (hat : vv.ownBlock = some gd ∨ w3.heap.size ≤ gd) :
    DM w (wx.setCell ⟨q3, 1, none⟩ (.slice (some ⟨gd, 0, none⟩) (a.length + 1) cap)) gp q3 Q nm (a ++ [v]) b c (.slice (some ⟨gd, 0, none⟩) (a.length + 1) cap) va vg xs := by
  have hb2 := h.b2.goR TR (row_ne h.rv h.b2 (by decide))
  have hb3 := h.b3.goR TR (row_ne h.rv h.b3 (by decide))
  have ra := row_touch h.ra TR (fun k hk f => row_row_ne h.rv h.ra (by decide) f hk)
  have rg := row_touch h.rg TR (fun k hk f => row_row_ne h.rv h.rg (by decide) f hk)
  have tS := (Touch.refl (fun b => b = q3) wx).setCell (p := ⟨q3, 1, none⟩) (.inl rfl) (.slice (some ⟨gd, 0, none⟩) (a.length + 1) cap)
  refine ⟨(h.t.trans TR (fun k hk => .inr (row_base h.rv k hk))).setCell (p := ⟨q3, 1, none⟩) (.inr (by simp only; omega)) _, hb2.aside (by omega), hb3.set1 _, ?_, row_aside ra (row_ne ra hb3 (by decide)), ?_, row_aside rg (row_ne rg hb3 (by decide)), fun k hk => ?_⟩
  · rw [List.length_append, vaC_snoc]
    exact row_aside hown (row_ne hown hb3 (by decide))
  · exact h.ls.mono (fun x ys hx => (hx.touch TR (fun k hk => (h.hQ k hk).2.2.2.1)).touch tS (fun k hk => (h.hQ k hk).2.2.1))
  · obtain ⟨q1, q2, q3', q4, q5, q6⟩ := h.hQ k hk
    refine ⟨q1, Nat.lt_of_lt_of_le q2 (Nat.le_trans TR.size tS.size), q3', fun e => ?_, q5, q6⟩
    have e1 : gd = k := by simpa [Value.ownBlock] using e
    subst e1
    rcases hat with e | e
    · exact q4 e
    · omega
end Go.Proofs.YtnphaaahdlkmhaaGreat
end
/-
  What the document's own domain does with a reader in memory. Conditions: numbers among the tokens are such.
-/
section
namespace Go.Proofs.YtnphaaahdlkmhaaGreat
open Go.ChangeShapes Go.WideShapes Go.ChangeAt Go.RowKit
set_option maxRecDepth 100000
set_option maxHeartbeats 8000000

theorem one_var {nm : ByteArray} {u v : Int} : ∀ x ∈ [Value.string nm, .int .i64 u, .int .i64 v], x.oneCell' = true := by
  intro x hx
  simp only [List.mem_cons, List.not_mem_nil, or_false] at hx
  rcases hx with rfl | rfl | rfl <;> rfl
theorem rdom_any {gp g n cp L : Nat} {ts : List Tk} (hnk : NumsOk ts) {w : World} {σ : St} (h : RT w gp g n cp ts L σ) :
    Calls Tryz.prog 21 #[.pointer (some ⟨gp, 0, none⟩)] w (RDoP w gp g n cp L ts (rdoV ts σ) (rdoS ts σ)) := by
  obtain ⟨W0, hW0⟩ : ∃ W, w.alloc (.cells #[.string ⟨#[]⟩, .slice none 0 0, .slice none 0 0, .slice none 0 0] 71) = W := ⟨_, rfl⟩
  have t0 : Touch NoB w W0 := by rw [← hW0]; exact (Touch.refl _ _).alloc _
  have b2 : B4 W0 71 w.heap.size (.string ⟨#[]⟩) (.slice none 0 0) (.slice none 0 0) (.slice none 0 0) := by rw [← hW0]; exact B4.new w _ _ _ _ _ rfl
  have hgp := h.lt
  have hgl : g < w.heap.size := h.rs.tl.lt
  have HB2 := Lib.hid b2
  have HT := Lib.hid (Touch.anyB (F := AtB gp) t0)
  have hln : ts.length = n := h.rs.len
  obtain ⟨R0, hR0⟩ : ∃ z, rdoR ts (ts.length + 5) [] [] [] (exS ts [123] (naS ts σ)) = z := ⟨_, rfl⟩
  unfold rdoV rdoS
  simp only [hR0]
  have HC := Lib.hid (t_name (h.touch t0))
  obtain ⟨v1, hv1⟩ : ∃ z, naV ts σ = z := ⟨_, rfl⟩
  obtain ⟨n1, hn1⟩ : ∃ z, bs v1 = z := ⟨_, rfl⟩
  obtain ⟨s1, hs1⟩ : ∃ z, naS ts σ = z := ⟨_, rfl⟩
  obtain ⟨s4, hs4⟩ : ∃ z, exS ts [123] s1 = z := ⟨_, rfl⟩
  rw [hv1, hn1, hs1] at HC
  rw [hs1, hs4] at hR0
  simp only [hv1]
  have HN1 := Lib.hid hn1
  have H4 := Lib.hid (fun (W : World) (q : RT W gp g n cp ts L s1) => t_want q [123])
  rw [hs4] at H4
  have HR0 := Lib.hid hR0
  have HNK := Lib.hid hnk
  have HLN := Lib.hid hln
  clear hs4 hs1 hv1 h t0 b2 hn1 hR0 hnk hln
  go_enter Tryz.func21, Tryz.ntmps21
  go_wp2_with fail
  refine HC.out.mono ?_
  rintro r w1 ⟨rfl, hp, hT⟩
  obtain ⟨X, hX⟩ : ∃ X, w1.alloc (.cells #[.string n1, .slice none 0 0, .slice none 0 0, .slice none 0 0] 71) = X := ⟨_, rfl⟩
  have tx : Touch NoB w1 X := by rw [← hX]; exact (Touch.refl _ _).alloc _
  obtain ⟨q3, hq3⟩ : ∃ q3, w1.heap.size = q3 := ⟨_, rfl⟩
  have hsq : w.heap.size < q3 := by have := hT.size; have := blk_lt HB2.out; omega
  have HB3 := Lib.hid (show B4 X 71 q3 (.string n1) (.slice none 0 0) (.slice none 0 0) (.slice none 0 0) by rw [← hX]; exact B4.new _ _ _ _ _ _ hq3)
  have HB2 := Lib.hid ((HB2.out.go hT (by omega)).go (Touch.anyB (F := AtB gp) tx) (by omega))
  have HT := Lib.hid (HT.out.same (hT.same (Touch.anyB tx)))
  have HP := Lib.hid (hp.touch tx)
  clear hp hT tx
  subst hX
  have HC := Lib.hid (H4.out _ HP.out)
  go_wp2_with fail
  refine HC.out.mono ?_
  rintro r ue ⟨rfl, hp, hT⟩
  have HB3 := Lib.hid (HB3.out.go hT (by omega))
  have HB2 := Lib.hid (HB2.out.go hT (by omega))
  have HT := Lib.hid (HT.out.same hT)
  have HP := Lib.hid hp
  clear hp hT
  have HR : Hid (∃ f a b c τ vv va vg xs Q, DM w ue gp q3 Q n1 a b c vv va vg xs ∧ RT ue gp g n cp ts L τ ∧ DQ ts R0 n f a b c τ) := Lib.hid ⟨ts.length + 5, [], [], [], s4, .slice none 0 0, .slice none 0 0, .slice none 0 0, [], fun _ => False, ⟨HT.out, HB2.out, HB3.out, World.ownsRow_nil _ _ _ _, World.ownsRow_nil _ _ _ _, .nil, World.ownsRow_nil _ _ _ _, fun k hk => hk.elim⟩, HP.out, HR0.out, ⟨by omega, fun _ => by have := HLN.out; omega⟩, by simp, by simp, by simp, fun _ => by simp⟩
  clear HC HT HP HB2 HB3 HR0 H4
  go_wp2_with fail
  go_loopw [] (fun wr => ∃ f a b c τ vv va vg xs Q, DM w wr gp q3 Q n1 a b c vv va vg xs ∧ RT wr gp g n cp ts L τ ∧ DQ ts R0 n f a b c τ) (fun wr => meas2 gp n wr)
  case atStart => exact HR.out
  case round =>
    clear HR
    obtain ⟨f, a, b, c, τ, vv, va, vg, xs, Q, hR⟩ := hrel
    obtain ⟨A1, kp1, rfl, hc1, hc2⟩ := row_any hR.1.rv
    obtain ⟨A2, kp2, rfl, hd1, hd2⟩ := row_any hR.1.ra
    obtain ⟨A3, kp3, rfl, he1, he2⟩ := row_any hR.1.rg
    obtain ⟨c1, c2, cl⟩ := hR.2.1.cells
    obtain ⟨f1, rfl⟩ : ∃ f1, f = f1 + 1 := ⟨f - 1, by have := hR.2.2.fu.1; omega⟩
    have hs0 := hR.1.t.size
    have hw0 := blk_lt hR.1.b2
    have HR := Lib.hid hR
    clear hR
    by_cases he : τ.2 = 0
    · have hee : ((τ.2 : Int) == 0) = true := by rw [he]; rfl
      have HI := Lib.hid (t_is HR.out.2.1 [125] he)
      cases hi : isS ts [125] τ with
      | true =>
        rw [hi] at HI
        have HST := Lib.hid (show R0 = ((a, b, c), τ) from HR.out.2.2.md.symm.trans (rdoR_stop (by rw [hi]; intro h; cases h.2)))
        go_wp2_with fail
        refine HI.out.mono ?_
        rintro x V4 ⟨rfl, hT4⟩
        have HX := Lib.hid (t_want (HR.out.2.1.touch hT4) [125])
        have HT4 := Lib.hid hT4
        clear hT4
        go_wp2_with fail
        refine HX.out.mono ?_
        rintro x V5 ⟨rfl, hp, hT⟩
        have tt : Touch (AtB gp) wr V5 := (Touch.anyB HT4.out).same hT
        have hd := HR.out.1.go tt hgp hsq
        obtain ⟨z0, z1, z2, z3, zl⟩ := hd.b2.cells
        obtain ⟨e0, e1, e2, e3⟩ := hd.b2.free
        obtain ⟨p0, p1, p2, p3, pl⟩ := hd.b3.cells
        have hfin := rdom_out (nm := v1) (by rw [HN1.out]; exact hd) hp hgp hgl
        rw [HN1.out] at hfin
        have HO := Lib.hid hfin
        clear hT hp tt hd hfin
        go_wp2
        refine bodyPost_ret (v := .agg #[.string n1, .slice A1 a.length kp1, .slice A2 b.length kp2, .slice A3 c.length kp3]) (by simp [results, Tryz.results21, go_sem, z0, z1, z2, z3]) rfl ?_
        rw [HST.out]
        exact ⟨_, rfl, HO.out _ _ _ _⟩
      | false =>
        rw [hi] at HI
        have HMD := Lib.hid (show τ.2 = 0 ∧ isS ts [125] τ = false from ⟨he, hi⟩)
        obtain ⟨N, hN⟩ : ∃ z, a.length = z := ⟨_, rfl⟩
        obtain ⟨M, hM⟩ : ∃ z, b.length = z := ⟨_, rfl⟩
        obtain ⟨K, hK⟩ : ∃ z, c.length = z := ⟨_, rfl⟩
        have hN8 : N ≤ 8 := by rw [← hN]; exact HR.out.2.2.la
        have hM8 : M ≤ 20 := by rw [← hM]; exact HR.out.2.2.lb
        have hK8 : K ≤ 8 := by rw [← hK]; exact HR.out.2.2.lc.2 he
        rw [hN] at hc1
        rw [hM] at hd1
        rw [hK] at he1
        have HN := Lib.hid hN
        have HM := Lib.hid hM
        have HK := Lib.hid hK
        clear hN hM hK
        go_wp2_with fail
        refine HI.out.mono ?_
        rintro x V4 ⟨rfl, hT4⟩
        have HP := Lib.hid (HR.out.2.1.touch hT4)
        have HT := Lib.hid (Touch.anyB (F := AtB gp) hT4)
        clear hT4 HI
        cases hn : isS ts varB τ with
        | true =>
          by_cases h8 : 8 ≤ N
          · have hge : decide ((8 : Int) ≤ (N : Int)) = true := by simp; omega
            have HI := Lib.hid (t_is HP.out [118, 97, 114] he)
            rw [show isS ts [118, 97, 114] τ = true from hn] at HI
            go_wp2_with fail
            refine HI.out.mono ?_
            rintro x V5 ⟨rfl, hT⟩
            have HP := Lib.hid (HP.out.touch hT)
            have HT := Lib.hid (HT.out.same (Touch.anyB (F := AtB gp) hT))
            clear hT HI
            obtain ⟨y0, y1, y2, y3, yl⟩ := (HR.out.1.go HT.out hgp hsq).b3.cells
            rw [HN.out] at y1
            rw [HM.out] at y2
            rw [HK.out] at y3
            have HF := Lib.hid (t_fail HP.out 9)
            go_wp2_with fail
            refine HF.out.mono ?_
            rintro x V6 ⟨rfl, hp, hT⟩
            have hbad : (failS 9 τ).2 ≠ 0 := failS_bad (by decide) _
            have hmd : rdoR ts f1 a b c (failS 9 τ) = R0 := by have := HR.out.2.2.md; rw [rdoR_many HMD.out (.inl ⟨hn, by rw [HN.out]; exact h8⟩)] at this; exact this
            have HA := Lib.hid (And.intro (HR.out.1.go (HT.out.same hT) hgp hsq) (And.intro hp (DQ.mk hmd (HR.out.2.2.fu.stop he hbad) HR.out.2.2.la HR.out.2.2.lb ⟨HR.out.2.2.lc.1, fun e => absurd e hbad⟩)))
            have HME := Lib.hid (meas2_lt HR.out.2.1 hp he (.inr ⟨hbad, Nat.le_refl _⟩))
            clear hp hT hbad hmd
            go_wp2
            go_roundw
            case rel => exact ⟨_, _, _, _, _, _, _, _, _, _, HA.out⟩
            case measure => exact HME.out
          · have hge : decide ((8 : Int) ≤ (N : Int)) = false := by simp; omega
            have HI := Lib.hid (t_is HP.out [118, 97, 114] he)
            rw [show isS ts [118, 97, 114] τ = true from hn] at HI
            go_wp2_with fail
            refine HI.out.mono ?_
            rintro x V5 ⟨rfl, hT⟩
            have HP := Lib.hid (HP.out.touch hT)
            have HT := Lib.hid (HT.out.same (Touch.anyB (F := AtB gp) hT))
            clear hT HI
            obtain ⟨y0, y1, y2, y3, yl⟩ := (HR.out.1.go HT.out hgp hsq).b3.cells
            rw [HN.out] at y1
            rw [HM.out] at y2
            rw [HK.out] at y3
            have hm : isS ts actB τ = false := isS_other hn (by decide)
            have hg : isS ts goalB τ = false := isS_other hn (by decide)
            have HI := Lib.hid (t_is HP.out [97, 99, 116] he)
            rw [show isS ts [97, 99, 116] τ = false from hm] at HI
            go_wp2_with fail
            refine HI.out.mono ?_
            rintro x V51 ⟨rfl, hT⟩
            have HP := Lib.hid (HP.out.touch hT)
            have HT := Lib.hid (HT.out.same (Touch.anyB (F := AtB gp) hT))
            clear hT HI
            have HI := Lib.hid (t_is HP.out [103, 111, 97, 108] he)
            rw [show isS ts [103, 111, 97, 108] τ = false from hg] at HI
            go_wp2_with fail
            refine HI.out.mono ?_
            rintro x V52 ⟨rfl, hT⟩
            have HP := Lib.hid (HP.out.touch hT)
            have HT := Lib.hid (HT.out.same (Touch.anyB (F := AtB gp) hT))
            clear hT HI
            have HC := Lib.hid (t_take HP.out [118, 97, 114])
            rw [show isS ts [118, 97, 114] τ = true from hn] at HC
            go_wp2_with fail
            refine HC.out.mono ?_
            rintro x V6 ⟨rfl, hp, hT⟩
            have HT := Lib.hid (HT.out.same hT)
            obtain ⟨s1, hs1⟩ : ∃ z, acS ts varB τ = z := ⟨_, rfl⟩
            have ht1 : s1.1 = τ.1 + 1 := by rw [← hs1, acS_yes hn]
            have hp : RT V6 gp g n cp ts L s1 := by rw [← hs1]; exact hp
            have hmd : rdoR ts f1 (a ++ [varV ts s1]) b c (varS ts s1) = R0 := by have := HR.out.2.2.md; rw [rdoR_var HMD.out hn (by rw [HN.out]; omega), hs1] at this; exact this
            have hge : τ.1 + 1 ≤ (varS ts s1).1 := by have := varS_ge ts s1; omega
            have HMD2 := Lib.hid hmd
            have HGE := Lib.hid hge
            have HC := Lib.hid (t_name hp)
            obtain ⟨nm, hnm⟩ : ∃ z, bs (naV ts s1) = z := ⟨_, rfl⟩
            obtain ⟨s2, hs2⟩ : ∃ z, naS ts s1 = z := ⟨_, rfl⟩
            have hvv : varV ts s1 = ⟨naV ts s1, siV ts s2, siV ts (siS ts s2)⟩ ∧ varS ts s1 = exS ts [59] (siS ts (siS ts s2)) := by unfold varV varS; rw [hs2]; exact ⟨rfl, rfl⟩
            have HVV := Lib.hid hvv
            rw [hnm, hs2] at HC
            have HNM := Lib.hid hnm
            clear hp hT hs1 ht1 hmd hge hnm hs2 hvv
            go_wp2_with fail
            refine HC.out.mono ?_
            rintro x V8 ⟨rfl, hp, hT⟩
            have HT8 := HT.out.same hT
            have hs8 := HT8.size
            obtain ⟨W1, hW1⟩ : ∃ W, V8.alloc (.cells #[.string nm, .int .i64 0, .int .i64 0] 92) = W := ⟨_, rfl⟩
            have t1 : Touch NoB V8 W1 := by rw [← hW1]; exact (Touch.refl _ _).alloc _
            have HP := Lib.hid (hp.touch t1)
            have HT := Lib.hid (HT8.same (Touch.anyB (F := AtB gp) t1))
            have HBM := Lib.hid (show B3 W1 92 V8.heap.size (.string nm) (.int .i64 0) (.int .i64 0) by rw [← hW1]; exact B3.new _ _ _ _ _ rfl)
            have HW1 := Lib.hid hW1
            clear hp hT t1 hW1 HC HT8
            have HC := Lib.hid (t_signed HNK.out HP.out)
            go_wp2_with fail
            rw [HW1.out]
            refine HC.out.mono ?_
            rintro x w5u ⟨rfl, hp, hT⟩
            obtain ⟨u, hu⟩ : ∃ u, siV ts s2 = u := ⟨_, rfl⟩
            rw [hu]
            have hbm := HBM.out.go hT (by omega)
            obtain ⟨z0, z1, z2, zl⟩ := hbm.cells
            obtain ⟨e0, e1, e2⟩ := hbm.free
            obtain ⟨Yu, hYu⟩ : ∃ V, w5u.setCell ⟨V8.heap.size, 1, none⟩ (.int .i64 u) = V := ⟨_, rfl⟩
            have tY : Touch (fun b => b = V8.heap.size) w5u Yu := by rw [← hYu]; exact (Touch.refl (fun b => b = V8.heap.size) w5u).setCell (p := ⟨V8.heap.size, 1, none⟩) (.inl rfl) _
            have HBM := Lib.hid (show B3 Yu 92 V8.heap.size (.string nm) (.int .i64 u) (.int .i64 0) by rw [← hYu]; exact hbm.set1 _)
            have HT := Lib.hid (show Touch (AtB gp) wr Yu by rw [← hYu]; exact (HT.out.same hT).setCell (p := ⟨V8.heap.size, 1, none⟩) (.inr hs8) _)
            have HP := Lib.hid (hp.touchX tY (by omega) (by omega))
            have HHu := Lib.hid hu
            clear hp hT tY hbm hu
            have HC := Lib.hid (t_signed HNK.out HP.out)
            go_wp2_with fail
            refine HC.out.mono ?_
            rintro x w5v ⟨rfl, hp, hT⟩
            obtain ⟨v, hv⟩ : ∃ v, siV ts (siS ts s2) = v := ⟨_, rfl⟩
            rw [hv]
            have hbm := HBM.out.go hT (by omega)
            obtain ⟨z0, z1, z2, zl⟩ := hbm.cells
            obtain ⟨e0, e1, e2⟩ := hbm.free
            obtain ⟨Yv, hYv⟩ : ∃ V, w5v.setCell ⟨V8.heap.size, 2, none⟩ (.int .i64 v) = V := ⟨_, rfl⟩
            have tY : Touch (fun b => b = V8.heap.size) w5v Yv := by rw [← hYv]; exact (Touch.refl (fun b => b = V8.heap.size) w5v).setCell (p := ⟨V8.heap.size, 2, none⟩) (.inl rfl) _
            have HBM := Lib.hid (show B3 Yv 92 V8.heap.size (.string nm) (.int .i64 u) (.int .i64 v) by rw [← hYv]; exact hbm.set2 _)
            have HT := Lib.hid (show Touch (AtB gp) wr Yv by rw [← hYv]; exact (HT.out.same hT).setCell (p := ⟨V8.heap.size, 2, none⟩) (.inr hs8) _)
            have HP := Lib.hid (hp.touchX tY (by omega) (by omega))
            have HHv := Lib.hid hv
            clear hp hT tY hbm hv
            have HC := Lib.hid (t_want HP.out [59])
            rw [← HVV.out.2] at HC
            go_wp2_with fail
            refine HC.out.mono ?_
            rintro x w6 ⟨rfl, hp, hT⟩
            have HT := Lib.hid (HT.out.same hT)
            have HBM := Lib.hid (HBM.out.go hT (by omega))
            obtain ⟨z0, z1, z2, zl⟩ := HBM.out.cells
            have hd := HR.out.1.go HT.out hgp hsq
            obtain ⟨p0, p1, p2, p3, pl⟩ := hd.b3.cells
            rw [HN.out] at p1
            have hrow := hd.rv
            rw [HN.out] at hrow
            obtain ⟨i0, hi0, hz0, hz1, hz2⟩ := info_var'
            have hs6 := HT.out.size
            obtain ⟨gd, cap2, w8, hrun, hown, TR, hat⟩ := own_app (S := 67) Tryz.underlying67 hi0 hz0 hz1 hz2 rfl (by decide) (by decide) hrow (by omega) [.string nm, .int .i64 u, .int .i64 v] rfl one_var (by omega) rfl
            have HAP := Lib.hid hrun
            have hb38 := hd.b3.goR TR (row_ne hrow hd.b3 (by decide))
            obtain ⟨k0, k1, k2, k3, kl⟩ := hb38.cells
            rw [HN.out] at k1
            obtain ⟨m0, m1, m2, m3⟩ := hb38.free
            have hr8 := (hp.row TR (fun e => by have := row_base hrow _ e; omega) (fun e => by have := row_base hrow _ e; omega)).touchX ((Touch.refl (fun b => b = q3) w8).setCell (p := ⟨q3, 1, none⟩) (.inl rfl) (.slice (some ⟨gd, 0, none⟩) (N + 1) cap2)) (by omega) (by omega)
            have hA : DM w (w8.setCell ⟨q3, 1, none⟩ (.slice (some ⟨gd, 0, none⟩) (N + 1) cap2)) gp q3 Q n1 (a ++ [varV ts s1]) b c (.slice (some ⟨gd, 0, none⟩) (N + 1) cap2) (.slice A2 b.length kp2) (.slice A3 c.length kp3) xs := by
              have e : bs (varV ts s1).nm = nm ∧ (varV ts s1).lo = u ∧ (varV ts s1).hi = v := by rw [HVV.out.1]; exact ⟨HNM.out, HHu.out, HHv.out⟩
              have hown := hown
              have TR := TR
              have hat := hat
              rw [← e.1, ← e.2.1, ← e.2.2] at hown
              rw [← HN.out] at hown TR hat ⊢
              exact hd.addV' (v := varV ts s1) hsq TR hown hat
            have hdq : DQ ts R0 n f1 (a ++ [varV ts s1]) b c (varS ts s1) := ⟨HMD2.out, HR.out.2.2.fu.next he (by have := HR.out.2.1.le; have := HR.out.2.1.ln; omega) HGE.out, by rw [List.length_append, HN.out]; simp; omega, HR.out.2.2.lb, HR.out.2.2.lc.1, fun _ => HR.out.2.2.lc.2 he⟩
            have HA := Lib.hid (And.intro hA (And.intro hr8 hdq))
            have HME := Lib.hid (meas2_lt HR.out.2.1 hr8 he (.inl HGE.out))
            clear hp hT hrow hi0 hz0 hz1 hz2 hrun hown TR hat hb38 hs6 HC hA hr8 hdq hd
            obtain ⟨v7, hv7⟩ : ∃ v7, Value.slice A1 N kp1 = v7 := ⟨_, rfl⟩
            rw [hv7] at HAP p1
            clear hv7
            go_wp2_with (at_builtin; refine Lib.wpList_append_run _ rfl _ _ _ _ rfl _ _ rfl rfl _ _ HAP.out ?_)
            go_roundw
            case rel => exact ⟨_, _, _, _, _, _, _, _, _, _, HA.out⟩
            case measure => exact HME.out
        | false =>
          have HI := Lib.hid (t_is HP.out [118, 97, 114] he)
          rw [show isS ts [118, 97, 114] τ = false from hn] at HI
          go_wp2_with fail
          refine HI.out.mono ?_
          rintro x V5 ⟨rfl, hT⟩
          have HP := Lib.hid (HP.out.touch hT)
          have HT := Lib.hid (HT.out.same (Touch.anyB (F := AtB gp) hT))
          clear hT HI
          cases hm : isS ts actB τ with
          | true =>
            by_cases h8 : 20 ≤ M
            · have hge : decide ((20 : Int) ≤ (M : Int)) = true := by simp; omega
              have HI := Lib.hid (t_is HP.out [97, 99, 116] he)
              rw [show isS ts [97, 99, 116] τ = true from hm] at HI
              go_wp2_with fail
              refine HI.out.mono ?_
              rintro x V51 ⟨rfl, hT⟩
              have HP := Lib.hid (HP.out.touch hT)
              have HT := Lib.hid (HT.out.same (Touch.anyB (F := AtB gp) hT))
              clear hT HI
              obtain ⟨y0, y1, y2, y3, yl⟩ := (HR.out.1.go HT.out hgp hsq).b3.cells
              rw [HN.out] at y1
              rw [HM.out] at y2
              rw [HK.out] at y3
              have HF := Lib.hid (t_fail HP.out 9)
              go_wp2_with fail
              refine HF.out.mono ?_
              rintro x V6 ⟨rfl, hp, hT⟩
              have hbad : (failS 9 τ).2 ≠ 0 := failS_bad (by decide) _
              have hmd : rdoR ts f1 a b c (failS 9 τ) = R0 := by have := HR.out.2.2.md; rw [rdoR_many HMD.out (.inr (.inl ⟨hm, by rw [HM.out]; exact h8⟩))] at this; exact this
              have HA := Lib.hid (And.intro (HR.out.1.go (HT.out.same hT) hgp hsq) (And.intro hp (DQ.mk hmd (HR.out.2.2.fu.stop he hbad) HR.out.2.2.la HR.out.2.2.lb ⟨HR.out.2.2.lc.1, fun e => absurd e hbad⟩)))
              have HME := Lib.hid (meas2_lt HR.out.2.1 hp he (.inr ⟨hbad, Nat.le_refl _⟩))
              clear hp hT hbad hmd
              go_wp2
              go_roundw
              case rel => exact ⟨_, _, _, _, _, _, _, _, _, _, HA.out⟩
              case measure => exact HME.out
            · have hge : decide ((20 : Int) ≤ (M : Int)) = false := by simp; omega
              have HI := Lib.hid (t_is HP.out [97, 99, 116] he)
              rw [show isS ts [97, 99, 116] τ = true from hm] at HI
              go_wp2_with fail
              refine HI.out.mono ?_
              rintro x V51 ⟨rfl, hT⟩
              have HP := Lib.hid (HP.out.touch hT)
              have HT := Lib.hid (HT.out.same (Touch.anyB (F := AtB gp) hT))
              clear hT HI
              obtain ⟨y0, y1, y2, y3, yl⟩ := (HR.out.1.go HT.out hgp hsq).b3.cells
              rw [HN.out] at y1
              rw [HM.out] at y2
              rw [HK.out] at y3
              have hg : isS ts goalB τ = false := isS_other hm (by decide)
              have HI := Lib.hid (t_is HP.out [103, 111, 97, 108] he)
              rw [show isS ts [103, 111, 97, 108] τ = false from hg] at HI
              go_wp2_with fail
              refine HI.out.mono ?_
              rintro x V52 ⟨rfl, hT⟩
              have HP := Lib.hid (HP.out.touch hT)
              have HT := Lib.hid (HT.out.same (Touch.anyB (F := AtB gp) hT))
              clear hT HI
              clear y0 y1 y2 y3 yl hge
              have HC := Lib.hid (t_no HP.out [118, 97, 114] hn)
              go_wp2_with fail
              refine HC.out.mono ?_
              rintro x V6 ⟨rfl, hp, hT⟩
              have HP := Lib.hid hp
              have HT := Lib.hid (HT.out.same (Touch.anyB (F := AtB gp) hT))
              clear hp hT HC
              have HC := Lib.hid (t_take HP.out [97, 99, 116])
              rw [show isS ts [97, 99, 116] τ = true from hm] at HC
              go_wp2_with fail
              refine HC.out.mono ?_
              rintro x V7 ⟨rfl, hp, hT⟩
              have HT := Lib.hid (HT.out.same hT)
              obtain ⟨tn, htn⟩ : ∃ z, acS ts actB τ = z := ⟨_, rfl⟩
              have ht1 : tn.1 = τ.1 + 1 := by rw [← htn, acS_yes hm]
              have hp : RT V7 gp g n cp ts L tn := by rw [← htn]; exact hp
              have HP := Lib.hid hp
              have hmd : rdoR ts f1 a (b ++ [racV ts tn]) c (racS ts tn) = R0 := by have := HR.out.2.2.md; rw [rdoR_act HMD.out hm (by rw [HM.out]; omega), htn] at this; exact this
              obtain ⟨cv, hcv⟩ : ∃ z, racV ts tn = z := ⟨_, rfl⟩
              obtain ⟨cs, hcs⟩ : ∃ z, racS ts tn = z := ⟨_, rfl⟩
              have hge : tn.1 ≤ cs.1 := by rw [← hcs]; exact racS_ge ts tn
              have HCD := Lib.hid (fun (W : World) (q : RT W gp g n cp ts L tn) => ract_any HNK.out q)
              rw [hcv, hcs] at HCD hmd
              obtain ⟨cnm, hcnm⟩ : ∃ z, bs cv.nm = z := ⟨_, rfl⟩
              have HCV := Lib.hid hcnm
              have hge2 : τ.1 + 1 ≤ cs.1 := by omega
              have HDQ := Lib.hid (show DQ ts R0 n f1 a (b ++ [cv]) c cs from ⟨hmd, HR.out.2.2.fu.next he (by have := HR.out.2.1.le; have := HR.out.2.1.ln; omega) hge2, HR.out.2.2.la, by rw [List.length_append, HM.out]; simp; omega, HR.out.2.2.lc.1, fun _ => HR.out.2.2.lc.2 he⟩)
              have HGE := Lib.hid hge2
              have HE0 := Lib.hid he
              have HD := Lib.hid (HR.out.1.go HT.out hgp hsq)
              have hs7 := HT.out.size
              obtain ⟨i0, hi0, hz0, hz1', hz2'⟩ := info_act'
              unfold maxLen at hd2
              obtain ⟨q0, q1, q2, q3', ql⟩ := HD.out.b3.cells
              rw [HM.out] at q2
              obtain ⟨g0, g1, g2, g3⟩ := HD.out.b3.free
              clear hp hT hcv hcs hcnm hmd htn ht1 hge hge2 HC c1 c2 hee hi hm hn he
              go_wp2_with fail
              go_region_law? (first
                | (go_simp; go_at_call 37
                   refine (HCD.out _ (HP.out.touch (Touch.refl _ _).drew)).mono ?_
                   rintro r w3 ⟨nv, mv, rfl, hn, hm, hp, hT0⟩
                   obtain ⟨B1, k1, rfl, -, -⟩ := row_any hn
                   obtain ⟨B2, k2, rfl, -, -⟩ := row_any hm
                   try rw [HCV.out]
                   have hT := (Touch.refl (AtB gp) V7).drew.same hT0
                   have HD3 := Lib.hid (HD.out.widen hT hgp hsq)
                   have hav : AcAt w3 (fun k => Q k ∨ (V7.heap.size ≤ k ∧ k < w3.heap.size)) cv [.string cnm, .int .i64 (cv.cost : Int), .slice B1 cv.need.length k1, .slice B2 cv.make.length k2] := ⟨_, _, by rw [HCV.out], (slat_of hn).via (fun k h1 h2 => .inr ⟨h1, h2⟩), (slat_of hm).via (fun k h1 h2 => .inr ⟨h1, h2⟩)⟩
                   obtain ⟨j0, j1, j2, j3, jl⟩ := HD3.out.b3.cells
                   rw [HM.out] at j2
                   obtain ⟨l0, l1, l2, l3⟩ := HD3.out.b3.free
                   have HX3 := Lib.hid (And.intro hp (And.intro hT hav))
                   have HRA := Lib.hid HD3.out.ra
                   rw [HM.out] at HRA
                   clear hp hT0 hT hn hm hav)
                | (refine step_append_lies _ rfl (.tmp 84) (.tmp 87) 68 rfl w.heap.size 95 i0 (.agg #[.string ⟨#[]⟩, .int .i64 0, .slice none 0 0, .slice none 0 0]) 4 72 Tryz.underlying68 hi0 hz0 hz1' hz2' rfl (by decide) (.slice A2 M kp2) M xs (by simp [Act.eval]) (by exact (HRA.out.alloc _)) ⟨w3.heap.size, 0, none⟩ 1 1 [.string cnm, .int .i64 (cv.cost : Int), .slice B1 cv.need.length k1, .slice B2 cv.make.length k2] (by simp [Act.eval]) rfl (by exact World.news_of_block (cs := #[.string cnm, .int .i64 (cv.cost : Int), .slice B1 cv.need.length k1, .slice B2 cv.make.length k2]) (alloc_blk w3 _ 95 rfl)) (by intro u hu; simp at hu; rcases hu with rfl | rfl | rfl | rfl <;> rfl) (by decide) (by unfold maxLen; omega) (by omega) (by have := HX3.out.2.1.size; simp only [World.size_alloc]; omega) (w3.heap.size + 1) (by simp) ?_
                   intro gd cap2 wx hown hgrow hat hlt
                   have TR : Touch (fun k9 => (Value.slice A2 M kp2).ownBlock = some k9) w3 wx := ((Touch.refl _ w3).alloc _).grown hgrow (fun _ e => .inl e)
                   have hbx := HD3.out.b3.goR TR (row_ne HRA.out HD3.out.b3 (by decide))
                   obtain ⟨k0, k1', k2', k3, kl⟩ := hbx.cells
                   rw [HM.out] at k2'
                   obtain ⟨m0, m1, m2, m3⟩ := hbx.free
                   have hr8 := (HX3.out.1.row TR (fun e => by have := row_base HRA.out _ e; omega) (fun e => by have := row_base HRA.out _ e; omega)).touchX ((Touch.refl (fun b => b = q3) wx).setCell (p := ⟨q3, 2, none⟩) (.inl rfl) (.slice (some ⟨gd, 0, none⟩) (M + 1) cap2)) (by omega) (by omega)
                   have hA : DM w (wx.setCell ⟨q3, 2, none⟩ (.slice (some ⟨gd, 0, none⟩) (M + 1) cap2)) gp q3 (fun k => Q k ∨ (V7.heap.size ≤ k ∧ k < w3.heap.size)) n1 a (b ++ [cv]) c (.slice A1 a.length kp1) (.slice (some ⟨gd, 0, none⟩) (M + 1) cap2) (.slice A3 c.length kp3) (xs ++ [.string cnm, .int .i64 (cv.cost : Int), .slice B1 cv.need.length k1, .slice B2 cv.make.length k2]) := by
                     have hown := hown
                     have TR := TR
                     have hat := hat
                     rw [← HM.out] at hown TR hat ⊢
                     exact HD3.out.addA hsq HX3.out.2.2 TR hown hat
                   have HA := Lib.hid (And.intro hA (And.intro hr8 HDQ.out))
                   have HME := Lib.hid (meas2_lt HR.out.2.1 hr8 HE0.out (.inl HGE.out))
                   clear hown hgrow hat TR hbx hA hr8))
              all_goals
                go_wp2
                go_roundw
                case rel => exact ⟨_, _, _, _, _, _, _, _, _, _, HA.out⟩
                case measure => exact HME.out
          | false =>
            have HI := Lib.hid (t_is HP.out [97, 99, 116] he)
            rw [show isS ts [97, 99, 116] τ = false from hm] at HI
            go_wp2_with fail
            refine HI.out.mono ?_
            rintro x V51 ⟨rfl, hT⟩
            have HP := Lib.hid (HP.out.touch hT)
            have HT := Lib.hid (HT.out.same (Touch.anyB (F := AtB gp) hT))
            clear hT HI
            cases hg : isS ts goalB τ with
            | true =>
              by_cases h8 : 8 ≤ K
              · have hge : decide ((8 : Int) ≤ (K : Int)) = true := by simp; omega
                have HI := Lib.hid (t_is HP.out [103, 111, 97, 108] he)
                rw [show isS ts [103, 111, 97, 108] τ = true from hg] at HI
                go_wp2_with fail
                refine HI.out.mono ?_
                rintro x V52 ⟨rfl, hT⟩
                have HP := Lib.hid (HP.out.touch hT)
                have HT := Lib.hid (HT.out.same (Touch.anyB (F := AtB gp) hT))
                clear hT HI
                obtain ⟨y0, y1, y2, y3, yl⟩ := (HR.out.1.go HT.out hgp hsq).b3.cells
                rw [HN.out] at y1
                rw [HM.out] at y2
                rw [HK.out] at y3
                have HF := Lib.hid (t_fail HP.out 9)
                go_wp2_with fail
                refine HF.out.mono ?_
                rintro x V6 ⟨rfl, hp, hT⟩
                have hbad : (failS 9 τ).2 ≠ 0 := failS_bad (by decide) _
                have hmd : rdoR ts f1 a b c (failS 9 τ) = R0 := by have := HR.out.2.2.md; rw [rdoR_many HMD.out (.inr (.inr ⟨hg, by rw [HK.out]; exact h8⟩))] at this; exact this
                have HA := Lib.hid (And.intro (HR.out.1.go (HT.out.same hT) hgp hsq) (And.intro hp (DQ.mk hmd (HR.out.2.2.fu.stop he hbad) HR.out.2.2.la HR.out.2.2.lb ⟨HR.out.2.2.lc.1, fun e => absurd e hbad⟩)))
                have HME := Lib.hid (meas2_lt HR.out.2.1 hp he (.inr ⟨hbad, Nat.le_refl _⟩))
                clear hp hT hbad hmd
                go_wp2
                go_roundw
                case rel => exact ⟨_, _, _, _, _, _, _, _, _, _, HA.out⟩
                case measure => exact HME.out
              · have hge : decide ((8 : Int) ≤ (K : Int)) = false := by simp; omega
                have HI := Lib.hid (t_is HP.out [103, 111, 97, 108] he)
                rw [show isS ts [103, 111, 97, 108] τ = true from hg] at HI
                go_wp2_with fail
                refine HI.out.mono ?_
                rintro x V52 ⟨rfl, hT⟩
                have HP := Lib.hid (HP.out.touch hT)
                have HT := Lib.hid (HT.out.same (Touch.anyB (F := AtB gp) hT))
                clear hT HI
                obtain ⟨y0, y1, y2, y3, yl⟩ := (HR.out.1.go HT.out hgp hsq).b3.cells
                rw [HN.out] at y1
                rw [HM.out] at y2
                rw [HK.out] at y3
                have hHG : τ.1 ≤ (rcnS ts (exS ts goalB τ)).1 ∧ (τ.1 + 1 ≤ (rcnS ts (exS ts goalB τ)).1 ∧ c.length < 8 ∨ (rcnS ts (exS ts goalB τ)).2 ≠ 0) := ⟨Nat.le_trans (exS_ge ts goalB τ) (rcnS_ge ts _), (.inl ⟨by have := exS_yes' hg; have := rcnS_ge ts (exS ts goalB τ); omega, by rw [HK.out]; omega⟩)⟩
                have hmd : rdoR ts f1 a b (c ++ [rcnV ts (exS ts goalB τ)]) (rcnS ts (exS ts goalB τ)) = R0 := by have := HR.out.2.2.md; rw [rdoR_goal HMD.out hn hm (fun _ => by rw [HK.out]; omega)] at this; exact this
                have HC := Lib.hid (t_no HP.out [118, 97, 114] hn)
                go_wp2_with fail
                refine HC.out.mono ?_
                rintro x V6 ⟨rfl, hp, hT⟩
                have HP := Lib.hid hp
                have HT := Lib.hid (HT.out.same (Touch.anyB (F := AtB gp) hT))
                clear hp hT HC
                have HC := Lib.hid (t_no HP.out [97, 99, 116] hm)
                go_wp2_with fail
                refine HC.out.mono ?_
                rintro x V61 ⟨rfl, hp, hT⟩
                have HP := Lib.hid hp
                have HT := Lib.hid (HT.out.same (Touch.anyB (F := AtB gp) hT))
                clear hp hT HC
                have HC := Lib.hid (t_want HP.out [103, 111, 97, 108])
                go_wp2_with fail
                refine HC.out.mono ?_
                rintro x V7 ⟨rfl, hp, hT⟩
                have HT := Lib.hid (HT.out.same hT)
                obtain ⟨tn, htn⟩ : ∃ z, exS ts goalB τ = z := ⟨_, rfl⟩
                have hp : RT V7 gp g n cp ts L tn := by rw [← htn]; exact hp
                have HP := Lib.hid hp
                rw [htn] at hHG hmd
                obtain ⟨cv, hcv⟩ : ∃ z, rcnV ts tn = z := ⟨_, rfl⟩
                obtain ⟨cs, hcs⟩ : ∃ z, rcnS ts tn = z := ⟨_, rfl⟩
                have HCD := Lib.hid (fun (W : World) (q : RT W gp g n cp ts L tn) => rcond_any HNK.out q q.rs.tl.lt)
                rw [hcv, hcs] at HCD hmd
                rw [hcs] at hHG
                obtain ⟨cnm, hcnm⟩ : ∃ z, bs cv.nm = z := ⟨_, rfl⟩
                rw [hcnm] at HCD
                have HCV := Lib.hid hcnm
                have hc8 := HR.out.2.2.lc.2 he
                have HDQ := Lib.hid (show DQ ts R0 n f1 a b (c ++ [cv]) cs from ⟨hmd, by rcases hHG.2 with h | h; exact HR.out.2.2.fu.next he (by have := HR.out.2.1.le; have := HR.out.2.1.ln; omega) h.1; exact HR.out.2.2.fu.stop he h, HR.out.2.2.la, HR.out.2.2.lb, by simp; omega, fun e => by rcases hHG.2 with h | h; simp; omega; exact absurd e h⟩)
                have HGE := Lib.hid hHG
                have HE0 := Lib.hid he
                have HD := Lib.hid (HR.out.1.go HT.out hgp hsq)
                have hs7 := HT.out.size
                obtain ⟨i0, hi0, hz0, hz1', hz2'⟩ := info_cond'
                unfold maxLen at he2
                obtain ⟨q0, q1, q2, q3', ql⟩ := HD.out.b3.cells
                rw [HK.out] at q3'
                obtain ⟨g0, g1, g2, g3⟩ := HD.out.b3.free
                clear hp hT hcv hcs hcnm hmd htn hHG hc8 HC c1 c2 hee hi hm hn he
                go_wp2_with fail
                go_region_law? (first
                  | (go_simp; go_at_call 38
                     refine (HCD.out _ (HP.out.touch (Touch.refl _ _).drew)).mono ?_
                     rintro r w3 ⟨rfl, hp, hT0⟩
                     have hT := (Touch.refl (AtB gp) V7).drew.same hT0
                     have HD3 := Lib.hid (HD.out.go hT hgp hsq)
                     obtain ⟨j0, j1, j2, j3, jl⟩ := HD3.out.b3.cells
                     rw [HK.out] at j3
                     obtain ⟨l0, l1, l2, l3⟩ := HD3.out.b3.free
                     have HX3 := Lib.hid (And.intro hp hT)
                     have HRG := Lib.hid HD3.out.rg
                     rw [HK.out] at HRG
                     clear hp hT0 hT)
                  | (refine step_append_lies _ rfl (.tmp 23) (.tmp 26) 69 rfl w.heap.size 98 i0 (.agg #[.string ⟨#[]⟩, .int .i64 0, .int .i64 0]) 3 32 Tryz.underlying69 hi0 hz0 hz1' hz2' rfl (by decide) (.slice A3 K kp3) K (cnC c) (by simp [Act.eval]) (by exact (HRG.out.alloc _)) ⟨w3.heap.size, 0, none⟩ 1 1 [.string cnm, .int .i64 (cv.op : Int), .int .i64 cv.n] (by simp [Act.eval]) rfl (by exact World.news_of_block (cs := #[.string cnm, .int .i64 (cv.op : Int), .int .i64 cv.n]) (alloc_blk w3 _ 98 rfl)) (by intro u hu; simp at hu; rcases hu with rfl | rfl | rfl <;> rfl) (by decide) (by unfold maxLen; omega) (by omega) (by have := HX3.out.2.size; simp only [World.size_alloc]; omega) (w3.heap.size + 1) (by simp) ?_
                     intro gd cap2 wx hown hgrow hat hlt
                     have TR : Touch (fun k9 => (Value.slice A3 K kp3).ownBlock = some k9) w3 wx := ((Touch.refl _ w3).alloc _).grown hgrow (fun _ e => .inl e)
                     have hbx := HD3.out.b3.goR TR (row_ne HRG.out HD3.out.b3 (by decide))
                     obtain ⟨k0, k1', k2', k3, kl⟩ := hbx.cells
                     rw [HK.out] at k3
                     obtain ⟨m0, m1, m2, m3⟩ := hbx.free
                     have hr8 := (HX3.out.1.row TR (fun e => by have := row_base HRG.out _ e; omega) (fun e => by have := row_base HRG.out _ e; omega)).touchX ((Touch.refl (fun b => b = q3) wx).setCell (p := ⟨q3, 3, none⟩) (.inl rfl) (.slice (some ⟨gd, 0, none⟩) (K + 1) cap2)) (by omega) (by omega)
                     have hA : DM w (wx.setCell ⟨q3, 3, none⟩ (.slice (some ⟨gd, 0, none⟩) (K + 1) cap2)) gp q3 Q n1 a b (c ++ [cv]) (.slice A1 a.length kp1) (.slice A2 b.length kp2) (.slice (some ⟨gd, 0, none⟩) (K + 1) cap2) xs := by
                       have hown := hown
                       have TR := TR
                       have hat := hat
                       rw [← HCV.out] at hown
                       rw [← HK.out] at hown TR hat ⊢
                       exact HD3.out.addG hsq TR hown hat
                     have HA := Lib.hid (And.intro hA (And.intro hr8 HDQ.out))
                     have HME := Lib.hid (meas2_lt HR.out.2.1 hr8 HE0.out (by rcases HGE.out.2 with h | h; exact .inl h.1; exact .inr ⟨h, HGE.out.1⟩))
                     clear hown hgrow hat TR hbx hA hr8))
                all_goals
                  go_wp2
                  go_roundw
                  case rel => exact ⟨_, _, _, _, _, _, _, _, _, _, HA.out⟩
                  case measure => exact HME.out
            | false =>
              have HI := Lib.hid (t_is HP.out [103, 111, 97, 108] he)
              rw [show isS ts [103, 111, 97, 108] τ = false from hg] at HI
              go_wp2_with fail
              refine HI.out.mono ?_
              rintro x V52 ⟨rfl, hT⟩
              have HP := Lib.hid (HP.out.touch hT)
              have HT := Lib.hid (HT.out.same (Touch.anyB (F := AtB gp) hT))
              clear hT HI
              have hHG : τ.1 ≤ (rcnS ts (exS ts goalB τ)).1 ∧ (τ.1 + 1 ≤ (rcnS ts (exS ts goalB τ)).1 ∧ c.length < 8 ∨ (rcnS ts (exS ts goalB τ)).2 ≠ 0) := ⟨Nat.le_trans (exS_ge ts goalB τ) (rcnS_ge ts _), (.inr (rcnS_bad (exS_no hg)))⟩
              have hmd : rdoR ts f1 a b (c ++ [rcnV ts (exS ts goalB τ)]) (rcnS ts (exS ts goalB τ)) = R0 := by have := HR.out.2.2.md; rw [rdoR_goal HMD.out hn hm (fun e => by rw [hg] at e; cases e)] at this; exact this
              have HC := Lib.hid (t_no HP.out [118, 97, 114] hn)
              go_wp2_with fail
              refine HC.out.mono ?_
              rintro x V6 ⟨rfl, hp, hT⟩
              have HP := Lib.hid hp
              have HT := Lib.hid (HT.out.same (Touch.anyB (F := AtB gp) hT))
              clear hp hT HC
              have HC := Lib.hid (t_no HP.out [97, 99, 116] hm)
              go_wp2_with fail
              refine HC.out.mono ?_
              rintro x V61 ⟨rfl, hp, hT⟩
              have HP := Lib.hid hp
              have HT := Lib.hid (HT.out.same (Touch.anyB (F := AtB gp) hT))
              clear hp hT HC
              have HC := Lib.hid (t_want HP.out [103, 111, 97, 108])
              go_wp2_with fail
              refine HC.out.mono ?_
              rintro x V7 ⟨rfl, hp, hT⟩
              have HT := Lib.hid (HT.out.same hT)
              obtain ⟨tn, htn⟩ : ∃ z, exS ts goalB τ = z := ⟨_, rfl⟩
              have hp : RT V7 gp g n cp ts L tn := by rw [← htn]; exact hp
              have HP := Lib.hid hp
              rw [htn] at hHG hmd
              obtain ⟨cv, hcv⟩ : ∃ z, rcnV ts tn = z := ⟨_, rfl⟩
              obtain ⟨cs, hcs⟩ : ∃ z, rcnS ts tn = z := ⟨_, rfl⟩
              have HCD := Lib.hid (fun (W : World) (q : RT W gp g n cp ts L tn) => rcond_any HNK.out q q.rs.tl.lt)
              rw [hcv, hcs] at HCD hmd
              rw [hcs] at hHG
              obtain ⟨cnm, hcnm⟩ : ∃ z, bs cv.nm = z := ⟨_, rfl⟩
              rw [hcnm] at HCD
              have HCV := Lib.hid hcnm
              have hc8 := HR.out.2.2.lc.2 he
              have HDQ := Lib.hid (show DQ ts R0 n f1 a b (c ++ [cv]) cs from ⟨hmd, by rcases hHG.2 with h | h; exact HR.out.2.2.fu.next he (by have := HR.out.2.1.le; have := HR.out.2.1.ln; omega) h.1; exact HR.out.2.2.fu.stop he h, HR.out.2.2.la, HR.out.2.2.lb, by simp; omega, fun e => by rcases hHG.2 with h | h; simp; omega; exact absurd e h⟩)
              have HGE := Lib.hid hHG
              have HE0 := Lib.hid he
              have HD := Lib.hid (HR.out.1.go HT.out hgp hsq)
              have hs7 := HT.out.size
              obtain ⟨i0, hi0, hz0, hz1', hz2'⟩ := info_cond'
              unfold maxLen at he2
              obtain ⟨q0, q1, q2, q3', ql⟩ := HD.out.b3.cells
              rw [HK.out] at q3'
              obtain ⟨g0, g1, g2, g3⟩ := HD.out.b3.free
              clear hp hT hcv hcs hcnm hmd htn hHG hc8 HC c1 c2 hee hi hm hn he
              go_wp2_with fail
              go_region_law? (first
                | (go_simp; go_at_call 38
                   refine (HCD.out _ (HP.out.touch (Touch.refl _ _).drew)).mono ?_
                   rintro r w3 ⟨rfl, hp, hT0⟩
                   have hT := (Touch.refl (AtB gp) V7).drew.same hT0
                   have HD3 := Lib.hid (HD.out.go hT hgp hsq)
                   obtain ⟨j0, j1, j2, j3, jl⟩ := HD3.out.b3.cells
                   rw [HK.out] at j3
                   obtain ⟨l0, l1, l2, l3⟩ := HD3.out.b3.free
                   have HX3 := Lib.hid (And.intro hp hT)
                   have HRG := Lib.hid HD3.out.rg
                   rw [HK.out] at HRG
                   clear hp hT0 hT)
                | (refine step_append_lies _ rfl (.tmp 23) (.tmp 26) 69 rfl w.heap.size 98 i0 (.agg #[.string ⟨#[]⟩, .int .i64 0, .int .i64 0]) 3 32 Tryz.underlying69 hi0 hz0 hz1' hz2' rfl (by decide) (.slice A3 K kp3) K (cnC c) (by simp [Act.eval]) (by exact (HRG.out.alloc _)) ⟨w3.heap.size, 0, none⟩ 1 1 [.string cnm, .int .i64 (cv.op : Int), .int .i64 cv.n] (by simp [Act.eval]) rfl (by exact World.news_of_block (cs := #[.string cnm, .int .i64 (cv.op : Int), .int .i64 cv.n]) (alloc_blk w3 _ 98 rfl)) (by intro u hu; simp at hu; rcases hu with rfl | rfl | rfl <;> rfl) (by decide) (by unfold maxLen; omega) (by omega) (by have := HX3.out.2.size; simp only [World.size_alloc]; omega) (w3.heap.size + 1) (by simp) ?_
                   intro gd cap2 wx hown hgrow hat hlt
                   have TR : Touch (fun k9 => (Value.slice A3 K kp3).ownBlock = some k9) w3 wx := ((Touch.refl _ w3).alloc _).grown hgrow (fun _ e => .inl e)
                   have hbx := HD3.out.b3.goR TR (row_ne HRG.out HD3.out.b3 (by decide))
                   obtain ⟨k0, k1', k2', k3, kl⟩ := hbx.cells
                   rw [HK.out] at k3
                   obtain ⟨m0, m1, m2, m3⟩ := hbx.free
                   have hr8 := (HX3.out.1.row TR (fun e => by have := row_base HRG.out _ e; omega) (fun e => by have := row_base HRG.out _ e; omega)).touchX ((Touch.refl (fun b => b = q3) wx).setCell (p := ⟨q3, 3, none⟩) (.inl rfl) (.slice (some ⟨gd, 0, none⟩) (K + 1) cap2)) (by omega) (by omega)
                   have hA : DM w (wx.setCell ⟨q3, 3, none⟩ (.slice (some ⟨gd, 0, none⟩) (K + 1) cap2)) gp q3 Q n1 a b (c ++ [cv]) (.slice A1 a.length kp1) (.slice A2 b.length kp2) (.slice (some ⟨gd, 0, none⟩) (K + 1) cap2) xs := by
                     have hown := hown
                     have TR := TR
                     have hat := hat
                     rw [← HCV.out] at hown
                     rw [← HK.out] at hown TR hat ⊢
                     exact HD3.out.addG hsq TR hown hat
                   have HA := Lib.hid (And.intro hA (And.intro hr8 HDQ.out))
                   have HME := Lib.hid (meas2_lt HR.out.2.1 hr8 HE0.out (by rcases HGE.out.2 with h | h; exact .inl h.1; exact .inr ⟨h, HGE.out.1⟩))
                   clear hown hgrow hat TR hbx hA hr8))
              all_goals
                go_wp2
                go_roundw
                case rel => exact ⟨_, _, _, _, _, _, _, _, _, _, HA.out⟩
                case measure => exact HME.out
    · have hee : ((τ.2 : Int) == 0) = false := by simp; omega
      have HST := Lib.hid (show R0 = ((a, b, c), τ) from HR.out.2.2.md.symm.trans (rdoR_stop (fun h => he h.1)))
      have HX := Lib.hid (t_want HR.out.2.1 [125])
      go_wp2_with fail
      refine HX.out.mono ?_
      rintro x V5 ⟨rfl, hp, hT⟩
      have tt : Touch (AtB gp) wr V5 := hT
      have hd := HR.out.1.go tt hgp hsq
      obtain ⟨z0, z1, z2, z3, zl⟩ := hd.b2.cells
      obtain ⟨e0, e1, e2, e3⟩ := hd.b2.free
      obtain ⟨p0, p1, p2, p3, pl⟩ := hd.b3.cells
      have hfin := rdom_out (nm := v1) (by rw [HN1.out]; exact hd) hp hgp hgl
      rw [HN1.out] at hfin
      have HO := Lib.hid hfin
      clear hT hp tt hd hfin
      go_wp2
      refine bodyPost_ret (v := .agg #[.string n1, .slice A1 a.length kp1, .slice A2 b.length kp2, .slice A3 c.length kp3]) (by simp [results, Tryz.results21, go_sem, z0, z1, z2, z3]) rfl ?_
      rw [HST.out]
      exact ⟨_, rfl, HO.out _ _ _ _⟩
end Go.Proofs.YtnphaaahdlkmhaaGreat
end
/-
  What stands in memory while the document's own pick reads. No condition beyond those that each theorem names.
-/
section
namespace Go.Proofs.YtnphaaahdlkmhaaGreat
open Go.ChangeShapes Go.WideShapes Go.ChangeAt Go.RowKit
set_option maxRecDepth 100000
set_option maxHeartbeats 4000000

structure PkM (w : World) (gp D : Nat) (ws : List Ex) (ys : List Value) (l : List Nd) (xs : List Value) (Q : Nat → Prop) (vx v : Value) (wr : World) : Prop where
  t : Touch (AtB gp) w wr
  rowx : wr.ownsRow w.heap.size 44 4 vx ws.length ys
  lx : LsAt (XAt wr Q) ws ys
  row : wr.ownsRow w.heap.size 62 10 v l.length xs
  ls : LsAt (NT wr Q D) l xs
  hQ : ∀ k, Q k → w.heap.size ≤ k ∧ k < wr.heap.size ∧ vx.ownBlock ≠ some k ∧ v.ownBlock ≠ some k
section
variable {w wr V : World} {gp D gd cap : Nat} {ws : List Ex} {ys : List Value} {l : List Nd} {xs : List Value} {Q : Nat → Prop} {vx v : Value}
theorem PkM.go (h : PkM w gp D ws ys l xs Q vx v wr) (t : Touch (AtB gp) wr V) (hgp : gp < w.heap.size) : PkM w gp D ws ys l xs (fun k => Q k ∨ (wr.heap.size ≤ k ∧ k < V.heap.size)) vx v V := by
  have q : ∀ k, Q k → ¬ AtB gp k := fun k hk f => by have := (h.hQ k hk).1; unfold AtB at f; omega
  have hs := h.t.size
  refine ⟨h.t.same t, row_go h.rowx t hgp, h.lx.mono (fun x ys hx => (hx.touch t q).via (fun k hk _ => .inl hk)), row_go h.row t hgp, h.ls.mono (fun x ys hx => NT.via (fun k hk _ => .inl hk) D x ys (NT.touch t q D x ys hx)), fun k hk => ?_⟩
  rcases hk with hk | ⟨h1, h2⟩
  · obtain ⟨q1, q2, q3⟩ := h.hQ k hk
    exact ⟨q1, Nat.lt_of_lt_of_le q2 t.size, q3⟩
  · exact ⟨by omega, h2, fun e => by have := (h.rowx.lt k e).2; omega, fun e => by have := (h.row.lt k e).2; omega⟩
theorem PkM.addX (h : PkM w gp D ws ys l xs Q vx v wr) {x : Ex} {cs : List Value} (hx : XAt wr Q x cs) (hown : V.ownsRow w.heap.size 44 4 (.slice (some ⟨gd, 0, none⟩) (ws.length + 1) cap) (ws.length + 1) (ys ++ cs)) (TR : Touch (fun b => vx.ownBlock = some b) wr V) (hat : vx.ownBlock = some gd ∨ wr.heap.size ≤ gd) :
    PkM w gp D (ws ++ [x]) (ys ++ cs) l xs Q (.slice (some ⟨gd, 0, none⟩) (ws.length + 1) cap) v V := by
  refine ⟨h.t.trans TR (fun k hk => .inr (row_base h.rowx k hk)), by simpa using hown, (LsAt.snoc h.lx hx).mono (fun z zs hz => hz.touch TR (fun k hk => (h.hQ k hk).2.2.1)), row_touch h.row TR (fun k hk f => row_row_ne h.rowx h.row (by decide) f hk), h.ls.mono (fun z zs hz => NT.touch TR (fun k hk => (h.hQ k hk).2.2.1) D z zs hz), fun k hk => ?_⟩
  obtain ⟨q1, q2, q3, q4⟩ := h.hQ k hk
  refine ⟨q1, Nat.lt_of_lt_of_le q2 TR.size, fun e => ?_, q4⟩
  have e1 : gd = k := by simpa [Value.ownBlock] using e
  subst e1
  rcases hat with e | e
  · exact q3 e
  · omega
theorem PkM.addN (h : PkM w gp D ws ys l xs Q vx v wr) {y : Nd} {cs : List Value} (hy : NT wr Q D y cs) (hown : V.ownsRow w.heap.size 62 10 (.slice (some ⟨gd, 0, none⟩) (l.length + 1) cap) (l.length + 1) (xs ++ cs)) (TR : Touch (fun b => v.ownBlock = some b) wr V) (hat : v.ownBlock = some gd ∨ wr.heap.size ≤ gd) :
    PkM w gp D ws ys (l ++ [y]) (xs ++ cs) Q vx (.slice (some ⟨gd, 0, none⟩) (l.length + 1) cap) V := by
  refine ⟨h.t.trans TR (fun k hk => .inr (row_base h.row k hk)), row_touch h.rowx TR (fun k hk f => row_row_ne h.row h.rowx (by decide) f hk), h.lx.mono (fun z zs hz => hz.touch TR (fun k hk => (h.hQ k hk).2.2.2)), by simpa using hown, (LsAt.snoc h.ls hy).mono (fun z zs hz => NT.touch TR (fun k hk => (h.hQ k hk).2.2.2) D z zs hz), fun k hk => ?_⟩
  obtain ⟨q1, q2, q3, q4⟩ := h.hQ k hk
  refine ⟨q1, Nat.lt_of_lt_of_le q2 TR.size, q3, fun e => ?_⟩
  have e1 : gd = k := by simpa [Value.ownBlock] using e
  subst e1
  rcases hat with e | e
  · exact q4 e
  · omega
end
/-- What pick leaves. -/
def RPP (w : World) (gp g n cp : Nat) (ts : List Tk) (L D : Nat) (V : List Ex × List Nd) (S : St) (x : Ending) (w' : World) : Prop :=
  Touch (AtB gp) w w' ∧ RT w' gp g n cp ts L S ∧ ∃ (ws : List Ex) (ys : List Value) (l : List Nd) (xs : List Value) (A1 : Option Addr) (c1 : Nat) (A : Option Addr) (c : Nat), x = .returned (.tuple #[.slice A1 ws.length c1, .slice A l.length c]) ∧
    SlAt w' (fun b => w.heap.size ≤ b) (.slice A1 ws.length c1) ws.length ys ∧ LsAt (XAt w' (fun b => w.heap.size ≤ b)) ws ys ∧ SlAt w' (fun b => w.heap.size ≤ b) (.slice A l.length c) l.length xs ∧ LsAt (NT w' (fun b => w.heap.size ≤ b) D) l xs ∧ (S.2 = 0 → ws = V.1 ∧ l = V.2)
theorem picR_step {ts : List Tk} {sub : St → Nd × St} {f : Nat} {x : List Ex} {l : List Nd} {σ : St} (h : σ.2 = 0 ∧ (l.length = 0 ∨ isS ts [125] σ = false)) (hl : l.length < 16) : picR ts sub (f + 1) x l σ = picR ts sub f (x ++ [eqV ts σ]) (l ++ [(sub (exS ts [58] (eqS ts σ))).1]) (sub (exS ts [58] (eqS ts σ))).2 := by
  rw [picR, if_pos h, if_neg (by omega)]
theorem picR_stop {ts : List Tk} {sub : St → Nd × St} {f : Nat} {x : List Ex} {l : List Nd} {σ : St} (h : ¬ (σ.2 = 0 ∧ (l.length = 0 ∨ isS ts [125] σ = false))) : picR ts sub f x l σ = ((x, l), σ) := by
  cases f with
  | zero => rfl
  | succ f => rw [picR, if_neg h]
theorem picR_many {ts : List Tk} {sub : St → Nd × St} {f : Nat} {x : List Ex} {l : List Nd} {σ : St} (h : σ.2 = 0 ∧ (l.length = 0 ∨ isS ts [125] σ = false)) (hl : 16 ≤ l.length) : picR ts sub (f + 1) x l σ = ((x, l), failS 9 σ) := by
  rw [picR, if_pos h, if_pos hl]
structure PkRel (w : World) (gp g n cp : Nat) (ts : List Tk) (L D : Nat) (sub : St → Nd × St) (R0 : (List Ex × List Nd) × St) (f : Nat) (wm : List Ex) (lm : List Nd) (σ : St) (ws : List Ex) (ys : List Value) (l : List Nd) (xs : List Value) (Q : Nat → Prop) (vx v : Value) (wr : World) : Prop where
  m : PkM w gp D ws ys l xs Q vx v wr
  rt : RT wr gp g n cp ts L σ
  len : l.length = lm.length ∧ ws.length = l.length
  le : l.length + f = 17 ∧ l.length ≤ 16
  ok : σ.2 = 0 → ws = wm ∧ l = lm
  md : picR ts sub f wm lm σ = R0
def PkRelV (w : World) (gp g n cp : Nat) (ts : List Tk) (L D : Nat) (sub : St → Nd × St) (R0 : (List Ex × List Nd) × St) (vx v : Value) (wr : World) : Prop := ∃ f wm lm σ ws ys l xs Q, PkRel w gp g n cp ts L D sub R0 f wm lm σ ws ys l xs Q vx v wr ∧ (∃ A c, v = .slice A l.length c) ∧ ∃ A c, vx = .slice A ws.length c
theorem pk_fin {w wr w5 : World} {gp g n cp L D : Nat} {ts : List Tk} {sub : St → Nd × St} {R0 : (List Ex × List Nd) × St} {f : Nat} {wm : List Ex} {lm : List Nd} {σ : St} {ws : List Ex} {ys : List Value} {l : List Nd} {xs : List Value} {Q : Nat → Prop} {A1 A : Option Addr} {c1 c : Nat} (h : PkRel w gp g n cp ts L D sub R0 f wm lm σ ws ys l xs Q (.slice A1 ws.length c1) (.slice A l.length c) wr) (t : Touch (AtB gp) wr w5) (hgp : gp < w.heap.size)
    (he : R0.1 = (wm, lm)) (hok : R0.2.2 = 0 → σ.2 = 0) (hr : RT w5 gp g n cp ts L (exS ts [125] R0.2)) : RPP w gp g n cp ts L D R0.1 (exS ts [125] R0.2) (.returned (.tuple #[.slice A1 ws.length c1, .slice A l.length c])) w5 := by
  have hm := h.m.go t hgp
  exact ⟨hm.t, hr, ws, ys, l, xs, A1, c1, A, c, rfl, (slat_own hm.rowx).via (fun b hb _ => row_base hm.rowx b hb), hm.lx.mono (fun y ys hy => hy.via (fun b hb _ => (hm.hQ b hb).1)), (slat_own hm.row).via (fun b hb _ => row_base hm.row b hb), hm.ls.mono (fun y ys hy => NT.via (fun b hb _ => (hm.hQ b hb).1) D y ys hy), fun e => by rw [he]; exact h.ok (hok (exS_ok e))⟩
end Go.Proofs.YtnphaaahdlkmhaaGreat
end
