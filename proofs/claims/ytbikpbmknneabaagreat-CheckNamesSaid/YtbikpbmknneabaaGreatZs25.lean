/-
  What the document's own node does where a node ends with a semicolon. Conditions: those that each theorem names.
-/
import Derived.Test.YtbikpbmknneabaaGreatZs23
import Derived.Test.YtbikpbmknneabaaGreatZs24
namespace Go.Proofs.YtbikpbmknneabaaGreat
open Go.ChangeShapes Go.WideShapes Go.ChangeAt Go.RowKit
set_option maxRecDepth 100000
set_option maxHeartbeats 8000000
attribute [local go_sem ↓] loadNd_of storeNd_of

theorem rnode_13 {gp g n cp L d d1 D : Nat} {ts : List Tk} {sub : St → Nd × St} (hd1 : d1 = d + 1) (hds : d ≤ 40) {w : World} {σ : St} (h : RT w gp g n cp ts L σ) (hg : g < w.heap.size) (hy : isS ts [111, 107] σ = true) :
    Calls Tryz.prog 20 #[.pointer (some ⟨gp, 0, none⟩), .int .i64 (d : Int)] w (RNP w gp g n cp ts L (D + 1) (rndK ts sub 13 (σ.1 + 1, σ.2))) := by
  have he := isS_ok hy
  show Calls _ _ _ _ (RNP w gp g n cp ts L (D + 1) (.mk 13 0 0 [] x0 [] [], exS ts [59] (σ.1 + 1, σ.2)))
  have hgp := h.lt
  obtain ⟨W0, hW0⟩ : ∃ W, (w.alloc (.cells #[.int .i64 0, .int .i64 0, .int .i64 0, .string ⟨#[]⟩, .int .i64 0, .int .i64 0, .string ⟨#[]⟩, .slice none 0 0, .slice none 0 0, .slice none 0 0] 62)).alloc (.cells #[.int .i64 0, .int .i64 0, .int .i64 0, .string ⟨#[]⟩, .int .i64 0, .int .i64 0, .string ⟨#[]⟩, .slice none 0 0, .slice none 0 0, .slice none 0 0] 62) = W := ⟨_, rfl⟩
  have hN0 := NS5.start h hW0
  obtain ⟨W1, hW1⟩ : ∃ W, W0.alloc (.cells #[.string ⟨#[115, 101, 113]⟩, .string ⟨#[115, 101, 108]⟩, .string ⟨#[109, 115, 101, 113]⟩, .string ⟨#[109, 115, 101, 108]⟩, .string ⟨#[112, 97, 114]⟩] 9) = W := ⟨_, rfl⟩
  have t1 : Touch NoB W0 W1 := by rw [← hW1]; exact (Touch.refl _ _).alloc _
  have hN1 := hN0.quiet hgp t1
  have hwd : WdAt W1 W0.heap.size 5 manyW := words_at (by rw [← hW1]; exact alloc_blk _ _ _ rfl) rfl (by decide) rfl
  have hee : ((σ.2 : Int) != 0) = false := by rw [he]; rfl
  have hdd : decide ((40 : Int) < (d : Int)) = false := by simp; omega
  obtain ⟨c1, c2, cl⟩ := hN0.rt.cells
  have HN1 := Lib.hid (And.intro hN1 hwd)
  have HW1 := Lib.hid hwd
  have hsum : IntKind.i64.wrap ((d : Int) + 1) = (d1 : Int) := by rw [show (d : Int) + 1 = (d1 : Int) from by omega]; exact IntWalk.i64_in _ (by omega)
  clear h hN0 t1 hN1 hwd he
  go_enter Tryz.func20, Tryz.ntmps20
  go_wp2
  go_loopw [7] (fun v wr => NlRel w gp g n cp ts L σ W1 5 v wr) (fun v _ => 6 - (intOf v).toNat)
  case atStart => exact ⟨0, Nat.zero_le _, rfl, HN1.out.1, Touch.refl _ _⟩
  case round =>
    obtain ⟨i, hi, rfl, hN, hT⟩ := hrel
    have hwdr := wd_touch HN1.out.2 hT
    have HNr := Lib.hid hN
    have hNl := hN.lt
    have hwl := hwdr.2.1
    by_cases hlt : i < 5
    · obtain ⟨s, hs⟩ : ∃ s, manyW[i]? = some s := ⟨manyW[i]'(by have : manyW.length = 5 := rfl; omega), List.getElem?_eq_getElem _⟩
      have hcell := hwdr.2.2 i s hs
      have hno : isS ts s σ = false := isS_other hy ((by decide : ∀ q ∈ manyW, q ≠ [111, 107]) s (List.mem_of_getElem? hs))
      have HC := Lib.hid (t_no hN.rt s hno)
      have HT := Lib.hid hT
      obtain ⟨sx, hsx⟩ : ∃ sx, bs s = sx := ⟨_, rfl⟩
      rw [hsx] at hcell HC
      have hi5 : (i : Int) < 5 := by omega
      clear hN hT hwdr hs hno hsx
      go_wp2_with fail
      refine HC.out.mono ?_
      rintro x w2 ⟨rfl, hr2, ht2⟩
      have HE := Lib.hid (And.intro (HNr.out.quiet hgp ht2) (HT.out.same ht2))
      clear hr2 ht2
      go_wp2
      go_roundw
      case rel => exact ⟨i + 1, by omega, by go_num, HE.out.1, HE.out.2⟩
      case measure => simp [intOf]; omega
    · obtain rfl : i = 5 := by omega
      clear hwdr
      have HS := Lib.hid HNr.out
      clear hN hT HNr
      have HC := Lib.hid (t_no HS.out.rt [110, 111, 116] (isS_other hy (by decide)))
      go_wp2_with fail
      refine HC.out.mono ?_
      rintro x w21 ⟨rfl, -, ht⟩
      have hn := HS.out.quiet hgp ht
      clear HS
      have HS := Lib.hid hn
      have hNl := hn.lt
      clear ht hn HC
      have HC := Lib.hid (t_no HS.out.rt [114, 101, 112, 101, 97, 116] (isS_other hy (by decide)))
      go_wp2_with fail
      refine HC.out.mono ?_
      rintro x w22 ⟨rfl, -, ht⟩
      have hn := HS.out.quiet hgp ht
      clear HS
      have HS := Lib.hid hn
      have hNl := hn.lt
      clear ht hn HC
      have HC := Lib.hid (t_no HS.out.rt [112, 105, 99, 107] (isS_other hy (by decide)))
      go_wp2_with fail
      refine HC.out.mono ?_
      rintro x w23 ⟨rfl, -, ht⟩
      have hn := HS.out.quiet hgp ht
      clear HS
      have HS := Lib.hid hn
      have hNl := hn.lt
      clear ht hn HC
      have HC := Lib.hid (t_no HS.out.rt [105, 102] (isS_other hy (by decide)))
      go_wp2_with fail
      refine HC.out.mono ?_
      rintro x w24 ⟨rfl, -, ht⟩
      have hn := HS.out.quiet hgp ht
      clear HS
      have HS := Lib.hid hn
      have hNl := hn.lt
      clear ht hn HC
      have HC := Lib.hid (t_no HS.out.rt [115, 101, 116] (isS_other hy (by decide)))
      go_wp2_with fail
      refine HC.out.mono ?_
      rintro x w25 ⟨rfl, -, ht⟩
      have hn := HS.out.quiet hgp ht
      clear HS
      have HS := Lib.hid hn
      have hNl := hn.lt
      clear ht hn HC
      have HC := Lib.hid (t_no HS.out.rt [100, 111] (isS_other hy (by decide)))
      go_wp2_with fail
      refine HC.out.mono ?_
      rintro x w26 ⟨rfl, -, ht⟩
      have hn := HS.out.quiet hgp ht
      clear HS
      have HS := Lib.hid hn
      have hNl := hn.lt
      clear ht hn HC
      have HC := Lib.hid (t_no HS.out.rt [117, 115, 101] (isS_other hy (by decide)))
      go_wp2_with fail
      refine HC.out.mono ?_
      rintro x w27 ⟨rfl, -, ht⟩
      have hn := HS.out.quiet hgp ht
      clear HS
      have HS := Lib.hid hn
      have hNl := hn.lt
      clear ht hn HC
      have HC := Lib.hid (t_no HS.out.rt [112, 108, 97, 110] (isS_other hy (by decide)))
      go_wp2_with fail
      refine HC.out.mono ?_
      rintro x w28 ⟨rfl, -, ht⟩
      have hn := HS.out.quiet hgp ht
      clear HS
      have HS := Lib.hid hn
      have hNl := hn.lt
      clear ht hn HC
      have HC := Lib.hid (t_yes HS.out.rt [111, 107] hy)
      go_wp2_with fail
      refine HC.out.mono ?_
      rintro x w29 ⟨rfl, hr, ht⟩
      have hn := HS.out.call hgp hr ht
      clear HS
      have HS := Lib.hid hn
      clear hr ht hn HC
      obtain ⟨q0, q1, q2, q3, q4, q5, q6, q7, q8, q9, ql⟩ := nd_cells HS.out.h5
      have f0 := HS.out.free 0
      have f1 := HS.out.free 1
      have f2 := HS.out.free 2
      have f3 := HS.out.free 3
      have f4 := HS.out.free 4
      have f5 := HS.out.free 5
      have f6 := HS.out.free 6
      have f7 := HS.out.free 7
      have f8 := HS.out.free 8
      have f9 := HS.out.free 9
      obtain ⟨w30, hw30⟩ : ∃ W, w29.setCell ⟨w.heap.size + 1, 0, none⟩ (.int .i64 13) = W := ⟨_, rfl⟩
      have hn := HS.out.set hgp hg 0 (.int .i64 13) (us := [.int .i64 13, .int .i64 0, .int .i64 0, .string ⟨#[]⟩, .int .i64 0, .int .i64 0, .string ⟨#[]⟩, .slice none 0 0, .slice none 0 0, .slice none 0 0]) rfl
      rw [hw30] at hn
      clear HS
      have HS := Lib.hid hn
      clear hn
      have HC := Lib.hid (t_want HS.out.rt [59])
      go_wp2_with fail
      refine HC.out.mono ?_
      rintro x w31 ⟨rfl, hr, ht⟩
      have hn := HS.out.call hgp hr ht
      clear HS
      have HS := Lib.hid hn
      have HTL := Lib.hid (show Touch (F3 gp w) w30 w31 from ht.mono (fun k hk => .inl hk))
      clear hr ht hn HC
      try clear q0 q1 q2 q3 q4 q5 q6 q7 q8 q9 ql f0 f1 f2 f3 f4 f5 f6 f7 f8 f9
      obtain ⟨hld, W9, hst, hra, hr9, ht9, ht3⟩ := HS.out.fin hgp hg rfl (by intro v hv; simp only [List.mem_cons, List.not_mem_nil, or_false] at hv; rcases hv with rfl | rfl | rfl | rfl | rfl | rfl | rfl | rfl | rfl | rfl <;> rfl)
      obtain ⟨y0, y1, y2, y3, y4, y5, y6, y7, y8, y9⟩ := range_cells hra
      have HZ := Lib.hid (And.intro hr9 (And.intro ht9 ht3))
      have hNl := HS.out.lt
      clear hra hr9 ht9 ht3
      go_wp2
      exact bodyPost_ret (v := .agg #[.int .i64 13, .int .i64 0, .int .i64 0, .string ⟨#[]⟩, .int .i64 0, .int .i64 0, .string ⟨#[]⟩, .slice none 0 0, .slice none 0 0, .slice none 0 0]) (by simp [results, Tryz.results20, go_sem, y0, y1, y2, y3, y4, y5, y6, y7, y8, y9]) rfl
        ⟨HZ.out.2.1, HZ.out.1, .mk 13 0 0 [] x0 [] [], 0, 0, ⟨#[]⟩, none, 0, 0, none, 0, none, 0, rfl, nt_leaf (et_zero _ _), fun _ => rfl⟩
theorem rnode_14 {gp g n cp L d d1 D : Nat} {ts : List Tk} {sub : St → Nd × St} (hd1 : d1 = d + 1) (hds : d ≤ 40) {w : World} {σ : St} (h : RT w gp g n cp ts L σ) (hg : g < w.heap.size) (hy : isS ts [102, 97, 105, 108] σ = true) :
    Calls Tryz.prog 20 #[.pointer (some ⟨gp, 0, none⟩), .int .i64 (d : Int)] w (RNP w gp g n cp ts L (D + 1) (rndK ts sub 14 (σ.1 + 1, σ.2))) := by
  have he := isS_ok hy
  show Calls _ _ _ _ (RNP w gp g n cp ts L (D + 1) (.mk 14 0 0 [] x0 [] [], exS ts [59] (σ.1 + 1, σ.2)))
  have hgp := h.lt
  obtain ⟨W0, hW0⟩ : ∃ W, (w.alloc (.cells #[.int .i64 0, .int .i64 0, .int .i64 0, .string ⟨#[]⟩, .int .i64 0, .int .i64 0, .string ⟨#[]⟩, .slice none 0 0, .slice none 0 0, .slice none 0 0] 62)).alloc (.cells #[.int .i64 0, .int .i64 0, .int .i64 0, .string ⟨#[]⟩, .int .i64 0, .int .i64 0, .string ⟨#[]⟩, .slice none 0 0, .slice none 0 0, .slice none 0 0] 62) = W := ⟨_, rfl⟩
  have hN0 := NS5.start h hW0
  obtain ⟨W1, hW1⟩ : ∃ W, W0.alloc (.cells #[.string ⟨#[115, 101, 113]⟩, .string ⟨#[115, 101, 108]⟩, .string ⟨#[109, 115, 101, 113]⟩, .string ⟨#[109, 115, 101, 108]⟩, .string ⟨#[112, 97, 114]⟩] 9) = W := ⟨_, rfl⟩
  have t1 : Touch NoB W0 W1 := by rw [← hW1]; exact (Touch.refl _ _).alloc _
  have hN1 := hN0.quiet hgp t1
  have hwd : WdAt W1 W0.heap.size 5 manyW := words_at (by rw [← hW1]; exact alloc_blk _ _ _ rfl) rfl (by decide) rfl
  have hee : ((σ.2 : Int) != 0) = false := by rw [he]; rfl
  have hdd : decide ((40 : Int) < (d : Int)) = false := by simp; omega
  obtain ⟨c1, c2, cl⟩ := hN0.rt.cells
  have HN1 := Lib.hid (And.intro hN1 hwd)
  have HW1 := Lib.hid hwd
  have hsum : IntKind.i64.wrap ((d : Int) + 1) = (d1 : Int) := by rw [show (d : Int) + 1 = (d1 : Int) from by omega]; exact IntWalk.i64_in _ (by omega)
  clear h hN0 t1 hN1 hwd he
  go_enter Tryz.func20, Tryz.ntmps20
  go_wp2
  go_loopw [7] (fun v wr => NlRel w gp g n cp ts L σ W1 5 v wr) (fun v _ => 6 - (intOf v).toNat)
  case atStart => exact ⟨0, Nat.zero_le _, rfl, HN1.out.1, Touch.refl _ _⟩
  case round =>
    obtain ⟨i, hi, rfl, hN, hT⟩ := hrel
    have hwdr := wd_touch HN1.out.2 hT
    have HNr := Lib.hid hN
    have hNl := hN.lt
    have hwl := hwdr.2.1
    by_cases hlt : i < 5
    · obtain ⟨s, hs⟩ : ∃ s, manyW[i]? = some s := ⟨manyW[i]'(by have : manyW.length = 5 := rfl; omega), List.getElem?_eq_getElem _⟩
      have hcell := hwdr.2.2 i s hs
      have hno : isS ts s σ = false := isS_other hy ((by decide : ∀ q ∈ manyW, q ≠ [102, 97, 105, 108]) s (List.mem_of_getElem? hs))
      have HC := Lib.hid (t_no hN.rt s hno)
      have HT := Lib.hid hT
      obtain ⟨sx, hsx⟩ : ∃ sx, bs s = sx := ⟨_, rfl⟩
      rw [hsx] at hcell HC
      have hi5 : (i : Int) < 5 := by omega
      clear hN hT hwdr hs hno hsx
      go_wp2_with fail
      refine HC.out.mono ?_
      rintro x w2 ⟨rfl, hr2, ht2⟩
      have HE := Lib.hid (And.intro (HNr.out.quiet hgp ht2) (HT.out.same ht2))
      clear hr2 ht2
      go_wp2
      go_roundw
      case rel => exact ⟨i + 1, by omega, by go_num, HE.out.1, HE.out.2⟩
      case measure => simp [intOf]; omega
    · obtain rfl : i = 5 := by omega
      clear hwdr
      have HS := Lib.hid HNr.out
      clear hN hT HNr
      have HC := Lib.hid (t_no HS.out.rt [110, 111, 116] (isS_other hy (by decide)))
      go_wp2_with fail
      refine HC.out.mono ?_
      rintro x w21 ⟨rfl, -, ht⟩
      have hn := HS.out.quiet hgp ht
      clear HS
      have HS := Lib.hid hn
      have hNl := hn.lt
      clear ht hn HC
      have HC := Lib.hid (t_no HS.out.rt [114, 101, 112, 101, 97, 116] (isS_other hy (by decide)))
      go_wp2_with fail
      refine HC.out.mono ?_
      rintro x w22 ⟨rfl, -, ht⟩
      have hn := HS.out.quiet hgp ht
      clear HS
      have HS := Lib.hid hn
      have hNl := hn.lt
      clear ht hn HC
      have HC := Lib.hid (t_no HS.out.rt [112, 105, 99, 107] (isS_other hy (by decide)))
      go_wp2_with fail
      refine HC.out.mono ?_
      rintro x w23 ⟨rfl, -, ht⟩
      have hn := HS.out.quiet hgp ht
      clear HS
      have HS := Lib.hid hn
      have hNl := hn.lt
      clear ht hn HC
      have HC := Lib.hid (t_no HS.out.rt [105, 102] (isS_other hy (by decide)))
      go_wp2_with fail
      refine HC.out.mono ?_
      rintro x w24 ⟨rfl, -, ht⟩
      have hn := HS.out.quiet hgp ht
      clear HS
      have HS := Lib.hid hn
      have hNl := hn.lt
      clear ht hn HC
      have HC := Lib.hid (t_no HS.out.rt [115, 101, 116] (isS_other hy (by decide)))
      go_wp2_with fail
      refine HC.out.mono ?_
      rintro x w25 ⟨rfl, -, ht⟩
      have hn := HS.out.quiet hgp ht
      clear HS
      have HS := Lib.hid hn
      have hNl := hn.lt
      clear ht hn HC
      have HC := Lib.hid (t_no HS.out.rt [100, 111] (isS_other hy (by decide)))
      go_wp2_with fail
      refine HC.out.mono ?_
      rintro x w26 ⟨rfl, -, ht⟩
      have hn := HS.out.quiet hgp ht
      clear HS
      have HS := Lib.hid hn
      have hNl := hn.lt
      clear ht hn HC
      have HC := Lib.hid (t_no HS.out.rt [117, 115, 101] (isS_other hy (by decide)))
      go_wp2_with fail
      refine HC.out.mono ?_
      rintro x w27 ⟨rfl, -, ht⟩
      have hn := HS.out.quiet hgp ht
      clear HS
      have HS := Lib.hid hn
      have hNl := hn.lt
      clear ht hn HC
      have HC := Lib.hid (t_no HS.out.rt [112, 108, 97, 110] (isS_other hy (by decide)))
      go_wp2_with fail
      refine HC.out.mono ?_
      rintro x w28 ⟨rfl, -, ht⟩
      have hn := HS.out.quiet hgp ht
      clear HS
      have HS := Lib.hid hn
      have hNl := hn.lt
      clear ht hn HC
      have HC := Lib.hid (t_no HS.out.rt [111, 107] (isS_other hy (by decide)))
      go_wp2_with fail
      refine HC.out.mono ?_
      rintro x w29 ⟨rfl, -, ht⟩
      have hn := HS.out.quiet hgp ht
      clear HS
      have HS := Lib.hid hn
      have hNl := hn.lt
      clear ht hn HC
      have HC := Lib.hid (t_yes HS.out.rt [102, 97, 105, 108] hy)
      go_wp2_with fail
      refine HC.out.mono ?_
      rintro x w30 ⟨rfl, hr, ht⟩
      have hn := HS.out.call hgp hr ht
      clear HS
      have HS := Lib.hid hn
      clear hr ht hn HC
      obtain ⟨q0, q1, q2, q3, q4, q5, q6, q7, q8, q9, ql⟩ := nd_cells HS.out.h5
      have f0 := HS.out.free 0
      have f1 := HS.out.free 1
      have f2 := HS.out.free 2
      have f3 := HS.out.free 3
      have f4 := HS.out.free 4
      have f5 := HS.out.free 5
      have f6 := HS.out.free 6
      have f7 := HS.out.free 7
      have f8 := HS.out.free 8
      have f9 := HS.out.free 9
      obtain ⟨w31, hw31⟩ : ∃ W, w30.setCell ⟨w.heap.size + 1, 0, none⟩ (.int .i64 14) = W := ⟨_, rfl⟩
      have hn := HS.out.set hgp hg 0 (.int .i64 14) (us := [.int .i64 14, .int .i64 0, .int .i64 0, .string ⟨#[]⟩, .int .i64 0, .int .i64 0, .string ⟨#[]⟩, .slice none 0 0, .slice none 0 0, .slice none 0 0]) rfl
      rw [hw31] at hn
      clear HS
      have HS := Lib.hid hn
      clear hn
      have HC := Lib.hid (t_want HS.out.rt [59])
      go_wp2_with fail
      refine HC.out.mono ?_
      rintro x w32 ⟨rfl, hr, ht⟩
      have hn := HS.out.call hgp hr ht
      clear HS
      have HS := Lib.hid hn
      have HTL := Lib.hid (show Touch (F3 gp w) w31 w32 from ht.mono (fun k hk => .inl hk))
      clear hr ht hn HC
      try clear q0 q1 q2 q3 q4 q5 q6 q7 q8 q9 ql f0 f1 f2 f3 f4 f5 f6 f7 f8 f9
      obtain ⟨hld, W9, hst, hra, hr9, ht9, ht3⟩ := HS.out.fin hgp hg rfl (by intro v hv; simp only [List.mem_cons, List.not_mem_nil, or_false] at hv; rcases hv with rfl | rfl | rfl | rfl | rfl | rfl | rfl | rfl | rfl | rfl <;> rfl)
      obtain ⟨y0, y1, y2, y3, y4, y5, y6, y7, y8, y9⟩ := range_cells hra
      have HZ := Lib.hid (And.intro hr9 (And.intro ht9 ht3))
      have hNl := HS.out.lt
      clear hra hr9 ht9 ht3
      go_wp2
      exact bodyPost_ret (v := .agg #[.int .i64 14, .int .i64 0, .int .i64 0, .string ⟨#[]⟩, .int .i64 0, .int .i64 0, .string ⟨#[]⟩, .slice none 0 0, .slice none 0 0, .slice none 0 0]) (by simp [results, Tryz.results20, go_sem, y0, y1, y2, y3, y4, y5, y6, y7, y8, y9]) rfl
        ⟨HZ.out.2.1, HZ.out.1, .mk 14 0 0 [] x0 [] [], 0, 0, ⟨#[]⟩, none, 0, 0, none, 0, none, 0, rfl, nt_leaf (et_zero _ _), fun _ => rfl⟩
theorem rnode_15 {gp g n cp L d d1 D : Nat} {ts : List Tk} {sub : St → Nd × St} (hd1 : d1 = d + 1) (hds : d ≤ 40) {w : World} {σ : St} (h : RT w gp g n cp ts L σ) (hg : g < w.heap.size) (hy : isS ts [119, 97, 105, 116] σ = true) :
    Calls Tryz.prog 20 #[.pointer (some ⟨gp, 0, none⟩), .int .i64 (d : Int)] w (RNP w gp g n cp ts L (D + 1) (rndK ts sub 15 (σ.1 + 1, σ.2))) := by
  have he := isS_ok hy
  show Calls _ _ _ _ (RNP w gp g n cp ts L (D + 1) (.mk 15 0 0 [] x0 [] [], exS ts [59] (σ.1 + 1, σ.2)))
  have hgp := h.lt
  obtain ⟨W0, hW0⟩ : ∃ W, (w.alloc (.cells #[.int .i64 0, .int .i64 0, .int .i64 0, .string ⟨#[]⟩, .int .i64 0, .int .i64 0, .string ⟨#[]⟩, .slice none 0 0, .slice none 0 0, .slice none 0 0] 62)).alloc (.cells #[.int .i64 0, .int .i64 0, .int .i64 0, .string ⟨#[]⟩, .int .i64 0, .int .i64 0, .string ⟨#[]⟩, .slice none 0 0, .slice none 0 0, .slice none 0 0] 62) = W := ⟨_, rfl⟩
  have hN0 := NS5.start h hW0
  obtain ⟨W1, hW1⟩ : ∃ W, W0.alloc (.cells #[.string ⟨#[115, 101, 113]⟩, .string ⟨#[115, 101, 108]⟩, .string ⟨#[109, 115, 101, 113]⟩, .string ⟨#[109, 115, 101, 108]⟩, .string ⟨#[112, 97, 114]⟩] 9) = W := ⟨_, rfl⟩
  have t1 : Touch NoB W0 W1 := by rw [← hW1]; exact (Touch.refl _ _).alloc _
  have hN1 := hN0.quiet hgp t1
  have hwd : WdAt W1 W0.heap.size 5 manyW := words_at (by rw [← hW1]; exact alloc_blk _ _ _ rfl) rfl (by decide) rfl
  have hee : ((σ.2 : Int) != 0) = false := by rw [he]; rfl
  have hdd : decide ((40 : Int) < (d : Int)) = false := by simp; omega
  obtain ⟨c1, c2, cl⟩ := hN0.rt.cells
  have HN1 := Lib.hid (And.intro hN1 hwd)
  have HW1 := Lib.hid hwd
  have hsum : IntKind.i64.wrap ((d : Int) + 1) = (d1 : Int) := by rw [show (d : Int) + 1 = (d1 : Int) from by omega]; exact IntWalk.i64_in _ (by omega)
  clear h hN0 t1 hN1 hwd he
  go_enter Tryz.func20, Tryz.ntmps20
  go_wp2
  go_loopw [7] (fun v wr => NlRel w gp g n cp ts L σ W1 5 v wr) (fun v _ => 6 - (intOf v).toNat)
  case atStart => exact ⟨0, Nat.zero_le _, rfl, HN1.out.1, Touch.refl _ _⟩
  case round =>
    obtain ⟨i, hi, rfl, hN, hT⟩ := hrel
    have hwdr := wd_touch HN1.out.2 hT
    have HNr := Lib.hid hN
    have hNl := hN.lt
    have hwl := hwdr.2.1
    by_cases hlt : i < 5
    · obtain ⟨s, hs⟩ : ∃ s, manyW[i]? = some s := ⟨manyW[i]'(by have : manyW.length = 5 := rfl; omega), List.getElem?_eq_getElem _⟩
      have hcell := hwdr.2.2 i s hs
      have hno : isS ts s σ = false := isS_other hy ((by decide : ∀ q ∈ manyW, q ≠ [119, 97, 105, 116]) s (List.mem_of_getElem? hs))
      have HC := Lib.hid (t_no hN.rt s hno)
      have HT := Lib.hid hT
      obtain ⟨sx, hsx⟩ : ∃ sx, bs s = sx := ⟨_, rfl⟩
      rw [hsx] at hcell HC
      have hi5 : (i : Int) < 5 := by omega
      clear hN hT hwdr hs hno hsx
      go_wp2_with fail
      refine HC.out.mono ?_
      rintro x w2 ⟨rfl, hr2, ht2⟩
      have HE := Lib.hid (And.intro (HNr.out.quiet hgp ht2) (HT.out.same ht2))
      clear hr2 ht2
      go_wp2
      go_roundw
      case rel => exact ⟨i + 1, by omega, by go_num, HE.out.1, HE.out.2⟩
      case measure => simp [intOf]; omega
    · obtain rfl : i = 5 := by omega
      clear hwdr
      have HS := Lib.hid HNr.out
      clear hN hT HNr
      have HC := Lib.hid (t_no HS.out.rt [110, 111, 116] (isS_other hy (by decide)))
      go_wp2_with fail
      refine HC.out.mono ?_
      rintro x w21 ⟨rfl, -, ht⟩
      have hn := HS.out.quiet hgp ht
      clear HS
      have HS := Lib.hid hn
      have hNl := hn.lt
      clear ht hn HC
      have HC := Lib.hid (t_no HS.out.rt [114, 101, 112, 101, 97, 116] (isS_other hy (by decide)))
      go_wp2_with fail
      refine HC.out.mono ?_
      rintro x w22 ⟨rfl, -, ht⟩
      have hn := HS.out.quiet hgp ht
      clear HS
      have HS := Lib.hid hn
      have hNl := hn.lt
      clear ht hn HC
      have HC := Lib.hid (t_no HS.out.rt [112, 105, 99, 107] (isS_other hy (by decide)))
      go_wp2_with fail
      refine HC.out.mono ?_
      rintro x w23 ⟨rfl, -, ht⟩
      have hn := HS.out.quiet hgp ht
      clear HS
      have HS := Lib.hid hn
      have hNl := hn.lt
      clear ht hn HC
      have HC := Lib.hid (t_no HS.out.rt [105, 102] (isS_other hy (by decide)))
      go_wp2_with fail
      refine HC.out.mono ?_
      rintro x w24 ⟨rfl, -, ht⟩
      have hn := HS.out.quiet hgp ht
      clear HS
      have HS := Lib.hid hn
      have hNl := hn.lt
      clear ht hn HC
      have HC := Lib.hid (t_no HS.out.rt [115, 101, 116] (isS_other hy (by decide)))
      go_wp2_with fail
      refine HC.out.mono ?_
      rintro x w25 ⟨rfl, -, ht⟩
      have hn := HS.out.quiet hgp ht
      clear HS
      have HS := Lib.hid hn
      have hNl := hn.lt
      clear ht hn HC
      have HC := Lib.hid (t_no HS.out.rt [100, 111] (isS_other hy (by decide)))
      go_wp2_with fail
      refine HC.out.mono ?_
      rintro x w26 ⟨rfl, -, ht⟩
      have hn := HS.out.quiet hgp ht
      clear HS
      have HS := Lib.hid hn
      have hNl := hn.lt
      clear ht hn HC
      have HC := Lib.hid (t_no HS.out.rt [117, 115, 101] (isS_other hy (by decide)))
      go_wp2_with fail
      refine HC.out.mono ?_
      rintro x w27 ⟨rfl, -, ht⟩
      have hn := HS.out.quiet hgp ht
      clear HS
      have HS := Lib.hid hn
      have hNl := hn.lt
      clear ht hn HC
      have HC := Lib.hid (t_no HS.out.rt [112, 108, 97, 110] (isS_other hy (by decide)))
      go_wp2_with fail
      refine HC.out.mono ?_
      rintro x w28 ⟨rfl, -, ht⟩
      have hn := HS.out.quiet hgp ht
      clear HS
      have HS := Lib.hid hn
      have hNl := hn.lt
      clear ht hn HC
      have HC := Lib.hid (t_no HS.out.rt [111, 107] (isS_other hy (by decide)))
      go_wp2_with fail
      refine HC.out.mono ?_
      rintro x w29 ⟨rfl, -, ht⟩
      have hn := HS.out.quiet hgp ht
      clear HS
      have HS := Lib.hid hn
      have hNl := hn.lt
      clear ht hn HC
      have HC := Lib.hid (t_no HS.out.rt [102, 97, 105, 108] (isS_other hy (by decide)))
      go_wp2_with fail
      refine HC.out.mono ?_
      rintro x w30 ⟨rfl, -, ht⟩
      have hn := HS.out.quiet hgp ht
      clear HS
      have HS := Lib.hid hn
      have hNl := hn.lt
      clear ht hn HC
      have HC := Lib.hid (t_yes HS.out.rt [119, 97, 105, 116] hy)
      go_wp2_with fail
      refine HC.out.mono ?_
      rintro x w31 ⟨rfl, hr, ht⟩
      have hn := HS.out.call hgp hr ht
      clear HS
      have HS := Lib.hid hn
      clear hr ht hn HC
      obtain ⟨q0, q1, q2, q3, q4, q5, q6, q7, q8, q9, ql⟩ := nd_cells HS.out.h5
      have f0 := HS.out.free 0
      have f1 := HS.out.free 1
      have f2 := HS.out.free 2
      have f3 := HS.out.free 3
      have f4 := HS.out.free 4
      have f5 := HS.out.free 5
      have f6 := HS.out.free 6
      have f7 := HS.out.free 7
      have f8 := HS.out.free 8
      have f9 := HS.out.free 9
      obtain ⟨w32, hw32⟩ : ∃ W, w31.setCell ⟨w.heap.size + 1, 0, none⟩ (.int .i64 15) = W := ⟨_, rfl⟩
      have hn := HS.out.set hgp hg 0 (.int .i64 15) (us := [.int .i64 15, .int .i64 0, .int .i64 0, .string ⟨#[]⟩, .int .i64 0, .int .i64 0, .string ⟨#[]⟩, .slice none 0 0, .slice none 0 0, .slice none 0 0]) rfl
      rw [hw32] at hn
      clear HS
      have HS := Lib.hid hn
      clear hn
      have HC := Lib.hid (t_want HS.out.rt [59])
      go_wp2_with fail
      refine HC.out.mono ?_
      rintro x w33 ⟨rfl, hr, ht⟩
      have hn := HS.out.call hgp hr ht
      clear HS
      have HS := Lib.hid hn
      have HTL := Lib.hid (show Touch (F3 gp w) w32 w33 from ht.mono (fun k hk => .inl hk))
      clear hr ht hn HC
      try clear q0 q1 q2 q3 q4 q5 q6 q7 q8 q9 ql f0 f1 f2 f3 f4 f5 f6 f7 f8 f9
      obtain ⟨hld, W9, hst, hra, hr9, ht9, ht3⟩ := HS.out.fin hgp hg rfl (by intro v hv; simp only [List.mem_cons, List.not_mem_nil, or_false] at hv; rcases hv with rfl | rfl | rfl | rfl | rfl | rfl | rfl | rfl | rfl | rfl <;> rfl)
      obtain ⟨y0, y1, y2, y3, y4, y5, y6, y7, y8, y9⟩ := range_cells hra
      have HZ := Lib.hid (And.intro hr9 (And.intro ht9 ht3))
      have hNl := HS.out.lt
      clear hra hr9 ht9 ht3
      go_wp2
      exact bodyPost_ret (v := .agg #[.int .i64 15, .int .i64 0, .int .i64 0, .string ⟨#[]⟩, .int .i64 0, .int .i64 0, .string ⟨#[]⟩, .slice none 0 0, .slice none 0 0, .slice none 0 0]) (by simp [results, Tryz.results20, go_sem, y0, y1, y2, y3, y4, y5, y6, y7, y8, y9]) rfl
        ⟨HZ.out.2.1, HZ.out.1, .mk 15 0 0 [] x0 [] [], 0, 0, ⟨#[]⟩, none, 0, 0, none, 0, none, 0, rfl, nt_leaf (et_zero _ _), fun _ => rfl⟩
theorem rnode_9 {gp g n cp L d d1 D : Nat} {ts : List Tk} {sub : St → Nd × St} (hd1 : d1 = d + 1) (hds : d ≤ 40) {w : World} {σ : St} (h : RT w gp g n cp ts L σ) (hg : g < w.heap.size) (hy : isS ts [100, 111] σ = true) :
    Calls Tryz.prog 20 #[.pointer (some ⟨gp, 0, none⟩), .int .i64 (d : Int)] w (RNP w gp g n cp ts L (D + 1) (rndK ts sub 9 (σ.1 + 1, σ.2))) := by
  have he := isS_ok hy
  show Calls _ _ _ _ (RNP w gp g n cp ts L (D + 1) (.mk 9 0 0 (naV ts (σ.1 + 1, σ.2)) x0 [] [], exS ts [59] (naS ts (σ.1 + 1, σ.2))))
  have hgp := h.lt
  obtain ⟨W0, hW0⟩ : ∃ W, (w.alloc (.cells #[.int .i64 0, .int .i64 0, .int .i64 0, .string ⟨#[]⟩, .int .i64 0, .int .i64 0, .string ⟨#[]⟩, .slice none 0 0, .slice none 0 0, .slice none 0 0] 62)).alloc (.cells #[.int .i64 0, .int .i64 0, .int .i64 0, .string ⟨#[]⟩, .int .i64 0, .int .i64 0, .string ⟨#[]⟩, .slice none 0 0, .slice none 0 0, .slice none 0 0] 62) = W := ⟨_, rfl⟩
  have hN0 := NS5.start h hW0
  obtain ⟨W1, hW1⟩ : ∃ W, W0.alloc (.cells #[.string ⟨#[115, 101, 113]⟩, .string ⟨#[115, 101, 108]⟩, .string ⟨#[109, 115, 101, 113]⟩, .string ⟨#[109, 115, 101, 108]⟩, .string ⟨#[112, 97, 114]⟩] 9) = W := ⟨_, rfl⟩
  have t1 : Touch NoB W0 W1 := by rw [← hW1]; exact (Touch.refl _ _).alloc _
  have hN1 := hN0.quiet hgp t1
  have hwd : WdAt W1 W0.heap.size 5 manyW := words_at (by rw [← hW1]; exact alloc_blk _ _ _ rfl) rfl (by decide) rfl
  have hee : ((σ.2 : Int) != 0) = false := by rw [he]; rfl
  have hdd : decide ((40 : Int) < (d : Int)) = false := by simp; omega
  obtain ⟨c1, c2, cl⟩ := hN0.rt.cells
  have HN1 := Lib.hid (And.intro hN1 hwd)
  have HW1 := Lib.hid hwd
  have hsum : IntKind.i64.wrap ((d : Int) + 1) = (d1 : Int) := by rw [show (d : Int) + 1 = (d1 : Int) from by omega]; exact IntWalk.i64_in _ (by omega)
  clear h hN0 t1 hN1 hwd he
  go_enter Tryz.func20, Tryz.ntmps20
  go_wp2
  go_loopw [7] (fun v wr => NlRel w gp g n cp ts L σ W1 5 v wr) (fun v _ => 6 - (intOf v).toNat)
  case atStart => exact ⟨0, Nat.zero_le _, rfl, HN1.out.1, Touch.refl _ _⟩
  case round =>
    obtain ⟨i, hi, rfl, hN, hT⟩ := hrel
    have hwdr := wd_touch HN1.out.2 hT
    have HNr := Lib.hid hN
    have hNl := hN.lt
    have hwl := hwdr.2.1
    by_cases hlt : i < 5
    · obtain ⟨s, hs⟩ : ∃ s, manyW[i]? = some s := ⟨manyW[i]'(by have : manyW.length = 5 := rfl; omega), List.getElem?_eq_getElem _⟩
      have hcell := hwdr.2.2 i s hs
      have hno : isS ts s σ = false := isS_other hy ((by decide : ∀ q ∈ manyW, q ≠ [100, 111]) s (List.mem_of_getElem? hs))
      have HC := Lib.hid (t_no hN.rt s hno)
      have HT := Lib.hid hT
      obtain ⟨sx, hsx⟩ : ∃ sx, bs s = sx := ⟨_, rfl⟩
      rw [hsx] at hcell HC
      have hi5 : (i : Int) < 5 := by omega
      clear hN hT hwdr hs hno hsx
      go_wp2_with fail
      refine HC.out.mono ?_
      rintro x w2 ⟨rfl, hr2, ht2⟩
      have HE := Lib.hid (And.intro (HNr.out.quiet hgp ht2) (HT.out.same ht2))
      clear hr2 ht2
      go_wp2
      go_roundw
      case rel => exact ⟨i + 1, by omega, by go_num, HE.out.1, HE.out.2⟩
      case measure => simp [intOf]; omega
    · obtain rfl : i = 5 := by omega
      clear hwdr
      have HS := Lib.hid HNr.out
      clear hN hT HNr
      have HC := Lib.hid (t_no HS.out.rt [110, 111, 116] (isS_other hy (by decide)))
      go_wp2_with fail
      refine HC.out.mono ?_
      rintro x w21 ⟨rfl, -, ht⟩
      have hn := HS.out.quiet hgp ht
      clear HS
      have HS := Lib.hid hn
      have hNl := hn.lt
      clear ht hn HC
      have HC := Lib.hid (t_no HS.out.rt [114, 101, 112, 101, 97, 116] (isS_other hy (by decide)))
      go_wp2_with fail
      refine HC.out.mono ?_
      rintro x w22 ⟨rfl, -, ht⟩
      have hn := HS.out.quiet hgp ht
      clear HS
      have HS := Lib.hid hn
      have hNl := hn.lt
      clear ht hn HC
      have HC := Lib.hid (t_no HS.out.rt [112, 105, 99, 107] (isS_other hy (by decide)))
      go_wp2_with fail
      refine HC.out.mono ?_
      rintro x w23 ⟨rfl, -, ht⟩
      have hn := HS.out.quiet hgp ht
      clear HS
      have HS := Lib.hid hn
      have hNl := hn.lt
      clear ht hn HC
      have HC := Lib.hid (t_no HS.out.rt [105, 102] (isS_other hy (by decide)))
      go_wp2_with fail
      refine HC.out.mono ?_
      rintro x w24 ⟨rfl, -, ht⟩
      have hn := HS.out.quiet hgp ht
      clear HS
      have HS := Lib.hid hn
      have hNl := hn.lt
      clear ht hn HC
      have HC := Lib.hid (t_no HS.out.rt [115, 101, 116] (isS_other hy (by decide)))
      go_wp2_with fail
      refine HC.out.mono ?_
      rintro x w25 ⟨rfl, -, ht⟩
      have hn := HS.out.quiet hgp ht
      clear HS
      have HS := Lib.hid hn
      have hNl := hn.lt
      clear ht hn HC
      have HC := Lib.hid (t_yes HS.out.rt [100, 111] hy)
      go_wp2_with fail
      refine HC.out.mono ?_
      rintro x w26 ⟨rfl, hr, ht⟩
      have hn := HS.out.call hgp hr ht
      clear HS
      have HS := Lib.hid hn
      clear hr ht hn HC
      obtain ⟨q0, q1, q2, q3, q4, q5, q6, q7, q8, q9, ql⟩ := nd_cells HS.out.h5
      have f0 := HS.out.free 0
      have f1 := HS.out.free 1
      have f2 := HS.out.free 2
      have f3 := HS.out.free 3
      have f4 := HS.out.free 4
      have f5 := HS.out.free 5
      have f6 := HS.out.free 6
      have f7 := HS.out.free 7
      have f8 := HS.out.free 8
      have f9 := HS.out.free 9
      obtain ⟨w27, hw27⟩ : ∃ W, w26.setCell ⟨w.heap.size + 1, 0, none⟩ (.int .i64 9) = W := ⟨_, rfl⟩
      have hn := HS.out.set hgp hg 0 (.int .i64 9) (us := [.int .i64 9, .int .i64 0, .int .i64 0, .string ⟨#[]⟩, .int .i64 0, .int .i64 0, .string ⟨#[]⟩, .slice none 0 0, .slice none 0 0, .slice none 0 0]) rfl
      rw [hw27] at hn
      clear HS
      have HS := Lib.hid hn
      clear hn
      have HC := Lib.hid (t_name HS.out.rt)
      go_wp2_with fail
      refine HC.out.mono ?_
      rintro x w28 ⟨rfl, hr, ht⟩
      have hn := HS.out.call hgp hr ht
      clear HS
      have HS := Lib.hid hn
      clear hr ht hn HC
      try clear q0 q1 q2 q3 q4 q5 q6 q7 q8 q9 ql f0 f1 f2 f3 f4 f5 f6 f7 f8 f9
      obtain ⟨q0, q1, q2, q3, q4, q5, q6, q7, q8, q9, ql⟩ := nd_cells HS.out.h5
      have f0 := HS.out.free 0
      have f1 := HS.out.free 1
      have f2 := HS.out.free 2
      have f3 := HS.out.free 3
      have f4 := HS.out.free 4
      have f5 := HS.out.free 5
      have f6 := HS.out.free 6
      have f7 := HS.out.free 7
      have f8 := HS.out.free 8
      have f9 := HS.out.free 9
      obtain ⟨w29, hw29⟩ : ∃ W, w28.setCell ⟨w.heap.size + 1, 3, none⟩ (.string (bs (naV ts (σ.1 + 1, σ.2)))) = W := ⟨_, rfl⟩
      have hn := HS.out.set hgp hg 3 (.string (bs (naV ts (σ.1 + 1, σ.2)))) (us := [.int .i64 9, .int .i64 0, .int .i64 0, .string (bs (naV ts (σ.1 + 1, σ.2))), .int .i64 0, .int .i64 0, .string ⟨#[]⟩, .slice none 0 0, .slice none 0 0, .slice none 0 0]) rfl
      rw [hw29] at hn
      clear HS
      have HS := Lib.hid hn
      clear hn
      have HC := Lib.hid (t_want HS.out.rt [59])
      go_wp2_with fail
      refine HC.out.mono ?_
      rintro x w30 ⟨rfl, hr, ht⟩
      have hn := HS.out.call hgp hr ht
      clear HS
      have HS := Lib.hid hn
      have HTL := Lib.hid (show Touch (F3 gp w) w29 w30 from ht.mono (fun k hk => .inl hk))
      clear hr ht hn HC
      try clear q0 q1 q2 q3 q4 q5 q6 q7 q8 q9 ql f0 f1 f2 f3 f4 f5 f6 f7 f8 f9
      obtain ⟨hld, W9, hst, hra, hr9, ht9, ht3⟩ := HS.out.fin hgp hg rfl (by intro v hv; simp only [List.mem_cons, List.not_mem_nil, or_false] at hv; rcases hv with rfl | rfl | rfl | rfl | rfl | rfl | rfl | rfl | rfl | rfl <;> rfl)
      obtain ⟨y0, y1, y2, y3, y4, y5, y6, y7, y8, y9⟩ := range_cells hra
      have HZ := Lib.hid (And.intro hr9 (And.intro ht9 ht3))
      have hNl := HS.out.lt
      clear hra hr9 ht9 ht3
      go_wp2
      exact bodyPost_ret (v := .agg #[.int .i64 9, .int .i64 0, .int .i64 0, .string (bs (naV ts (σ.1 + 1, σ.2))), .int .i64 0, .int .i64 0, .string ⟨#[]⟩, .slice none 0 0, .slice none 0 0, .slice none 0 0]) (by simp [results, Tryz.results20, go_sem, y0, y1, y2, y3, y4, y5, y6, y7, y8, y9]) rfl
        ⟨HZ.out.2.1, HZ.out.1, .mk 9 0 0 (naV ts (σ.1 + 1, σ.2)) x0 [] [], 0, 0, ⟨#[]⟩, none, 0, 0, none, 0, none, 0, rfl, nt_leaf (et_zero _ _), fun _ => rfl⟩
theorem rnode_10 {gp g n cp L d d1 D : Nat} {ts : List Tk} {sub : St → Nd × St} (hd1 : d1 = d + 1) (hds : d ≤ 40) {w : World} {σ : St} (h : RT w gp g n cp ts L σ) (hg : g < w.heap.size) (hy : isS ts [117, 115, 101] σ = true) :
    Calls Tryz.prog 20 #[.pointer (some ⟨gp, 0, none⟩), .int .i64 (d : Int)] w (RNP w gp g n cp ts L (D + 1) (rndK ts sub 10 (σ.1 + 1, σ.2))) := by
  have he := isS_ok hy
  show Calls _ _ _ _ (RNP w gp g n cp ts L (D + 1) (.mk 10 0 0 (naV ts (σ.1 + 1, σ.2)) x0 [] [], exS ts [59] (naS ts (σ.1 + 1, σ.2))))
  have hgp := h.lt
  obtain ⟨W0, hW0⟩ : ∃ W, (w.alloc (.cells #[.int .i64 0, .int .i64 0, .int .i64 0, .string ⟨#[]⟩, .int .i64 0, .int .i64 0, .string ⟨#[]⟩, .slice none 0 0, .slice none 0 0, .slice none 0 0] 62)).alloc (.cells #[.int .i64 0, .int .i64 0, .int .i64 0, .string ⟨#[]⟩, .int .i64 0, .int .i64 0, .string ⟨#[]⟩, .slice none 0 0, .slice none 0 0, .slice none 0 0] 62) = W := ⟨_, rfl⟩
  have hN0 := NS5.start h hW0
  obtain ⟨W1, hW1⟩ : ∃ W, W0.alloc (.cells #[.string ⟨#[115, 101, 113]⟩, .string ⟨#[115, 101, 108]⟩, .string ⟨#[109, 115, 101, 113]⟩, .string ⟨#[109, 115, 101, 108]⟩, .string ⟨#[112, 97, 114]⟩] 9) = W := ⟨_, rfl⟩
  have t1 : Touch NoB W0 W1 := by rw [← hW1]; exact (Touch.refl _ _).alloc _
  have hN1 := hN0.quiet hgp t1
  have hwd : WdAt W1 W0.heap.size 5 manyW := words_at (by rw [← hW1]; exact alloc_blk _ _ _ rfl) rfl (by decide) rfl
  have hee : ((σ.2 : Int) != 0) = false := by rw [he]; rfl
  have hdd : decide ((40 : Int) < (d : Int)) = false := by simp; omega
  obtain ⟨c1, c2, cl⟩ := hN0.rt.cells
  have HN1 := Lib.hid (And.intro hN1 hwd)
  have HW1 := Lib.hid hwd
  have hsum : IntKind.i64.wrap ((d : Int) + 1) = (d1 : Int) := by rw [show (d : Int) + 1 = (d1 : Int) from by omega]; exact IntWalk.i64_in _ (by omega)
  clear h hN0 t1 hN1 hwd he
  go_enter Tryz.func20, Tryz.ntmps20
  go_wp2
  go_loopw [7] (fun v wr => NlRel w gp g n cp ts L σ W1 5 v wr) (fun v _ => 6 - (intOf v).toNat)
  case atStart => exact ⟨0, Nat.zero_le _, rfl, HN1.out.1, Touch.refl _ _⟩
  case round =>
    obtain ⟨i, hi, rfl, hN, hT⟩ := hrel
    have hwdr := wd_touch HN1.out.2 hT
    have HNr := Lib.hid hN
    have hNl := hN.lt
    have hwl := hwdr.2.1
    by_cases hlt : i < 5
    · obtain ⟨s, hs⟩ : ∃ s, manyW[i]? = some s := ⟨manyW[i]'(by have : manyW.length = 5 := rfl; omega), List.getElem?_eq_getElem _⟩
      have hcell := hwdr.2.2 i s hs
      have hno : isS ts s σ = false := isS_other hy ((by decide : ∀ q ∈ manyW, q ≠ [117, 115, 101]) s (List.mem_of_getElem? hs))
      have HC := Lib.hid (t_no hN.rt s hno)
      have HT := Lib.hid hT
      obtain ⟨sx, hsx⟩ : ∃ sx, bs s = sx := ⟨_, rfl⟩
      rw [hsx] at hcell HC
      have hi5 : (i : Int) < 5 := by omega
      clear hN hT hwdr hs hno hsx
      go_wp2_with fail
      refine HC.out.mono ?_
      rintro x w2 ⟨rfl, hr2, ht2⟩
      have HE := Lib.hid (And.intro (HNr.out.quiet hgp ht2) (HT.out.same ht2))
      clear hr2 ht2
      go_wp2
      go_roundw
      case rel => exact ⟨i + 1, by omega, by go_num, HE.out.1, HE.out.2⟩
      case measure => simp [intOf]; omega
    · obtain rfl : i = 5 := by omega
      clear hwdr
      have HS := Lib.hid HNr.out
      clear hN hT HNr
      have HC := Lib.hid (t_no HS.out.rt [110, 111, 116] (isS_other hy (by decide)))
      go_wp2_with fail
      refine HC.out.mono ?_
      rintro x w21 ⟨rfl, -, ht⟩
      have hn := HS.out.quiet hgp ht
      clear HS
      have HS := Lib.hid hn
      have hNl := hn.lt
      clear ht hn HC
      have HC := Lib.hid (t_no HS.out.rt [114, 101, 112, 101, 97, 116] (isS_other hy (by decide)))
      go_wp2_with fail
      refine HC.out.mono ?_
      rintro x w22 ⟨rfl, -, ht⟩
      have hn := HS.out.quiet hgp ht
      clear HS
      have HS := Lib.hid hn
      have hNl := hn.lt
      clear ht hn HC
      have HC := Lib.hid (t_no HS.out.rt [112, 105, 99, 107] (isS_other hy (by decide)))
      go_wp2_with fail
      refine HC.out.mono ?_
      rintro x w23 ⟨rfl, -, ht⟩
      have hn := HS.out.quiet hgp ht
      clear HS
      have HS := Lib.hid hn
      have hNl := hn.lt
      clear ht hn HC
      have HC := Lib.hid (t_no HS.out.rt [105, 102] (isS_other hy (by decide)))
      go_wp2_with fail
      refine HC.out.mono ?_
      rintro x w24 ⟨rfl, -, ht⟩
      have hn := HS.out.quiet hgp ht
      clear HS
      have HS := Lib.hid hn
      have hNl := hn.lt
      clear ht hn HC
      have HC := Lib.hid (t_no HS.out.rt [115, 101, 116] (isS_other hy (by decide)))
      go_wp2_with fail
      refine HC.out.mono ?_
      rintro x w25 ⟨rfl, -, ht⟩
      have hn := HS.out.quiet hgp ht
      clear HS
      have HS := Lib.hid hn
      have hNl := hn.lt
      clear ht hn HC
      have HC := Lib.hid (t_no HS.out.rt [100, 111] (isS_other hy (by decide)))
      go_wp2_with fail
      refine HC.out.mono ?_
      rintro x w26 ⟨rfl, -, ht⟩
      have hn := HS.out.quiet hgp ht
      clear HS
      have HS := Lib.hid hn
      have hNl := hn.lt
      clear ht hn HC
      have HC := Lib.hid (t_yes HS.out.rt [117, 115, 101] hy)
      go_wp2_with fail
      refine HC.out.mono ?_
      rintro x w27 ⟨rfl, hr, ht⟩
      have hn := HS.out.call hgp hr ht
      clear HS
      have HS := Lib.hid hn
      clear hr ht hn HC
      obtain ⟨q0, q1, q2, q3, q4, q5, q6, q7, q8, q9, ql⟩ := nd_cells HS.out.h5
      have f0 := HS.out.free 0
      have f1 := HS.out.free 1
      have f2 := HS.out.free 2
      have f3 := HS.out.free 3
      have f4 := HS.out.free 4
      have f5 := HS.out.free 5
      have f6 := HS.out.free 6
      have f7 := HS.out.free 7
      have f8 := HS.out.free 8
      have f9 := HS.out.free 9
      obtain ⟨w28, hw28⟩ : ∃ W, w27.setCell ⟨w.heap.size + 1, 0, none⟩ (.int .i64 10) = W := ⟨_, rfl⟩
      have hn := HS.out.set hgp hg 0 (.int .i64 10) (us := [.int .i64 10, .int .i64 0, .int .i64 0, .string ⟨#[]⟩, .int .i64 0, .int .i64 0, .string ⟨#[]⟩, .slice none 0 0, .slice none 0 0, .slice none 0 0]) rfl
      rw [hw28] at hn
      clear HS
      have HS := Lib.hid hn
      clear hn
      have HC := Lib.hid (t_name HS.out.rt)
      go_wp2_with fail
      refine HC.out.mono ?_
      rintro x w29 ⟨rfl, hr, ht⟩
      have hn := HS.out.call hgp hr ht
      clear HS
      have HS := Lib.hid hn
      clear hr ht hn HC
      try clear q0 q1 q2 q3 q4 q5 q6 q7 q8 q9 ql f0 f1 f2 f3 f4 f5 f6 f7 f8 f9
      obtain ⟨q0, q1, q2, q3, q4, q5, q6, q7, q8, q9, ql⟩ := nd_cells HS.out.h5
      have f0 := HS.out.free 0
      have f1 := HS.out.free 1
      have f2 := HS.out.free 2
      have f3 := HS.out.free 3
      have f4 := HS.out.free 4
      have f5 := HS.out.free 5
      have f6 := HS.out.free 6
      have f7 := HS.out.free 7
      have f8 := HS.out.free 8
      have f9 := HS.out.free 9
      obtain ⟨w30, hw30⟩ : ∃ W, w29.setCell ⟨w.heap.size + 1, 3, none⟩ (.string (bs (naV ts (σ.1 + 1, σ.2)))) = W := ⟨_, rfl⟩
      have hn := HS.out.set hgp hg 3 (.string (bs (naV ts (σ.1 + 1, σ.2)))) (us := [.int .i64 10, .int .i64 0, .int .i64 0, .string (bs (naV ts (σ.1 + 1, σ.2))), .int .i64 0, .int .i64 0, .string ⟨#[]⟩, .slice none 0 0, .slice none 0 0, .slice none 0 0]) rfl
      rw [hw30] at hn
      clear HS
      have HS := Lib.hid hn
      clear hn
      have HC := Lib.hid (t_want HS.out.rt [59])
      go_wp2_with fail
      refine HC.out.mono ?_
      rintro x w31 ⟨rfl, hr, ht⟩
      have hn := HS.out.call hgp hr ht
      clear HS
      have HS := Lib.hid hn
      have HTL := Lib.hid (show Touch (F3 gp w) w30 w31 from ht.mono (fun k hk => .inl hk))
      clear hr ht hn HC
      try clear q0 q1 q2 q3 q4 q5 q6 q7 q8 q9 ql f0 f1 f2 f3 f4 f5 f6 f7 f8 f9
      obtain ⟨hld, W9, hst, hra, hr9, ht9, ht3⟩ := HS.out.fin hgp hg rfl (by intro v hv; simp only [List.mem_cons, List.not_mem_nil, or_false] at hv; rcases hv with rfl | rfl | rfl | rfl | rfl | rfl | rfl | rfl | rfl | rfl <;> rfl)
      obtain ⟨y0, y1, y2, y3, y4, y5, y6, y7, y8, y9⟩ := range_cells hra
      have HZ := Lib.hid (And.intro hr9 (And.intro ht9 ht3))
      have hNl := HS.out.lt
      clear hra hr9 ht9 ht3
      go_wp2
      exact bodyPost_ret (v := .agg #[.int .i64 10, .int .i64 0, .int .i64 0, .string (bs (naV ts (σ.1 + 1, σ.2))), .int .i64 0, .int .i64 0, .string ⟨#[]⟩, .slice none 0 0, .slice none 0 0, .slice none 0 0]) (by simp [results, Tryz.results20, go_sem, y0, y1, y2, y3, y4, y5, y6, y7, y8, y9]) rfl
        ⟨HZ.out.2.1, HZ.out.1, .mk 10 0 0 (naV ts (σ.1 + 1, σ.2)) x0 [] [], 0, 0, ⟨#[]⟩, none, 0, 0, none, 0, none, 0, rfl, nt_leaf (et_zero _ _), fun _ => rfl⟩
theorem rnode_12 {gp g n cp L d d1 D : Nat} {ts : List Tk} {sub : St → Nd × St} (hd1 : d1 = d + 1) (hds : d ≤ 40) {w : World} {σ : St} (h : RT w gp g n cp ts L σ) (hg : g < w.heap.size) (hy : isS ts [112, 108, 97, 110] σ = true) :
    Calls Tryz.prog 20 #[.pointer (some ⟨gp, 0, none⟩), .int .i64 (d : Int)] w (RNP w gp g n cp ts L (D + 1) (rndK ts sub 12 (σ.1 + 1, σ.2))) := by
  have he := isS_ok hy
  show Calls _ _ _ _ (RNP w gp g n cp ts L (D + 1) (.mk 12 0 0 (naV ts (σ.1 + 1, σ.2)) x0 [] [], exS ts [59] (naS ts (σ.1 + 1, σ.2))))
  have hgp := h.lt
  obtain ⟨W0, hW0⟩ : ∃ W, (w.alloc (.cells #[.int .i64 0, .int .i64 0, .int .i64 0, .string ⟨#[]⟩, .int .i64 0, .int .i64 0, .string ⟨#[]⟩, .slice none 0 0, .slice none 0 0, .slice none 0 0] 62)).alloc (.cells #[.int .i64 0, .int .i64 0, .int .i64 0, .string ⟨#[]⟩, .int .i64 0, .int .i64 0, .string ⟨#[]⟩, .slice none 0 0, .slice none 0 0, .slice none 0 0] 62) = W := ⟨_, rfl⟩
  have hN0 := NS5.start h hW0
  obtain ⟨W1, hW1⟩ : ∃ W, W0.alloc (.cells #[.string ⟨#[115, 101, 113]⟩, .string ⟨#[115, 101, 108]⟩, .string ⟨#[109, 115, 101, 113]⟩, .string ⟨#[109, 115, 101, 108]⟩, .string ⟨#[112, 97, 114]⟩] 9) = W := ⟨_, rfl⟩
  have t1 : Touch NoB W0 W1 := by rw [← hW1]; exact (Touch.refl _ _).alloc _
  have hN1 := hN0.quiet hgp t1
  have hwd : WdAt W1 W0.heap.size 5 manyW := words_at (by rw [← hW1]; exact alloc_blk _ _ _ rfl) rfl (by decide) rfl
  have hee : ((σ.2 : Int) != 0) = false := by rw [he]; rfl
  have hdd : decide ((40 : Int) < (d : Int)) = false := by simp; omega
  obtain ⟨c1, c2, cl⟩ := hN0.rt.cells
  have HN1 := Lib.hid (And.intro hN1 hwd)
  have HW1 := Lib.hid hwd
  have hsum : IntKind.i64.wrap ((d : Int) + 1) = (d1 : Int) := by rw [show (d : Int) + 1 = (d1 : Int) from by omega]; exact IntWalk.i64_in _ (by omega)
  clear h hN0 t1 hN1 hwd he
  go_enter Tryz.func20, Tryz.ntmps20
  go_wp2
  go_loopw [7] (fun v wr => NlRel w gp g n cp ts L σ W1 5 v wr) (fun v _ => 6 - (intOf v).toNat)
  case atStart => exact ⟨0, Nat.zero_le _, rfl, HN1.out.1, Touch.refl _ _⟩
  case round =>
    obtain ⟨i, hi, rfl, hN, hT⟩ := hrel
    have hwdr := wd_touch HN1.out.2 hT
    have HNr := Lib.hid hN
    have hNl := hN.lt
    have hwl := hwdr.2.1
    by_cases hlt : i < 5
    · obtain ⟨s, hs⟩ : ∃ s, manyW[i]? = some s := ⟨manyW[i]'(by have : manyW.length = 5 := rfl; omega), List.getElem?_eq_getElem _⟩
      have hcell := hwdr.2.2 i s hs
      have hno : isS ts s σ = false := isS_other hy ((by decide : ∀ q ∈ manyW, q ≠ [112, 108, 97, 110]) s (List.mem_of_getElem? hs))
      have HC := Lib.hid (t_no hN.rt s hno)
      have HT := Lib.hid hT
      obtain ⟨sx, hsx⟩ : ∃ sx, bs s = sx := ⟨_, rfl⟩
      rw [hsx] at hcell HC
      have hi5 : (i : Int) < 5 := by omega
      clear hN hT hwdr hs hno hsx
      go_wp2_with fail
      refine HC.out.mono ?_
      rintro x w2 ⟨rfl, hr2, ht2⟩
      have HE := Lib.hid (And.intro (HNr.out.quiet hgp ht2) (HT.out.same ht2))
      clear hr2 ht2
      go_wp2
      go_roundw
      case rel => exact ⟨i + 1, by omega, by go_num, HE.out.1, HE.out.2⟩
      case measure => simp [intOf]; omega
    · obtain rfl : i = 5 := by omega
      clear hwdr
      have HS := Lib.hid HNr.out
      clear hN hT HNr
      have HC := Lib.hid (t_no HS.out.rt [110, 111, 116] (isS_other hy (by decide)))
      go_wp2_with fail
      refine HC.out.mono ?_
      rintro x w21 ⟨rfl, -, ht⟩
      have hn := HS.out.quiet hgp ht
      clear HS
      have HS := Lib.hid hn
      have hNl := hn.lt
      clear ht hn HC
      have HC := Lib.hid (t_no HS.out.rt [114, 101, 112, 101, 97, 116] (isS_other hy (by decide)))
      go_wp2_with fail
      refine HC.out.mono ?_
      rintro x w22 ⟨rfl, -, ht⟩
      have hn := HS.out.quiet hgp ht
      clear HS
      have HS := Lib.hid hn
      have hNl := hn.lt
      clear ht hn HC
      have HC := Lib.hid (t_no HS.out.rt [112, 105, 99, 107] (isS_other hy (by decide)))
      go_wp2_with fail
      refine HC.out.mono ?_
      rintro x w23 ⟨rfl, -, ht⟩
      have hn := HS.out.quiet hgp ht
      clear HS
      have HS := Lib.hid hn
      have hNl := hn.lt
      clear ht hn HC
      have HC := Lib.hid (t_no HS.out.rt [105, 102] (isS_other hy (by decide)))
      go_wp2_with fail
      refine HC.out.mono ?_
      rintro x w24 ⟨rfl, -, ht⟩
      have hn := HS.out.quiet hgp ht
      clear HS
      have HS := Lib.hid hn
      have hNl := hn.lt
      clear ht hn HC
      have HC := Lib.hid (t_no HS.out.rt [115, 101, 116] (isS_other hy (by decide)))
      go_wp2_with fail
      refine HC.out.mono ?_
      rintro x w25 ⟨rfl, -, ht⟩
      have hn := HS.out.quiet hgp ht
      clear HS
      have HS := Lib.hid hn
      have hNl := hn.lt
      clear ht hn HC
      have HC := Lib.hid (t_no HS.out.rt [100, 111] (isS_other hy (by decide)))
      go_wp2_with fail
      refine HC.out.mono ?_
      rintro x w26 ⟨rfl, -, ht⟩
      have hn := HS.out.quiet hgp ht
      clear HS
      have HS := Lib.hid hn
      have hNl := hn.lt
      clear ht hn HC
      have HC := Lib.hid (t_no HS.out.rt [117, 115, 101] (isS_other hy (by decide)))
      go_wp2_with fail
      refine HC.out.mono ?_
      rintro x w27 ⟨rfl, -, ht⟩
      have hn := HS.out.quiet hgp ht
      clear HS
      have HS := Lib.hid hn
      have hNl := hn.lt
      clear ht hn HC
      have HC := Lib.hid (t_yes HS.out.rt [112, 108, 97, 110] hy)
      go_wp2_with fail
      refine HC.out.mono ?_
      rintro x w28 ⟨rfl, hr, ht⟩
      have hn := HS.out.call hgp hr ht
      clear HS
      have HS := Lib.hid hn
      clear hr ht hn HC
      obtain ⟨q0, q1, q2, q3, q4, q5, q6, q7, q8, q9, ql⟩ := nd_cells HS.out.h5
      have f0 := HS.out.free 0
      have f1 := HS.out.free 1
      have f2 := HS.out.free 2
      have f3 := HS.out.free 3
      have f4 := HS.out.free 4
      have f5 := HS.out.free 5
      have f6 := HS.out.free 6
      have f7 := HS.out.free 7
      have f8 := HS.out.free 8
      have f9 := HS.out.free 9
      obtain ⟨w29, hw29⟩ : ∃ W, w28.setCell ⟨w.heap.size + 1, 0, none⟩ (.int .i64 12) = W := ⟨_, rfl⟩
      have hn := HS.out.set hgp hg 0 (.int .i64 12) (us := [.int .i64 12, .int .i64 0, .int .i64 0, .string ⟨#[]⟩, .int .i64 0, .int .i64 0, .string ⟨#[]⟩, .slice none 0 0, .slice none 0 0, .slice none 0 0]) rfl
      rw [hw29] at hn
      clear HS
      have HS := Lib.hid hn
      clear hn
      have HC := Lib.hid (t_name HS.out.rt)
      go_wp2_with fail
      refine HC.out.mono ?_
      rintro x w30 ⟨rfl, hr, ht⟩
      have hn := HS.out.call hgp hr ht
      clear HS
      have HS := Lib.hid hn
      clear hr ht hn HC
      try clear q0 q1 q2 q3 q4 q5 q6 q7 q8 q9 ql f0 f1 f2 f3 f4 f5 f6 f7 f8 f9
      obtain ⟨q0, q1, q2, q3, q4, q5, q6, q7, q8, q9, ql⟩ := nd_cells HS.out.h5
      have f0 := HS.out.free 0
      have f1 := HS.out.free 1
      have f2 := HS.out.free 2
      have f3 := HS.out.free 3
      have f4 := HS.out.free 4
      have f5 := HS.out.free 5
      have f6 := HS.out.free 6
      have f7 := HS.out.free 7
      have f8 := HS.out.free 8
      have f9 := HS.out.free 9
      obtain ⟨w31, hw31⟩ : ∃ W, w30.setCell ⟨w.heap.size + 1, 3, none⟩ (.string (bs (naV ts (σ.1 + 1, σ.2)))) = W := ⟨_, rfl⟩
      have hn := HS.out.set hgp hg 3 (.string (bs (naV ts (σ.1 + 1, σ.2)))) (us := [.int .i64 12, .int .i64 0, .int .i64 0, .string (bs (naV ts (σ.1 + 1, σ.2))), .int .i64 0, .int .i64 0, .string ⟨#[]⟩, .slice none 0 0, .slice none 0 0, .slice none 0 0]) rfl
      rw [hw31] at hn
      clear HS
      have HS := Lib.hid hn
      clear hn
      have HC := Lib.hid (t_want HS.out.rt [59])
      go_wp2_with fail
      refine HC.out.mono ?_
      rintro x w32 ⟨rfl, hr, ht⟩
      have hn := HS.out.call hgp hr ht
      clear HS
      have HS := Lib.hid hn
      have HTL := Lib.hid (show Touch (F3 gp w) w31 w32 from ht.mono (fun k hk => .inl hk))
      clear hr ht hn HC
      try clear q0 q1 q2 q3 q4 q5 q6 q7 q8 q9 ql f0 f1 f2 f3 f4 f5 f6 f7 f8 f9
      obtain ⟨hld, W9, hst, hra, hr9, ht9, ht3⟩ := HS.out.fin hgp hg rfl (by intro v hv; simp only [List.mem_cons, List.not_mem_nil, or_false] at hv; rcases hv with rfl | rfl | rfl | rfl | rfl | rfl | rfl | rfl | rfl | rfl <;> rfl)
      obtain ⟨y0, y1, y2, y3, y4, y5, y6, y7, y8, y9⟩ := range_cells hra
      have HZ := Lib.hid (And.intro hr9 (And.intro ht9 ht3))
      have hNl := HS.out.lt
      clear hra hr9 ht9 ht3
      go_wp2
      exact bodyPost_ret (v := .agg #[.int .i64 12, .int .i64 0, .int .i64 0, .string (bs (naV ts (σ.1 + 1, σ.2))), .int .i64 0, .int .i64 0, .string ⟨#[]⟩, .slice none 0 0, .slice none 0 0, .slice none 0 0]) (by simp [results, Tryz.results20, go_sem, y0, y1, y2, y3, y4, y5, y6, y7, y8, y9]) rfl
        ⟨HZ.out.2.1, HZ.out.1, .mk 12 0 0 (naV ts (σ.1 + 1, σ.2)) x0 [] [], 0, 0, ⟨#[]⟩, none, 0, 0, none, 0, none, 0, rfl, nt_leaf (et_zero _ _), fun _ => rfl⟩
theorem rnode_7 {gp g n cp L d d1 D : Nat} {ts : List Tk} {sub : St → Nd × St} (hnk : NumsOk ts) (hd1 : d1 = d + 1) (hds : d ≤ 40) {w : World} {σ : St} (h : RT w gp g n cp ts L σ) (hg : g < w.heap.size) (hy : isS ts [105, 102] σ = true) :
    Calls Tryz.prog 20 #[.pointer (some ⟨gp, 0, none⟩), .int .i64 (d : Int)] w (RNP w gp g n cp ts L (D + 1) (rndK ts sub 7 (σ.1 + 1, σ.2))) := by
  have he := isS_ok hy
  show Calls _ _ _ _ (RNP w gp g n cp ts L (D + 1) (.mk 7 0 0 [] (eqV ts (σ.1 + 1, σ.2)) [] [], exS ts [59] (eqS ts (σ.1 + 1, σ.2))))
  have hgp := h.lt
  obtain ⟨W0, hW0⟩ : ∃ W, (w.alloc (.cells #[.int .i64 0, .int .i64 0, .int .i64 0, .string ⟨#[]⟩, .int .i64 0, .int .i64 0, .string ⟨#[]⟩, .slice none 0 0, .slice none 0 0, .slice none 0 0] 62)).alloc (.cells #[.int .i64 0, .int .i64 0, .int .i64 0, .string ⟨#[]⟩, .int .i64 0, .int .i64 0, .string ⟨#[]⟩, .slice none 0 0, .slice none 0 0, .slice none 0 0] 62) = W := ⟨_, rfl⟩
  have hN0 := NS5.start h hW0
  obtain ⟨W1, hW1⟩ : ∃ W, W0.alloc (.cells #[.string ⟨#[115, 101, 113]⟩, .string ⟨#[115, 101, 108]⟩, .string ⟨#[109, 115, 101, 113]⟩, .string ⟨#[109, 115, 101, 108]⟩, .string ⟨#[112, 97, 114]⟩] 9) = W := ⟨_, rfl⟩
  have t1 : Touch NoB W0 W1 := by rw [← hW1]; exact (Touch.refl _ _).alloc _
  have hN1 := hN0.quiet hgp t1
  have hwd : WdAt W1 W0.heap.size 5 manyW := words_at (by rw [← hW1]; exact alloc_blk _ _ _ rfl) rfl (by decide) rfl
  have hee : ((σ.2 : Int) != 0) = false := by rw [he]; rfl
  have hdd : decide ((40 : Int) < (d : Int)) = false := by simp; omega
  obtain ⟨c1, c2, cl⟩ := hN0.rt.cells
  have HN1 := Lib.hid (And.intro hN1 hwd)
  have HW1 := Lib.hid hwd
  have hsum : IntKind.i64.wrap ((d : Int) + 1) = (d1 : Int) := by rw [show (d : Int) + 1 = (d1 : Int) from by omega]; exact IntWalk.i64_in _ (by omega)
  clear h hN0 t1 hN1 hwd he
  go_enter Tryz.func20, Tryz.ntmps20
  go_wp2
  go_loopw [7] (fun v wr => NlRel w gp g n cp ts L σ W1 5 v wr) (fun v _ => 6 - (intOf v).toNat)
  case atStart => exact ⟨0, Nat.zero_le _, rfl, HN1.out.1, Touch.refl _ _⟩
  case round =>
    obtain ⟨i, hi, rfl, hN, hT⟩ := hrel
    have hwdr := wd_touch HN1.out.2 hT
    have HNr := Lib.hid hN
    have hNl := hN.lt
    have hwl := hwdr.2.1
    by_cases hlt : i < 5
    · obtain ⟨s, hs⟩ : ∃ s, manyW[i]? = some s := ⟨manyW[i]'(by have : manyW.length = 5 := rfl; omega), List.getElem?_eq_getElem _⟩
      have hcell := hwdr.2.2 i s hs
      have hno : isS ts s σ = false := isS_other hy ((by decide : ∀ q ∈ manyW, q ≠ [105, 102]) s (List.mem_of_getElem? hs))
      have HC := Lib.hid (t_no hN.rt s hno)
      have HT := Lib.hid hT
      obtain ⟨sx, hsx⟩ : ∃ sx, bs s = sx := ⟨_, rfl⟩
      rw [hsx] at hcell HC
      have hi5 : (i : Int) < 5 := by omega
      clear hN hT hwdr hs hno hsx
      go_wp2_with fail
      refine HC.out.mono ?_
      rintro x w2 ⟨rfl, hr2, ht2⟩
      have HE := Lib.hid (And.intro (HNr.out.quiet hgp ht2) (HT.out.same ht2))
      clear hr2 ht2
      go_wp2
      go_roundw
      case rel => exact ⟨i + 1, by omega, by go_num, HE.out.1, HE.out.2⟩
      case measure => simp [intOf]; omega
    · obtain rfl : i = 5 := by omega
      clear hwdr
      have HS := Lib.hid HNr.out
      clear hN hT HNr
      have HC := Lib.hid (t_no HS.out.rt [110, 111, 116] (isS_other hy (by decide)))
      go_wp2_with fail
      refine HC.out.mono ?_
      rintro x w21 ⟨rfl, -, ht⟩
      have hn := HS.out.quiet hgp ht
      clear HS
      have HS := Lib.hid hn
      have hNl := hn.lt
      clear ht hn HC
      have HC := Lib.hid (t_no HS.out.rt [114, 101, 112, 101, 97, 116] (isS_other hy (by decide)))
      go_wp2_with fail
      refine HC.out.mono ?_
      rintro x w22 ⟨rfl, -, ht⟩
      have hn := HS.out.quiet hgp ht
      clear HS
      have HS := Lib.hid hn
      have hNl := hn.lt
      clear ht hn HC
      have HC := Lib.hid (t_no HS.out.rt [112, 105, 99, 107] (isS_other hy (by decide)))
      go_wp2_with fail
      refine HC.out.mono ?_
      rintro x w23 ⟨rfl, -, ht⟩
      have hn := HS.out.quiet hgp ht
      clear HS
      have HS := Lib.hid hn
      have hNl := hn.lt
      clear ht hn HC
      have HC := Lib.hid (t_yes HS.out.rt [105, 102] hy)
      go_wp2_with fail
      refine HC.out.mono ?_
      rintro x w24 ⟨rfl, hr, ht⟩
      have hn := HS.out.call hgp hr ht
      clear HS
      have HS := Lib.hid hn
      clear hr ht hn HC
      obtain ⟨q0, q1, q2, q3, q4, q5, q6, q7, q8, q9, ql⟩ := nd_cells HS.out.h5
      have f0 := HS.out.free 0
      have f1 := HS.out.free 1
      have f2 := HS.out.free 2
      have f3 := HS.out.free 3
      have f4 := HS.out.free 4
      have f5 := HS.out.free 5
      have f6 := HS.out.free 6
      have f7 := HS.out.free 7
      have f8 := HS.out.free 8
      have f9 := HS.out.free 9
      obtain ⟨w25, hw25⟩ : ∃ W, w24.setCell ⟨w.heap.size + 1, 0, none⟩ (.int .i64 7) = W := ⟨_, rfl⟩
      have hn := HS.out.set hgp hg 0 (.int .i64 7) (us := [.int .i64 7, .int .i64 0, .int .i64 0, .string ⟨#[]⟩, .int .i64 0, .int .i64 0, .string ⟨#[]⟩, .slice none 0 0, .slice none 0 0, .slice none 0 0]) rfl
      rw [hw25] at hn
      clear HS
      have HS := Lib.hid hn
      clear hn
      have HC := Lib.hid (t_expr hnk HS.out.rt)
      go_wp2_with fail
      refine HC.out.mono ?_
      rintro x w26 ⟨y, a0, a1, a2, B0, b0, b1, rfl, hq, hr, hyo, -, ht⟩
      have hn := HS.out.call hgp hr ht
      have hsq := HS.out.lt
      clear HS
      have HS := Lib.hid hn
      have HQ := Lib.hid (And.intro hq (And.intro hyo hsq))
      clear hr ht hn HC hq hyo hsq
      try clear q0 q1 q2 q3 q4 q5 q6 q7 q8 q9 ql f0 f1 f2 f3 f4 f5 f6 f7 f8 f9
      obtain ⟨q0, q1, q2, q3, q4, q5, q6, q7, q8, q9, ql⟩ := nd_cells HS.out.h5
      have f0 := HS.out.free 0
      have f1 := HS.out.free 1
      have f2 := HS.out.free 2
      have f3 := HS.out.free 3
      have f4 := HS.out.free 4
      have f5 := HS.out.free 5
      have f6 := HS.out.free 6
      have f7 := HS.out.free 7
      have f8 := HS.out.free 8
      have f9 := HS.out.free 9
      obtain ⟨w27, hw27⟩ : ∃ W, ((((w26).setCell ⟨w.heap.size + 1, 4, none⟩ (.int .i64 a0)).setCell ⟨w.heap.size + 1, 5, none⟩ (.int .i64 a1)).setCell ⟨w.heap.size + 1, 6, none⟩ (.string a2)).setCell ⟨w.heap.size + 1, 7, none⟩ (.slice B0 b0 b1) = W := ⟨_, rfl⟩
      have hn := ((((HS.out.set hgp hg 4 (.int .i64 a0) (us := [.int .i64 7, .int .i64 0, .int .i64 0, .string ⟨#[]⟩, .int .i64 a0, .int .i64 0, .string ⟨#[]⟩, .slice none 0 0, .slice none 0 0, .slice none 0 0]) rfl).set hgp hg 5 (.int .i64 a1) (us := [.int .i64 7, .int .i64 0, .int .i64 0, .string ⟨#[]⟩, .int .i64 a0, .int .i64 a1, .string ⟨#[]⟩, .slice none 0 0, .slice none 0 0, .slice none 0 0]) rfl).set hgp hg 6 (.string a2) (us := [.int .i64 7, .int .i64 0, .int .i64 0, .string ⟨#[]⟩, .int .i64 a0, .int .i64 a1, .string a2, .slice none 0 0, .slice none 0 0, .slice none 0 0]) rfl).set hgp hg 7 (.slice B0 b0 b1) (us := [.int .i64 7, .int .i64 0, .int .i64 0, .string ⟨#[]⟩, .int .i64 a0, .int .i64 a1, .string a2, .slice B0 b0 b1, .slice none 0 0, .slice none 0 0]) rfl)
      rw [hw27] at hn
      clear HS
      have HS := Lib.hid hn
      clear hn
      have HQ2 := Lib.hid (show Touch (F3 gp w) w26 w27 from by rw [← hw27]; exact ((((Touch.refl (F3 gp w) _).setCell (p := ⟨w.heap.size + 1, 4, none⟩) (.inl (.inr (.inr rfl))) _).setCell (p := ⟨w.heap.size + 1, 5, none⟩) (.inl (.inr (.inr rfl))) _).setCell (p := ⟨w.heap.size + 1, 6, none⟩) (.inl (.inr (.inr rfl))) _).setCell (p := ⟨w.heap.size + 1, 7, none⟩) (.inl (.inr (.inr rfl))) _)
      have HC := Lib.hid (t_want HS.out.rt [59])
      go_wp2_with fail
      refine HC.out.mono ?_
      rintro x w28 ⟨rfl, hr, ht⟩
      have hn := HS.out.call hgp hr ht
      clear HS
      have HS := Lib.hid hn
      have HTL := Lib.hid (show Touch (F3 gp w) w27 w28 from ht.mono (fun k hk => .inl hk))
      clear hr ht hn HC
      try clear q0 q1 q2 q3 q4 q5 q6 q7 q8 q9 ql f0 f1 f2 f3 f4 f5 f6 f7 f8 f9
      obtain ⟨hld, W9, hst, hra, hr9, ht9, ht3⟩ := HS.out.fin hgp hg rfl (by intro v hv; simp only [List.mem_cons, List.not_mem_nil, or_false] at hv; rcases hv with rfl | rfl | rfl | rfl | rfl | rfl | rfl | rfl | rfl | rfl <;> rfl)
      obtain ⟨y0, y1, y2, y3, y4, y5, y6, y7, y8, y9⟩ := range_cells hra
      have HZ := Lib.hid (And.intro hr9 (And.intro ht9 ht3))
      have hNl := HS.out.lt
      clear hra hr9 ht9 ht3
      go_wp2
      exact bodyPost_ret (v := .agg #[.int .i64 7, .int .i64 0, .int .i64 0, .string ⟨#[]⟩, .int .i64 a0, .int .i64 a1, .string a2, .slice B0 b0 b1, .slice none 0 0, .slice none 0 0]) (by simp [results, Tryz.results20, go_sem, y0, y1, y2, y3, y4, y5, y6, y7, y8, y9]) rfl
        ⟨HZ.out.2.1, HZ.out.1, .mk 7 0 0 [] y [] [], a0, a1, a2, B0, b0, b1, none, 0, none, 0, rfl, nt_leaf ((((HQ.out.1.via (R := fun b => w.heap.size + 2 ≤ b) (fun b hb _ => by have := HQ.out.2.2; omega)).far HQ2.out (fun b hb hf => by unfold F3 at hf; omega)).far HTL.out (fun b hb hf => by unfold F3 at hf; omega)).far HZ.out.2.2 (fun b hb hf => by unfold F3 at hf; omega) |>.via (fun b hb _ => by omega)), fun e => by rw [HQ.out.2.1 (exS_ok e)]⟩
theorem rnode_8 {gp g n cp L d d1 D : Nat} {ts : List Tk} {sub : St → Nd × St} (hnk : NumsOk ts) (hd1 : d1 = d + 1) (hds : d ≤ 40) {w : World} {σ : St} (h : RT w gp g n cp ts L σ) (hg : g < w.heap.size) (hy : isS ts [115, 101, 116] σ = true) :
    Calls Tryz.prog 20 #[.pointer (some ⟨gp, 0, none⟩), .int .i64 (d : Int)] w (RNP w gp g n cp ts L (D + 1) (rndK ts sub 8 (σ.1 + 1, σ.2))) := by
  have he := isS_ok hy
  show Calls _ _ _ _ (RNP w gp g n cp ts L (D + 1) (.mk 8 0 0 (naV ts (σ.1 + 1, σ.2)) (eqV ts (exS ts [58, 61] (naS ts (σ.1 + 1, σ.2)))) [] [], exS ts [59] (eqS ts (exS ts [58, 61] (naS ts (σ.1 + 1, σ.2))))))
  have hgp := h.lt
  obtain ⟨W0, hW0⟩ : ∃ W, (w.alloc (.cells #[.int .i64 0, .int .i64 0, .int .i64 0, .string ⟨#[]⟩, .int .i64 0, .int .i64 0, .string ⟨#[]⟩, .slice none 0 0, .slice none 0 0, .slice none 0 0] 62)).alloc (.cells #[.int .i64 0, .int .i64 0, .int .i64 0, .string ⟨#[]⟩, .int .i64 0, .int .i64 0, .string ⟨#[]⟩, .slice none 0 0, .slice none 0 0, .slice none 0 0] 62) = W := ⟨_, rfl⟩
  have hN0 := NS5.start h hW0
  obtain ⟨W1, hW1⟩ : ∃ W, W0.alloc (.cells #[.string ⟨#[115, 101, 113]⟩, .string ⟨#[115, 101, 108]⟩, .string ⟨#[109, 115, 101, 113]⟩, .string ⟨#[109, 115, 101, 108]⟩, .string ⟨#[112, 97, 114]⟩] 9) = W := ⟨_, rfl⟩
  have t1 : Touch NoB W0 W1 := by rw [← hW1]; exact (Touch.refl _ _).alloc _
  have hN1 := hN0.quiet hgp t1
  have hwd : WdAt W1 W0.heap.size 5 manyW := words_at (by rw [← hW1]; exact alloc_blk _ _ _ rfl) rfl (by decide) rfl
  have hee : ((σ.2 : Int) != 0) = false := by rw [he]; rfl
  have hdd : decide ((40 : Int) < (d : Int)) = false := by simp; omega
  obtain ⟨c1, c2, cl⟩ := hN0.rt.cells
  have HN1 := Lib.hid (And.intro hN1 hwd)
  have HW1 := Lib.hid hwd
  have hsum : IntKind.i64.wrap ((d : Int) + 1) = (d1 : Int) := by rw [show (d : Int) + 1 = (d1 : Int) from by omega]; exact IntWalk.i64_in _ (by omega)
  clear h hN0 t1 hN1 hwd he
  go_enter Tryz.func20, Tryz.ntmps20
  go_wp2
  go_loopw [7] (fun v wr => NlRel w gp g n cp ts L σ W1 5 v wr) (fun v _ => 6 - (intOf v).toNat)
  case atStart => exact ⟨0, Nat.zero_le _, rfl, HN1.out.1, Touch.refl _ _⟩
  case round =>
    obtain ⟨i, hi, rfl, hN, hT⟩ := hrel
    have hwdr := wd_touch HN1.out.2 hT
    have HNr := Lib.hid hN
    have hNl := hN.lt
    have hwl := hwdr.2.1
    by_cases hlt : i < 5
    · obtain ⟨s, hs⟩ : ∃ s, manyW[i]? = some s := ⟨manyW[i]'(by have : manyW.length = 5 := rfl; omega), List.getElem?_eq_getElem _⟩
      have hcell := hwdr.2.2 i s hs
      have hno : isS ts s σ = false := isS_other hy ((by decide : ∀ q ∈ manyW, q ≠ [115, 101, 116]) s (List.mem_of_getElem? hs))
      have HC := Lib.hid (t_no hN.rt s hno)
      have HT := Lib.hid hT
      obtain ⟨sx, hsx⟩ : ∃ sx, bs s = sx := ⟨_, rfl⟩
      rw [hsx] at hcell HC
      have hi5 : (i : Int) < 5 := by omega
      clear hN hT hwdr hs hno hsx
      go_wp2_with fail
      refine HC.out.mono ?_
      rintro x w2 ⟨rfl, hr2, ht2⟩
      have HE := Lib.hid (And.intro (HNr.out.quiet hgp ht2) (HT.out.same ht2))
      clear hr2 ht2
      go_wp2
      go_roundw
      case rel => exact ⟨i + 1, by omega, by go_num, HE.out.1, HE.out.2⟩
      case measure => simp [intOf]; omega
    · obtain rfl : i = 5 := by omega
      clear hwdr
      have HS := Lib.hid HNr.out
      clear hN hT HNr
      have HC := Lib.hid (t_no HS.out.rt [110, 111, 116] (isS_other hy (by decide)))
      go_wp2_with fail
      refine HC.out.mono ?_
      rintro x w21 ⟨rfl, -, ht⟩
      have hn := HS.out.quiet hgp ht
      clear HS
      have HS := Lib.hid hn
      have hNl := hn.lt
      clear ht hn HC
      have HC := Lib.hid (t_no HS.out.rt [114, 101, 112, 101, 97, 116] (isS_other hy (by decide)))
      go_wp2_with fail
      refine HC.out.mono ?_
      rintro x w22 ⟨rfl, -, ht⟩
      have hn := HS.out.quiet hgp ht
      clear HS
      have HS := Lib.hid hn
      have hNl := hn.lt
      clear ht hn HC
      have HC := Lib.hid (t_no HS.out.rt [112, 105, 99, 107] (isS_other hy (by decide)))
      go_wp2_with fail
      refine HC.out.mono ?_
      rintro x w23 ⟨rfl, -, ht⟩
      have hn := HS.out.quiet hgp ht
      clear HS
      have HS := Lib.hid hn
      have hNl := hn.lt
      clear ht hn HC
      have HC := Lib.hid (t_no HS.out.rt [105, 102] (isS_other hy (by decide)))
      go_wp2_with fail
      refine HC.out.mono ?_
      rintro x w24 ⟨rfl, -, ht⟩
      have hn := HS.out.quiet hgp ht
      clear HS
      have HS := Lib.hid hn
      have hNl := hn.lt
      clear ht hn HC
      have HC := Lib.hid (t_yes HS.out.rt [115, 101, 116] hy)
      go_wp2_with fail
      refine HC.out.mono ?_
      rintro x w25 ⟨rfl, hr, ht⟩
      have hn := HS.out.call hgp hr ht
      clear HS
      have HS := Lib.hid hn
      clear hr ht hn HC
      obtain ⟨q0, q1, q2, q3, q4, q5, q6, q7, q8, q9, ql⟩ := nd_cells HS.out.h5
      have f0 := HS.out.free 0
      have f1 := HS.out.free 1
      have f2 := HS.out.free 2
      have f3 := HS.out.free 3
      have f4 := HS.out.free 4
      have f5 := HS.out.free 5
      have f6 := HS.out.free 6
      have f7 := HS.out.free 7
      have f8 := HS.out.free 8
      have f9 := HS.out.free 9
      obtain ⟨w26, hw26⟩ : ∃ W, w25.setCell ⟨w.heap.size + 1, 0, none⟩ (.int .i64 8) = W := ⟨_, rfl⟩
      have hn := HS.out.set hgp hg 0 (.int .i64 8) (us := [.int .i64 8, .int .i64 0, .int .i64 0, .string ⟨#[]⟩, .int .i64 0, .int .i64 0, .string ⟨#[]⟩, .slice none 0 0, .slice none 0 0, .slice none 0 0]) rfl
      rw [hw26] at hn
      clear HS
      have HS := Lib.hid hn
      clear hn
      have HC := Lib.hid (t_name HS.out.rt)
      go_wp2_with fail
      refine HC.out.mono ?_
      rintro x w27 ⟨rfl, hr, ht⟩
      have hn := HS.out.call hgp hr ht
      clear HS
      have HS := Lib.hid hn
      clear hr ht hn HC
      try clear q0 q1 q2 q3 q4 q5 q6 q7 q8 q9 ql f0 f1 f2 f3 f4 f5 f6 f7 f8 f9
      obtain ⟨q0, q1, q2, q3, q4, q5, q6, q7, q8, q9, ql⟩ := nd_cells HS.out.h5
      have f0 := HS.out.free 0
      have f1 := HS.out.free 1
      have f2 := HS.out.free 2
      have f3 := HS.out.free 3
      have f4 := HS.out.free 4
      have f5 := HS.out.free 5
      have f6 := HS.out.free 6
      have f7 := HS.out.free 7
      have f8 := HS.out.free 8
      have f9 := HS.out.free 9
      obtain ⟨w28, hw28⟩ : ∃ W, w27.setCell ⟨w.heap.size + 1, 3, none⟩ (.string (bs (naV ts (σ.1 + 1, σ.2)))) = W := ⟨_, rfl⟩
      have hn := HS.out.set hgp hg 3 (.string (bs (naV ts (σ.1 + 1, σ.2)))) (us := [.int .i64 8, .int .i64 0, .int .i64 0, .string (bs (naV ts (σ.1 + 1, σ.2))), .int .i64 0, .int .i64 0, .string ⟨#[]⟩, .slice none 0 0, .slice none 0 0, .slice none 0 0]) rfl
      rw [hw28] at hn
      clear HS
      have HS := Lib.hid hn
      clear hn
      have HC := Lib.hid (t_want HS.out.rt [58, 61])
      go_wp2_with fail
      refine HC.out.mono ?_
      rintro x w29 ⟨rfl, hr, ht⟩
      have hn := HS.out.call hgp hr ht
      clear HS
      have HS := Lib.hid hn
      clear hr ht hn HC
      have HC := Lib.hid (t_expr hnk HS.out.rt)
      go_wp2_with fail
      refine HC.out.mono ?_
      rintro x w30 ⟨y, a0, a1, a2, B0, b0, b1, rfl, hq, hr, hyo, -, ht⟩
      have hn := HS.out.call hgp hr ht
      have hsq := HS.out.lt
      clear HS
      have HS := Lib.hid hn
      have HQ := Lib.hid (And.intro hq (And.intro hyo hsq))
      clear hr ht hn HC hq hyo hsq
      try clear q0 q1 q2 q3 q4 q5 q6 q7 q8 q9 ql f0 f1 f2 f3 f4 f5 f6 f7 f8 f9
      obtain ⟨q0, q1, q2, q3, q4, q5, q6, q7, q8, q9, ql⟩ := nd_cells HS.out.h5
      have f0 := HS.out.free 0
      have f1 := HS.out.free 1
      have f2 := HS.out.free 2
      have f3 := HS.out.free 3
      have f4 := HS.out.free 4
      have f5 := HS.out.free 5
      have f6 := HS.out.free 6
      have f7 := HS.out.free 7
      have f8 := HS.out.free 8
      have f9 := HS.out.free 9
      obtain ⟨w31, hw31⟩ : ∃ W, ((((w30).setCell ⟨w.heap.size + 1, 4, none⟩ (.int .i64 a0)).setCell ⟨w.heap.size + 1, 5, none⟩ (.int .i64 a1)).setCell ⟨w.heap.size + 1, 6, none⟩ (.string a2)).setCell ⟨w.heap.size + 1, 7, none⟩ (.slice B0 b0 b1) = W := ⟨_, rfl⟩
      have hn := ((((HS.out.set hgp hg 4 (.int .i64 a0) (us := [.int .i64 8, .int .i64 0, .int .i64 0, .string (bs (naV ts (σ.1 + 1, σ.2))), .int .i64 a0, .int .i64 0, .string ⟨#[]⟩, .slice none 0 0, .slice none 0 0, .slice none 0 0]) rfl).set hgp hg 5 (.int .i64 a1) (us := [.int .i64 8, .int .i64 0, .int .i64 0, .string (bs (naV ts (σ.1 + 1, σ.2))), .int .i64 a0, .int .i64 a1, .string ⟨#[]⟩, .slice none 0 0, .slice none 0 0, .slice none 0 0]) rfl).set hgp hg 6 (.string a2) (us := [.int .i64 8, .int .i64 0, .int .i64 0, .string (bs (naV ts (σ.1 + 1, σ.2))), .int .i64 a0, .int .i64 a1, .string a2, .slice none 0 0, .slice none 0 0, .slice none 0 0]) rfl).set hgp hg 7 (.slice B0 b0 b1) (us := [.int .i64 8, .int .i64 0, .int .i64 0, .string (bs (naV ts (σ.1 + 1, σ.2))), .int .i64 a0, .int .i64 a1, .string a2, .slice B0 b0 b1, .slice none 0 0, .slice none 0 0]) rfl)
      rw [hw31] at hn
      clear HS
      have HS := Lib.hid hn
      clear hn
      have HQ2 := Lib.hid (show Touch (F3 gp w) w30 w31 from by rw [← hw31]; exact ((((Touch.refl (F3 gp w) _).setCell (p := ⟨w.heap.size + 1, 4, none⟩) (.inl (.inr (.inr rfl))) _).setCell (p := ⟨w.heap.size + 1, 5, none⟩) (.inl (.inr (.inr rfl))) _).setCell (p := ⟨w.heap.size + 1, 6, none⟩) (.inl (.inr (.inr rfl))) _).setCell (p := ⟨w.heap.size + 1, 7, none⟩) (.inl (.inr (.inr rfl))) _)
      have HC := Lib.hid (t_want HS.out.rt [59])
      go_wp2_with fail
      refine HC.out.mono ?_
      rintro x w32 ⟨rfl, hr, ht⟩
      have hn := HS.out.call hgp hr ht
      clear HS
      have HS := Lib.hid hn
      have HTL := Lib.hid (show Touch (F3 gp w) w31 w32 from ht.mono (fun k hk => .inl hk))
      clear hr ht hn HC
      try clear q0 q1 q2 q3 q4 q5 q6 q7 q8 q9 ql f0 f1 f2 f3 f4 f5 f6 f7 f8 f9
      obtain ⟨hld, W9, hst, hra, hr9, ht9, ht3⟩ := HS.out.fin hgp hg rfl (by intro v hv; simp only [List.mem_cons, List.not_mem_nil, or_false] at hv; rcases hv with rfl | rfl | rfl | rfl | rfl | rfl | rfl | rfl | rfl | rfl <;> rfl)
      obtain ⟨y0, y1, y2, y3, y4, y5, y6, y7, y8, y9⟩ := range_cells hra
      have HZ := Lib.hid (And.intro hr9 (And.intro ht9 ht3))
      have hNl := HS.out.lt
      clear hra hr9 ht9 ht3
      go_wp2
      exact bodyPost_ret (v := .agg #[.int .i64 8, .int .i64 0, .int .i64 0, .string (bs (naV ts (σ.1 + 1, σ.2))), .int .i64 a0, .int .i64 a1, .string a2, .slice B0 b0 b1, .slice none 0 0, .slice none 0 0]) (by simp [results, Tryz.results20, go_sem, y0, y1, y2, y3, y4, y5, y6, y7, y8, y9]) rfl
        ⟨HZ.out.2.1, HZ.out.1, .mk 8 0 0 (naV ts (σ.1 + 1, σ.2)) y [] [], a0, a1, a2, B0, b0, b1, none, 0, none, 0, rfl, nt_leaf ((((HQ.out.1.via (R := fun b => w.heap.size + 2 ≤ b) (fun b hb _ => by have := HQ.out.2.2; omega)).far HQ2.out (fun b hb hf => by unfold F3 at hf; omega)).far HTL.out (fun b hb hf => by unfold F3 at hf; omega)).far HZ.out.2.2 (fun b hb hf => by unfold F3 at hf; omega) |>.via (fun b hb _ => by omega)), fun e => by rw [HQ.out.2.1 (exS_ok e)]⟩
end Go.Proofs.YtbikpbmknneabaaGreat
