/-
  What the document's own node does where nodes follow within braces. Conditions: those that each theorem names.
-/
import Derived.Test.YtnphaaahdlkmhaaGreatZs29
import Derived.Test.YtnphaaahdlkmhaaGreatZs27
import Derived.Test.YtnphaaahdlkmhaaGreatZs8
section
namespace Go.Proofs.YtnphaaahdlkmhaaGreat
open Go.ChangeShapes Go.WideShapes Go.ChangeAt Go.RowKit
set_option maxRecDepth 100000
set_option maxHeartbeats 8000000
attribute [local go_sem ↓] loadNd_of storeNd_of

theorem rnode_0 {gp g n cp L d d1 D : Nat} {ts : List Tk} {sub : St → Nd × St} (hd1 : d1 = d + 1) (hds : d ≤ 40) (HSB : RNodeOk gp g n cp ts L d1 D sub) {w : World} {σ : St} (h : RT w gp g n cp ts L σ) (hg : g < w.heap.size) (hy : isS ts [115, 101, 113] σ = true) :
    Calls Tryz.prog 20 #[.pointer (some ⟨gp, 0, none⟩), .int .i64 (d : Int)] w (RNP w gp g n cp ts L (D + 1) (rndK ts sub 0 (σ.1 + 1, σ.2))) := by
  have he := isS_ok hy
  have HSUB := Lib.hid HSB
  clear HSB
  show Calls _ _ _ _ (RNP w gp g n cp ts L (D + 1) (.mk 0 0 0 [] x0 (braV ts sub (σ.1 + 1, σ.2)) [], braS ts sub (σ.1 + 1, σ.2)))
  have hgp := h.lt
  obtain ⟨W0, hW0⟩ : ∃ W, (w.alloc (.cells #[.int .i64 0, .int .i64 0, .int .i64 0, .string ⟨#[]⟩, .int .i64 0, .int .i64 0, .string ⟨#[]⟩, .slice none 0 0, .slice none 0 0, .slice none 0 0] 62)).alloc (.cells #[.int .i64 0, .int .i64 0, .int .i64 0, .string ⟨#[]⟩, .int .i64 0, .int .i64 0, .string ⟨#[]⟩, .slice none 0 0, .slice none 0 0, .slice none 0 0] 62) = W := ⟨_, rfl⟩
  have hN0 := NS5.start h hW0
  obtain ⟨W1, hW1⟩ : ∃ W, W0.alloc (.cells #[.string ⟨#[115, 101, 113]⟩, .string ⟨#[115, 101, 108]⟩, .string ⟨#[109, 115, 101, 113]⟩, .string ⟨#[109, 115, 101, 108]⟩, .string ⟨#[112, 97, 114]⟩] 9) = W := ⟨_, rfl⟩
  have t1 : Touch NoB W0 W1 := by rw [← hW1]; exact (Touch.refl _ _).alloc _
  have hN1 := hN0.quiet hgp t1
  have hwd : WdAt W1 W0.heap.size 5 manyW := words_at (by rw [← hW1]; exact alloc_blk _ _ _ rfl) rfl (by decide) rfl
  have hee : ((σ.2 : Int) != 0) = false := by rw [he]; rfl
  have hdd : decide ((40 : Int) < (d : Int)) = false := by simp; omega
  obtain ⟨c1, c2, cl⟩ := hN0.rt.cells
  have HN1 := Lib.hid (And.intro hN1 hwd)
  have HW1 := Lib.hid hwd
  have hsum : IntKind.i64.wrap ((d : Int) + 1) = (d1 : Int) := by rw [show (d : Int) + 1 = (d1 : Int) from by omega]; exact IntWalk.i64_in _ (by omega)
  clear h hN0 t1 hN1 hwd he hd1 hds
  go_enter Tryz.func20, Tryz.ntmps20
  go_wp2
  go_loopw [7] (fun v wr => NlRel w gp g n cp ts L σ W1 0 v wr) (fun v _ => 1 - (intOf v).toNat)
  case atStart => exact ⟨0, Nat.zero_le _, rfl, HN1.out.1, Touch.refl _ _⟩
  case round =>
    obtain ⟨i, hi, rfl, hN, hT⟩ := hrel
    have hwdr := wd_touch HN1.out.2 hT
    have HNr := Lib.hid hN
    have hNl := hN.lt
    have hwl := hwdr.2.1
    · obtain rfl : i = 0 := by omega
      have hcell := hwdr.2.2 0 [115, 101, 113] rfl
      clear hwdr hi
      have HS := Lib.hid HNr.out
      clear hN hT HNr
      have HC := Lib.hid (t_yes HS.out.rt [115, 101, 113] hy)
      go_wp2_with fail
      refine HC.out.mono ?_
      rintro x w21 ⟨rfl, hr, ht⟩
      have hn := HS.out.call hgp hr ht
      clear HS
      have HS := Lib.hid hn
      clear hr ht hn HC
      obtain ⟨q0, q1, q2, q3, q4, q5, q6, q7, q8, q9, ql⟩ := nd_cells HS.out.h5
      have f0 := HS.out.free 0
      have f1 := HS.out.free 1
      have f2 := HS.out.free 2
      have f3 := HS.out.free 3
      have f4 := HS.out.free 4
      have f5 := HS.out.free 5
      have f6 := HS.out.free 6
      have f7 := HS.out.free 7
      have f8 := HS.out.free 8
      have f9 := HS.out.free 9
      obtain ⟨w22, hw22⟩ : ∃ W, w21.setCell ⟨w.heap.size + 1, 0, none⟩ (.int .i64 0) = W := ⟨_, rfl⟩
      have hn := HS.out.set hgp hg 0 (.int .i64 0) (us := [.int .i64 0, .int .i64 0, .int .i64 0, .string ⟨#[]⟩, .int .i64 0, .int .i64 0, .string ⟨#[]⟩, .slice none 0 0, .slice none 0 0, .slice none 0 0]) rfl
      rw [hw22] at hn
      clear HS
      have HS := Lib.hid hn
      clear hn
      have HC := Lib.hid (rbra_any HSUB.out HS.out.rt (by have := HS.out.lt; omega))
      have hc0 := HS.out.lt
      go_wp2_with fail
      refine HC.out.mono ?_
      rintro x w23 ⟨ht, hr, l, xs, A, cx, rfl, hs2, hl2, hyo⟩
      have hn := HS.out.call hgp hr ht
      clear HS
      have HS := Lib.hid hn
      have HK := Lib.hid (And.intro hs2 hl2)
      have HYO := Lib.hid hyo
      have HC0 := Lib.hid hc0
      clear ht hr hs2 hl2 hn hyo HC hc0
      try clear q0 q1 q2 q3 q4 q5 q6 q7 q8 q9 ql f0 f1 f2 f3 f4 f5 f6 f7 f8 f9
      obtain ⟨q0, q1, q2, q3, q4, q5, q6, q7, q8, q9, ql⟩ := nd_cells HS.out.h5
      have f0 := HS.out.free 0
      have f1 := HS.out.free 1
      have f2 := HS.out.free 2
      have f3 := HS.out.free 3
      have f4 := HS.out.free 4
      have f5 := HS.out.free 5
      have f6 := HS.out.free 6
      have f7 := HS.out.free 7
      have f8 := HS.out.free 8
      have f9 := HS.out.free 9
      obtain ⟨w24, hw24⟩ : ∃ W, w23.setCell ⟨w.heap.size + 1, 8, none⟩ (.slice A l.length cx) = W := ⟨_, rfl⟩
      have hn := HS.out.set hgp hg 8 (.slice A l.length cx) (us := [.int .i64 0, .int .i64 0, .int .i64 0, .string ⟨#[]⟩, .int .i64 0, .int .i64 0, .string ⟨#[]⟩, .slice none 0 0, .slice A l.length cx, .slice none 0 0]) rfl
      rw [hw24] at hn
      clear HS
      have HS := Lib.hid hn
      clear hn
      have HT3 := Lib.hid (show Touch (F3 gp w) w23 w24 from by rw [← hw24]; exact (Touch.refl (F3 gp w) _).setCell (p := ⟨w.heap.size + 1, 8, none⟩) (.inl (.inr (.inr rfl))) _)
      obtain ⟨hld, W9, hst, hra, hr9, ht9, ht3⟩ := HS.out.fin hgp hg rfl (by intro v hv; simp only [List.mem_cons, List.not_mem_nil, or_false] at hv; rcases hv with rfl | rfl | rfl | rfl | rfl | rfl | rfl | rfl | rfl | rfl <;> rfl)
      obtain ⟨y0, y1, y2, y3, y4, y5, y6, y7, y8, y9⟩ := range_cells hra
      have HZ := Lib.hid (And.intro hr9 (And.intro ht9 ht3))
      have hNl := HS.out.lt
      clear hra hr9 ht9 ht3
      go_wp2
      have HNT := nt_brace (k := 0) (a := 0) (b := 0) HK.out.1 HK.out.2 (HT3.out.same HZ.out.2.2) (by have := HC0.out; omega) hgp
      exact bodyPost_ret (v := .agg #[.int .i64 0, .int .i64 0, .int .i64 0, .string ⟨#[]⟩, .int .i64 0, .int .i64 0, .string ⟨#[]⟩, .slice none 0 0, .slice A l.length cx, .slice none 0 0]) (by simp [results, Tryz.results20, go_sem, y0, y1, y2, y3, y4, y5, y6, y7, y8, y9]) rfl
        ⟨HZ.out.2.1, HZ.out.1, .mk 0 0 0 [] x0 l [], 0, 0, ⟨#[]⟩, none, 0, 0, _, _, _, _, rfl, HNT, fun e => by rw [HYO.out e]⟩
theorem rnode_1 {gp g n cp L d d1 D : Nat} {ts : List Tk} {sub : St → Nd × St} (hd1 : d1 = d + 1) (hds : d ≤ 40) (HSB : RNodeOk gp g n cp ts L d1 D sub) {w : World} {σ : St} (h : RT w gp g n cp ts L σ) (hg : g < w.heap.size) (hy : isS ts [115, 101, 108] σ = true) :
    Calls Tryz.prog 20 #[.pointer (some ⟨gp, 0, none⟩), .int .i64 (d : Int)] w (RNP w gp g n cp ts L (D + 1) (rndK ts sub 1 (σ.1 + 1, σ.2))) := by
  have he := isS_ok hy
  have HSUB := Lib.hid HSB
  clear HSB
  show Calls _ _ _ _ (RNP w gp g n cp ts L (D + 1) (.mk 1 0 0 [] x0 (braV ts sub (σ.1 + 1, σ.2)) [], braS ts sub (σ.1 + 1, σ.2)))
  have hgp := h.lt
  obtain ⟨W0, hW0⟩ : ∃ W, (w.alloc (.cells #[.int .i64 0, .int .i64 0, .int .i64 0, .string ⟨#[]⟩, .int .i64 0, .int .i64 0, .string ⟨#[]⟩, .slice none 0 0, .slice none 0 0, .slice none 0 0] 62)).alloc (.cells #[.int .i64 0, .int .i64 0, .int .i64 0, .string ⟨#[]⟩, .int .i64 0, .int .i64 0, .string ⟨#[]⟩, .slice none 0 0, .slice none 0 0, .slice none 0 0] 62) = W := ⟨_, rfl⟩
  have hN0 := NS5.start h hW0
  obtain ⟨W1, hW1⟩ : ∃ W, W0.alloc (.cells #[.string ⟨#[115, 101, 113]⟩, .string ⟨#[115, 101, 108]⟩, .string ⟨#[109, 115, 101, 113]⟩, .string ⟨#[109, 115, 101, 108]⟩, .string ⟨#[112, 97, 114]⟩] 9) = W := ⟨_, rfl⟩
  have t1 : Touch NoB W0 W1 := by rw [← hW1]; exact (Touch.refl _ _).alloc _
  have hN1 := hN0.quiet hgp t1
  have hwd : WdAt W1 W0.heap.size 5 manyW := words_at (by rw [← hW1]; exact alloc_blk _ _ _ rfl) rfl (by decide) rfl
  have hee : ((σ.2 : Int) != 0) = false := by rw [he]; rfl
  have hdd : decide ((40 : Int) < (d : Int)) = false := by simp; omega
  obtain ⟨c1, c2, cl⟩ := hN0.rt.cells
  have HN1 := Lib.hid (And.intro hN1 hwd)
  have HW1 := Lib.hid hwd
  have hsum : IntKind.i64.wrap ((d : Int) + 1) = (d1 : Int) := by rw [show (d : Int) + 1 = (d1 : Int) from by omega]; exact IntWalk.i64_in _ (by omega)
  clear h hN0 t1 hN1 hwd he hd1 hds
  go_enter Tryz.func20, Tryz.ntmps20
  go_wp2
  go_loopw [7] (fun v wr => NlRel w gp g n cp ts L σ W1 1 v wr) (fun v _ => 2 - (intOf v).toNat)
  case atStart => exact ⟨0, Nat.zero_le _, rfl, HN1.out.1, Touch.refl _ _⟩
  case round =>
    obtain ⟨i, hi, rfl, hN, hT⟩ := hrel
    have hwdr := wd_touch HN1.out.2 hT
    have HNr := Lib.hid hN
    have hNl := hN.lt
    have hwl := hwdr.2.1
    by_cases hlt : i < 1
    · obtain ⟨s, hs⟩ : ∃ s, manyW[i]? = some s := ⟨manyW[i]'(by have : manyW.length = 5 := rfl; omega), List.getElem?_eq_getElem _⟩
      have hcell := hwdr.2.2 i s hs
      have hno : isS ts s σ = false := isS_other hy (fun e => (by decide : ∀ i : Nat, i < 1 → manyW[i]? ≠ some [115, 101, 108]) i hlt (e ▸ hs))
      have HC := Lib.hid (t_no hN.rt s hno)
      have HT := Lib.hid hT
      obtain ⟨sx, hsx⟩ : ∃ sx, bs s = sx := ⟨_, rfl⟩
      rw [hsx] at hcell HC
      have hi5 : (i : Int) < 5 := by omega
      clear hN hT hwdr hs hno hsx
      go_wp2_with fail
      refine HC.out.mono ?_
      rintro x w2 ⟨rfl, hr2, ht2⟩
      have HE := Lib.hid (And.intro (HNr.out.quiet hgp ht2) (HT.out.same ht2))
      clear hr2 ht2
      go_wp2
      go_roundw
      case rel => exact ⟨i + 1, by omega, by go_num, HE.out.1, HE.out.2⟩
      case measure => simp [intOf]; omega
    · obtain rfl : i = 1 := by omega
      have hcell := hwdr.2.2 1 [115, 101, 108] rfl
      clear hwdr hlt hi
      have HS := Lib.hid HNr.out
      clear hN hT HNr
      have HC := Lib.hid (t_yes HS.out.rt [115, 101, 108] hy)
      go_wp2_with fail
      refine HC.out.mono ?_
      rintro x w21 ⟨rfl, hr, ht⟩
      have hn := HS.out.call hgp hr ht
      clear HS
      have HS := Lib.hid hn
      clear hr ht hn HC
      obtain ⟨q0, q1, q2, q3, q4, q5, q6, q7, q8, q9, ql⟩ := nd_cells HS.out.h5
      have f0 := HS.out.free 0
      have f1 := HS.out.free 1
      have f2 := HS.out.free 2
      have f3 := HS.out.free 3
      have f4 := HS.out.free 4
      have f5 := HS.out.free 5
      have f6 := HS.out.free 6
      have f7 := HS.out.free 7
      have f8 := HS.out.free 8
      have f9 := HS.out.free 9
      obtain ⟨w22, hw22⟩ : ∃ W, w21.setCell ⟨w.heap.size + 1, 0, none⟩ (.int .i64 1) = W := ⟨_, rfl⟩
      have hn := HS.out.set hgp hg 0 (.int .i64 1) (us := [.int .i64 1, .int .i64 0, .int .i64 0, .string ⟨#[]⟩, .int .i64 0, .int .i64 0, .string ⟨#[]⟩, .slice none 0 0, .slice none 0 0, .slice none 0 0]) rfl
      rw [hw22] at hn
      clear HS
      have HS := Lib.hid hn
      clear hn
      have HC := Lib.hid (rbra_any HSUB.out HS.out.rt (by have := HS.out.lt; omega))
      have hc0 := HS.out.lt
      go_wp2_with fail
      refine HC.out.mono ?_
      rintro x w23 ⟨ht, hr, l, xs, A, cx, rfl, hs2, hl2, hyo⟩
      have hn := HS.out.call hgp hr ht
      clear HS
      have HS := Lib.hid hn
      have HK := Lib.hid (And.intro hs2 hl2)
      have HYO := Lib.hid hyo
      have HC0 := Lib.hid hc0
      clear ht hr hs2 hl2 hn hyo HC hc0
      try clear q0 q1 q2 q3 q4 q5 q6 q7 q8 q9 ql f0 f1 f2 f3 f4 f5 f6 f7 f8 f9
      obtain ⟨q0, q1, q2, q3, q4, q5, q6, q7, q8, q9, ql⟩ := nd_cells HS.out.h5
      have f0 := HS.out.free 0
      have f1 := HS.out.free 1
      have f2 := HS.out.free 2
      have f3 := HS.out.free 3
      have f4 := HS.out.free 4
      have f5 := HS.out.free 5
      have f6 := HS.out.free 6
      have f7 := HS.out.free 7
      have f8 := HS.out.free 8
      have f9 := HS.out.free 9
      obtain ⟨w24, hw24⟩ : ∃ W, w23.setCell ⟨w.heap.size + 1, 8, none⟩ (.slice A l.length cx) = W := ⟨_, rfl⟩
      have hn := HS.out.set hgp hg 8 (.slice A l.length cx) (us := [.int .i64 1, .int .i64 0, .int .i64 0, .string ⟨#[]⟩, .int .i64 0, .int .i64 0, .string ⟨#[]⟩, .slice none 0 0, .slice A l.length cx, .slice none 0 0]) rfl
      rw [hw24] at hn
      clear HS
      have HS := Lib.hid hn
      clear hn
      have HT3 := Lib.hid (show Touch (F3 gp w) w23 w24 from by rw [← hw24]; exact (Touch.refl (F3 gp w) _).setCell (p := ⟨w.heap.size + 1, 8, none⟩) (.inl (.inr (.inr rfl))) _)
      obtain ⟨hld, W9, hst, hra, hr9, ht9, ht3⟩ := HS.out.fin hgp hg rfl (by intro v hv; simp only [List.mem_cons, List.not_mem_nil, or_false] at hv; rcases hv with rfl | rfl | rfl | rfl | rfl | rfl | rfl | rfl | rfl | rfl <;> rfl)
      obtain ⟨y0, y1, y2, y3, y4, y5, y6, y7, y8, y9⟩ := range_cells hra
      have HZ := Lib.hid (And.intro hr9 (And.intro ht9 ht3))
      have hNl := HS.out.lt
      clear hra hr9 ht9 ht3
      go_wp2
      have HNT := nt_brace (k := 1) (a := 0) (b := 0) HK.out.1 HK.out.2 (HT3.out.same HZ.out.2.2) (by have := HC0.out; omega) hgp
      exact bodyPost_ret (v := .agg #[.int .i64 1, .int .i64 0, .int .i64 0, .string ⟨#[]⟩, .int .i64 0, .int .i64 0, .string ⟨#[]⟩, .slice none 0 0, .slice A l.length cx, .slice none 0 0]) (by simp [results, Tryz.results20, go_sem, y0, y1, y2, y3, y4, y5, y6, y7, y8, y9]) rfl
        ⟨HZ.out.2.1, HZ.out.1, .mk 1 0 0 [] x0 l [], 0, 0, ⟨#[]⟩, none, 0, 0, _, _, _, _, rfl, HNT, fun e => by rw [HYO.out e]⟩
theorem rnode_2 {gp g n cp L d d1 D : Nat} {ts : List Tk} {sub : St → Nd × St} (hd1 : d1 = d + 1) (hds : d ≤ 40) (HSB : RNodeOk gp g n cp ts L d1 D sub) {w : World} {σ : St} (h : RT w gp g n cp ts L σ) (hg : g < w.heap.size) (hy : isS ts [109, 115, 101, 113] σ = true) :
    Calls Tryz.prog 20 #[.pointer (some ⟨gp, 0, none⟩), .int .i64 (d : Int)] w (RNP w gp g n cp ts L (D + 1) (rndK ts sub 2 (σ.1 + 1, σ.2))) := by
  have he := isS_ok hy
  have HSUB := Lib.hid HSB
  clear HSB
  show Calls _ _ _ _ (RNP w gp g n cp ts L (D + 1) (.mk 2 0 0 [] x0 (braV ts sub (σ.1 + 1, σ.2)) [], braS ts sub (σ.1 + 1, σ.2)))
  have hgp := h.lt
  obtain ⟨W0, hW0⟩ : ∃ W, (w.alloc (.cells #[.int .i64 0, .int .i64 0, .int .i64 0, .string ⟨#[]⟩, .int .i64 0, .int .i64 0, .string ⟨#[]⟩, .slice none 0 0, .slice none 0 0, .slice none 0 0] 62)).alloc (.cells #[.int .i64 0, .int .i64 0, .int .i64 0, .string ⟨#[]⟩, .int .i64 0, .int .i64 0, .string ⟨#[]⟩, .slice none 0 0, .slice none 0 0, .slice none 0 0] 62) = W := ⟨_, rfl⟩
  have hN0 := NS5.start h hW0
  obtain ⟨W1, hW1⟩ : ∃ W, W0.alloc (.cells #[.string ⟨#[115, 101, 113]⟩, .string ⟨#[115, 101, 108]⟩, .string ⟨#[109, 115, 101, 113]⟩, .string ⟨#[109, 115, 101, 108]⟩, .string ⟨#[112, 97, 114]⟩] 9) = W := ⟨_, rfl⟩
  have t1 : Touch NoB W0 W1 := by rw [← hW1]; exact (Touch.refl _ _).alloc _
  have hN1 := hN0.quiet hgp t1
  have hwd : WdAt W1 W0.heap.size 5 manyW := words_at (by rw [← hW1]; exact alloc_blk _ _ _ rfl) rfl (by decide) rfl
  have hee : ((σ.2 : Int) != 0) = false := by rw [he]; rfl
  have hdd : decide ((40 : Int) < (d : Int)) = false := by simp; omega
  obtain ⟨c1, c2, cl⟩ := hN0.rt.cells
  have HN1 := Lib.hid (And.intro hN1 hwd)
  have HW1 := Lib.hid hwd
  have hsum : IntKind.i64.wrap ((d : Int) + 1) = (d1 : Int) := by rw [show (d : Int) + 1 = (d1 : Int) from by omega]; exact IntWalk.i64_in _ (by omega)
  clear h hN0 t1 hN1 hwd he hd1 hds
  go_enter Tryz.func20, Tryz.ntmps20
  go_wp2
  go_loopw [7] (fun v wr => NlRel w gp g n cp ts L σ W1 2 v wr) (fun v _ => 3 - (intOf v).toNat)
  case atStart => exact ⟨0, Nat.zero_le _, rfl, HN1.out.1, Touch.refl _ _⟩
  case round =>
    obtain ⟨i, hi, rfl, hN, hT⟩ := hrel
    have hwdr := wd_touch HN1.out.2 hT
    have HNr := Lib.hid hN
    have hNl := hN.lt
    have hwl := hwdr.2.1
    by_cases hlt : i < 2
    · obtain ⟨s, hs⟩ : ∃ s, manyW[i]? = some s := ⟨manyW[i]'(by have : manyW.length = 5 := rfl; omega), List.getElem?_eq_getElem _⟩
      have hcell := hwdr.2.2 i s hs
      have hno : isS ts s σ = false := isS_other hy (fun e => (by decide : ∀ i : Nat, i < 2 → manyW[i]? ≠ some [109, 115, 101, 113]) i hlt (e ▸ hs))
      have HC := Lib.hid (t_no hN.rt s hno)
      have HT := Lib.hid hT
      obtain ⟨sx, hsx⟩ : ∃ sx, bs s = sx := ⟨_, rfl⟩
      rw [hsx] at hcell HC
      have hi5 : (i : Int) < 5 := by omega
      clear hN hT hwdr hs hno hsx
      go_wp2_with fail
      refine HC.out.mono ?_
      rintro x w2 ⟨rfl, hr2, ht2⟩
      have HE := Lib.hid (And.intro (HNr.out.quiet hgp ht2) (HT.out.same ht2))
      clear hr2 ht2
      go_wp2
      go_roundw
      case rel => exact ⟨i + 1, by omega, by go_num, HE.out.1, HE.out.2⟩
      case measure => simp [intOf]; omega
    · obtain rfl : i = 2 := by omega
      have hcell := hwdr.2.2 2 [109, 115, 101, 113] rfl
      clear hwdr hlt hi
      have HS := Lib.hid HNr.out
      clear hN hT HNr
      have HC := Lib.hid (t_yes HS.out.rt [109, 115, 101, 113] hy)
      go_wp2_with fail
      refine HC.out.mono ?_
      rintro x w21 ⟨rfl, hr, ht⟩
      have hn := HS.out.call hgp hr ht
      clear HS
      have HS := Lib.hid hn
      clear hr ht hn HC
      obtain ⟨q0, q1, q2, q3, q4, q5, q6, q7, q8, q9, ql⟩ := nd_cells HS.out.h5
      have f0 := HS.out.free 0
      have f1 := HS.out.free 1
      have f2 := HS.out.free 2
      have f3 := HS.out.free 3
      have f4 := HS.out.free 4
      have f5 := HS.out.free 5
      have f6 := HS.out.free 6
      have f7 := HS.out.free 7
      have f8 := HS.out.free 8
      have f9 := HS.out.free 9
      obtain ⟨w22, hw22⟩ : ∃ W, w21.setCell ⟨w.heap.size + 1, 0, none⟩ (.int .i64 2) = W := ⟨_, rfl⟩
      have hn := HS.out.set hgp hg 0 (.int .i64 2) (us := [.int .i64 2, .int .i64 0, .int .i64 0, .string ⟨#[]⟩, .int .i64 0, .int .i64 0, .string ⟨#[]⟩, .slice none 0 0, .slice none 0 0, .slice none 0 0]) rfl
      rw [hw22] at hn
      clear HS
      have HS := Lib.hid hn
      clear hn
      have HC := Lib.hid (rbra_any HSUB.out HS.out.rt (by have := HS.out.lt; omega))
      have hc0 := HS.out.lt
      go_wp2_with fail
      refine HC.out.mono ?_
      rintro x w23 ⟨ht, hr, l, xs, A, cx, rfl, hs2, hl2, hyo⟩
      have hn := HS.out.call hgp hr ht
      clear HS
      have HS := Lib.hid hn
      have HK := Lib.hid (And.intro hs2 hl2)
      have HYO := Lib.hid hyo
      have HC0 := Lib.hid hc0
      clear ht hr hs2 hl2 hn hyo HC hc0
      try clear q0 q1 q2 q3 q4 q5 q6 q7 q8 q9 ql f0 f1 f2 f3 f4 f5 f6 f7 f8 f9
      obtain ⟨q0, q1, q2, q3, q4, q5, q6, q7, q8, q9, ql⟩ := nd_cells HS.out.h5
      have f0 := HS.out.free 0
      have f1 := HS.out.free 1
      have f2 := HS.out.free 2
      have f3 := HS.out.free 3
      have f4 := HS.out.free 4
      have f5 := HS.out.free 5
      have f6 := HS.out.free 6
      have f7 := HS.out.free 7
      have f8 := HS.out.free 8
      have f9 := HS.out.free 9
      obtain ⟨w24, hw24⟩ : ∃ W, w23.setCell ⟨w.heap.size + 1, 8, none⟩ (.slice A l.length cx) = W := ⟨_, rfl⟩
      have hn := HS.out.set hgp hg 8 (.slice A l.length cx) (us := [.int .i64 2, .int .i64 0, .int .i64 0, .string ⟨#[]⟩, .int .i64 0, .int .i64 0, .string ⟨#[]⟩, .slice none 0 0, .slice A l.length cx, .slice none 0 0]) rfl
      rw [hw24] at hn
      clear HS
      have HS := Lib.hid hn
      clear hn
      have HT3 := Lib.hid (show Touch (F3 gp w) w23 w24 from by rw [← hw24]; exact (Touch.refl (F3 gp w) _).setCell (p := ⟨w.heap.size + 1, 8, none⟩) (.inl (.inr (.inr rfl))) _)
      obtain ⟨hld, W9, hst, hra, hr9, ht9, ht3⟩ := HS.out.fin hgp hg rfl (by intro v hv; simp only [List.mem_cons, List.not_mem_nil, or_false] at hv; rcases hv with rfl | rfl | rfl | rfl | rfl | rfl | rfl | rfl | rfl | rfl <;> rfl)
      obtain ⟨y0, y1, y2, y3, y4, y5, y6, y7, y8, y9⟩ := range_cells hra
      have HZ := Lib.hid (And.intro hr9 (And.intro ht9 ht3))
      have hNl := HS.out.lt
      clear hra hr9 ht9 ht3
      go_wp2
      have HNT := nt_brace (k := 2) (a := 0) (b := 0) HK.out.1 HK.out.2 (HT3.out.same HZ.out.2.2) (by have := HC0.out; omega) hgp
      exact bodyPost_ret (v := .agg #[.int .i64 2, .int .i64 0, .int .i64 0, .string ⟨#[]⟩, .int .i64 0, .int .i64 0, .string ⟨#[]⟩, .slice none 0 0, .slice A l.length cx, .slice none 0 0]) (by simp [results, Tryz.results20, go_sem, y0, y1, y2, y3, y4, y5, y6, y7, y8, y9]) rfl
        ⟨HZ.out.2.1, HZ.out.1, .mk 2 0 0 [] x0 l [], 0, 0, ⟨#[]⟩, none, 0, 0, _, _, _, _, rfl, HNT, fun e => by rw [HYO.out e]⟩
theorem rnode_3 {gp g n cp L d d1 D : Nat} {ts : List Tk} {sub : St → Nd × St} (hd1 : d1 = d + 1) (hds : d ≤ 40) (HSB : RNodeOk gp g n cp ts L d1 D sub) {w : World} {σ : St} (h : RT w gp g n cp ts L σ) (hg : g < w.heap.size) (hy : isS ts [109, 115, 101, 108] σ = true) :
    Calls Tryz.prog 20 #[.pointer (some ⟨gp, 0, none⟩), .int .i64 (d : Int)] w (RNP w gp g n cp ts L (D + 1) (rndK ts sub 3 (σ.1 + 1, σ.2))) := by
  have he := isS_ok hy
  have HSUB := Lib.hid HSB
  clear HSB
  show Calls _ _ _ _ (RNP w gp g n cp ts L (D + 1) (.mk 3 0 0 [] x0 (braV ts sub (σ.1 + 1, σ.2)) [], braS ts sub (σ.1 + 1, σ.2)))
  have hgp := h.lt
  obtain ⟨W0, hW0⟩ : ∃ W, (w.alloc (.cells #[.int .i64 0, .int .i64 0, .int .i64 0, .string ⟨#[]⟩, .int .i64 0, .int .i64 0, .string ⟨#[]⟩, .slice none 0 0, .slice none 0 0, .slice none 0 0] 62)).alloc (.cells #[.int .i64 0, .int .i64 0, .int .i64 0, .string ⟨#[]⟩, .int .i64 0, .int .i64 0, .string ⟨#[]⟩, .slice none 0 0, .slice none 0 0, .slice none 0 0] 62) = W := ⟨_, rfl⟩
  have hN0 := NS5.start h hW0
  obtain ⟨W1, hW1⟩ : ∃ W, W0.alloc (.cells #[.string ⟨#[115, 101, 113]⟩, .string ⟨#[115, 101, 108]⟩, .string ⟨#[109, 115, 101, 113]⟩, .string ⟨#[109, 115, 101, 108]⟩, .string ⟨#[112, 97, 114]⟩] 9) = W := ⟨_, rfl⟩
  have t1 : Touch NoB W0 W1 := by rw [← hW1]; exact (Touch.refl _ _).alloc _
  have hN1 := hN0.quiet hgp t1
  have hwd : WdAt W1 W0.heap.size 5 manyW := words_at (by rw [← hW1]; exact alloc_blk _ _ _ rfl) rfl (by decide) rfl
  have hee : ((σ.2 : Int) != 0) = false := by rw [he]; rfl
  have hdd : decide ((40 : Int) < (d : Int)) = false := by simp; omega
  obtain ⟨c1, c2, cl⟩ := hN0.rt.cells
  have HN1 := Lib.hid (And.intro hN1 hwd)
  have HW1 := Lib.hid hwd
  have hsum : IntKind.i64.wrap ((d : Int) + 1) = (d1 : Int) := by rw [show (d : Int) + 1 = (d1 : Int) from by omega]; exact IntWalk.i64_in _ (by omega)
  clear h hN0 t1 hN1 hwd he hd1 hds
  go_enter Tryz.func20, Tryz.ntmps20
  go_wp2
  go_loopw [7] (fun v wr => NlRel w gp g n cp ts L σ W1 3 v wr) (fun v _ => 4 - (intOf v).toNat)
  case atStart => exact ⟨0, Nat.zero_le _, rfl, HN1.out.1, Touch.refl _ _⟩
  case round =>
    obtain ⟨i, hi, rfl, hN, hT⟩ := hrel
    have hwdr := wd_touch HN1.out.2 hT
    have HNr := Lib.hid hN
    have hNl := hN.lt
    have hwl := hwdr.2.1
    by_cases hlt : i < 3
    · obtain ⟨s, hs⟩ : ∃ s, manyW[i]? = some s := ⟨manyW[i]'(by have : manyW.length = 5 := rfl; omega), List.getElem?_eq_getElem _⟩
      have hcell := hwdr.2.2 i s hs
      have hno : isS ts s σ = false := isS_other hy (fun e => (by decide : ∀ i : Nat, i < 3 → manyW[i]? ≠ some [109, 115, 101, 108]) i hlt (e ▸ hs))
      have HC := Lib.hid (t_no hN.rt s hno)
      have HT := Lib.hid hT
      obtain ⟨sx, hsx⟩ : ∃ sx, bs s = sx := ⟨_, rfl⟩
      rw [hsx] at hcell HC
      have hi5 : (i : Int) < 5 := by omega
      clear hN hT hwdr hs hno hsx
      go_wp2_with fail
      refine HC.out.mono ?_
      rintro x w2 ⟨rfl, hr2, ht2⟩
      have HE := Lib.hid (And.intro (HNr.out.quiet hgp ht2) (HT.out.same ht2))
      clear hr2 ht2
      go_wp2
      go_roundw
      case rel => exact ⟨i + 1, by omega, by go_num, HE.out.1, HE.out.2⟩
      case measure => simp [intOf]; omega
    · obtain rfl : i = 3 := by omega
      have hcell := hwdr.2.2 3 [109, 115, 101, 108] rfl
      clear hwdr hlt hi
      have HS := Lib.hid HNr.out
      clear hN hT HNr
      have HC := Lib.hid (t_yes HS.out.rt [109, 115, 101, 108] hy)
      go_wp2_with fail
      refine HC.out.mono ?_
      rintro x w21 ⟨rfl, hr, ht⟩
      have hn := HS.out.call hgp hr ht
      clear HS
      have HS := Lib.hid hn
      clear hr ht hn HC
      obtain ⟨q0, q1, q2, q3, q4, q5, q6, q7, q8, q9, ql⟩ := nd_cells HS.out.h5
      have f0 := HS.out.free 0
      have f1 := HS.out.free 1
      have f2 := HS.out.free 2
      have f3 := HS.out.free 3
      have f4 := HS.out.free 4
      have f5 := HS.out.free 5
      have f6 := HS.out.free 6
      have f7 := HS.out.free 7
      have f8 := HS.out.free 8
      have f9 := HS.out.free 9
      obtain ⟨w22, hw22⟩ : ∃ W, w21.setCell ⟨w.heap.size + 1, 0, none⟩ (.int .i64 3) = W := ⟨_, rfl⟩
      have hn := HS.out.set hgp hg 0 (.int .i64 3) (us := [.int .i64 3, .int .i64 0, .int .i64 0, .string ⟨#[]⟩, .int .i64 0, .int .i64 0, .string ⟨#[]⟩, .slice none 0 0, .slice none 0 0, .slice none 0 0]) rfl
      rw [hw22] at hn
      clear HS
      have HS := Lib.hid hn
      clear hn
      have HC := Lib.hid (rbra_any HSUB.out HS.out.rt (by have := HS.out.lt; omega))
      have hc0 := HS.out.lt
      go_wp2_with fail
      refine HC.out.mono ?_
      rintro x w23 ⟨ht, hr, l, xs, A, cx, rfl, hs2, hl2, hyo⟩
      have hn := HS.out.call hgp hr ht
      clear HS
      have HS := Lib.hid hn
      have HK := Lib.hid (And.intro hs2 hl2)
      have HYO := Lib.hid hyo
      have HC0 := Lib.hid hc0
      clear ht hr hs2 hl2 hn hyo HC hc0
      try clear q0 q1 q2 q3 q4 q5 q6 q7 q8 q9 ql f0 f1 f2 f3 f4 f5 f6 f7 f8 f9
      obtain ⟨q0, q1, q2, q3, q4, q5, q6, q7, q8, q9, ql⟩ := nd_cells HS.out.h5
      have f0 := HS.out.free 0
      have f1 := HS.out.free 1
      have f2 := HS.out.free 2
      have f3 := HS.out.free 3
      have f4 := HS.out.free 4
      have f5 := HS.out.free 5
      have f6 := HS.out.free 6
      have f7 := HS.out.free 7
      have f8 := HS.out.free 8
      have f9 := HS.out.free 9
      obtain ⟨w24, hw24⟩ : ∃ W, w23.setCell ⟨w.heap.size + 1, 8, none⟩ (.slice A l.length cx) = W := ⟨_, rfl⟩
      have hn := HS.out.set hgp hg 8 (.slice A l.length cx) (us := [.int .i64 3, .int .i64 0, .int .i64 0, .string ⟨#[]⟩, .int .i64 0, .int .i64 0, .string ⟨#[]⟩, .slice none 0 0, .slice A l.length cx, .slice none 0 0]) rfl
      rw [hw24] at hn
      clear HS
      have HS := Lib.hid hn
      clear hn
      have HT3 := Lib.hid (show Touch (F3 gp w) w23 w24 from by rw [← hw24]; exact (Touch.refl (F3 gp w) _).setCell (p := ⟨w.heap.size + 1, 8, none⟩) (.inl (.inr (.inr rfl))) _)
      obtain ⟨hld, W9, hst, hra, hr9, ht9, ht3⟩ := HS.out.fin hgp hg rfl (by intro v hv; simp only [List.mem_cons, List.not_mem_nil, or_false] at hv; rcases hv with rfl | rfl | rfl | rfl | rfl | rfl | rfl | rfl | rfl | rfl <;> rfl)
      obtain ⟨y0, y1, y2, y3, y4, y5, y6, y7, y8, y9⟩ := range_cells hra
      have HZ := Lib.hid (And.intro hr9 (And.intro ht9 ht3))
      have hNl := HS.out.lt
      clear hra hr9 ht9 ht3
      go_wp2
      have HNT := nt_brace (k := 3) (a := 0) (b := 0) HK.out.1 HK.out.2 (HT3.out.same HZ.out.2.2) (by have := HC0.out; omega) hgp
      exact bodyPost_ret (v := .agg #[.int .i64 3, .int .i64 0, .int .i64 0, .string ⟨#[]⟩, .int .i64 0, .int .i64 0, .string ⟨#[]⟩, .slice none 0 0, .slice A l.length cx, .slice none 0 0]) (by simp [results, Tryz.results20, go_sem, y0, y1, y2, y3, y4, y5, y6, y7, y8, y9]) rfl
        ⟨HZ.out.2.1, HZ.out.1, .mk 3 0 0 [] x0 l [], 0, 0, ⟨#[]⟩, none, 0, 0, _, _, _, _, rfl, HNT, fun e => by rw [HYO.out e]⟩
theorem rnode_4 {gp g n cp L d d1 D : Nat} {ts : List Tk} {sub : St → Nd × St} (hd1 : d1 = d + 1) (hds : d ≤ 40) (HSB : RNodeOk gp g n cp ts L d1 D sub) {w : World} {σ : St} (h : RT w gp g n cp ts L σ) (hg : g < w.heap.size) (hy : isS ts [112, 97, 114] σ = true) :
    Calls Tryz.prog 20 #[.pointer (some ⟨gp, 0, none⟩), .int .i64 (d : Int)] w (RNP w gp g n cp ts L (D + 1) (rndK ts sub 4 (σ.1 + 1, σ.2))) := by
  have he := isS_ok hy
  have HSUB := Lib.hid HSB
  clear HSB
  show Calls _ _ _ _ (RNP w gp g n cp ts L (D + 1) (.mk 4 (nuV ts (σ.1 + 1, σ.2)) (nuV ts (nuS ts (σ.1 + 1, σ.2))) [] x0 (braV ts sub (nuS ts (nuS ts (σ.1 + 1, σ.2)))) [], braS ts sub (nuS ts (nuS ts (σ.1 + 1, σ.2)))))
  have hgp := h.lt
  obtain ⟨W0, hW0⟩ : ∃ W, (w.alloc (.cells #[.int .i64 0, .int .i64 0, .int .i64 0, .string ⟨#[]⟩, .int .i64 0, .int .i64 0, .string ⟨#[]⟩, .slice none 0 0, .slice none 0 0, .slice none 0 0] 62)).alloc (.cells #[.int .i64 0, .int .i64 0, .int .i64 0, .string ⟨#[]⟩, .int .i64 0, .int .i64 0, .string ⟨#[]⟩, .slice none 0 0, .slice none 0 0, .slice none 0 0] 62) = W := ⟨_, rfl⟩
  have hN0 := NS5.start h hW0
  obtain ⟨W1, hW1⟩ : ∃ W, W0.alloc (.cells #[.string ⟨#[115, 101, 113]⟩, .string ⟨#[115, 101, 108]⟩, .string ⟨#[109, 115, 101, 113]⟩, .string ⟨#[109, 115, 101, 108]⟩, .string ⟨#[112, 97, 114]⟩] 9) = W := ⟨_, rfl⟩
  have t1 : Touch NoB W0 W1 := by rw [← hW1]; exact (Touch.refl _ _).alloc _
  have hN1 := hN0.quiet hgp t1
  have hwd : WdAt W1 W0.heap.size 5 manyW := words_at (by rw [← hW1]; exact alloc_blk _ _ _ rfl) rfl (by decide) rfl
  have hee : ((σ.2 : Int) != 0) = false := by rw [he]; rfl
  have hdd : decide ((40 : Int) < (d : Int)) = false := by simp; omega
  obtain ⟨c1, c2, cl⟩ := hN0.rt.cells
  have HN1 := Lib.hid (And.intro hN1 hwd)
  have HW1 := Lib.hid hwd
  have hsum : IntKind.i64.wrap ((d : Int) + 1) = (d1 : Int) := by rw [show (d : Int) + 1 = (d1 : Int) from by omega]; exact IntWalk.i64_in _ (by omega)
  clear h hN0 t1 hN1 hwd he hd1 hds
  go_enter Tryz.func20, Tryz.ntmps20
  go_wp2
  go_loopw [7] (fun v wr => NlRel w gp g n cp ts L σ W1 4 v wr) (fun v _ => 5 - (intOf v).toNat)
  case atStart => exact ⟨0, Nat.zero_le _, rfl, HN1.out.1, Touch.refl _ _⟩
  case round =>
    obtain ⟨i, hi, rfl, hN, hT⟩ := hrel
    have hwdr := wd_touch HN1.out.2 hT
    have HNr := Lib.hid hN
    have hNl := hN.lt
    have hwl := hwdr.2.1
    by_cases hlt : i < 4
    · obtain ⟨s, hs⟩ : ∃ s, manyW[i]? = some s := ⟨manyW[i]'(by have : manyW.length = 5 := rfl; omega), List.getElem?_eq_getElem _⟩
      have hcell := hwdr.2.2 i s hs
      have hno : isS ts s σ = false := isS_other hy (fun e => (by decide : ∀ i : Nat, i < 4 → manyW[i]? ≠ some [112, 97, 114]) i hlt (e ▸ hs))
      have HC := Lib.hid (t_no hN.rt s hno)
      have HT := Lib.hid hT
      obtain ⟨sx, hsx⟩ : ∃ sx, bs s = sx := ⟨_, rfl⟩
      rw [hsx] at hcell HC
      have hi5 : (i : Int) < 5 := by omega
      clear hN hT hwdr hs hno hsx
      go_wp2_with fail
      refine HC.out.mono ?_
      rintro x w2 ⟨rfl, hr2, ht2⟩
      have HE := Lib.hid (And.intro (HNr.out.quiet hgp ht2) (HT.out.same ht2))
      clear hr2 ht2
      go_wp2
      go_roundw
      case rel => exact ⟨i + 1, by omega, by go_num, HE.out.1, HE.out.2⟩
      case measure => simp [intOf]; omega
    · obtain rfl : i = 4 := by omega
      have hcell := hwdr.2.2 4 [112, 97, 114] rfl
      clear hwdr hlt hi
      have HS := Lib.hid HNr.out
      clear hN hT HNr
      have HC := Lib.hid (t_yes HS.out.rt [112, 97, 114] hy)
      go_wp2_with fail
      refine HC.out.mono ?_
      rintro x w21 ⟨rfl, hr, ht⟩
      have hn := HS.out.call hgp hr ht
      clear HS
      have HS := Lib.hid hn
      clear hr ht hn HC
      obtain ⟨q0, q1, q2, q3, q4, q5, q6, q7, q8, q9, ql⟩ := nd_cells HS.out.h5
      have f0 := HS.out.free 0
      have f1 := HS.out.free 1
      have f2 := HS.out.free 2
      have f3 := HS.out.free 3
      have f4 := HS.out.free 4
      have f5 := HS.out.free 5
      have f6 := HS.out.free 6
      have f7 := HS.out.free 7
      have f8 := HS.out.free 8
      have f9 := HS.out.free 9
      obtain ⟨w22, hw22⟩ : ∃ W, w21.setCell ⟨w.heap.size + 1, 0, none⟩ (.int .i64 4) = W := ⟨_, rfl⟩
      have hn := HS.out.set hgp hg 0 (.int .i64 4) (us := [.int .i64 4, .int .i64 0, .int .i64 0, .string ⟨#[]⟩, .int .i64 0, .int .i64 0, .string ⟨#[]⟩, .slice none 0 0, .slice none 0 0, .slice none 0 0]) rfl
      rw [hw22] at hn
      clear HS
      have HS := Lib.hid hn
      clear hn
      have HC := Lib.hid (t_number HS.out.rt)
      go_wp2_with fail
      refine HC.out.mono ?_
      rintro x w23 ⟨rfl, hr, ht⟩
      have hn := HS.out.call hgp hr ht
      clear HS
      have HS := Lib.hid hn
      clear hr ht hn HC
      try clear q0 q1 q2 q3 q4 q5 q6 q7 q8 q9 ql f0 f1 f2 f3 f4 f5 f6 f7 f8 f9
      obtain ⟨q0, q1, q2, q3, q4, q5, q6, q7, q8, q9, ql⟩ := nd_cells HS.out.h5
      have f0 := HS.out.free 0
      have f1 := HS.out.free 1
      have f2 := HS.out.free 2
      have f3 := HS.out.free 3
      have f4 := HS.out.free 4
      have f5 := HS.out.free 5
      have f6 := HS.out.free 6
      have f7 := HS.out.free 7
      have f8 := HS.out.free 8
      have f9 := HS.out.free 9
      obtain ⟨w24, hw24⟩ : ∃ W, w23.setCell ⟨w.heap.size + 1, 1, none⟩ (.int .i64 (nuV ts (σ.1 + 1, σ.2) : Int)) = W := ⟨_, rfl⟩
      have hn := HS.out.set hgp hg 1 (.int .i64 (nuV ts (σ.1 + 1, σ.2) : Int)) (us := [.int .i64 4, .int .i64 (nuV ts (σ.1 + 1, σ.2) : Int), .int .i64 0, .string ⟨#[]⟩, .int .i64 0, .int .i64 0, .string ⟨#[]⟩, .slice none 0 0, .slice none 0 0, .slice none 0 0]) rfl
      rw [hw24] at hn
      clear HS
      have HS := Lib.hid hn
      clear hn
      have HC := Lib.hid (t_number HS.out.rt)
      go_wp2_with fail
      refine HC.out.mono ?_
      rintro x w25 ⟨rfl, hr, ht⟩
      have hn := HS.out.call hgp hr ht
      clear HS
      have HS := Lib.hid hn
      clear hr ht hn HC
      try clear q0 q1 q2 q3 q4 q5 q6 q7 q8 q9 ql f0 f1 f2 f3 f4 f5 f6 f7 f8 f9
      obtain ⟨q0, q1, q2, q3, q4, q5, q6, q7, q8, q9, ql⟩ := nd_cells HS.out.h5
      have f0 := HS.out.free 0
      have f1 := HS.out.free 1
      have f2 := HS.out.free 2
      have f3 := HS.out.free 3
      have f4 := HS.out.free 4
      have f5 := HS.out.free 5
      have f6 := HS.out.free 6
      have f7 := HS.out.free 7
      have f8 := HS.out.free 8
      have f9 := HS.out.free 9
      obtain ⟨w26, hw26⟩ : ∃ W, w25.setCell ⟨w.heap.size + 1, 2, none⟩ (.int .i64 (nuV ts (nuS ts (σ.1 + 1, σ.2)) : Int)) = W := ⟨_, rfl⟩
      have hn := HS.out.set hgp hg 2 (.int .i64 (nuV ts (nuS ts (σ.1 + 1, σ.2)) : Int)) (us := [.int .i64 4, .int .i64 (nuV ts (σ.1 + 1, σ.2) : Int), .int .i64 (nuV ts (nuS ts (σ.1 + 1, σ.2)) : Int), .string ⟨#[]⟩, .int .i64 0, .int .i64 0, .string ⟨#[]⟩, .slice none 0 0, .slice none 0 0, .slice none 0 0]) rfl
      rw [hw26] at hn
      clear HS
      have HS := Lib.hid hn
      clear hn
      have HC := Lib.hid (rbra_any HSUB.out HS.out.rt (by have := HS.out.lt; omega))
      have hc0 := HS.out.lt
      go_wp2_with fail
      refine HC.out.mono ?_
      rintro x w27 ⟨ht, hr, l, xs, A, cx, rfl, hs2, hl2, hyo⟩
      have hn := HS.out.call hgp hr ht
      clear HS
      have HS := Lib.hid hn
      have HK := Lib.hid (And.intro hs2 hl2)
      have HYO := Lib.hid hyo
      have HC0 := Lib.hid hc0
      clear ht hr hs2 hl2 hn hyo HC hc0
      try clear q0 q1 q2 q3 q4 q5 q6 q7 q8 q9 ql f0 f1 f2 f3 f4 f5 f6 f7 f8 f9
      obtain ⟨q0, q1, q2, q3, q4, q5, q6, q7, q8, q9, ql⟩ := nd_cells HS.out.h5
      have f0 := HS.out.free 0
      have f1 := HS.out.free 1
      have f2 := HS.out.free 2
      have f3 := HS.out.free 3
      have f4 := HS.out.free 4
      have f5 := HS.out.free 5
      have f6 := HS.out.free 6
      have f7 := HS.out.free 7
      have f8 := HS.out.free 8
      have f9 := HS.out.free 9
      obtain ⟨w28, hw28⟩ : ∃ W, w27.setCell ⟨w.heap.size + 1, 8, none⟩ (.slice A l.length cx) = W := ⟨_, rfl⟩
      have hn := HS.out.set hgp hg 8 (.slice A l.length cx) (us := [.int .i64 4, .int .i64 (nuV ts (σ.1 + 1, σ.2) : Int), .int .i64 (nuV ts (nuS ts (σ.1 + 1, σ.2)) : Int), .string ⟨#[]⟩, .int .i64 0, .int .i64 0, .string ⟨#[]⟩, .slice none 0 0, .slice A l.length cx, .slice none 0 0]) rfl
      rw [hw28] at hn
      clear HS
      have HS := Lib.hid hn
      clear hn
      have HT3 := Lib.hid (show Touch (F3 gp w) w27 w28 from by rw [← hw28]; exact (Touch.refl (F3 gp w) _).setCell (p := ⟨w.heap.size + 1, 8, none⟩) (.inl (.inr (.inr rfl))) _)
      obtain ⟨hld, W9, hst, hra, hr9, ht9, ht3⟩ := HS.out.fin hgp hg rfl (by intro v hv; simp only [List.mem_cons, List.not_mem_nil, or_false] at hv; rcases hv with rfl | rfl | rfl | rfl | rfl | rfl | rfl | rfl | rfl | rfl <;> rfl)
      obtain ⟨y0, y1, y2, y3, y4, y5, y6, y7, y8, y9⟩ := range_cells hra
      have HZ := Lib.hid (And.intro hr9 (And.intro ht9 ht3))
      have hNl := HS.out.lt
      clear hra hr9 ht9 ht3
      go_wp2
      have HNT := nt_brace (k := 4) (a := (nuV ts (σ.1 + 1, σ.2))) (b := (nuV ts (nuS ts (σ.1 + 1, σ.2)))) HK.out.1 HK.out.2 (HT3.out.same HZ.out.2.2) (by have := HC0.out; omega) hgp
      exact bodyPost_ret (v := .agg #[.int .i64 4, .int .i64 (nuV ts (σ.1 + 1, σ.2) : Int), .int .i64 (nuV ts (nuS ts (σ.1 + 1, σ.2)) : Int), .string ⟨#[]⟩, .int .i64 0, .int .i64 0, .string ⟨#[]⟩, .slice none 0 0, .slice A l.length cx, .slice none 0 0]) (by simp [results, Tryz.results20, go_sem, y0, y1, y2, y3, y4, y5, y6, y7, y8, y9]) rfl
        ⟨HZ.out.2.1, HZ.out.1, .mk 4 (nuV ts (σ.1 + 1, σ.2)) (nuV ts (nuS ts (σ.1 + 1, σ.2))) [] x0 l [], 0, 0, ⟨#[]⟩, none, 0, 0, _, _, _, _, rfl, HNT, fun e => by rw [HYO.out e]⟩
end Go.Proofs.YtnphaaahdlkmhaaGreat
end
/-
  What the document's own node does with a reader in memory, all together; its Node. Conditions: tokens as a text has them.
-/
section
namespace Go.Proofs.YtnphaaahdlkmhaaGreat
open Go.ChangeShapes Go.WideShapes Go.ChangeAt Go.RowKit
set_option maxRecDepth 100000
set_option maxHeartbeats 8000000
attribute [local go_sem ↓] loadNd_of storeNd_of

theorem nt_nd0 (w : World) (Q : Nat → Prop) (D : Nat) : NT w Q (D + 1) nd0 [.int .i64 ((0 : Nat) : Int), .int .i64 ((0 : Nat) : Int), .int .i64 ((0 : Nat) : Int), .string (bs []), .int .i64 0, .int .i64 0, .string ⟨#[]⟩, .slice none 0 0, .slice none 0 0, .slice none 0 0] := nt_leaf (et_zero w Q)
/-- Behind an error: nothing. -/
theorem rnode_bad {gp g n cp L d D : Nat} {ts : List Tk} {w : World} {σ : St} (h : RT w gp g n cp ts L σ) (hg : g < w.heap.size) (he : σ.2 ≠ 0) :
    Calls Tryz.prog 20 #[.pointer (some ⟨gp, 0, none⟩), .int .i64 (d : Int)] w (RNP w gp g n cp ts L (D + 1) (nd0, σ)) := by
  have hgp := h.lt
  obtain ⟨W0, hW0⟩ : ∃ W, (w.alloc (.cells #[.int .i64 0, .int .i64 0, .int .i64 0, .string ⟨#[]⟩, .int .i64 0, .int .i64 0, .string ⟨#[]⟩, .slice none 0 0, .slice none 0 0, .slice none 0 0] 62)).alloc (.cells #[.int .i64 0, .int .i64 0, .int .i64 0, .string ⟨#[]⟩, .int .i64 0, .int .i64 0, .string ⟨#[]⟩, .slice none 0 0, .slice none 0 0, .slice none 0 0] 62) = W := ⟨_, rfl⟩
  have hN0 := NS5.start h hW0
  have hee : ((σ.2 : Int) != 0) = true := by simp; omega
  obtain ⟨c1, c2, cl⟩ := hN0.rt.cells
  have HS := Lib.hid hN0
  have hNl := hN0.lt
  obtain ⟨hld, W9, hst, hra, hr9, ht9, ht3⟩ := HS.out.fin hgp hg rfl (by unfold zNd; intro v hv; simp only [List.mem_cons, List.not_mem_nil, or_false] at hv; rcases hv with rfl | rfl | rfl | rfl | rfl | rfl | rfl | rfl | rfl | rfl <;> rfl)
  obtain ⟨y0, y1, y2, y3, y4, y5, y6, y7, y8, y9⟩ := range_cells hra
  have HZ := Lib.hid (And.intro hr9 (And.intro ht9 ht3))
  clear h hN0 hra hr9 ht9 ht3 he
  unfold zNd at hld hst
  go_enter Tryz.func20, Tryz.ntmps20
  go_wp2
  exact bodyPost_ret (v := .agg #[.int .i64 0, .int .i64 0, .int .i64 0, .string ⟨#[]⟩, .int .i64 0, .int .i64 0, .string ⟨#[]⟩, .slice none 0 0, .slice none 0 0, .slice none 0 0]) (by simp [results, Tryz.results20, go_sem, y0, y1, y2, y3, y4, y5, y6, y7, y8, y9]) rfl
    ⟨HZ.out.2.1, HZ.out.1, nd0, 0, 0, ⟨#[]⟩, none, 0, 0, none, 0, none, 0, rfl, nt_nd0 _ _ _, fun _ => rfl⟩
/-- Too deep. -/
theorem rnode_deep {gp g n cp L d D : Nat} {ts : List Tk} {w : World} {σ : St} (h : RT w gp g n cp ts L σ) (hg : g < w.heap.size) (hd : d = 41) :
    Calls Tryz.prog 20 #[.pointer (some ⟨gp, 0, none⟩), .int .i64 (d : Int)] w (RNP w gp g n cp ts L (D + 1) (nd0, failS 4 σ)) := by
  by_cases he : σ.2 ≠ 0
  · have e : failS 4 σ = σ := by unfold failS; rw [if_neg he]
    rw [e]
    exact rnode_bad h hg he
  · have he0 : σ.2 = 0 := by omega
    have hgp := h.lt
    obtain ⟨W0, hW0⟩ : ∃ W, (w.alloc (.cells #[.int .i64 0, .int .i64 0, .int .i64 0, .string ⟨#[]⟩, .int .i64 0, .int .i64 0, .string ⟨#[]⟩, .slice none 0 0, .slice none 0 0, .slice none 0 0] 62)).alloc (.cells #[.int .i64 0, .int .i64 0, .int .i64 0, .string ⟨#[]⟩, .int .i64 0, .int .i64 0, .string ⟨#[]⟩, .slice none 0 0, .slice none 0 0, .slice none 0 0] 62) = W := ⟨_, rfl⟩
    have hN0 := NS5.start h hW0
    have hee : ((σ.2 : Int) != 0) = false := by rw [he0]; rfl
    have hdd : decide ((40 : Int) < (d : Int)) = true := by simp; omega
    obtain ⟨c1, c2, cl⟩ := hN0.rt.cells
    have HS := Lib.hid hN0
    have HC := Lib.hid (t_fail hN0.rt 4)
    have hNl := hN0.lt
    clear h hN0 he he0 hd
    go_enter Tryz.func20, Tryz.ntmps20
    go_wp2_with fail
    refine HC.out.mono ?_
    rintro x w2 ⟨rfl, hr, ht⟩
    have hn := HS.out.call hgp hr ht
    clear HS
    have HS := Lib.hid hn
    obtain ⟨hld, W9, hst, hra, hr9, ht9, ht3⟩ := HS.out.fin hgp hg rfl (by unfold zNd; intro v hv; simp only [List.mem_cons, List.not_mem_nil, or_false] at hv; rcases hv with rfl | rfl | rfl | rfl | rfl | rfl | rfl | rfl | rfl | rfl <;> rfl)
    obtain ⟨y0, y1, y2, y3, y4, y5, y6, y7, y8, y9⟩ := range_cells hra
    have HZ := Lib.hid (And.intro hr9 (And.intro ht9 ht3))
    have hNl := hn.lt
    clear hn hr ht hra hr9 ht9 ht3
    unfold zNd at hld hst
    go_wp2
    exact bodyPost_ret (v := .agg #[.int .i64 0, .int .i64 0, .int .i64 0, .string ⟨#[]⟩, .int .i64 0, .int .i64 0, .string ⟨#[]⟩, .slice none 0 0, .slice none 0 0, .slice none 0 0]) (by simp [results, Tryz.results20, go_sem, y0, y1, y2, y3, y4, y5, y6, y7, y8, y9]) rfl
      ⟨HZ.out.2.1, HZ.out.1, nd0, 0, 0, ⟨#[]⟩, none, 0, 0, none, 0, none, 0, rfl, nt_nd0 _ _ _, fun _ => rfl⟩
end Go.Proofs.YtnphaaahdlkmhaaGreat
end
/-
  What the document's own node does where no word of a node comes; all together. Conditions: tokens as a text has them.
-/
section
namespace Go.Proofs.YtnphaaahdlkmhaaGreat
open Go.ChangeShapes Go.WideShapes Go.ChangeAt Go.RowKit
set_option maxRecDepth 100000
set_option maxHeartbeats 8000000
attribute [local go_sem ↓] loadNd_of storeNd_of

/-- No word of a node. -/
theorem rnode_none {gp g n cp L d D : Nat} {ts : List Tk} (hds : d ≤ 40) {w : World} {σ : St} (h : RT w gp g n cp ts L σ) (hg : g < w.heap.size) (he : σ.2 = 0) (hno : ∀ s ∈ nodeW, isS ts s σ = false) :
    Calls Tryz.prog 20 #[.pointer (some ⟨gp, 0, none⟩), .int .i64 (d : Int)] w (RNP w gp g n cp ts L (D + 1) (nd0, failS 2 σ)) := by
  have HNO := Lib.hid hno
  have failS_two : (failS 2 σ).2 = 2 := by unfold failS; rw [if_pos he]
  clear hno
  have hgp := h.lt
  obtain ⟨W0, hW0⟩ : ∃ W, (w.alloc (.cells #[.int .i64 0, .int .i64 0, .int .i64 0, .string ⟨#[]⟩, .int .i64 0, .int .i64 0, .string ⟨#[]⟩, .slice none 0 0, .slice none 0 0, .slice none 0 0] 62)).alloc (.cells #[.int .i64 0, .int .i64 0, .int .i64 0, .string ⟨#[]⟩, .int .i64 0, .int .i64 0, .string ⟨#[]⟩, .slice none 0 0, .slice none 0 0, .slice none 0 0] 62) = W := ⟨_, rfl⟩
  have hN0 := NS5.start h hW0
  obtain ⟨W1, hW1⟩ : ∃ W, W0.alloc (.cells #[.string ⟨#[115, 101, 113]⟩, .string ⟨#[115, 101, 108]⟩, .string ⟨#[109, 115, 101, 113]⟩, .string ⟨#[109, 115, 101, 108]⟩, .string ⟨#[112, 97, 114]⟩] 9) = W := ⟨_, rfl⟩
  have t1 : Touch NoB W0 W1 := by rw [← hW1]; exact (Touch.refl _ _).alloc _
  have hN1 := hN0.quiet hgp t1
  have hwd : WdAt W1 W0.heap.size 5 manyW := words_at (by rw [← hW1]; exact alloc_blk _ _ _ rfl) rfl (by decide) rfl
  have hee : ((σ.2 : Int) != 0) = false := by rw [he]; rfl
  have hdd : decide ((40 : Int) < (d : Int)) = false := by simp; omega
  obtain ⟨c1, c2, cl⟩ := hN0.rt.cells
  have HN1 := Lib.hid (And.intro hN1 hwd)
  have HW1 := Lib.hid hwd
  clear h hN0 t1 hN1 hwd he hds
  go_enter Tryz.func20, Tryz.ntmps20
  go_wp2
  go_loopw [7] (fun v wr => NlRel w gp g n cp ts L σ W1 5 v wr) (fun v _ => 6 - (intOf v).toNat)
  case atStart => exact ⟨0, Nat.zero_le _, rfl, HN1.out.1, Touch.refl _ _⟩
  case round =>
    obtain ⟨i, hi, rfl, hN, hT⟩ := hrel
    have hwdr := wd_touch HN1.out.2 hT
    have HNr := Lib.hid hN
    have hNl := hN.lt
    have hwl := hwdr.2.1
    by_cases hlt : i < 5
    · obtain ⟨s, hs⟩ : ∃ s, manyW[i]? = some s := ⟨manyW[i]'(by have : manyW.length = 5 := rfl; omega), List.getElem?_eq_getElem _⟩
      have hcell := hwdr.2.2 i s hs
      have hno : isS ts s σ = false := HNO.out s ((by decide : ∀ q ∈ manyW, q ∈ nodeW) s (List.mem_of_getElem? hs))
      have HC := Lib.hid (t_no hN.rt s hno)
      have HT := Lib.hid hT
      obtain ⟨sx, hsx⟩ : ∃ sx, bs s = sx := ⟨_, rfl⟩
      rw [hsx] at hcell HC
      have hi5 : (i : Int) < 5 := by omega
      clear hN hT hwdr hs hno hsx
      go_wp2_with fail
      refine HC.out.mono ?_
      rintro x w2 ⟨rfl, hr2, ht2⟩
      have HE := Lib.hid (And.intro (HNr.out.quiet hgp ht2) (HT.out.same ht2))
      clear hr2 ht2
      go_wp2
      go_roundw
      case rel => exact ⟨i + 1, by omega, by go_num, HE.out.1, HE.out.2⟩
      case measure => simp [intOf]; omega
    · obtain rfl : i = 5 := by omega
      clear hwdr
      have HS := Lib.hid HNr.out
      clear hN hT HNr
      have HC := Lib.hid (t_no HS.out.rt [110, 111, 116] (HNO.out _ (by decide)))
      go_wp2_with fail
      refine HC.out.mono ?_
      rintro x w21 ⟨rfl, -, ht⟩
      have hn := HS.out.quiet hgp ht
      clear HS
      have HS := Lib.hid hn
      have hNl := hn.lt
      clear ht hn HC
      have HC := Lib.hid (t_no HS.out.rt [114, 101, 112, 101, 97, 116] (HNO.out _ (by decide)))
      go_wp2_with fail
      refine HC.out.mono ?_
      rintro x w22 ⟨rfl, -, ht⟩
      have hn := HS.out.quiet hgp ht
      clear HS
      have HS := Lib.hid hn
      have hNl := hn.lt
      clear ht hn HC
      have HC := Lib.hid (t_no HS.out.rt [112, 105, 99, 107] (HNO.out _ (by decide)))
      go_wp2_with fail
      refine HC.out.mono ?_
      rintro x w23 ⟨rfl, -, ht⟩
      have hn := HS.out.quiet hgp ht
      clear HS
      have HS := Lib.hid hn
      have hNl := hn.lt
      clear ht hn HC
      have HC := Lib.hid (t_no HS.out.rt [105, 102] (HNO.out _ (by decide)))
      go_wp2_with fail
      refine HC.out.mono ?_
      rintro x w24 ⟨rfl, -, ht⟩
      have hn := HS.out.quiet hgp ht
      clear HS
      have HS := Lib.hid hn
      have hNl := hn.lt
      clear ht hn HC
      have HC := Lib.hid (t_no HS.out.rt [115, 101, 116] (HNO.out _ (by decide)))
      go_wp2_with fail
      refine HC.out.mono ?_
      rintro x w25 ⟨rfl, -, ht⟩
      have hn := HS.out.quiet hgp ht
      clear HS
      have HS := Lib.hid hn
      have hNl := hn.lt
      clear ht hn HC
      have HC := Lib.hid (t_no HS.out.rt [100, 111] (HNO.out _ (by decide)))
      go_wp2_with fail
      refine HC.out.mono ?_
      rintro x w26 ⟨rfl, -, ht⟩
      have hn := HS.out.quiet hgp ht
      clear HS
      have HS := Lib.hid hn
      have hNl := hn.lt
      clear ht hn HC
      have HC := Lib.hid (t_no HS.out.rt [117, 115, 101] (HNO.out _ (by decide)))
      go_wp2_with fail
      refine HC.out.mono ?_
      rintro x w27 ⟨rfl, -, ht⟩
      have hn := HS.out.quiet hgp ht
      clear HS
      have HS := Lib.hid hn
      have hNl := hn.lt
      clear ht hn HC
      have HC := Lib.hid (t_no HS.out.rt [112, 108, 97, 110] (HNO.out _ (by decide)))
      go_wp2_with fail
      refine HC.out.mono ?_
      rintro x w28 ⟨rfl, -, ht⟩
      have hn := HS.out.quiet hgp ht
      clear HS
      have HS := Lib.hid hn
      have hNl := hn.lt
      clear ht hn HC
      have HC := Lib.hid (t_no HS.out.rt [111, 107] (HNO.out _ (by decide)))
      go_wp2_with fail
      refine HC.out.mono ?_
      rintro x w29 ⟨rfl, -, ht⟩
      have hn := HS.out.quiet hgp ht
      clear HS
      have HS := Lib.hid hn
      have hNl := hn.lt
      clear ht hn HC
      have HC := Lib.hid (t_no HS.out.rt [102, 97, 105, 108] (HNO.out _ (by decide)))
      go_wp2_with fail
      refine HC.out.mono ?_
      rintro x w30 ⟨rfl, -, ht⟩
      have hn := HS.out.quiet hgp ht
      clear HS
      have HS := Lib.hid hn
      have hNl := hn.lt
      clear ht hn HC
      have HC := Lib.hid (t_no HS.out.rt [119, 97, 105, 116] (HNO.out _ (by decide)))
      go_wp2_with fail
      refine HC.out.mono ?_
      rintro x w31 ⟨rfl, -, ht⟩
      have hn := HS.out.quiet hgp ht
      clear HS
      have HS := Lib.hid hn
      have hNl := hn.lt
      clear ht hn HC
      have HC := Lib.hid (t_fail HS.out.rt 2)
      go_wp2_with fail
      refine HC.out.mono ?_
      rintro x w32 ⟨rfl, hr, ht⟩
      have hn := HS.out.call hgp hr ht
      clear HS
      have HS := Lib.hid hn
      clear hr ht hn HC
      have HC := Lib.hid (t_want HS.out.rt [59])
      go_wp2_with fail
      refine HC.out.mono ?_
      rintro x w33 ⟨rfl, hr, ht⟩
      rw [exS_bd (by rw [failS_two]; decide)] at hr
      have hn := HS.out.call hgp hr ht
      clear HS
      have HS := Lib.hid hn
      clear hr ht hn HC
      obtain ⟨hld, W9, hst, hra, hr9, ht9, ht3⟩ := HS.out.fin hgp hg rfl (by unfold zNd; intro v hv; simp only [List.mem_cons, List.not_mem_nil, or_false] at hv; rcases hv with rfl | rfl | rfl | rfl | rfl | rfl | rfl | rfl | rfl | rfl <;> rfl)
      obtain ⟨y0, y1, y2, y3, y4, y5, y6, y7, y8, y9⟩ := range_cells hra
      have HZ := Lib.hid (And.intro hr9 (And.intro ht9 ht3))
      have hNl := HS.out.lt
      clear hra hr9 ht9 ht3
      unfold zNd at hld hst
      go_wp2
      exact bodyPost_ret (v := .agg #[.int .i64 0, .int .i64 0, .int .i64 0, .string ⟨#[]⟩, .int .i64 0, .int .i64 0, .string ⟨#[]⟩, .slice none 0 0, .slice none 0 0, .slice none 0 0]) (by simp [results, Tryz.results20, go_sem, y0, y1, y2, y3, y4, y5, y6, y7, y8, y9]) rfl
        ⟨HZ.out.2.1, HZ.out.1, nd0, 0, 0, ⟨#[]⟩, none, 0, 0, none, 0, none, 0, rfl, nt_nd0 _ _ _, fun _ => rfl⟩
theorem choF_some {ts : List Tk} {σ : St} : ∀ (ws : List Bs) (d k : Nat), choF ts σ ws d = some k → ∃ i s, k = d + i ∧ ws[i]? = some s ∧ isS ts s σ = true
  | [], d, k, h => by simp [choF] at h
  | a :: r, d, k, h => by
    unfold choF at h
    split at h
    · rename_i ha
      injection h with h
      exact ⟨0, a, by omega, rfl, ha⟩
    · obtain ⟨i, s, e, hi, hs⟩ := choF_some r (d + 1) k h
      exact ⟨i + 1, s, by omega, by simpa using hi, hs⟩
theorem choF_no {ts : List Tk} {σ : St} : ∀ (ws : List Bs) (d : Nat), choF ts σ ws d = none → ∀ s ∈ ws, isS ts s σ = false
  | [], _, _, s, h => by cases h
  | a :: r, d, h, s, hm => by
    unfold choF at h
    split at h
    · cases h
    · rename_i ha
      rcases List.mem_cons.1 hm with rfl | hm
      · simpa using ha
      · exact choF_no r (d + 1) h s hm
theorem rnd_bad {ts : List Tk} {m : Nat} {σ : St} (h : σ.2 ≠ 0) : (rnd ts m σ).2.2 ≠ 0 := by
  cases m with
  | zero => unfold rnd failS; simp only; rw [if_neg h]; exact h
  | succ m => rw [rnd, if_pos h]; exact h
theorem rnode_all {gp g n cp L : Nat} {ts : List Tk} (hnk : NumsOk ts) : ∀ (m d : Nat), m ≤ 40 → d + m = 41 → RNodeOk gp g n cp ts L d (m + 1) (rnd ts m)
  | 0, d, _, hd => fun W σ h hg => by
    obtain rfl : d = 41 := by omega
    exact rnode_deep h hg rfl
  | m + 1, d, hm, hd => fun W σ h hg => by
    have ih := rnode_all (gp := gp) (g := g) (n := n) (cp := cp) (L := L) hnk m (d + 1) (by omega) (by omega)
    rw [rnd]
    by_cases he : σ.2 ≠ 0
    · rw [if_pos he]
      exact rnode_bad h hg he
    · rw [if_neg he]
      have he0 : σ.2 = 0 := by omega
      cases hc : choF ts σ nodeW 0 with
      | none => exact rnode_none (by omega) h hg he0 (choF_no _ _ hc)
      | some k =>
        obtain ⟨i, s, e, hi, hs⟩ := choF_some _ _ _ hc
        obtain rfl : k = i := by omega
        have hk : k < 16 := (List.getElem?_eq_some_iff.1 hi).1
        have hbad : ∀ σ : St, σ.2 ≠ 0 → (rnd ts m σ).2.2 ≠ 0 := fun _ h => rnd_bad h
        match k, hk, hi with
        | 0, _, hi => cases hi; exact rnode_0 rfl (by omega) ih h hg hs
        | 1, _, hi => cases hi; exact rnode_1 rfl (by omega) ih h hg hs
        | 2, _, hi => cases hi; exact rnode_2 rfl (by omega) ih h hg hs
        | 3, _, hi => cases hi; exact rnode_3 rfl (by omega) ih h hg hs
        | 4, _, hi => cases hi; exact rnode_4 rfl (by omega) ih h hg hs
        | 5, _, hi => cases hi; exact rnode_5 rfl (by omega) ih h hg hs
        | 6, _, hi => cases hi; exact rnode_6 rfl (by omega) ih h hg hs
        | 7, _, hi => cases hi; exact rnode_7 hnk rfl (by omega) h hg hs
        | 8, _, hi => cases hi; exact rnode_8 hnk rfl (by omega) h hg hs
        | 9, _, hi => cases hi; exact rnode_9 rfl (by omega) h hg hs
        | 10, _, hi => cases hi; exact rnode_10 rfl (by omega) h hg hs
        | 11, _, hi => cases hi; exact rnode_11 hnk hbad rfl (by omega) ih h hg hs
        | 12, _, hi => cases hi; exact rnode_12 rfl (by omega) h hg hs
        | 13, _, hi => cases hi; exact rnode_13 rfl (by omega) h hg hs
        | 14, _, hi => cases hi; exact rnode_14 rfl (by omega) h hg hs
        | 15, _, hi => cases hi; exact rnode_15 rfl (by omega) h hg hs
        | k + 16, hk, _ => exact absurd hk (by omega)
theorem rnode_top {gp g n cp L : Nat} {ts : List Tk} (hnk : NumsOk ts) : RNodeOk gp g n cp ts L 1 41 (rnd ts 40) := rnode_all hnk 40 1 (by omega) rfl
end Go.Proofs.YtnphaaahdlkmhaaGreat
end
/-
  What the document's own key does with a reader in memory. Conditions: those that the theorem names.
-/
section
namespace Go.Proofs.YtnphaaahdlkmhaaGreat
open Go.ChangeShapes Go.WideShapes Go.ChangeAt Go.RowKit
set_option maxRecDepth 100000
set_option maxHeartbeats 8000000

/-- What stands at the loop over the words of kinds. -/
structure KyR (w : World) (gp g n cp : Nat) (ts : List Tk) (L : Nat) (s3 : St) (q : Nat) (nm : ByteArray) (sh : Bool) (W5 : World) (i : Nat) (wr : World) : Prop where
  rt : RT wr gp g n cp ts L s3
  t : Touch (AtB gp) w wr
  t5 : Touch NoB W5 wr
  b2 : B3 wr 57 w.heap.size (.string ⟨#[]⟩) (.int .i64 0) (.bool false)
  b3 : B3 wr 57 q (.string nm) (.int .i64 0) (.bool sh)
  no : ∀ (j : Nat) (z : Bs), j < i → kindW[j]? = some z → isS ts z s3 = false
def KyRel (w : World) (gp g n cp : Nat) (ts : List Tk) (L : Nat) (s3 : St) (q : Nat) (nm : ByteArray) (sh : Bool) (W5 : World) (v : Value) (wr : World) : Prop := ∃ i : Nat, i ≤ 5 ∧ v = .int .i64 i ∧ KyR w gp g n cp ts L s3 q nm sh W5 i wr
theorem rkey_any {gp g n cp L : Nat} {ts : List Tk} {w : World} {σ : St} (h : RT w gp g n cp ts L σ) (hg : g < w.heap.size) :
    Calls Tryz.prog 17 #[.pointer (some ⟨gp, 0, none⟩)] w fun x w' => x = .returned (.agg #[.string (bs (rkeV ts σ).nm), .int .i64 ((rkeV ts σ).kd : Int), .bool (rkeV ts σ).sh]) ∧ RT w' gp g n cp ts L (rkeS ts σ) ∧ Touch (AtB gp) w w' := by
  have hgp := h.lt
  obtain ⟨W0, hW0⟩ : ∃ W, w.alloc (.cells #[.string ⟨#[]⟩, .int .i64 0, .bool false] 57) = W := ⟨_, rfl⟩
  have t0 : Touch NoB w W0 := by rw [← hW0]; exact (Touch.refl _ _).alloc _
  have hb2 : B3 W0 57 w.heap.size (.string ⟨#[]⟩) (.int .i64 0) (.bool false) := by rw [← hW0]; exact B3.new _ _ _ _ _ rfl
  have HR0 := Lib.hid (h.touch t0)
  have HB2 := Lib.hid hb2
  have HT0 := Lib.hid (Touch.anyB (F := AtB gp) t0)
  have hl2 := blk_lt hb2
  clear h t0 hb2
  cases hi : isS ts [115, 104, 97, 114, 101, 100] σ with
  | true =>
    have HC := Lib.hid (t_yes HR0.out [115, 104, 97, 114, 101, 100] hi)
    go_enter Tryz.func17, Tryz.ntmps17
    go_wp2_with fail
    refine HC.out.mono ?_
    rintro x w1 ⟨rfl, hr, ht0⟩
    have ht : Touch (AtB gp) W0 w1 := ht0
    have hs1 := ht.size
    obtain ⟨W1, hW1⟩ : ∃ W, w1.alloc (.cells #[.string ⟨#[]⟩, .int .i64 0, .bool true] 57) = W := ⟨_, rfl⟩
    have t1 : Touch NoB w1 W1 := by rw [← hW1]; exact (Touch.refl _ _).alloc _
    have HR := Lib.hid (hr.touch t1)
    have HT := Lib.hid ((HT0.out.same ht).same (Touch.anyB (F := AtB gp) t1))
    have HB3 := Lib.hid (show B3 W1 57 w1.heap.size (.string ⟨#[]⟩) (.int .i64 0) (.bool true) by rw [← hW1]; exact B3.new _ _ _ _ _ rfl)
    have HB2 := Lib.hid ((HB2.out.go ht (by omega)).go (Touch.anyB (F := AtB gp) t1) (by omega))
    have hgq : gp < w1.heap.size := by omega
    have hgg : g < w1.heap.size := by omega
    have hq2 : w.heap.size < w1.heap.size := by omega
    have HW1 := Lib.hid hW1
    clear hr ht ht0 t1 hs1 hW1 HC
    have HC := Lib.hid (t_name HR.out)
    obtain ⟨z0, z1, z2, zl⟩ := HB3.out.cells
    go_wp2_with fail
    rw [HW1.out]
    refine HC.out.mono ?_
    rintro x w4 ⟨rfl, hr, ht⟩
    obtain ⟨nm, hnm⟩ : ∃ z, bs (naV ts (σ.1 + 1, σ.2)) = z := ⟨_, rfl⟩
    rw [hnm]
    obtain ⟨s3, hs3⟩ : ∃ z, naS ts (σ.1 + 1, σ.2) = z := ⟨_, rfl⟩
    rw [hs3] at hr
    have hV : ∀ (k : Nat) (e : choV ts kindW s3 = k), rkeV ts σ = ⟨naV ts (σ.1 + 1, σ.2), k, true⟩ ∧ rkeS ts σ = exS ts [59] (choS ts kindW s3) := by
      intro k e
      subst e
      unfold rkeV rkeS acS
      rw [hi]
      simp only [if_true, ← hs3]
      refine ⟨?_, ?_⟩ <;> first | trivial | rfl
    have HV := Lib.hid hV
    have HNM := Lib.hid hnm
    have hb4 := HB3.out.go ht (by omega)
    have hb24 := HB2.out.go ht (by omega)
    obtain ⟨V4, hV4⟩ : ∃ V, w4.setCell ⟨w1.heap.size, 0, none⟩ (.string nm) = V := ⟨_, rfl⟩
    have tV : Touch (fun b => b = w1.heap.size) w4 V4 := by rw [← hV4]; exact (Touch.refl (fun b => b = w1.heap.size) w4).setCell (p := ⟨w1.heap.size, 0, none⟩) (.inl rfl) _
    have hbV : B3 V4 57 w1.heap.size (.string nm) (.int .i64 0) (.bool true) := by rw [← hV4]; exact hb4.set0 _
    have hbV2 : B3 V4 57 w.heap.size (.string ⟨#[]⟩) (.int .i64 0) (.bool false) := (tV.block _ (blk_lt hb24) (by omega)).trans hb24
    obtain ⟨W5, hW5⟩ : ∃ W, V4.alloc (.cells #[.string ⟨#[105, 110, 116]⟩, .string ⟨#[98, 111, 111, 108]⟩, .string ⟨#[114, 101, 102]⟩, .string ⟨#[115, 121, 109]⟩, .string ⟨#[112, 111, 105, 110, 116]⟩] 9) = W := ⟨_, rfl⟩
    have t5 : Touch NoB V4 W5 := by rw [← hW5]; exact (Touch.refl _ _).alloc _
    have hwd : WdAt W5 V4.heap.size 5 kindW := words_at (by rw [← hW5]; exact alloc_blk _ _ _ rfl) rfl (by decide) rfl
    have HWD := Lib.hid hwd
    have t5' := Touch.anyB (F := AtB gp) t5
    have HK := Lib.hid (show KyR w gp g n cp ts L s3 w1.heap.size nm true W5 0 W5 from ⟨(hr.touchX tV hgq hgg).touch t5, (show Touch (AtB gp) w V4 by rw [← hV4]; exact (HT.out.same ht).setCell (p := ⟨w1.heap.size, 0, none⟩) (.inr (by simp only; omega)) _).same t5', Touch.refl _ _, hbV2.go t5' (by omega), hbV.go t5' (by omega), fun j z hj => by omega⟩)
    obtain ⟨z0, z1, z2, zl⟩ := hb4.cells
    obtain ⟨f0, f1, f2⟩ := hb4.free
    clear hr ht tV hbV hbV2 t5 t5' hwd hnm hs3 hV hb4 hb24 HC HR HT HB3 HB2 HR0 HT0
    go_wp2
    go_loopw [5] (fun v wr => KyRel w gp g n cp ts L s3 w1.heap.size nm true W5 v wr) (fun v _ => 5 - (intOf v).toNat)
    case atStart => exact ⟨0, Nat.zero_le _, rfl, HK.out⟩
    case round =>
      obtain ⟨i, hi5, rfl, hk⟩ := hrel
      have HKr := Lib.hid hk
      have hwdr := wd_touch HWD.out hk.t5
      have hwl := hwdr.2.1
      by_cases hlt : i < 5
      · obtain ⟨z, hz⟩ : ∃ z, kindW[i]? = some z := ⟨kindW[i]'(by have : kindW.length = 5 := rfl; omega), List.getElem?_eq_getElem _⟩
        have hcell := hwdr.2.2 i z hz
        obtain ⟨zx, hzx⟩ : ∃ zx, bs z = zx := ⟨_, rfl⟩
        rw [hzx] at hcell
        have hii : (i : Int) < 5 := by omega
        cases hj : isS ts z s3 with
        | false =>
          have HC := Lib.hid (t_no hk.rt z hj)
          rw [hzx] at HC
          have HZ := Lib.hid (And.intro hz hj)
          clear hk hwdr hz hj hzx
          go_wp2_with fail
          refine HC.out.mono ?_
          rintro x w6 ⟨rfl, hr, ht⟩
          have hta := Touch.anyB (F := AtB gp) ht
          have HE := Lib.hid (show KyR w gp g n cp ts L s3 w1.heap.size nm true W5 (i + 1) w6 from ⟨hr, HKr.out.t.same hta, HKr.out.t5.same ht, HKr.out.b2.go hta (by omega), HKr.out.b3.go hta (by omega), fun j q hj hq => by
            rcases Nat.lt_or_ge j i with hji | hji
            · exact HKr.out.no j q hji hq
            · obtain rfl : j = i := by omega
              have := HZ.out.1.symm.trans hq
              injection this with this
              subst this
              exact HZ.out.2⟩)
          clear hr ht hta
          go_wp2
          go_roundw
          case rel => exact ⟨i + 1, by omega, by go_num, HE.out⟩
          case measure => simp [intOf]; omega
        | true =>
          have HC := Lib.hid (t_yes hk.rt z hj)
          rw [hzx] at HC
          have hch := choF_at kindW i 0 z hz hj hk.no
          rw [Nat.zero_add] at hch
          have HCH := Lib.hid hch
          clear hk hwdr hz hzx hch
          go_wp2_with fail
          refine HC.out.mono ?_
          rintro x w6 ⟨rfl, hr, ht⟩
          have hb6 := HKr.out.b3.go ht (by omega)
          have hb26 := HKr.out.b2.go ht (by omega)
          obtain ⟨z0, z1, z2, zl⟩ := hb6.cells
          obtain ⟨f0, f1, f2⟩ := hb6.free
          obtain ⟨V6, hV6⟩ : ∃ V, w6.setCell ⟨w1.heap.size, 1, none⟩ (.int .i64 (i : Int)) = V := ⟨_, rfl⟩
          have tV : Touch (fun b => b = w1.heap.size) w6 V6 := by rw [← hV6]; exact (Touch.refl (fun b => b = w1.heap.size) w6).setCell (p := ⟨w1.heap.size, 1, none⟩) (.inl rfl) _
          have HB6 := Lib.hid (show B3 V6 57 w1.heap.size (.string nm) (.int .i64 (i : Int)) (.bool true) by rw [← hV6]; exact hb6.set1 _)
          have HB26 := Lib.hid (show B3 V6 57 w.heap.size (.string ⟨#[]⟩) (.int .i64 0) (.bool false) from (tV.block _ (blk_lt hb26) (by omega)).trans hb26)
          have HR6 := Lib.hid (hr.touchX tV hgq hgg)
          have HT6 := Lib.hid (show Touch (AtB gp) w V6 by rw [← hV6]; exact (HKr.out.t.same ht).setCell (p := ⟨w1.heap.size, 1, none⟩) (.inr (by simp only; omega)) _)
          have HC2 := Lib.hid (t_want HR6.out [59])
          clear hr ht tV hb6 hb26
          go_wp2_with fail
          refine HC2.out.mono ?_
          rintro x w7 ⟨rfl, hr, ht⟩
          have hb7 := HB6.out.go ht (by omega)
          have hb27 := HB26.out.go ht (by omega)
          have HTT := Lib.hid (HT6.out.same ht)
          obtain ⟨hv1, hv2⟩ := HV.out i (by unfold choV; rw [HCH.out]; rfl)
          have hcs : choS ts kindW s3 = (s3.1 + 1, s3.2) := by unfold choS; rw [HCH.out]
          rw [hcs] at hv2
          rw [← hv2] at hr
          have HVV := Lib.hid hv1
          clear hcs hv1 hv2 ht
          obtain ⟨z0, z1, z2, zl⟩ := hb7.cells
          obtain ⟨y0, y1, y2, yl⟩ := hb27.cells
          obtain ⟨g0, g1, g2⟩ := hb27.free
          obtain ⟨Y, hY⟩ : ∃ Y, ((w7.setCell ⟨w.heap.size, 0, none⟩ (.string nm)).setCell ⟨w.heap.size, 1, none⟩ (.int .i64 (i : Int))).setCell ⟨w.heap.size, 2, none⟩ (.bool true) = Y := ⟨_, rfl⟩
          have tY : Touch (AtB gp) w Y := by rw [← hY]; exact touch3 HTT.out (.inr (Nat.le_refl _)) _ _ _
          have tYX : Touch (fun k => k = w.heap.size) w7 Y := by rw [← hY]; exact touch3 (F := fun k => k = w.heap.size) (Touch.refl _ w7) (.inl rfl) _ _ _
          have bY : B3 Y 57 w.heap.size (.string nm) (.int .i64 (i : Int)) (.bool true) := by rw [← hY]; exact ((hb27.set0 _).set1 _).set2 _
          obtain ⟨r0, r1, r2, rl⟩ := bY.cells
          have HZ := Lib.hid (And.intro tY (hr.touchX tYX hgp hg))
          clear hr hb7 hb27 tY tYX bY
          go_wp2
          exact bodyPost_ret (v := .agg #[.string nm, .int .i64 (i : Int), .bool true]) (by simp [results, Tryz.results17, go_sem, r0, r1, r2]) rfl ⟨by rw [HVV.out, HNM.out], HZ.out.2, HZ.out.1⟩
      · obtain rfl : i = 5 := by omega
        have HC := Lib.hid (t_fail hk.rt 2)
        have hch := choF_none (σ := s3) kindW 0 (fun j q hq => HKr.out.no j q (by have := (List.getElem?_eq_some_iff.1 hq).1; exact this) hq)
        have HCH := Lib.hid hch
        clear hk hwdr hch
        go_wp2_with fail
        refine HC.out.mono ?_
        rintro x w7 ⟨rfl, hr, ht⟩
        have hb7 := HKr.out.b3.go ht (by omega)
        have hb27 := HKr.out.b2.go ht (by omega)
        have HTT := Lib.hid (HKr.out.t.same ht)
        obtain ⟨hv1, hv2⟩ := HV.out 0 (by unfold choV; rw [HCH.out]; rfl)
        have hcs : choS ts kindW s3 = failS 2 s3 := by unfold choS; rw [HCH.out]
        rw [hcs, exS_bd (by unfold failS; simp only; split <;> omega)] at hv2
        rw [← hv2] at hr
        have HVV := Lib.hid hv1
        clear hcs hv1 hv2 ht
        obtain ⟨z0, z1, z2, zl⟩ := hb7.cells
        obtain ⟨y0, y1, y2, yl⟩ := hb27.cells
        obtain ⟨g0, g1, g2⟩ := hb27.free
        obtain ⟨Y, hY⟩ : ∃ Y, ((w7.setCell ⟨w.heap.size, 0, none⟩ (.string nm)).setCell ⟨w.heap.size, 1, none⟩ (.int .i64 0)).setCell ⟨w.heap.size, 2, none⟩ (.bool true) = Y := ⟨_, rfl⟩
        have tY : Touch (AtB gp) w Y := by rw [← hY]; exact touch3 HTT.out (.inr (Nat.le_refl _)) _ _ _
        have tYX : Touch (fun k => k = w.heap.size) w7 Y := by rw [← hY]; exact touch3 (F := fun k => k = w.heap.size) (Touch.refl _ w7) (.inl rfl) _ _ _
        have bY : B3 Y 57 w.heap.size (.string nm) (.int .i64 0) (.bool true) := by rw [← hY]; exact ((hb27.set0 _).set1 _).set2 _
        obtain ⟨r0, r1, r2, rl⟩ := bY.cells
        have HZ := Lib.hid (And.intro tY (hr.touchX tYX hgp hg))
        clear hr hb7 hb27 tY tYX bY
        go_wp2
        exact bodyPost_ret (v := .agg #[.string nm, .int .i64 0, .bool true]) (by simp [results, Tryz.results17, go_sem, r0, r1, r2]) rfl ⟨by rw [HVV.out, HNM.out]; rfl, HZ.out.2, HZ.out.1⟩
  | false =>
    have HC := Lib.hid (t_no HR0.out [115, 104, 97, 114, 101, 100] hi)
    go_enter Tryz.func17, Tryz.ntmps17
    go_wp2_with fail
    refine HC.out.mono ?_
    rintro x w1 ⟨rfl, hr, ht0⟩
    have ht : Touch (AtB gp) W0 w1 := Touch.anyB ht0
    have hs1 := ht.size
    obtain ⟨W1, hW1⟩ : ∃ W, w1.alloc (.cells #[.string ⟨#[]⟩, .int .i64 0, .bool false] 57) = W := ⟨_, rfl⟩
    have t1 : Touch NoB w1 W1 := by rw [← hW1]; exact (Touch.refl _ _).alloc _
    have HR := Lib.hid (hr.touch t1)
    have HT := Lib.hid ((HT0.out.same ht).same (Touch.anyB (F := AtB gp) t1))
    have HB3 := Lib.hid (show B3 W1 57 w1.heap.size (.string ⟨#[]⟩) (.int .i64 0) (.bool false) by rw [← hW1]; exact B3.new _ _ _ _ _ rfl)
    have HB2 := Lib.hid ((HB2.out.go ht (by omega)).go (Touch.anyB (F := AtB gp) t1) (by omega))
    have hgq : gp < w1.heap.size := by omega
    have hgg : g < w1.heap.size := by omega
    have hq2 : w.heap.size < w1.heap.size := by omega
    have HW1 := Lib.hid hW1
    clear hr ht ht0 t1 hs1 hW1 HC
    have HC := Lib.hid (t_want HR.out [111, 119, 110])
    obtain ⟨z0, z1, z2, zl⟩ := HB3.out.cells
    go_wp2_with fail
    rw [HW1.out]
    refine HC.out.mono ?_
    rintro x w3 ⟨rfl, hr, ht⟩
    have HR := Lib.hid hr
    have HT := Lib.hid (HT.out.same ht)
    have HB3 := Lib.hid (HB3.out.go ht (by omega))
    have HB2 := Lib.hid (HB2.out.go ht (by omega))
    clear hr ht HC
    have HC := Lib.hid (t_name HR.out)
    go_wp2_with fail
    refine HC.out.mono ?_
    rintro x w4 ⟨rfl, hr, ht⟩
    obtain ⟨nm, hnm⟩ : ∃ z, bs (naV ts (exS ts [111, 119, 110] σ)) = z := ⟨_, rfl⟩
    rw [hnm]
    obtain ⟨s3, hs3⟩ : ∃ z, naS ts (exS ts [111, 119, 110] σ) = z := ⟨_, rfl⟩
    rw [hs3] at hr
    have hV : ∀ (k : Nat) (e : choV ts kindW s3 = k), rkeV ts σ = ⟨naV ts (exS ts [111, 119, 110] σ), k, false⟩ ∧ rkeS ts σ = exS ts [59] (choS ts kindW s3) := by
      intro k e
      subst e
      unfold rkeV rkeS acS
      rw [hi]
      simp only [Bool.false_eq_true, if_false, ← hs3]
      refine ⟨?_, ?_⟩ <;> first | trivial | rfl
    have HV := Lib.hid hV
    have HNM := Lib.hid hnm
    have hb4 := HB3.out.go ht (by omega)
    have hb24 := HB2.out.go ht (by omega)
    obtain ⟨V4, hV4⟩ : ∃ V, w4.setCell ⟨w1.heap.size, 0, none⟩ (.string nm) = V := ⟨_, rfl⟩
    have tV : Touch (fun b => b = w1.heap.size) w4 V4 := by rw [← hV4]; exact (Touch.refl (fun b => b = w1.heap.size) w4).setCell (p := ⟨w1.heap.size, 0, none⟩) (.inl rfl) _
    have hbV : B3 V4 57 w1.heap.size (.string nm) (.int .i64 0) (.bool false) := by rw [← hV4]; exact hb4.set0 _
    have hbV2 : B3 V4 57 w.heap.size (.string ⟨#[]⟩) (.int .i64 0) (.bool false) := (tV.block _ (blk_lt hb24) (by omega)).trans hb24
    obtain ⟨W5, hW5⟩ : ∃ W, V4.alloc (.cells #[.string ⟨#[105, 110, 116]⟩, .string ⟨#[98, 111, 111, 108]⟩, .string ⟨#[114, 101, 102]⟩, .string ⟨#[115, 121, 109]⟩, .string ⟨#[112, 111, 105, 110, 116]⟩] 9) = W := ⟨_, rfl⟩
    have t5 : Touch NoB V4 W5 := by rw [← hW5]; exact (Touch.refl _ _).alloc _
    have hwd : WdAt W5 V4.heap.size 5 kindW := words_at (by rw [← hW5]; exact alloc_blk _ _ _ rfl) rfl (by decide) rfl
    have HWD := Lib.hid hwd
    have t5' := Touch.anyB (F := AtB gp) t5
    have HK := Lib.hid (show KyR w gp g n cp ts L s3 w1.heap.size nm false W5 0 W5 from ⟨(hr.touchX tV hgq hgg).touch t5, (show Touch (AtB gp) w V4 by rw [← hV4]; exact (HT.out.same ht).setCell (p := ⟨w1.heap.size, 0, none⟩) (.inr (by simp only; omega)) _).same t5', Touch.refl _ _, hbV2.go t5' (by omega), hbV.go t5' (by omega), fun j z hj => by omega⟩)
    obtain ⟨z0, z1, z2, zl⟩ := hb4.cells
    obtain ⟨f0, f1, f2⟩ := hb4.free
    clear hr ht tV hbV hbV2 t5 t5' hwd hnm hs3 hV hb4 hb24 HC HR HT HB3 HB2 HR0 HT0
    go_wp2
    go_loopw [5] (fun v wr => KyRel w gp g n cp ts L s3 w1.heap.size nm false W5 v wr) (fun v _ => 5 - (intOf v).toNat)
    case atStart => exact ⟨0, Nat.zero_le _, rfl, HK.out⟩
    case round =>
      obtain ⟨i, hi5, rfl, hk⟩ := hrel
      have HKr := Lib.hid hk
      have hwdr := wd_touch HWD.out hk.t5
      have hwl := hwdr.2.1
      by_cases hlt : i < 5
      · obtain ⟨z, hz⟩ : ∃ z, kindW[i]? = some z := ⟨kindW[i]'(by have : kindW.length = 5 := rfl; omega), List.getElem?_eq_getElem _⟩
        have hcell := hwdr.2.2 i z hz
        obtain ⟨zx, hzx⟩ : ∃ zx, bs z = zx := ⟨_, rfl⟩
        rw [hzx] at hcell
        have hii : (i : Int) < 5 := by omega
        cases hj : isS ts z s3 with
        | false =>
          have HC := Lib.hid (t_no hk.rt z hj)
          rw [hzx] at HC
          have HZ := Lib.hid (And.intro hz hj)
          clear hk hwdr hz hj hzx
          go_wp2_with fail
          refine HC.out.mono ?_
          rintro x w6 ⟨rfl, hr, ht⟩
          have hta := Touch.anyB (F := AtB gp) ht
          have HE := Lib.hid (show KyR w gp g n cp ts L s3 w1.heap.size nm false W5 (i + 1) w6 from ⟨hr, HKr.out.t.same hta, HKr.out.t5.same ht, HKr.out.b2.go hta (by omega), HKr.out.b3.go hta (by omega), fun j q hj hq => by
            rcases Nat.lt_or_ge j i with hji | hji
            · exact HKr.out.no j q hji hq
            · obtain rfl : j = i := by omega
              have := HZ.out.1.symm.trans hq
              injection this with this
              subst this
              exact HZ.out.2⟩)
          clear hr ht hta
          go_wp2
          go_roundw
          case rel => exact ⟨i + 1, by omega, by go_num, HE.out⟩
          case measure => simp [intOf]; omega
        | true =>
          have HC := Lib.hid (t_yes hk.rt z hj)
          rw [hzx] at HC
          have hch := choF_at kindW i 0 z hz hj hk.no
          rw [Nat.zero_add] at hch
          have HCH := Lib.hid hch
          clear hk hwdr hz hzx hch
          go_wp2_with fail
          refine HC.out.mono ?_
          rintro x w6 ⟨rfl, hr, ht⟩
          have hb6 := HKr.out.b3.go ht (by omega)
          have hb26 := HKr.out.b2.go ht (by omega)
          obtain ⟨z0, z1, z2, zl⟩ := hb6.cells
          obtain ⟨f0, f1, f2⟩ := hb6.free
          obtain ⟨V6, hV6⟩ : ∃ V, w6.setCell ⟨w1.heap.size, 1, none⟩ (.int .i64 (i : Int)) = V := ⟨_, rfl⟩
          have tV : Touch (fun b => b = w1.heap.size) w6 V6 := by rw [← hV6]; exact (Touch.refl (fun b => b = w1.heap.size) w6).setCell (p := ⟨w1.heap.size, 1, none⟩) (.inl rfl) _
          have HB6 := Lib.hid (show B3 V6 57 w1.heap.size (.string nm) (.int .i64 (i : Int)) (.bool false) by rw [← hV6]; exact hb6.set1 _)
          have HB26 := Lib.hid (show B3 V6 57 w.heap.size (.string ⟨#[]⟩) (.int .i64 0) (.bool false) from (tV.block _ (blk_lt hb26) (by omega)).trans hb26)
          have HR6 := Lib.hid (hr.touchX tV hgq hgg)
          have HT6 := Lib.hid (show Touch (AtB gp) w V6 by rw [← hV6]; exact (HKr.out.t.same ht).setCell (p := ⟨w1.heap.size, 1, none⟩) (.inr (by simp only; omega)) _)
          have HC2 := Lib.hid (t_want HR6.out [59])
          clear hr ht tV hb6 hb26
          go_wp2_with fail
          refine HC2.out.mono ?_
          rintro x w7 ⟨rfl, hr, ht⟩
          have hb7 := HB6.out.go ht (by omega)
          have hb27 := HB26.out.go ht (by omega)
          have HTT := Lib.hid (HT6.out.same ht)
          obtain ⟨hv1, hv2⟩ := HV.out i (by unfold choV; rw [HCH.out]; rfl)
          have hcs : choS ts kindW s3 = (s3.1 + 1, s3.2) := by unfold choS; rw [HCH.out]
          rw [hcs] at hv2
          rw [← hv2] at hr
          have HVV := Lib.hid hv1
          clear hcs hv1 hv2 ht
          obtain ⟨z0, z1, z2, zl⟩ := hb7.cells
          obtain ⟨y0, y1, y2, yl⟩ := hb27.cells
          obtain ⟨g0, g1, g2⟩ := hb27.free
          obtain ⟨Y, hY⟩ : ∃ Y, ((w7.setCell ⟨w.heap.size, 0, none⟩ (.string nm)).setCell ⟨w.heap.size, 1, none⟩ (.int .i64 (i : Int))).setCell ⟨w.heap.size, 2, none⟩ (.bool false) = Y := ⟨_, rfl⟩
          have tY : Touch (AtB gp) w Y := by rw [← hY]; exact touch3 HTT.out (.inr (Nat.le_refl _)) _ _ _
          have tYX : Touch (fun k => k = w.heap.size) w7 Y := by rw [← hY]; exact touch3 (F := fun k => k = w.heap.size) (Touch.refl _ w7) (.inl rfl) _ _ _
          have bY : B3 Y 57 w.heap.size (.string nm) (.int .i64 (i : Int)) (.bool false) := by rw [← hY]; exact ((hb27.set0 _).set1 _).set2 _
          obtain ⟨r0, r1, r2, rl⟩ := bY.cells
          have HZ := Lib.hid (And.intro tY (hr.touchX tYX hgp hg))
          clear hr hb7 hb27 tY tYX bY
          go_wp2
          exact bodyPost_ret (v := .agg #[.string nm, .int .i64 (i : Int), .bool false]) (by simp [results, Tryz.results17, go_sem, r0, r1, r2]) rfl ⟨by rw [HVV.out, HNM.out], HZ.out.2, HZ.out.1⟩
      · obtain rfl : i = 5 := by omega
        have HC := Lib.hid (t_fail hk.rt 2)
        have hch := choF_none (σ := s3) kindW 0 (fun j q hq => HKr.out.no j q (by have := (List.getElem?_eq_some_iff.1 hq).1; exact this) hq)
        have HCH := Lib.hid hch
        clear hk hwdr hch
        go_wp2_with fail
        refine HC.out.mono ?_
        rintro x w7 ⟨rfl, hr, ht⟩
        have hb7 := HKr.out.b3.go ht (by omega)
        have hb27 := HKr.out.b2.go ht (by omega)
        have HTT := Lib.hid (HKr.out.t.same ht)
        obtain ⟨hv1, hv2⟩ := HV.out 0 (by unfold choV; rw [HCH.out]; rfl)
        have hcs : choS ts kindW s3 = failS 2 s3 := by unfold choS; rw [HCH.out]
        rw [hcs, exS_bd (by unfold failS; simp only; split <;> omega)] at hv2
        rw [← hv2] at hr
        have HVV := Lib.hid hv1
        clear hcs hv1 hv2 ht
        obtain ⟨z0, z1, z2, zl⟩ := hb7.cells
        obtain ⟨y0, y1, y2, yl⟩ := hb27.cells
        obtain ⟨g0, g1, g2⟩ := hb27.free
        obtain ⟨Y, hY⟩ : ∃ Y, ((w7.setCell ⟨w.heap.size, 0, none⟩ (.string nm)).setCell ⟨w.heap.size, 1, none⟩ (.int .i64 0)).setCell ⟨w.heap.size, 2, none⟩ (.bool false) = Y := ⟨_, rfl⟩
        have tY : Touch (AtB gp) w Y := by rw [← hY]; exact touch3 HTT.out (.inr (Nat.le_refl _)) _ _ _
        have tYX : Touch (fun k => k = w.heap.size) w7 Y := by rw [← hY]; exact touch3 (F := fun k => k = w.heap.size) (Touch.refl _ w7) (.inl rfl) _ _ _
        have bY : B3 Y 57 w.heap.size (.string nm) (.int .i64 0) (.bool false) := by rw [← hY]; exact ((hb27.set0 _).set1 _).set2 _
        obtain ⟨r0, r1, r2, rl⟩ := bY.cells
        have HZ := Lib.hid (And.intro tY (hr.touchX tYX hgp hg))
        clear hr hb7 hb27 tY tYX bY
        go_wp2
        exact bodyPost_ret (v := .agg #[.string nm, .int .i64 0, .bool false]) (by simp [results, Tryz.results17, go_sem, r0, r1, r2]) rfl ⟨by rw [HVV.out, HNM.out]; rfl, HZ.out.2, HZ.out.1⟩
end Go.Proofs.YtnphaaahdlkmhaaGreat
end
