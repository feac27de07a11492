/-
  What the document's own node does where nodes follow within braces. Conditions: those that each theorem names.
-/
import Derived.Test.YtbikpbmknneabaaGreatZs26
import Derived.Test.YtbikpbmknneabaaGreatZs25
section
namespace Go.Proofs.YtbikpbmknneabaaGreat
open Go.ChangeShapes Go.WideShapes Go.ChangeAt Go.RowKit
set_option maxRecDepth 100000
set_option maxHeartbeats 8000000
attribute [local go_sem ↓] loadNd_of storeNd_of

theorem rnode_0 {gp g n cp L d d1 D : Nat} {ts : List Tk} {sub : St → Nd × St} (hd1 : d1 = d + 1) (hds : d ≤ 40) (HSB : RNodeOk gp g n cp ts L d1 D sub) {w : World} {σ : St} (h : RT w gp g n cp ts L σ) (hg : g < w.heap.size) (hy : isS ts [115, 101, 113] σ = true) :
    Calls Tryz.prog 20 #[.pointer (some ⟨gp, 0, none⟩), .int .i64 (d : Int)] w (RNP w gp g n cp ts L (D + 1) (rndK ts sub 0 (σ.1 + 1, σ.2))) := by
  have he := isS_ok hy
  have HSUB := Lib.hid HSB
  clear HSB
  show Calls _ _ _ _ (RNP w gp g n cp ts L (D + 1) (.mk 0 0 0 [] x0 (braV ts sub (σ.1 + 1, σ.2)) [], braS ts sub (σ.1 + 1, σ.2)))
  have hgp := h.lt
  obtain ⟨W0, hW0⟩ : ∃ W, (w.alloc (.cells #[.int .i64 0, .int .i64 0, .int .i64 0, .string ⟨#[]⟩, .int .i64 0, .int .i64 0, .string ⟨#[]⟩, .slice none 0 0, .slice none 0 0, .slice none 0 0] 62)).alloc (.cells #[.int .i64 0, .int .i64 0, .int .i64 0, .string ⟨#[]⟩, .int .i64 0, .int .i64 0, .string ⟨#[]⟩, .slice none 0 0, .slice none 0 0, .slice none 0 0] 62) = W := ⟨_, rfl⟩
  have hN0 := NS5.start h hW0
  obtain ⟨W1, hW1⟩ : ∃ W, W0.alloc (.cells #[.string ⟨#[115, 101, 113]⟩, .string ⟨#[115, 101, 108]⟩, .string ⟨#[109, 115, 101, 113]⟩, .string ⟨#[109, 115, 101, 108]⟩, .string ⟨#[112, 97, 114]⟩] 9) = W := ⟨_, rfl⟩
  have t1 : Touch NoB W0 W1 := by rw [← hW1]; exact (Touch.refl _ _).alloc _
  have hN1 := hN0.quiet hgp t1
  have hwd : WdAt W1 W0.heap.size 5 manyW := words_at (by rw [← hW1]; exact alloc_blk _ _ _ rfl) rfl (by decide) rfl
  have hee : ((σ.2 : Int) != 0) = false := by rw [he]; rfl
  have hdd : decide ((40 : Int) < (d : Int)) = false := by simp; omega
  obtain ⟨c1, c2, cl⟩ := hN0.rt.cells
  have HN1 := Lib.hid (And.intro hN1 hwd)
  have HW1 := Lib.hid hwd
  have hsum : IntKind.i64.wrap ((d : Int) + 1) = (d1 : Int) := by rw [show (d : Int) + 1 = (d1 : Int) from by omega]; exact IntWalk.i64_in _ (by omega)
  clear h hN0 t1 hN1 hwd he hd1 hds
  go_enter Tryz.func20, Tryz.ntmps20
  go_wp2
  go_loopw [7] (fun v wr => NlRel w gp g n cp ts L σ W1 0 v wr) (fun v _ => 1 - (intOf v).toNat)
  case atStart => exact ⟨0, Nat.zero_le _, rfl, HN1.out.1, Touch.refl _ _⟩
  case round =>
    obtain ⟨i, hi, rfl, hN, hT⟩ := hrel
    have hwdr := wd_touch HN1.out.2 hT
    have HNr := Lib.hid hN
    have hNl := hN.lt
    have hwl := hwdr.2.1
    · obtain rfl : i = 0 := by omega
      have hcell := hwdr.2.2 0 [115, 101, 113] rfl
      clear hwdr hi
      have HS := Lib.hid HNr.out
      clear hN hT HNr
      have HC := Lib.hid (t_yes HS.out.rt [115, 101, 113] hy)
      go_wp2_with fail
      refine HC.out.mono ?_
      rintro x w21 ⟨rfl, hr, ht⟩
      have hn := HS.out.call hgp hr ht
      clear HS
      have HS := Lib.hid hn
      clear hr ht hn HC
      obtain ⟨q0, q1, q2, q3, q4, q5, q6, q7, q8, q9, ql⟩ := nd_cells HS.out.h5
      have f0 := HS.out.free 0
      have f1 := HS.out.free 1
      have f2 := HS.out.free 2
      have f3 := HS.out.free 3
      have f4 := HS.out.free 4
      have f5 := HS.out.free 5
      have f6 := HS.out.free 6
      have f7 := HS.out.free 7
      have f8 := HS.out.free 8
      have f9 := HS.out.free 9
      obtain ⟨w22, hw22⟩ : ∃ W, w21.setCell ⟨w.heap.size + 1, 0, none⟩ (.int .i64 0) = W := ⟨_, rfl⟩
      have hn := HS.out.set hgp hg 0 (.int .i64 0) (us := [.int .i64 0, .int .i64 0, .int .i64 0, .string ⟨#[]⟩, .int .i64 0, .int .i64 0, .string ⟨#[]⟩, .slice none 0 0, .slice none 0 0, .slice none 0 0]) rfl
      rw [hw22] at hn
      clear HS
      have HS := Lib.hid hn
      clear hn
      have HC := Lib.hid (rbra_any HSUB.out HS.out.rt (by have := HS.out.lt; omega))
      have hc0 := HS.out.lt
      go_wp2_with fail
      refine HC.out.mono ?_
      rintro x w23 ⟨ht, hr, l, xs, A, cx, rfl, hs2, hl2, hyo⟩
      have hn := HS.out.call hgp hr ht
      clear HS
      have HS := Lib.hid hn
      have HK := Lib.hid (And.intro hs2 hl2)
      have HYO := Lib.hid hyo
      have HC0 := Lib.hid hc0
      clear ht hr hs2 hl2 hn hyo HC hc0
      try clear q0 q1 q2 q3 q4 q5 q6 q7 q8 q9 ql f0 f1 f2 f3 f4 f5 f6 f7 f8 f9
      obtain ⟨q0, q1, q2, q3, q4, q5, q6, q7, q8, q9, ql⟩ := nd_cells HS.out.h5
      have f0 := HS.out.free 0
      have f1 := HS.out.free 1
      have f2 := HS.out.free 2
      have f3 := HS.out.free 3
      have f4 := HS.out.free 4
      have f5 := HS.out.free 5
      have f6 := HS.out.free 6
      have f7 := HS.out.free 7
      have f8 := HS.out.free 8
      have f9 := HS.out.free 9
      obtain ⟨w24, hw24⟩ : ∃ W, w23.setCell ⟨w.heap.size + 1, 8, none⟩ (.slice A l.length cx) = W := ⟨_, rfl⟩
      have hn := HS.out.set hgp hg 8 (.slice A l.length cx) (us := [.int .i64 0, .int .i64 0, .int .i64 0, .string ⟨#[]⟩, .int .i64 0, .int .i64 0, .string ⟨#[]⟩, .slice none 0 0, .slice A l.length cx, .slice none 0 0]) rfl
      rw [hw24] at hn
      clear HS
      have HS := Lib.hid hn
      clear hn
      have HT3 := Lib.hid (show Touch (F3 gp w) w23 w24 from by rw [← hw24]; exact (Touch.refl (F3 gp w) _).setCell (p := ⟨w.heap.size + 1, 8, none⟩) (.inl (.inr (.inr rfl))) _)
      obtain ⟨hld, W9, hst, hra, hr9, ht9, ht3⟩ := HS.out.fin hgp hg rfl (by intro v hv; simp only [List.mem_cons, List.not_mem_nil, or_false] at hv; rcases hv with rfl | rfl | rfl | rfl | rfl | rfl | rfl | rfl | rfl | rfl <;> rfl)
      obtain ⟨y0, y1, y2, y3, y4, y5, y6, y7, y8, y9⟩ := range_cells hra
      have HZ := Lib.hid (And.intro hr9 (And.intro ht9 ht3))
      have hNl := HS.out.lt
      clear hra hr9 ht9 ht3
      go_wp2
      have HNT := nt_brace (k := 0) (a := 0) (b := 0) HK.out.1 HK.out.2 (HT3.out.same HZ.out.2.2) (by have := HC0.out; omega) hgp
      exact bodyPost_ret (v := .agg #[.int .i64 0, .int .i64 0, .int .i64 0, .string ⟨#[]⟩, .int .i64 0, .int .i64 0, .string ⟨#[]⟩, .slice none 0 0, .slice A l.length cx, .slice none 0 0]) (by simp [results, Tryz.results20, go_sem, y0, y1, y2, y3, y4, y5, y6, y7, y8, y9]) rfl
        ⟨HZ.out.2.1, HZ.out.1, .mk 0 0 0 [] x0 l [], 0, 0, ⟨#[]⟩, none, 0, 0, _, _, _, _, rfl, HNT, fun e => by rw [HYO.out e]⟩
theorem rnode_1 {gp g n cp L d d1 D : Nat} {ts : List Tk} {sub : St → Nd × St} (hd1 : d1 = d + 1) (hds : d ≤ 40) (HSB : RNodeOk gp g n cp ts L d1 D sub) {w : World} {σ : St} (h : RT w gp g n cp ts L σ) (hg : g < w.heap.size) (hy : isS ts [115, 101, 108] σ = true) :
    Calls Tryz.prog 20 #[.pointer (some ⟨gp, 0, none⟩), .int .i64 (d : Int)] w (RNP w gp g n cp ts L (D + 1) (rndK ts sub 1 (σ.1 + 1, σ.2))) := by
  have he := isS_ok hy
  have HSUB := Lib.hid HSB
  clear HSB
  show Calls _ _ _ _ (RNP w gp g n cp ts L (D + 1) (.mk 1 0 0 [] x0 (braV ts sub (σ.1 + 1, σ.2)) [], braS ts sub (σ.1 + 1, σ.2)))
  have hgp := h.lt
  obtain ⟨W0, hW0⟩ : ∃ W, (w.alloc (.cells #[.int .i64 0, .int .i64 0, .int .i64 0, .string ⟨#[]⟩, .int .i64 0, .int .i64 0, .string ⟨#[]⟩, .slice none 0 0, .slice none 0 0, .slice none 0 0] 62)).alloc (.cells #[.int .i64 0, .int .i64 0, .int .i64 0, .string ⟨#[]⟩, .int .i64 0, .int .i64 0, .string ⟨#[]⟩, .slice none 0 0, .slice none 0 0, .slice none 0 0] 62) = W := ⟨_, rfl⟩
  have hN0 := NS5.start h hW0
  obtain ⟨W1, hW1⟩ : ∃ W, W0.alloc (.cells #[.string ⟨#[115, 101, 113]⟩, .string ⟨#[115, 101, 108]⟩, .string ⟨#[109, 115, 101, 113]⟩, .string ⟨#[109, 115, 101, 108]⟩, .string ⟨#[112, 97, 114]⟩] 9) = W := ⟨_, rfl⟩
  have t1 : Touch NoB W0 W1 := by rw [← hW1]; exact (Touch.refl _ _).alloc _
  have hN1 := hN0.quiet hgp t1
  have hwd : WdAt W1 W0.heap.size 5 manyW := words_at (by rw [← hW1]; exact alloc_blk _ _ _ rfl) rfl (by decide) rfl
  have hee : ((σ.2 : Int) != 0) = false := by rw [he]; rfl
  have hdd : decide ((40 : Int) < (d : Int)) = false := by simp; omega
  obtain ⟨c1, c2, cl⟩ := hN0.rt.cells
  have HN1 := Lib.hid (And.intro hN1 hwd)
  have HW1 := Lib.hid hwd
  have hsum : IntKind.i64.wrap ((d : Int) + 1) = (d1 : Int) := by rw [show (d : Int) + 1 = (d1 : Int) from by omega]; exact IntWalk.i64_in _ (by omega)
  clear h hN0 t1 hN1 hwd he hd1 hds
  go_enter Tryz.func20, Tryz.ntmps20
  go_wp2
  go_loopw [7] (fun v wr => NlRel w gp g n cp ts L σ W1 1 v wr) (fun v _ => 2 - (intOf v).toNat)
  case atStart => exact ⟨0, Nat.zero_le _, rfl, HN1.out.1, Touch.refl _ _⟩
  case round =>
    obtain ⟨i, hi, rfl, hN, hT⟩ := hrel
    have hwdr := wd_touch HN1.out.2 hT
    have HNr := Lib.hid hN
    have hNl := hN.lt
    have hwl := hwdr.2.1
    by_cases hlt : i < 1
    · obtain ⟨s, hs⟩ : ∃ s, manyW[i]? = some s := ⟨manyW[i]'(by have : manyW.length = 5 := rfl; omega), List.getElem?_eq_getElem _⟩
      have hcell := hwdr.2.2 i s hs
      have hno : isS ts s σ = false := isS_other hy (fun e => (by decide : ∀ i : Nat, i < 1 → manyW[i]? ≠ some [115, 101, 108]) i hlt (e ▸ hs))
      have HC := Lib.hid (t_no hN.rt s hno)
      have HT := Lib.hid hT
      obtain ⟨sx, hsx⟩ : ∃ sx, bs s = sx := ⟨_, rfl⟩
      rw [hsx] at hcell HC
      have hi5 : (i : Int) < 5 := by omega
      clear hN hT hwdr hs hno hsx
      go_wp2_with fail
      refine HC.out.mono ?_
      rintro x w2 ⟨rfl, hr2, ht2⟩
      have HE := Lib.hid (And.intro (HNr.out.quiet hgp ht2) (HT.out.same ht2))
      clear hr2 ht2
      go_wp2
      go_roundw
      case rel => exact ⟨i + 1, by omega, by go_num, HE.out.1, HE.out.2⟩
      case measure => simp [intOf]; omega
    · obtain rfl : i = 1 := by omega
      have hcell := hwdr.2.2 1 [115, 101, 108] rfl
      clear hwdr hlt hi
      have HS := Lib.hid HNr.out
      clear hN hT HNr
      have HC := Lib.hid (t_yes HS.out.rt [115, 101, 108] hy)
      go_wp2_with fail
      refine HC.out.mono ?_
      rintro x w21 ⟨rfl, hr, ht⟩
      have hn := HS.out.call hgp hr ht
      clear HS
      have HS := Lib.hid hn
      clear hr ht hn HC
      obtain ⟨q0, q1, q2, q3, q4, q5, q6, q7, q8, q9, ql⟩ := nd_cells HS.out.h5
      have f0 := HS.out.free 0
      have f1 := HS.out.free 1
      have f2 := HS.out.free 2
      have f3 := HS.out.free 3
      have f4 := HS.out.free 4
      have f5 := HS.out.free 5
      have f6 := HS.out.free 6
      have f7 := HS.out.free 7
      have f8 := HS.out.free 8
      have f9 := HS.out.free 9
      obtain ⟨w22, hw22⟩ : ∃ W, w21.setCell ⟨w.heap.size + 1, 0, none⟩ (.int .i64 1) = W := ⟨_, rfl⟩
      have hn := HS.out.set hgp hg 0 (.int .i64 1) (us := [.int .i64 1, .int .i64 0, .int .i64 0, .string ⟨#[]⟩, .int .i64 0, .int .i64 0, .string ⟨#[]⟩, .slice none 0 0, .slice none 0 0, .slice none 0 0]) rfl
      rw [hw22] at hn
      clear HS
      have HS := Lib.hid hn
      clear hn
      have HC := Lib.hid (rbra_any HSUB.out HS.out.rt (by have := HS.out.lt; omega))
      have hc0 := HS.out.lt
      go_wp2_with fail
      refine HC.out.mono ?_
      rintro x w23 ⟨ht, hr, l, xs, A, cx, rfl, hs2, hl2, hyo⟩
      have hn := HS.out.call hgp hr ht
      clear HS
      have HS := Lib.hid hn
      have HK := Lib.hid (And.intro hs2 hl2)
      have HYO := Lib.hid hyo
      have HC0 := Lib.hid hc0
      clear ht hr hs2 hl2 hn hyo HC hc0
      try clear q0 q1 q2 q3 q4 q5 q6 q7 q8 q9 ql f0 f1 f2 f3 f4 f5 f6 f7 f8 f9
      obtain ⟨q0, q1, q2, q3, q4, q5, q6, q7, q8, q9, ql⟩ := nd_cells HS.out.h5
      have f0 := HS.out.free 0
      have f1 := HS.out.free 1
      have f2 := HS.out.free 2
      have f3 := HS.out.free 3
      have f4 := HS.out.free 4
      have f5 := HS.out.free 5
      have f6 := HS.out.free 6
      have f7 := HS.out.free 7
      have f8 := HS.out.free 8
      have f9 := HS.out.free 9
      obtain ⟨w24, hw24⟩ : ∃ W, w23.setCell ⟨w.heap.size + 1, 8, none⟩ (.slice A l.length cx) = W := ⟨_, rfl⟩
      have hn := HS.out.set hgp hg 8 (.slice A l.length cx) (us := [.int .i64 1, .int .i64 0, .int .i64 0, .string ⟨#[]⟩, .int .i64 0, .int .i64 0, .string ⟨#[]⟩, .slice none 0 0, .slice A l.length cx, .slice none 0 0]) rfl
      rw [hw24] at hn
      clear HS
      have HS := Lib.hid hn
      clear hn
      have HT3 := Lib.hid (show Touch (F3 gp w) w23 w24 from by rw [← hw24]; exact (Touch.refl (F3 gp w) _).setCell (p := ⟨w.heap.size + 1, 8, none⟩) (.inl (.inr (.inr rfl))) _)
      obtain ⟨hld, W9, hst, hra, hr9, ht9, ht3⟩ := HS.out.fin hgp hg rfl (by intro v hv; simp only [List.mem_cons, List.not_mem_nil, or_false] at hv; rcases hv with rfl | rfl | rfl | rfl | rfl | rfl | rfl | rfl | rfl | rfl <;> rfl)
      obtain ⟨y0, y1, y2, y3, y4, y5, y6, y7, y8, y9⟩ := range_cells hra
      have HZ := Lib.hid (And.intro hr9 (And.intro ht9 ht3))
      have hNl := HS.out.lt
      clear hra hr9 ht9 ht3
      go_wp2
      have HNT := nt_brace (k := 1) (a := 0) (b := 0) HK.out.1 HK.out.2 (HT3.out.same HZ.out.2.2) (by have := HC0.out; omega) hgp
      exact bodyPost_ret (v := .agg #[.int .i64 1, .int .i64 0, .int .i64 0, .string ⟨#[]⟩, .int .i64 0, .int .i64 0, .string ⟨#[]⟩, .slice none 0 0, .slice A l.length cx, .slice none 0 0]) (by simp [results, Tryz.results20, go_sem, y0, y1, y2, y3, y4, y5, y6, y7, y8, y9]) rfl
        ⟨HZ.out.2.1, HZ.out.1, .mk 1 0 0 [] x0 l [], 0, 0, ⟨#[]⟩, none, 0, 0, _, _, _, _, rfl, HNT, fun e => by rw [HYO.out e]⟩
theorem rnode_2 {gp g n cp L d d1 D : Nat} {ts : List Tk} {sub : St → Nd × St} (hd1 : d1 = d + 1) (hds : d ≤ 40) (HSB : RNodeOk gp g n cp ts L d1 D sub) {w : World} {σ : St} (h : RT w gp g n cp ts L σ) (hg : g < w.heap.size) (hy : isS ts [109, 115, 101, 113] σ = true) :
    Calls Tryz.prog 20 #[.pointer (some ⟨gp, 0, none⟩), .int .i64 (d : Int)] w (RNP w gp g n cp ts L (D + 1) (rndK ts sub 2 (σ.1 + 1, σ.2))) := by
  have he := isS_ok hy
  have HSUB := Lib.hid HSB
  clear HSB
  show Calls _ _ _ _ (RNP w gp g n cp ts L (D + 1) (.mk 2 0 0 [] x0 (braV ts sub (σ.1 + 1, σ.2)) [], braS ts sub (σ.1 + 1, σ.2)))
  have hgp := h.lt
  obtain ⟨W0, hW0⟩ : ∃ W, (w.alloc (.cells #[.int .i64 0, .int .i64 0, .int .i64 0, .string ⟨#[]⟩, .int .i64 0, .int .i64 0, .string ⟨#[]⟩, .slice none 0 0, .slice none 0 0, .slice none 0 0] 62)).alloc (.cells #[.int .i64 0, .int .i64 0, .int .i64 0, .string ⟨#[]⟩, .int .i64 0, .int .i64 0, .string ⟨#[]⟩, .slice none 0 0, .slice none 0 0, .slice none 0 0] 62) = W := ⟨_, rfl⟩
  have hN0 := NS5.start h hW0
  obtain ⟨W1, hW1⟩ : ∃ W, W0.alloc (.cells #[.string ⟨#[115, 101, 113]⟩, .string ⟨#[115, 101, 108]⟩, .string ⟨#[109, 115, 101, 113]⟩, .string ⟨#[109, 115, 101, 108]⟩, .string ⟨#[112, 97, 114]⟩] 9) = W := ⟨_, rfl⟩
  have t1 : Touch NoB W0 W1 := by rw [← hW1]; exact (Touch.refl _ _).alloc _
  have hN1 := hN0.quiet hgp t1
  have hwd : WdAt W1 W0.heap.size 5 manyW := words_at (by rw [← hW1]; exact alloc_blk _ _ _ rfl) rfl (by decide) rfl
  have hee : ((σ.2 : Int) != 0) = false := by rw [he]; rfl
  have hdd : decide ((40 : Int) < (d : Int)) = false := by simp; omega
  obtain ⟨c1, c2, cl⟩ := hN0.rt.cells
  have HN1 := Lib.hid (And.intro hN1 hwd)
  have HW1 := Lib.hid hwd
  have hsum : IntKind.i64.wrap ((d : Int) + 1) = (d1 : Int) := by rw [show (d : Int) + 1 = (d1 : Int) from by omega]; exact IntWalk.i64_in _ (by omega)
  clear h hN0 t1 hN1 hwd he hd1 hds
  go_enter Tryz.func20, Tryz.ntmps20
  go_wp2
  go_loopw [7] (fun v wr => NlRel w gp g n cp ts L σ W1 2 v wr) (fun v _ => 3 - (intOf v).toNat)
  case atStart => exact ⟨0, Nat.zero_le _, rfl, HN1.out.1, Touch.refl _ _⟩
  case round =>
    obtain ⟨i, hi, rfl, hN, hT⟩ := hrel
    have hwdr := wd_touch HN1.out.2 hT
    have HNr := Lib.hid hN
    have hNl := hN.lt
    have hwl := hwdr.2.1
    by_cases hlt : i < 2
    · obtain ⟨s, hs⟩ : ∃ s, manyW[i]? = some s := ⟨manyW[i]'(by have : manyW.length = 5 := rfl; omega), List.getElem?_eq_getElem _⟩
      have hcell := hwdr.2.2 i s hs
      have hno : isS ts s σ = false := isS_other hy (fun e => (by decide : ∀ i : Nat, i < 2 → manyW[i]? ≠ some [109, 115, 101, 113]) i hlt (e ▸ hs))
      have HC := Lib.hid (t_no hN.rt s hno)
      have HT := Lib.hid hT
      obtain ⟨sx, hsx⟩ : ∃ sx, bs s = sx := ⟨_, rfl⟩
      rw [hsx] at hcell HC
      have hi5 : (i : Int) < 5 := by omega
      clear hN hT hwdr hs hno hsx
      go_wp2_with fail
      refine HC.out.mono ?_
      rintro x w2 ⟨rfl, hr2, ht2⟩
      have HE := Lib.hid (And.intro (HNr.out.quiet hgp ht2) (HT.out.same ht2))
      clear hr2 ht2
      go_wp2
      go_roundw
      case rel => exact ⟨i + 1, by omega, by go_num, HE.out.1, HE.out.2⟩
      case measure => simp [intOf]; omega
    · obtain rfl : i = 2 := by omega
      have hcell := hwdr.2.2 2 [109, 115, 101, 113] rfl
      clear hwdr hlt hi
      have HS := Lib.hid HNr.out
      clear hN hT HNr
      have HC := Lib.hid (t_yes HS.out.rt [109, 115, 101, 113] hy)
      go_wp2_with fail
      refine HC.out.mono ?_
      rintro x w21 ⟨rfl, hr, ht⟩
      have hn := HS.out.call hgp hr ht
      clear HS
      have HS := Lib.hid hn
      clear hr ht hn HC
      obtain ⟨q0, q1, q2, q3, q4, q5, q6, q7, q8, q9, ql⟩ := nd_cells HS.out.h5
      have f0 := HS.out.free 0
      have f1 := HS.out.free 1
      have f2 := HS.out.free 2
      have f3 := HS.out.free 3
      have f4 := HS.out.free 4
      have f5 := HS.out.free 5
      have f6 := HS.out.free 6
      have f7 := HS.out.free 7
      have f8 := HS.out.free 8
      have f9 := HS.out.free 9
      obtain ⟨w22, hw22⟩ : ∃ W, w21.setCell ⟨w.heap.size + 1, 0, none⟩ (.int .i64 2) = W := ⟨_, rfl⟩
      have hn := HS.out.set hgp hg 0 (.int .i64 2) (us := [.int .i64 2, .int .i64 0, .int .i64 0, .string ⟨#[]⟩, .int .i64 0, .int .i64 0, .string ⟨#[]⟩, .slice none 0 0, .slice none 0 0, .slice none 0 0]) rfl
      rw [hw22] at hn
      clear HS
      have HS := Lib.hid hn
      clear hn
      have HC := Lib.hid (rbra_any HSUB.out HS.out.rt (by have := HS.out.lt; omega))
      have hc0 := HS.out.lt
      go_wp2_with fail
      refine HC.out.mono ?_
      rintro x w23 ⟨ht, hr, l, xs, A, cx, rfl, hs2, hl2, hyo⟩
      have hn := HS.out.call hgp hr ht
      clear HS
      have HS := Lib.hid hn
      have HK := Lib.hid (And.intro hs2 hl2)
      have HYO := Lib.hid hyo
      have HC0 := Lib.hid hc0
      clear ht hr hs2 hl2 hn hyo HC hc0
      try clear q0 q1 q2 q3 q4 q5 q6 q7 q8 q9 ql f0 f1 f2 f3 f4 f5 f6 f7 f8 f9
      obtain ⟨q0, q1, q2, q3, q4, q5, q6, q7, q8, q9, ql⟩ := nd_cells HS.out.h5
      have f0 := HS.out.free 0
      have f1 := HS.out.free 1
      have f2 := HS.out.free 2
      have f3 := HS.out.free 3
      have f4 := HS.out.free 4
      have f5 := HS.out.free 5
      have f6 := HS.out.free 6
      have f7 := HS.out.free 7
      have f8 := HS.out.free 8
      have f9 := HS.out.free 9
      obtain ⟨w24, hw24⟩ : ∃ W, w23.setCell ⟨w.heap.size + 1, 8, none⟩ (.slice A l.length cx) = W := ⟨_, rfl⟩
      have hn := HS.out.set hgp hg 8 (.slice A l.length cx) (us := [.int .i64 2, .int .i64 0, .int .i64 0, .string ⟨#[]⟩, .int .i64 0, .int .i64 0, .string ⟨#[]⟩, .slice none 0 0, .slice A l.length cx, .slice none 0 0]) rfl
      rw [hw24] at hn
      clear HS
      have HS := Lib.hid hn
      clear hn
      have HT3 := Lib.hid (show Touch (F3 gp w) w23 w24 from by rw [← hw24]; exact (Touch.refl (F3 gp w) _).setCell (p := ⟨w.heap.size + 1, 8, none⟩) (.inl (.inr (.inr rfl))) _)
      obtain ⟨hld, W9, hst, hra, hr9, ht9, ht3⟩ := HS.out.fin hgp hg rfl (by intro v hv; simp only [List.mem_cons, List.not_mem_nil, or_false] at hv; rcases hv with rfl | rfl | rfl | rfl | rfl | rfl | rfl | rfl | rfl | rfl <;> rfl)
      obtain ⟨y0, y1, y2, y3, y4, y5, y6, y7, y8, y9⟩ := range_cells hra
      have HZ := Lib.hid (And.intro hr9 (And.intro ht9 ht3))
      have hNl := HS.out.lt
      clear hra hr9 ht9 ht3
      go_wp2
      have HNT := nt_brace (k := 2) (a := 0) (b := 0) HK.out.1 HK.out.2 (HT3.out.same HZ.out.2.2) (by have := HC0.out; omega) hgp
      exact bodyPost_ret (v := .agg #[.int .i64 2, .int .i64 0, .int .i64 0, .string ⟨#[]⟩, .int .i64 0, .int .i64 0, .string ⟨#[]⟩, .slice none 0 0, .slice A l.length cx, .slice none 0 0]) (by simp [results, Tryz.results20, go_sem, y0, y1, y2, y3, y4, y5, y6, y7, y8, y9]) rfl
        ⟨HZ.out.2.1, HZ.out.1, .mk 2 0 0 [] x0 l [], 0, 0, ⟨#[]⟩, none, 0, 0, _, _, _, _, rfl, HNT, fun e => by rw [HYO.out e]⟩
theorem rnode_3 {gp g n cp L d d1 D : Nat} {ts : List Tk} {sub : St → Nd × St} (hd1 : d1 = d + 1) (hds : d ≤ 40) (HSB : RNodeOk gp g n cp ts L d1 D sub) {w : World} {σ : St} (h : RT w gp g n cp ts L σ) (hg : g < w.heap.size) (hy : isS ts [109, 115, 101, 108] σ = true) :
    Calls Tryz.prog 20 #[.pointer (some ⟨gp, 0, none⟩), .int .i64 (d : Int)] w (RNP w gp g n cp ts L (D + 1) (rndK ts sub 3 (σ.1 + 1, σ.2))) := by
  have he := isS_ok hy
  have HSUB := Lib.hid HSB
  clear HSB
  show Calls _ _ _ _ (RNP w gp g n cp ts L (D + 1) (.mk 3 0 0 [] x0 (braV ts sub (σ.1 + 1, σ.2)) [], braS ts sub (σ.1 + 1, σ.2)))
  have hgp := h.lt
  obtain ⟨W0, hW0⟩ : ∃ W, (w.alloc (.cells #[.int .i64 0, .int .i64 0, .int .i64 0, .string ⟨#[]⟩, .int .i64 0, .int .i64 0, .string ⟨#[]⟩, .slice none 0 0, .slice none 0 0, .slice none 0 0] 62)).alloc (.cells #[.int .i64 0, .int .i64 0, .int .i64 0, .string ⟨#[]⟩, .int .i64 0, .int .i64 0, .string ⟨#[]⟩, .slice none 0 0, .slice none 0 0, .slice none 0 0] 62) = W := ⟨_, rfl⟩
  have hN0 := NS5.start h hW0
  obtain ⟨W1, hW1⟩ : ∃ W, W0.alloc (.cells #[.string ⟨#[115, 101, 113]⟩, .string ⟨#[115, 101, 108]⟩, .string ⟨#[109, 115, 101, 113]⟩, .string ⟨#[109, 115, 101, 108]⟩, .string ⟨#[112, 97, 114]⟩] 9) = W := ⟨_, rfl⟩
  have t1 : Touch NoB W0 W1 := by rw [← hW1]; exact (Touch.refl _ _).alloc _
  have hN1 := hN0.quiet hgp t1
  have hwd : WdAt W1 W0.heap.size 5 manyW := words_at (by rw [← hW1]; exact alloc_blk _ _ _ rfl) rfl (by decide) rfl
  have hee : ((σ.2 : Int) != 0) = false := by rw [he]; rfl
  have hdd : decide ((40 : Int) < (d : Int)) = false := by simp; omega
  obtain ⟨c1, c2, cl⟩ := hN0.rt.cells
  have HN1 := Lib.hid (And.intro hN1 hwd)
  have HW1 := Lib.hid hwd
  have hsum : IntKind.i64.wrap ((d : Int) + 1) = (d1 : Int) := by rw [show (d : Int) + 1 = (d1 : Int) from by omega]; exact IntWalk.i64_in _ (by omega)
  clear h hN0 t1 hN1 hwd he hd1 hds
  go_enter Tryz.func20, Tryz.ntmps20
  go_wp2
  go_loopw [7] (fun v wr => NlRel w gp g n cp ts L σ W1 3 v wr) (fun v _ => 4 - (intOf v).toNat)
  case atStart => exact ⟨0, Nat.zero_le _, rfl, HN1.out.1, Touch.refl _ _⟩
  case round =>
    obtain ⟨i, hi, rfl, hN, hT⟩ := hrel
    have hwdr := wd_touch HN1.out.2 hT
    have HNr := Lib.hid hN
    have hNl := hN.lt
    have hwl := hwdr.2.1
    by_cases hlt : i < 3
    · obtain ⟨s, hs⟩ : ∃ s, manyW[i]? = some s := ⟨manyW[i]'(by have : manyW.length = 5 := rfl; omega), List.getElem?_eq_getElem _⟩
      have hcell := hwdr.2.2 i s hs
      have hno : isS ts s σ = false := isS_other hy (fun e => (by decide : ∀ i : Nat, i < 3 → manyW[i]? ≠ some [109, 115, 101, 108]) i hlt (e ▸ hs))
      have HC := Lib.hid (t_no hN.rt s hno)
      have HT := Lib.hid hT
      obtain ⟨sx, hsx⟩ : ∃ sx, bs s = sx := ⟨_, rfl⟩
      rw [hsx] at hcell HC
      have hi5 : (i : Int) < 5 := by omega
      clear hN hT hwdr hs hno hsx
      go_wp2_with fail
      refine HC.out.mono ?_
      rintro x w2 ⟨rfl, hr2, ht2⟩
      have HE := Lib.hid (And.intro (HNr.out.quiet hgp ht2) (HT.out.same ht2))
      clear hr2 ht2
      go_wp2
      go_roundw
      case rel => exact ⟨i + 1, by omega, by go_num, HE.out.1, HE.out.2⟩
      case measure => simp [intOf]; omega
    · obtain rfl : i = 3 := by omega
      have hcell := hwdr.2.2 3 [109, 115, 101, 108] rfl
      clear hwdr hlt hi
      have HS := Lib.hid HNr.out
      clear hN hT HNr
      have HC := Lib.hid (t_yes HS.out.rt [109, 115, 101, 108] hy)
      go_wp2_with fail
      refine HC.out.mono ?_
      rintro x w21 ⟨rfl, hr, ht⟩
      have hn := HS.out.call hgp hr ht
      clear HS
      have HS := Lib.hid hn
      clear hr ht hn HC
      obtain ⟨q0, q1, q2, q3, q4, q5, q6, q7, q8, q9, ql⟩ := nd_cells HS.out.h5
      have f0 := HS.out.free 0
      have f1 := HS.out.free 1
      have f2 := HS.out.free 2
      have f3 := HS.out.free 3
      have f4 := HS.out.free 4
      have f5 := HS.out.free 5
      have f6 := HS.out.free 6
      have f7 := HS.out.free 7
      have f8 := HS.out.free 8
      have f9 := HS.out.free 9
      obtain ⟨w22, hw22⟩ : ∃ W, w21.setCell ⟨w.heap.size + 1, 0, none⟩ (.int .i64 3) = W := ⟨_, rfl⟩
      have hn := HS.out.set hgp hg 0 (.int .i64 3) (us := [.int .i64 3, .int .i64 0, .int .i64 0, .string ⟨#[]⟩, .int .i64 0, .int .i64 0, .string ⟨#[]⟩, .slice none 0 0, .slice none 0 0, .slice none 0 0]) rfl
      rw [hw22] at hn
      clear HS
      have HS := Lib.hid hn
      clear hn
      have HC := Lib.hid (rbra_any HSUB.out HS.out.rt (by have := HS.out.lt; omega))
      have hc0 := HS.out.lt
      go_wp2_with fail
      refine HC.out.mono ?_
      rintro x w23 ⟨ht, hr, l, xs, A, cx, rfl, hs2, hl2, hyo⟩
      have hn := HS.out.call hgp hr ht
      clear HS
      have HS := Lib.hid hn
      have HK := Lib.hid (And.intro hs2 hl2)
      have HYO := Lib.hid hyo
      have HC0 := Lib.hid hc0
      clear ht hr hs2 hl2 hn hyo HC hc0
      try clear q0 q1 q2 q3 q4 q5 q6 q7 q8 q9 ql f0 f1 f2 f3 f4 f5 f6 f7 f8 f9
      obtain ⟨q0, q1, q2, q3, q4, q5, q6, q7, q8, q9, ql⟩ := nd_cells HS.out.h5
      have f0 := HS.out.free 0
      have f1 := HS.out.free 1
      have f2 := HS.out.free 2
      have f3 := HS.out.free 3
      have f4 := HS.out.free 4
      have f5 := HS.out.free 5
      have f6 := HS.out.free 6
      have f7 := HS.out.free 7
      have f8 := HS.out.free 8
      have f9 := HS.out.free 9
      obtain ⟨w24, hw24⟩ : ∃ W, w23.setCell ⟨w.heap.size + 1, 8, none⟩ (.slice A l.length cx) = W := ⟨_, rfl⟩
      have hn := HS.out.set hgp hg 8 (.slice A l.length cx) (us := [.int .i64 3, .int .i64 0, .int .i64 0, .string ⟨#[]⟩, .int .i64 0, .int .i64 0, .string ⟨#[]⟩, .slice none 0 0, .slice A l.length cx, .slice none 0 0]) rfl
      rw [hw24] at hn
      clear HS
      have HS := Lib.hid hn
      clear hn
      have HT3 := Lib.hid (show Touch (F3 gp w) w23 w24 from by rw [← hw24]; exact (Touch.refl (F3 gp w) _).setCell (p := ⟨w.heap.size + 1, 8, none⟩) (.inl (.inr (.inr rfl))) _)
      obtain ⟨hld, W9, hst, hra, hr9, ht9, ht3⟩ := HS.out.fin hgp hg rfl (by intro v hv; simp only [List.mem_cons, List.not_mem_nil, or_false] at hv; rcases hv with rfl | rfl | rfl | rfl | rfl | rfl | rfl | rfl | rfl | rfl <;> rfl)
      obtain ⟨y0, y1, y2, y3, y4, y5, y6, y7, y8, y9⟩ := range_cells hra
      have HZ := Lib.hid (And.intro hr9 (And.intro ht9 ht3))
      have hNl := HS.out.lt
      clear hra hr9 ht9 ht3
      go_wp2
      have HNT := nt_brace (k := 3) (a := 0) (b := 0) HK.out.1 HK.out.2 (HT3.out.same HZ.out.2.2) (by have := HC0.out; omega) hgp
      exact bodyPost_ret (v := .agg #[.int .i64 3, .int .i64 0, .int .i64 0, .string ⟨#[]⟩, .int .i64 0, .int .i64 0, .string ⟨#[]⟩, .slice none 0 0, .slice A l.length cx, .slice none 0 0]) (by simp [results, Tryz.results20, go_sem, y0, y1, y2, y3, y4, y5, y6, y7, y8, y9]) rfl
        ⟨HZ.out.2.1, HZ.out.1, .mk 3 0 0 [] x0 l [], 0, 0, ⟨#[]⟩, none, 0, 0, _, _, _, _, rfl, HNT, fun e => by rw [HYO.out e]⟩
theorem rnode_4 {gp g n cp L d d1 D : Nat} {ts : List Tk} {sub : St → Nd × St} (hd1 : d1 = d + 1) (hds : d ≤ 40) (HSB : RNodeOk gp g n cp ts L d1 D sub) {w : World} {σ : St} (h : RT w gp g n cp ts L σ) (hg : g < w.heap.size) (hy : isS ts [112, 97, 114] σ = true) :
    Calls Tryz.prog 20 #[.pointer (some ⟨gp, 0, none⟩), .int .i64 (d : Int)] w (RNP w gp g n cp ts L (D + 1) (rndK ts sub 4 (σ.1 + 1, σ.2))) := by
  have he := isS_ok hy
  have HSUB := Lib.hid HSB
  clear HSB
  show Calls _ _ _ _ (RNP w gp g n cp ts L (D + 1) (.mk 4 (nuV ts (σ.1 + 1, σ.2)) (nuV ts (nuS ts (σ.1 + 1, σ.2))) [] x0 (braV ts sub (nuS ts (nuS ts (σ.1 + 1, σ.2)))) [], braS ts sub (nuS ts (nuS ts (σ.1 + 1, σ.2)))))
  have hgp := h.lt
  obtain ⟨W0, hW0⟩ : ∃ W, (w.alloc (.cells #[.int .i64 0, .int .i64 0, .int .i64 0, .string ⟨#[]⟩, .int .i64 0, .int .i64 0, .string ⟨#[]⟩, .slice none 0 0, .slice none 0 0, .slice none 0 0] 62)).alloc (.cells #[.int .i64 0, .int .i64 0, .int .i64 0, .string ⟨#[]⟩, .int .i64 0, .int .i64 0, .string ⟨#[]⟩, .slice none 0 0, .slice none 0 0, .slice none 0 0] 62) = W := ⟨_, rfl⟩
  have hN0 := NS5.start h hW0
  obtain ⟨W1, hW1⟩ : ∃ W, W0.alloc (.cells #[.string ⟨#[115, 101, 113]⟩, .string ⟨#[115, 101, 108]⟩, .string ⟨#[109, 115, 101, 113]⟩, .string ⟨#[109, 115, 101, 108]⟩, .string ⟨#[112, 97, 114]⟩] 9) = W := ⟨_, rfl⟩
  have t1 : Touch NoB W0 W1 := by rw [← hW1]; exact (Touch.refl _ _).alloc _
  have hN1 := hN0.quiet hgp t1
  have hwd : WdAt W1 W0.heap.size 5 manyW := words_at (by rw [← hW1]; exact alloc_blk _ _ _ rfl) rfl (by decide) rfl
  have hee : ((σ.2 : Int) != 0) = false := by rw [he]; rfl
  have hdd : decide ((40 : Int) < (d : Int)) = false := by simp; omega
  obtain ⟨c1, c2, cl⟩ := hN0.rt.cells
  have HN1 := Lib.hid (And.intro hN1 hwd)
  have HW1 := Lib.hid hwd
  have hsum : IntKind.i64.wrap ((d : Int) + 1) = (d1 : Int) := by rw [show (d : Int) + 1 = (d1 : Int) from by omega]; exact IntWalk.i64_in _ (by omega)
  clear h hN0 t1 hN1 hwd he hd1 hds
  go_enter Tryz.func20, Tryz.ntmps20
  go_wp2
  go_loopw [7] (fun v wr => NlRel w gp g n cp ts L σ W1 4 v wr) (fun v _ => 5 - (intOf v).toNat)
  case atStart => exact ⟨0, Nat.zero_le _, rfl, HN1.out.1, Touch.refl _ _⟩
  case round =>
    obtain ⟨i, hi, rfl, hN, hT⟩ := hrel
    have hwdr := wd_touch HN1.out.2 hT
    have HNr := Lib.hid hN
    have hNl := hN.lt
    have hwl := hwdr.2.1
    by_cases hlt : i < 4
    · obtain ⟨s, hs⟩ : ∃ s, manyW[i]? = some s := ⟨manyW[i]'(by have : manyW.length = 5 := rfl; omega), List.getElem?_eq_getElem _⟩
      have hcell := hwdr.2.2 i s hs
      have hno : isS ts s σ = false := isS_other hy (fun e => (by decide : ∀ i : Nat, i < 4 → manyW[i]? ≠ some [112, 97, 114]) i hlt (e ▸ hs))
      have HC := Lib.hid (t_no hN.rt s hno)
      have HT := Lib.hid hT
      obtain ⟨sx, hsx⟩ : ∃ sx, bs s = sx := ⟨_, rfl⟩
      rw [hsx] at hcell HC
      have hi5 : (i : Int) < 5 := by omega
      clear hN hT hwdr hs hno hsx
      go_wp2_with fail
      refine HC.out.mono ?_
      rintro x w2 ⟨rfl, hr2, ht2⟩
      have HE := Lib.hid (And.intro (HNr.out.quiet hgp ht2) (HT.out.same ht2))
      clear hr2 ht2
      go_wp2
      go_roundw
      case rel => exact ⟨i + 1, by omega, by go_num, HE.out.1, HE.out.2⟩
      case measure => simp [intOf]; omega
    · obtain rfl : i = 4 := by omega
      have hcell := hwdr.2.2 4 [112, 97, 114] rfl
      clear hwdr hlt hi
      have HS := Lib.hid HNr.out
      clear hN hT HNr
      have HC := Lib.hid (t_yes HS.out.rt [112, 97, 114] hy)
      go_wp2_with fail
      refine HC.out.mono ?_
      rintro x w21 ⟨rfl, hr, ht⟩
      have hn := HS.out.call hgp hr ht
      clear HS
      have HS := Lib.hid hn
      clear hr ht hn HC
      obtain ⟨q0, q1, q2, q3, q4, q5, q6, q7, q8, q9, ql⟩ := nd_cells HS.out.h5
      have f0 := HS.out.free 0
      have f1 := HS.out.free 1
      have f2 := HS.out.free 2
      have f3 := HS.out.free 3
      have f4 := HS.out.free 4
      have f5 := HS.out.free 5
      have f6 := HS.out.free 6
      have f7 := HS.out.free 7
      have f8 := HS.out.free 8
      have f9 := HS.out.free 9
      obtain ⟨w22, hw22⟩ : ∃ W, w21.setCell ⟨w.heap.size + 1, 0, none⟩ (.int .i64 4) = W := ⟨_, rfl⟩
      have hn := HS.out.set hgp hg 0 (.int .i64 4) (us := [.int .i64 4, .int .i64 0, .int .i64 0, .string ⟨#[]⟩, .int .i64 0, .int .i64 0, .string ⟨#[]⟩, .slice none 0 0, .slice none 0 0, .slice none 0 0]) rfl
      rw [hw22] at hn
      clear HS
      have HS := Lib.hid hn
      clear hn
      have HC := Lib.hid (t_number HS.out.rt)
      go_wp2_with fail
      refine HC.out.mono ?_
      rintro x w23 ⟨rfl, hr, ht⟩
      have hn := HS.out.call hgp hr ht
      clear HS
      have HS := Lib.hid hn
      clear hr ht hn HC
      try clear q0 q1 q2 q3 q4 q5 q6 q7 q8 q9 ql f0 f1 f2 f3 f4 f5 f6 f7 f8 f9
      obtain ⟨q0, q1, q2, q3, q4, q5, q6, q7, q8, q9, ql⟩ := nd_cells HS.out.h5
      have f0 := HS.out.free 0
      have f1 := HS.out.free 1
      have f2 := HS.out.free 2
      have f3 := HS.out.free 3
      have f4 := HS.out.free 4
      have f5 := HS.out.free 5
      have f6 := HS.out.free 6
      have f7 := HS.out.free 7
      have f8 := HS.out.free 8
      have f9 := HS.out.free 9
      obtain ⟨w24, hw24⟩ : ∃ W, w23.setCell ⟨w.heap.size + 1, 1, none⟩ (.int .i64 (nuV ts (σ.1 + 1, σ.2) : Int)) = W := ⟨_, rfl⟩
      have hn := HS.out.set hgp hg 1 (.int .i64 (nuV ts (σ.1 + 1, σ.2) : Int)) (us := [.int .i64 4, .int .i64 (nuV ts (σ.1 + 1, σ.2) : Int), .int .i64 0, .string ⟨#[]⟩, .int .i64 0, .int .i64 0, .string ⟨#[]⟩, .slice none 0 0, .slice none 0 0, .slice none 0 0]) rfl
      rw [hw24] at hn
      clear HS
      have HS := Lib.hid hn
      clear hn
      have HC := Lib.hid (t_number HS.out.rt)
      go_wp2_with fail
      refine HC.out.mono ?_
      rintro x w25 ⟨rfl, hr, ht⟩
      have hn := HS.out.call hgp hr ht
      clear HS
      have HS := Lib.hid hn
      clear hr ht hn HC
      try clear q0 q1 q2 q3 q4 q5 q6 q7 q8 q9 ql f0 f1 f2 f3 f4 f5 f6 f7 f8 f9
      obtain ⟨q0, q1, q2, q3, q4, q5, q6, q7, q8, q9, ql⟩ := nd_cells HS.out.h5
      have f0 := HS.out.free 0
      have f1 := HS.out.free 1
      have f2 := HS.out.free 2
      have f3 := HS.out.free 3
      have f4 := HS.out.free 4
      have f5 := HS.out.free 5
      have f6 := HS.out.free 6
      have f7 := HS.out.free 7
      have f8 := HS.out.free 8
      have f9 := HS.out.free 9
      obtain ⟨w26, hw26⟩ : ∃ W, w25.setCell ⟨w.heap.size + 1, 2, none⟩ (.int .i64 (nuV ts (nuS ts (σ.1 + 1, σ.2)) : Int)) = W := ⟨_, rfl⟩
      have hn := HS.out.set hgp hg 2 (.int .i64 (nuV ts (nuS ts (σ.1 + 1, σ.2)) : Int)) (us := [.int .i64 4, .int .i64 (nuV ts (σ.1 + 1, σ.2) : Int), .int .i64 (nuV ts (nuS ts (σ.1 + 1, σ.2)) : Int), .string ⟨#[]⟩, .int .i64 0, .int .i64 0, .string ⟨#[]⟩, .slice none 0 0, .slice none 0 0, .slice none 0 0]) rfl
      rw [hw26] at hn
      clear HS
      have HS := Lib.hid hn
      clear hn
      have HC := Lib.hid (rbra_any HSUB.out HS.out.rt (by have := HS.out.lt; omega))
      have hc0 := HS.out.lt
      go_wp2_with fail
      refine HC.out.mono ?_
      rintro x w27 ⟨ht, hr, l, xs, A, cx, rfl, hs2, hl2, hyo⟩
      have hn := HS.out.call hgp hr ht
      clear HS
      have HS := Lib.hid hn
      have HK := Lib.hid (And.intro hs2 hl2)
      have HYO := Lib.hid hyo
      have HC0 := Lib.hid hc0
      clear ht hr hs2 hl2 hn hyo HC hc0
      try clear q0 q1 q2 q3 q4 q5 q6 q7 q8 q9 ql f0 f1 f2 f3 f4 f5 f6 f7 f8 f9
      obtain ⟨q0, q1, q2, q3, q4, q5, q6, q7, q8, q9, ql⟩ := nd_cells HS.out.h5
      have f0 := HS.out.free 0
      have f1 := HS.out.free 1
      have f2 := HS.out.free 2
      have f3 := HS.out.free 3
      have f4 := HS.out.free 4
      have f5 := HS.out.free 5
      have f6 := HS.out.free 6
      have f7 := HS.out.free 7
      have f8 := HS.out.free 8
      have f9 := HS.out.free 9
      obtain ⟨w28, hw28⟩ : ∃ W, w27.setCell ⟨w.heap.size + 1, 8, none⟩ (.slice A l.length cx) = W := ⟨_, rfl⟩
      have hn := HS.out.set hgp hg 8 (.slice A l.length cx) (us := [.int .i64 4, .int .i64 (nuV ts (σ.1 + 1, σ.2) : Int), .int .i64 (nuV ts (nuS ts (σ.1 + 1, σ.2)) : Int), .string ⟨#[]⟩, .int .i64 0, .int .i64 0, .string ⟨#[]⟩, .slice none 0 0, .slice A l.length cx, .slice none 0 0]) rfl
      rw [hw28] at hn
      clear HS
      have HS := Lib.hid hn
      clear hn
      have HT3 := Lib.hid (show Touch (F3 gp w) w27 w28 from by rw [← hw28]; exact (Touch.refl (F3 gp w) _).setCell (p := ⟨w.heap.size + 1, 8, none⟩) (.inl (.inr (.inr rfl))) _)
      obtain ⟨hld, W9, hst, hra, hr9, ht9, ht3⟩ := HS.out.fin hgp hg rfl (by intro v hv; simp only [List.mem_cons, List.not_mem_nil, or_false] at hv; rcases hv with rfl | rfl | rfl | rfl | rfl | rfl | rfl | rfl | rfl | rfl <;> rfl)
      obtain ⟨y0, y1, y2, y3, y4, y5, y6, y7, y8, y9⟩ := range_cells hra
      have HZ := Lib.hid (And.intro hr9 (And.intro ht9 ht3))
      have hNl := HS.out.lt
      clear hra hr9 ht9 ht3
      go_wp2
      have HNT := nt_brace (k := 4) (a := (nuV ts (σ.1 + 1, σ.2))) (b := (nuV ts (nuS ts (σ.1 + 1, σ.2)))) HK.out.1 HK.out.2 (HT3.out.same HZ.out.2.2) (by have := HC0.out; omega) hgp
      exact bodyPost_ret (v := .agg #[.int .i64 4, .int .i64 (nuV ts (σ.1 + 1, σ.2) : Int), .int .i64 (nuV ts (nuS ts (σ.1 + 1, σ.2)) : Int), .string ⟨#[]⟩, .int .i64 0, .int .i64 0, .string ⟨#[]⟩, .slice none 0 0, .slice A l.length cx, .slice none 0 0]) (by simp [results, Tryz.results20, go_sem, y0, y1, y2, y3, y4, y5, y6, y7, y8, y9]) rfl
        ⟨HZ.out.2.1, HZ.out.1, .mk 4 (nuV ts (σ.1 + 1, σ.2)) (nuV ts (nuS ts (σ.1 + 1, σ.2))) [] x0 l [], 0, 0, ⟨#[]⟩, none, 0, 0, _, _, _, _, rfl, HNT, fun e => by rw [HYO.out e]⟩
end Go.Proofs.YtbikpbmknneabaaGreat
end
/-
  What the document's own node does with a reader in memory, all together; its Node. Conditions: tokens as a text has them.
-/
section
namespace Go.Proofs.YtbikpbmknneabaaGreat
open Go.ChangeShapes Go.WideShapes Go.ChangeAt Go.RowKit
set_option maxRecDepth 100000
set_option maxHeartbeats 8000000
attribute [local go_sem ↓] loadNd_of storeNd_of

theorem nt_nd0 (w : World) (Q : Nat → Prop) (D : Nat) : NT w Q (D + 1) nd0 [.int .i64 ((0 : Nat) : Int), .int .i64 ((0 : Nat) : Int), .int .i64 ((0 : Nat) : Int), .string (bs []), .int .i64 0, .int .i64 0, .string ⟨#[]⟩, .slice none 0 0, .slice none 0 0, .slice none 0 0] := nt_leaf (et_zero w Q)
/-- Behind an error: nothing. -/
theorem rnode_bad {gp g n cp L d D : Nat} {ts : List Tk} {w : World} {σ : St} (h : RT w gp g n cp ts L σ) (hg : g < w.heap.size) (he : σ.2 ≠ 0) :
    Calls Tryz.prog 20 #[.pointer (some ⟨gp, 0, none⟩), .int .i64 (d : Int)] w (RNP w gp g n cp ts L (D + 1) (nd0, σ)) := by
  have hgp := h.lt
  obtain ⟨W0, hW0⟩ : ∃ W, (w.alloc (.cells #[.int .i64 0, .int .i64 0, .int .i64 0, .string ⟨#[]⟩, .int .i64 0, .int .i64 0, .string ⟨#[]⟩, .slice none 0 0, .slice none 0 0, .slice none 0 0] 62)).alloc (.cells #[.int .i64 0, .int .i64 0, .int .i64 0, .string ⟨#[]⟩, .int .i64 0, .int .i64 0, .string ⟨#[]⟩, .slice none 0 0, .slice none 0 0, .slice none 0 0] 62) = W := ⟨_, rfl⟩
  have hN0 := NS5.start h hW0
  have hee : ((σ.2 : Int) != 0) = true := by simp; omega
  obtain ⟨c1, c2, cl⟩ := hN0.rt.cells
  have HS := Lib.hid hN0
  have hNl := hN0.lt
  obtain ⟨hld, W9, hst, hra, hr9, ht9, ht3⟩ := HS.out.fin hgp hg rfl (by unfold zNd; intro v hv; simp only [List.mem_cons, List.not_mem_nil, or_false] at hv; rcases hv with rfl | rfl | rfl | rfl | rfl | rfl | rfl | rfl | rfl | rfl <;> rfl)
  obtain ⟨y0, y1, y2, y3, y4, y5, y6, y7, y8, y9⟩ := range_cells hra
  have HZ := Lib.hid (And.intro hr9 (And.intro ht9 ht3))
  clear h hN0 hra hr9 ht9 ht3 he
  unfold zNd at hld hst
  go_enter Tryz.func20, Tryz.ntmps20
  go_wp2
  exact bodyPost_ret (v := .agg #[.int .i64 0, .int .i64 0, .int .i64 0, .string ⟨#[]⟩, .int .i64 0, .int .i64 0, .string ⟨#[]⟩, .slice none 0 0, .slice none 0 0, .slice none 0 0]) (by simp [results, Tryz.results20, go_sem, y0, y1, y2, y3, y4, y5, y6, y7, y8, y9]) rfl
    ⟨HZ.out.2.1, HZ.out.1, nd0, 0, 0, ⟨#[]⟩, none, 0, 0, none, 0, none, 0, rfl, nt_nd0 _ _ _, fun _ => rfl⟩
/-- Too deep. -/
theorem rnode_deep {gp g n cp L d D : Nat} {ts : List Tk} {w : World} {σ : St} (h : RT w gp g n cp ts L σ) (hg : g < w.heap.size) (hd : d = 41) :
    Calls Tryz.prog 20 #[.pointer (some ⟨gp, 0, none⟩), .int .i64 (d : Int)] w (RNP w gp g n cp ts L (D + 1) (nd0, failS 4 σ)) := by
  by_cases he : σ.2 ≠ 0
  · have e : failS 4 σ = σ := by unfold failS; rw [if_neg he]
    rw [e]
    exact rnode_bad h hg he
  · have he0 : σ.2 = 0 := by omega
    have hgp := h.lt
    obtain ⟨W0, hW0⟩ : ∃ W, (w.alloc (.cells #[.int .i64 0, .int .i64 0, .int .i64 0, .string ⟨#[]⟩, .int .i64 0, .int .i64 0, .string ⟨#[]⟩, .slice none 0 0, .slice none 0 0, .slice none 0 0] 62)).alloc (.cells #[.int .i64 0, .int .i64 0, .int .i64 0, .string ⟨#[]⟩, .int .i64 0, .int .i64 0, .string ⟨#[]⟩, .slice none 0 0, .slice none 0 0, .slice none 0 0] 62) = W := ⟨_, rfl⟩
    have hN0 := NS5.start h hW0
    have hee : ((σ.2 : Int) != 0) = false := by rw [he0]; rfl
    have hdd : decide ((40 : Int) < (d : Int)) = true := by simp; omega
    obtain ⟨c1, c2, cl⟩ := hN0.rt.cells
    have HS := Lib.hid hN0
    have HC := Lib.hid (t_fail hN0.rt 4)
    have hNl := hN0.lt
    clear h hN0 he he0 hd
    go_enter Tryz.func20, Tryz.ntmps20
    go_wp2_with fail
    refine HC.out.mono ?_
    rintro x w2 ⟨rfl, hr, ht⟩
    have hn := HS.out.call hgp hr ht
    clear HS
    have HS := Lib.hid hn
    obtain ⟨hld, W9, hst, hra, hr9, ht9, ht3⟩ := HS.out.fin hgp hg rfl (by unfold zNd; intro v hv; simp only [List.mem_cons, List.not_mem_nil, or_false] at hv; rcases hv with rfl | rfl | rfl | rfl | rfl | rfl | rfl | rfl | rfl | rfl <;> rfl)
    obtain ⟨y0, y1, y2, y3, y4, y5, y6, y7, y8, y9⟩ := range_cells hra
    have HZ := Lib.hid (And.intro hr9 (And.intro ht9 ht3))
    have hNl := hn.lt
    clear hn hr ht hra hr9 ht9 ht3
    unfold zNd at hld hst
    go_wp2
    exact bodyPost_ret (v := .agg #[.int .i64 0, .int .i64 0, .int .i64 0, .string ⟨#[]⟩, .int .i64 0, .int .i64 0, .string ⟨#[]⟩, .slice none 0 0, .slice none 0 0, .slice none 0 0]) (by simp [results, Tryz.results20, go_sem, y0, y1, y2, y3, y4, y5, y6, y7, y8, y9]) rfl
      ⟨HZ.out.2.1, HZ.out.1, nd0, 0, 0, ⟨#[]⟩, none, 0, 0, none, 0, none, 0, rfl, nt_nd0 _ _ _, fun _ => rfl⟩
end Go.Proofs.YtbikpbmknneabaaGreat
end
