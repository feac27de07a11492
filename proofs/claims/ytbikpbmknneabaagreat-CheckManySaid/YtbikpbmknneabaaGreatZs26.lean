/-
  What the document's own node does where one node follows, or weights and nodes. Conditions: those that each theorem names.
-/
import Derived.Test.YtbikpbmknneabaaGreatZs23
namespace Go.Proofs.YtbikpbmknneabaaGreat
open Go.ChangeShapes Go.WideShapes Go.ChangeAt Go.RowKit
set_option maxRecDepth 100000
set_option maxHeartbeats 8000000
attribute [local go_sem ↓] loadNd_of storeNd_of

/-- One kid in a row of its own. -/
theorem nt_kid {w w6 w7 W9 : World} {gp D c0 : Nat} {y : Nd} {l : List Value} (hnt : NT w6 (fun b => c0 ≤ b) D y l) (hW : w6.alloc (.cells l.toArray 62) = w7) (t : Touch (F3 gp w) w7 W9) (hc : w.heap.size + 2 ≤ c0) (hgp : gp < w.heap.size) (hc6 : c0 ≤ w6.heap.size) :
    SlAt W9 (fun b => w.heap.size ≤ b) (.slice (some ⟨w6.heap.size, 0, none⟩) 1 1) 1 l ∧ LsAt (NT W9 (fun b => w.heap.size ≤ b) D) [y] l := by
  have ta : Touch NoB w6 w7 := by rw [← hW]; exact (Touch.refl _ _).alloc _
  have hb : w7.heap[w6.heap.size]? = some (.cells l.toArray 62 (0, 0)) := by rw [← hW]; exact alloc_blk _ _ _ rfl
  have hb9 := (t.block _ (blk_lt hb) (by unfold F3; omega)).trans hb
  refine ⟨⟨_, _, rfl, fun j x hj => ⟨_, rfl, by omega, blk_lt hb9, by rw [Lib.cell_of_heap hb9]; simpa using hj⟩⟩, ?_⟩
  have h9 : NT W9 (fun b => w.heap.size ≤ b) D y l := NT.via (fun b hb _ => by omega) D y l (NT.touch t (fun b hb f => by unfold F3 at f; omega) D y l (NT.touch ta (fun _ _ x => x) D y l hnt))
  exact LsAt.snoc (l := []) (xs := []) .nil h9
theorem nt_kids {W : World} {Q : Nat → Prop} {D k a b c : Nat} {A : Option Addr} {l : List Nd} {xs : List Value} (hs : SlAt W Q (.slice A l.length c) l.length xs) (hl : LsAt (NT W Q D) l xs) :
    NT W Q (D + 1) (.mk k a b [] x0 l []) [.int .i64 (k : Int), .int .i64 (a : Int), .int .i64 (b : Int), .string (bs []), .int .i64 0, .int .i64 0, .string ⟨#[]⟩, .slice none 0 0, .slice A l.length c, .slice none 0 0] :=
  ⟨0, 0, ⟨#[]⟩, none, 0, 0, _, _, xs, [], rfl, et_zero _ _, hs, hl, ⟨none, 0, rfl, fun j x h => by cases h⟩, .nil⟩
theorem nt_brace {w w6 W9 : World} {gp D k a b c c0 : Nat} {A : Option Addr} {l : List Nd} {xs : List Value} (hs : SlAt w6 (fun b => c0 ≤ b) (.slice A l.length c) l.length xs) (hl : LsAt (NT w6 (fun b => c0 ≤ b) D) l xs) (t : Touch (F3 gp w) w6 W9) (hc : w.heap.size + 2 ≤ c0) (hgp : gp < w.heap.size) :
    NT W9 (fun b => w.heap.size ≤ b) (D + 1) (.mk k a b [] x0 l []) [.int .i64 (k : Int), .int .i64 (a : Int), .int .i64 (b : Int), .string (bs []), .int .i64 0, .int .i64 0, .string ⟨#[]⟩, .slice none 0 0, .slice A l.length c, .slice none 0 0] :=
  nt_kids ((hs.touch t (fun b hb f => by unfold F3 at f; omega)).via (fun b hb _ => by omega)) (hl.mono (fun y ys hy => NT.via (fun b hb _ => by omega) D y ys (NT.touch t (fun b hb f => by unfold F3 at f; omega) D y ys hy)))
theorem nt_pick {w w6 W9 : World} {gp D c c1 c0 : Nat} {A A1 : Option Addr} {ws : List Ex} {ys : List Value} {l : List Nd} {xs : List Value} (hs1 : SlAt w6 (fun b => c0 ≤ b) (.slice A1 ws.length c1) ws.length ys) (hl1 : LsAt (XAt w6 (fun b => c0 ≤ b)) ws ys) (hs : SlAt w6 (fun b => c0 ≤ b) (.slice A l.length c) l.length xs) (hl : LsAt (NT w6 (fun b => c0 ≤ b) D) l xs) (t : Touch (F3 gp w) w6 W9) (hc : w.heap.size + 2 ≤ c0) (hgp : gp < w.heap.size) :
    NT W9 (fun b => w.heap.size ≤ b) (D + 1) (.mk 11 0 0 [] x0 l ws) [.int .i64 ((11 : Nat) : Int), .int .i64 ((0 : Nat) : Int), .int .i64 ((0 : Nat) : Int), .string (bs []), .int .i64 0, .int .i64 0, .string ⟨#[]⟩, .slice none 0 0, .slice A l.length c, .slice A1 ws.length c1] :=
  ⟨0, 0, ⟨#[]⟩, none, 0, 0, _, _, xs, ys, rfl, et_zero _ _, (hs.touch t (fun b hb f => by unfold F3 at f; omega)).via (fun b hb _ => by omega), hl.mono (fun y ys hy => NT.via (fun b hb _ => by omega) D y ys (NT.touch t (fun b hb f => by unfold F3 at f; omega) D y ys hy)),
    (hs1.touch t (fun b hb f => by unfold F3 at f; omega)).via (fun b hb _ => by omega), hl1.mono (fun y ys hy => (hy.touch t (fun b hb f => by unfold F3 at f; omega)).via (fun b hb _ => by omega))⟩
theorem rnode_5 {gp g n cp L d d1 D : Nat} {ts : List Tk} {sub : St → Nd × St} (hd1 : d1 = d + 1) (hds : d ≤ 40) (HSB : RNodeOk gp g n cp ts L d1 D sub) {w : World} {σ : St} (h : RT w gp g n cp ts L σ) (hg : g < w.heap.size) (hy : isS ts [110, 111, 116] σ = true) :
    Calls Tryz.prog 20 #[.pointer (some ⟨gp, 0, none⟩), .int .i64 (d : Int)] w (RNP w gp g n cp ts L (D + 1) (rndK ts sub 5 (σ.1 + 1, σ.2))) := by
  have he := isS_ok hy
  have HSUB := Lib.hid HSB
  clear HSB
  show Calls _ _ _ _ (RNP w gp g n cp ts L (D + 1) (.mk 5 0 0 [] x0 [(sub (σ.1 + 1, σ.2)).1] [], (sub (σ.1 + 1, σ.2)).2))
  have hgp := h.lt
  obtain ⟨W0, hW0⟩ : ∃ W, (w.alloc (.cells #[.int .i64 0, .int .i64 0, .int .i64 0, .string ⟨#[]⟩, .int .i64 0, .int .i64 0, .string ⟨#[]⟩, .slice none 0 0, .slice none 0 0, .slice none 0 0] 62)).alloc (.cells #[.int .i64 0, .int .i64 0, .int .i64 0, .string ⟨#[]⟩, .int .i64 0, .int .i64 0, .string ⟨#[]⟩, .slice none 0 0, .slice none 0 0, .slice none 0 0] 62) = W := ⟨_, rfl⟩
  have hN0 := NS5.start h hW0
  obtain ⟨W1, hW1⟩ : ∃ W, W0.alloc (.cells #[.string ⟨#[115, 101, 113]⟩, .string ⟨#[115, 101, 108]⟩, .string ⟨#[109, 115, 101, 113]⟩, .string ⟨#[109, 115, 101, 108]⟩, .string ⟨#[112, 97, 114]⟩] 9) = W := ⟨_, rfl⟩
  have t1 : Touch NoB W0 W1 := by rw [← hW1]; exact (Touch.refl _ _).alloc _
  have hN1 := hN0.quiet hgp t1
  have hwd : WdAt W1 W0.heap.size 5 manyW := words_at (by rw [← hW1]; exact alloc_blk _ _ _ rfl) rfl (by decide) rfl
  have hee : ((σ.2 : Int) != 0) = false := by rw [he]; rfl
  have hdd : decide ((40 : Int) < (d : Int)) = false := by simp; omega
  obtain ⟨c1, c2, cl⟩ := hN0.rt.cells
  have HN1 := Lib.hid (And.intro hN1 hwd)
  have HW1 := Lib.hid hwd
  have hsum : IntKind.i64.wrap ((d : Int) + 1) = (d1 : Int) := by rw [show (d : Int) + 1 = (d1 : Int) from by omega]; exact IntWalk.i64_in _ (by omega)
  clear h hN0 t1 hN1 hwd he hd1 hds
  go_enter Tryz.func20, Tryz.ntmps20
  go_wp2
  go_loopw [7] (fun v wr => NlRel w gp g n cp ts L σ W1 5 v wr) (fun v _ => 6 - (intOf v).toNat)
  case atStart => exact ⟨0, Nat.zero_le _, rfl, HN1.out.1, Touch.refl _ _⟩
  case round =>
    obtain ⟨i, hi, rfl, hN, hT⟩ := hrel
    have hwdr := wd_touch HN1.out.2 hT
    have HNr := Lib.hid hN
    have hNl := hN.lt
    have hwl := hwdr.2.1
    by_cases hlt : i < 5
    · obtain ⟨s, hs⟩ : ∃ s, manyW[i]? = some s := ⟨manyW[i]'(by have : manyW.length = 5 := rfl; omega), List.getElem?_eq_getElem _⟩
      have hcell := hwdr.2.2 i s hs
      have hno : isS ts s σ = false := isS_other hy ((by decide : ∀ q ∈ manyW, q ≠ [110, 111, 116]) s (List.mem_of_getElem? hs))
      have HC := Lib.hid (t_no hN.rt s hno)
      have HT := Lib.hid hT
      obtain ⟨sx, hsx⟩ : ∃ sx, bs s = sx := ⟨_, rfl⟩
      rw [hsx] at hcell HC
      have hi5 : (i : Int) < 5 := by omega
      clear hN hT hwdr hs hno hsx
      go_wp2_with fail
      refine HC.out.mono ?_
      rintro x w2 ⟨rfl, hr2, ht2⟩
      have HE := Lib.hid (And.intro (HNr.out.quiet hgp ht2) (HT.out.same ht2))
      clear hr2 ht2
      go_wp2
      go_roundw
      case rel => exact ⟨i + 1, by omega, by go_num, HE.out.1, HE.out.2⟩
      case measure => simp [intOf]; omega
    · obtain rfl : i = 5 := by omega
      clear hwdr
      have HS := Lib.hid HNr.out
      clear hN hT HNr
      have HC := Lib.hid (t_yes HS.out.rt [110, 111, 116] hy)
      go_wp2_with fail
      refine HC.out.mono ?_
      rintro x w21 ⟨rfl, hr, ht⟩
      have hn := HS.out.call hgp hr ht
      clear HS
      have HS := Lib.hid hn
      clear hr ht hn HC
      obtain ⟨q0, q1, q2, q3, q4, q5, q6, q7, q8, q9, ql⟩ := nd_cells HS.out.h5
      have f0 := HS.out.free 0
      have f1 := HS.out.free 1
      have f2 := HS.out.free 2
      have f3 := HS.out.free 3
      have f4 := HS.out.free 4
      have f5 := HS.out.free 5
      have f6 := HS.out.free 6
      have f7 := HS.out.free 7
      have f8 := HS.out.free 8
      have f9 := HS.out.free 9
      obtain ⟨w22, hw22⟩ : ∃ W, w21.setCell ⟨w.heap.size + 1, 0, none⟩ (.int .i64 5) = W := ⟨_, rfl⟩
      have hn := HS.out.set hgp hg 0 (.int .i64 5) (us := [.int .i64 5, .int .i64 0, .int .i64 0, .string ⟨#[]⟩, .int .i64 0, .int .i64 0, .string ⟨#[]⟩, .slice none 0 0, .slice none 0 0, .slice none 0 0]) rfl
      rw [hw22] at hn
      clear HS
      have HS := Lib.hid hn
      clear hn
      have HC := Lib.hid (HSUB.out w22 _ HS.out.rt (by have := HS.out.lt; omega))
      have hc0 := HS.out.lt
      go_wp2_with fail
      refine HC.out.mono ?_
      rintro x w23 ⟨ht, hr, y, e0, e1, e2, B, bm, bc, A1, c1x, A2, c2x, rfl, hnt, hyo⟩
      have hn := HS.out.call hgp hr ht
      have hc6 := ht.size
      clear HS
      obtain ⟨w24, hw24⟩ : ∃ W, w23.alloc (.cells #[.int .i64 (y.kd : Int), .int .i64 (y.a : Int), .int .i64 (y.b : Int), .string (bs y.nm), .int .i64 e0, .int .i64 e1, .string e2, .slice B bm bc, .slice A1 y.ks.length c1x, .slice A2 y.ws.length c2x] 62) = W := ⟨_, rfl⟩
      have ta : Touch NoB w23 w24 := by rw [← hw24]; exact (Touch.refl _ _).alloc _
      have HS := Lib.hid (hn.quiet hgp ta)
      have HK := Lib.hid (fun (W9 : World) (t : Touch (F3 gp w) w24 W9) => nt_kid hnt hw24 t (by omega) hgp hc6)
      have HYO := Lib.hid hyo
      clear ht hr hnt hn hyo HC ta
      try clear q0 q1 q2 q3 q4 q5 q6 q7 q8 q9 ql f0 f1 f2 f3 f4 f5 f6 f7 f8 f9
      obtain ⟨q0, q1, q2, q3, q4, q5, q6, q7, q8, q9, ql⟩ := nd_cells HS.out.h5
      have f0 := HS.out.free 0
      have f1 := HS.out.free 1
      have f2 := HS.out.free 2
      have f3 := HS.out.free 3
      have f4 := HS.out.free 4
      have f5 := HS.out.free 5
      have f6 := HS.out.free 6
      have f7 := HS.out.free 7
      have f8 := HS.out.free 8
      have f9 := HS.out.free 9
      obtain ⟨w25, hw25⟩ : ∃ W, w24.setCell ⟨w.heap.size + 1, 8, none⟩ (.slice (some ⟨w23.heap.size, 0, none⟩) 1 1) = W := ⟨_, rfl⟩
      have hn := HS.out.set hgp hg 8 (.slice (some ⟨w23.heap.size, 0, none⟩) 1 1) (us := [.int .i64 5, .int .i64 0, .int .i64 0, .string ⟨#[]⟩, .int .i64 0, .int .i64 0, .string ⟨#[]⟩, .slice none 0 0, .slice (some ⟨w23.heap.size, 0, none⟩) 1 1, .slice none 0 0]) rfl
      rw [hw25] at hn
      clear HS
      have HS := Lib.hid hn
      clear hn
      have HT3 := Lib.hid (show Touch (F3 gp w) w24 w25 from by rw [← hw25]; exact (Touch.refl (F3 gp w) _).setCell (p := ⟨w.heap.size + 1, 8, none⟩) (.inl (.inr (.inr rfl))) _)
      obtain ⟨hld, W9, hst, hra, hr9, ht9, ht3⟩ := HS.out.fin hgp hg rfl (by intro v hv; simp only [List.mem_cons, List.not_mem_nil, or_false] at hv; rcases hv with rfl | rfl | rfl | rfl | rfl | rfl | rfl | rfl | rfl | rfl <;> rfl)
      obtain ⟨y0, y1, y2, y3, y4, y5, y6, y7, y8, y9⟩ := range_cells hra
      have HZ := Lib.hid (And.intro hr9 (And.intro ht9 ht3))
      have hNl := HS.out.lt
      clear hra hr9 ht9 ht3
      go_wp2
      have HNT := nt_kids (k := 5) (a := 0) (b := 0) (HK.out _ (HT3.out.same HZ.out.2.2)).1 (HK.out _ (HT3.out.same HZ.out.2.2)).2
      exact bodyPost_ret (v := .agg #[.int .i64 5, .int .i64 0, .int .i64 0, .string ⟨#[]⟩, .int .i64 0, .int .i64 0, .string ⟨#[]⟩, .slice none 0 0, .slice (some ⟨w23.heap.size, 0, none⟩) 1 1, .slice none 0 0]) (by simp [results, Tryz.results20, go_sem, y0, y1, y2, y3, y4, y5, y6, y7, y8, y9]) rfl
        ⟨HZ.out.2.1, HZ.out.1, .mk 5 0 0 [] x0 [y] [], 0, 0, ⟨#[]⟩, none, 0, 0, _, _, _, _, rfl, HNT, fun e => by rw [HYO.out e]⟩
theorem rnode_6 {gp g n cp L d d1 D : Nat} {ts : List Tk} {sub : St → Nd × St} (hd1 : d1 = d + 1) (hds : d ≤ 40) (HSB : RNodeOk gp g n cp ts L d1 D sub) {w : World} {σ : St} (h : RT w gp g n cp ts L σ) (hg : g < w.heap.size) (hy : isS ts [114, 101, 112, 101, 97, 116] σ = true) :
    Calls Tryz.prog 20 #[.pointer (some ⟨gp, 0, none⟩), .int .i64 (d : Int)] w (RNP w gp g n cp ts L (D + 1) (rndK ts sub 6 (σ.1 + 1, σ.2))) := by
  have he := isS_ok hy
  have HSUB := Lib.hid HSB
  clear HSB
  show Calls _ _ _ _ (RNP w gp g n cp ts L (D + 1) (.mk 6 (nuV ts (σ.1 + 1, σ.2)) 0 [] x0 [(sub (nuS ts (σ.1 + 1, σ.2))).1] [], (sub (nuS ts (σ.1 + 1, σ.2))).2))
  have hgp := h.lt
  obtain ⟨W0, hW0⟩ : ∃ W, (w.alloc (.cells #[.int .i64 0, .int .i64 0, .int .i64 0, .string ⟨#[]⟩, .int .i64 0, .int .i64 0, .string ⟨#[]⟩, .slice none 0 0, .slice none 0 0, .slice none 0 0] 62)).alloc (.cells #[.int .i64 0, .int .i64 0, .int .i64 0, .string ⟨#[]⟩, .int .i64 0, .int .i64 0, .string ⟨#[]⟩, .slice none 0 0, .slice none 0 0, .slice none 0 0] 62) = W := ⟨_, rfl⟩
  have hN0 := NS5.start h hW0
  obtain ⟨W1, hW1⟩ : ∃ W, W0.alloc (.cells #[.string ⟨#[115, 101, 113]⟩, .string ⟨#[115, 101, 108]⟩, .string ⟨#[109, 115, 101, 113]⟩, .string ⟨#[109, 115, 101, 108]⟩, .string ⟨#[112, 97, 114]⟩] 9) = W := ⟨_, rfl⟩
  have t1 : Touch NoB W0 W1 := by rw [← hW1]; exact (Touch.refl _ _).alloc _
  have hN1 := hN0.quiet hgp t1
  have hwd : WdAt W1 W0.heap.size 5 manyW := words_at (by rw [← hW1]; exact alloc_blk _ _ _ rfl) rfl (by decide) rfl
  have hee : ((σ.2 : Int) != 0) = false := by rw [he]; rfl
  have hdd : decide ((40 : Int) < (d : Int)) = false := by simp; omega
  obtain ⟨c1, c2, cl⟩ := hN0.rt.cells
  have HN1 := Lib.hid (And.intro hN1 hwd)
  have HW1 := Lib.hid hwd
  have hsum : IntKind.i64.wrap ((d : Int) + 1) = (d1 : Int) := by rw [show (d : Int) + 1 = (d1 : Int) from by omega]; exact IntWalk.i64_in _ (by omega)
  clear h hN0 t1 hN1 hwd he hd1 hds
  go_enter Tryz.func20, Tryz.ntmps20
  go_wp2
  go_loopw [7] (fun v wr => NlRel w gp g n cp ts L σ W1 5 v wr) (fun v _ => 6 - (intOf v).toNat)
  case atStart => exact ⟨0, Nat.zero_le _, rfl, HN1.out.1, Touch.refl _ _⟩
  case round =>
    obtain ⟨i, hi, rfl, hN, hT⟩ := hrel
    have hwdr := wd_touch HN1.out.2 hT
    have HNr := Lib.hid hN
    have hNl := hN.lt
    have hwl := hwdr.2.1
    by_cases hlt : i < 5
    · obtain ⟨s, hs⟩ : ∃ s, manyW[i]? = some s := ⟨manyW[i]'(by have : manyW.length = 5 := rfl; omega), List.getElem?_eq_getElem _⟩
      have hcell := hwdr.2.2 i s hs
      have hno : isS ts s σ = false := isS_other hy ((by decide : ∀ q ∈ manyW, q ≠ [114, 101, 112, 101, 97, 116]) s (List.mem_of_getElem? hs))
      have HC := Lib.hid (t_no hN.rt s hno)
      have HT := Lib.hid hT
      obtain ⟨sx, hsx⟩ : ∃ sx, bs s = sx := ⟨_, rfl⟩
      rw [hsx] at hcell HC
      have hi5 : (i : Int) < 5 := by omega
      clear hN hT hwdr hs hno hsx
      go_wp2_with fail
      refine HC.out.mono ?_
      rintro x w2 ⟨rfl, hr2, ht2⟩
      have HE := Lib.hid (And.intro (HNr.out.quiet hgp ht2) (HT.out.same ht2))
      clear hr2 ht2
      go_wp2
      go_roundw
      case rel => exact ⟨i + 1, by omega, by go_num, HE.out.1, HE.out.2⟩
      case measure => simp [intOf]; omega
    · obtain rfl : i = 5 := by omega
      clear hwdr
      have HS := Lib.hid HNr.out
      clear hN hT HNr
      have HC := Lib.hid (t_no HS.out.rt [110, 111, 116] (isS_other hy (by decide)))
      go_wp2_with fail
      refine HC.out.mono ?_
      rintro x w21 ⟨rfl, -, ht⟩
      have hn := HS.out.quiet hgp ht
      clear HS
      have HS := Lib.hid hn
      have hNl := hn.lt
      clear ht hn HC
      have HC := Lib.hid (t_yes HS.out.rt [114, 101, 112, 101, 97, 116] hy)
      go_wp2_with fail
      refine HC.out.mono ?_
      rintro x w22 ⟨rfl, hr, ht⟩
      have hn := HS.out.call hgp hr ht
      clear HS
      have HS := Lib.hid hn
      clear hr ht hn HC
      obtain ⟨q0, q1, q2, q3, q4, q5, q6, q7, q8, q9, ql⟩ := nd_cells HS.out.h5
      have f0 := HS.out.free 0
      have f1 := HS.out.free 1
      have f2 := HS.out.free 2
      have f3 := HS.out.free 3
      have f4 := HS.out.free 4
      have f5 := HS.out.free 5
      have f6 := HS.out.free 6
      have f7 := HS.out.free 7
      have f8 := HS.out.free 8
      have f9 := HS.out.free 9
      obtain ⟨w23, hw23⟩ : ∃ W, w22.setCell ⟨w.heap.size + 1, 0, none⟩ (.int .i64 6) = W := ⟨_, rfl⟩
      have hn := HS.out.set hgp hg 0 (.int .i64 6) (us := [.int .i64 6, .int .i64 0, .int .i64 0, .string ⟨#[]⟩, .int .i64 0, .int .i64 0, .string ⟨#[]⟩, .slice none 0 0, .slice none 0 0, .slice none 0 0]) rfl
      rw [hw23] at hn
      clear HS
      have HS := Lib.hid hn
      clear hn
      have HC := Lib.hid (t_number HS.out.rt)
      go_wp2_with fail
      refine HC.out.mono ?_
      rintro x w24 ⟨rfl, hr, ht⟩
      have hn := HS.out.call hgp hr ht
      clear HS
      have HS := Lib.hid hn
      clear hr ht hn HC
      try clear q0 q1 q2 q3 q4 q5 q6 q7 q8 q9 ql f0 f1 f2 f3 f4 f5 f6 f7 f8 f9
      obtain ⟨q0, q1, q2, q3, q4, q5, q6, q7, q8, q9, ql⟩ := nd_cells HS.out.h5
      have f0 := HS.out.free 0
      have f1 := HS.out.free 1
      have f2 := HS.out.free 2
      have f3 := HS.out.free 3
      have f4 := HS.out.free 4
      have f5 := HS.out.free 5
      have f6 := HS.out.free 6
      have f7 := HS.out.free 7
      have f8 := HS.out.free 8
      have f9 := HS.out.free 9
      obtain ⟨w25, hw25⟩ : ∃ W, w24.setCell ⟨w.heap.size + 1, 1, none⟩ (.int .i64 (nuV ts (σ.1 + 1, σ.2) : Int)) = W := ⟨_, rfl⟩
      have hn := HS.out.set hgp hg 1 (.int .i64 (nuV ts (σ.1 + 1, σ.2) : Int)) (us := [.int .i64 6, .int .i64 (nuV ts (σ.1 + 1, σ.2) : Int), .int .i64 0, .string ⟨#[]⟩, .int .i64 0, .int .i64 0, .string ⟨#[]⟩, .slice none 0 0, .slice none 0 0, .slice none 0 0]) rfl
      rw [hw25] at hn
      clear HS
      have HS := Lib.hid hn
      clear hn
      have HC := Lib.hid (HSUB.out w25 _ HS.out.rt (by have := HS.out.lt; omega))
      have hc0 := HS.out.lt
      go_wp2_with fail
      refine HC.out.mono ?_
      rintro x w26 ⟨ht, hr, y, e0, e1, e2, B, bm, bc, A1, c1x, A2, c2x, rfl, hnt, hyo⟩
      have hn := HS.out.call hgp hr ht
      have hc6 := ht.size
      clear HS
      obtain ⟨w27, hw27⟩ : ∃ W, w26.alloc (.cells #[.int .i64 (y.kd : Int), .int .i64 (y.a : Int), .int .i64 (y.b : Int), .string (bs y.nm), .int .i64 e0, .int .i64 e1, .string e2, .slice B bm bc, .slice A1 y.ks.length c1x, .slice A2 y.ws.length c2x] 62) = W := ⟨_, rfl⟩
      have ta : Touch NoB w26 w27 := by rw [← hw27]; exact (Touch.refl _ _).alloc _
      have HS := Lib.hid (hn.quiet hgp ta)
      have HK := Lib.hid (fun (W9 : World) (t : Touch (F3 gp w) w27 W9) => nt_kid hnt hw27 t (by omega) hgp hc6)
      have HYO := Lib.hid hyo
      clear ht hr hnt hn hyo HC ta
      try clear q0 q1 q2 q3 q4 q5 q6 q7 q8 q9 ql f0 f1 f2 f3 f4 f5 f6 f7 f8 f9
      obtain ⟨q0, q1, q2, q3, q4, q5, q6, q7, q8, q9, ql⟩ := nd_cells HS.out.h5
      have f0 := HS.out.free 0
      have f1 := HS.out.free 1
      have f2 := HS.out.free 2
      have f3 := HS.out.free 3
      have f4 := HS.out.free 4
      have f5 := HS.out.free 5
      have f6 := HS.out.free 6
      have f7 := HS.out.free 7
      have f8 := HS.out.free 8
      have f9 := HS.out.free 9
      obtain ⟨w28, hw28⟩ : ∃ W, w27.setCell ⟨w.heap.size + 1, 8, none⟩ (.slice (some ⟨w26.heap.size, 0, none⟩) 1 1) = W := ⟨_, rfl⟩
      have hn := HS.out.set hgp hg 8 (.slice (some ⟨w26.heap.size, 0, none⟩) 1 1) (us := [.int .i64 6, .int .i64 (nuV ts (σ.1 + 1, σ.2) : Int), .int .i64 0, .string ⟨#[]⟩, .int .i64 0, .int .i64 0, .string ⟨#[]⟩, .slice none 0 0, .slice (some ⟨w26.heap.size, 0, none⟩) 1 1, .slice none 0 0]) rfl
      rw [hw28] at hn
      clear HS
      have HS := Lib.hid hn
      clear hn
      have HT3 := Lib.hid (show Touch (F3 gp w) w27 w28 from by rw [← hw28]; exact (Touch.refl (F3 gp w) _).setCell (p := ⟨w.heap.size + 1, 8, none⟩) (.inl (.inr (.inr rfl))) _)
      obtain ⟨hld, W9, hst, hra, hr9, ht9, ht3⟩ := HS.out.fin hgp hg rfl (by intro v hv; simp only [List.mem_cons, List.not_mem_nil, or_false] at hv; rcases hv with rfl | rfl | rfl | rfl | rfl | rfl | rfl | rfl | rfl | rfl <;> rfl)
      obtain ⟨y0, y1, y2, y3, y4, y5, y6, y7, y8, y9⟩ := range_cells hra
      have HZ := Lib.hid (And.intro hr9 (And.intro ht9 ht3))
      have hNl := HS.out.lt
      clear hra hr9 ht9 ht3
      go_wp2
      have HNT := nt_kids (k := 6) (a := (nuV ts (σ.1 + 1, σ.2))) (b := 0) (HK.out _ (HT3.out.same HZ.out.2.2)).1 (HK.out _ (HT3.out.same HZ.out.2.2)).2
      exact bodyPost_ret (v := .agg #[.int .i64 6, .int .i64 (nuV ts (σ.1 + 1, σ.2) : Int), .int .i64 0, .string ⟨#[]⟩, .int .i64 0, .int .i64 0, .string ⟨#[]⟩, .slice none 0 0, .slice (some ⟨w26.heap.size, 0, none⟩) 1 1, .slice none 0 0]) (by simp [results, Tryz.results20, go_sem, y0, y1, y2, y3, y4, y5, y6, y7, y8, y9]) rfl
        ⟨HZ.out.2.1, HZ.out.1, .mk 6 (nuV ts (σ.1 + 1, σ.2)) 0 [] x0 [y] [], 0, 0, ⟨#[]⟩, none, 0, 0, _, _, _, _, rfl, HNT, fun e => by rw [HYO.out e]⟩
theorem rnode_11 {gp g n cp L d d1 D : Nat} {ts : List Tk} {sub : St → Nd × St} (hnk : NumsOk ts) (hbad : ∀ σ : St, σ.2 ≠ 0 → (sub σ).2.2 ≠ 0) (hd1 : d1 = d + 1) (hds : d ≤ 40) (HSB : RNodeOk gp g n cp ts L d1 D sub) {w : World} {σ : St} (h : RT w gp g n cp ts L σ) (hg : g < w.heap.size) (hy : isS ts [112, 105, 99, 107] σ = true) :
    Calls Tryz.prog 20 #[.pointer (some ⟨gp, 0, none⟩), .int .i64 (d : Int)] w (RNP w gp g n cp ts L (D + 1) (rndK ts sub 11 (σ.1 + 1, σ.2))) := by
  have he := isS_ok hy
  have HSUB := Lib.hid HSB
  clear HSB
  show Calls _ _ _ _ (RNP w gp g n cp ts L (D + 1) (.mk 11 0 0 [] x0 (picV ts sub (σ.1 + 1, σ.2)).2 (picV ts sub (σ.1 + 1, σ.2)).1, picS ts sub (σ.1 + 1, σ.2)))
  have hgp := h.lt
  obtain ⟨W0, hW0⟩ : ∃ W, (w.alloc (.cells #[.int .i64 0, .int .i64 0, .int .i64 0, .string ⟨#[]⟩, .int .i64 0, .int .i64 0, .string ⟨#[]⟩, .slice none 0 0, .slice none 0 0, .slice none 0 0] 62)).alloc (.cells #[.int .i64 0, .int .i64 0, .int .i64 0, .string ⟨#[]⟩, .int .i64 0, .int .i64 0, .string ⟨#[]⟩, .slice none 0 0, .slice none 0 0, .slice none 0 0] 62) = W := ⟨_, rfl⟩
  have hN0 := NS5.start h hW0
  obtain ⟨W1, hW1⟩ : ∃ W, W0.alloc (.cells #[.string ⟨#[115, 101, 113]⟩, .string ⟨#[115, 101, 108]⟩, .string ⟨#[109, 115, 101, 113]⟩, .string ⟨#[109, 115, 101, 108]⟩, .string ⟨#[112, 97, 114]⟩] 9) = W := ⟨_, rfl⟩
  have t1 : Touch NoB W0 W1 := by rw [← hW1]; exact (Touch.refl _ _).alloc _
  have hN1 := hN0.quiet hgp t1
  have hwd : WdAt W1 W0.heap.size 5 manyW := words_at (by rw [← hW1]; exact alloc_blk _ _ _ rfl) rfl (by decide) rfl
  have hee : ((σ.2 : Int) != 0) = false := by rw [he]; rfl
  have hdd : decide ((40 : Int) < (d : Int)) = false := by simp; omega
  obtain ⟨c1, c2, cl⟩ := hN0.rt.cells
  have HN1 := Lib.hid (And.intro hN1 hwd)
  have HW1 := Lib.hid hwd
  have hsum : IntKind.i64.wrap ((d : Int) + 1) = (d1 : Int) := by rw [show (d : Int) + 1 = (d1 : Int) from by omega]; exact IntWalk.i64_in _ (by omega)
  clear h hN0 t1 hN1 hwd he hd1 hds
  go_enter Tryz.func20, Tryz.ntmps20
  go_wp2
  go_loopw [7] (fun v wr => NlRel w gp g n cp ts L σ W1 5 v wr) (fun v _ => 6 - (intOf v).toNat)
  case atStart => exact ⟨0, Nat.zero_le _, rfl, HN1.out.1, Touch.refl _ _⟩
  case round =>
    obtain ⟨i, hi, rfl, hN, hT⟩ := hrel
    have hwdr := wd_touch HN1.out.2 hT
    have HNr := Lib.hid hN
    have hNl := hN.lt
    have hwl := hwdr.2.1
    by_cases hlt : i < 5
    · obtain ⟨s, hs⟩ : ∃ s, manyW[i]? = some s := ⟨manyW[i]'(by have : manyW.length = 5 := rfl; omega), List.getElem?_eq_getElem _⟩
      have hcell := hwdr.2.2 i s hs
      have hno : isS ts s σ = false := isS_other hy ((by decide : ∀ q ∈ manyW, q ≠ [112, 105, 99, 107]) s (List.mem_of_getElem? hs))
      have HC := Lib.hid (t_no hN.rt s hno)
      have HT := Lib.hid hT
      obtain ⟨sx, hsx⟩ : ∃ sx, bs s = sx := ⟨_, rfl⟩
      rw [hsx] at hcell HC
      have hi5 : (i : Int) < 5 := by omega
      clear hN hT hwdr hs hno hsx
      go_wp2_with fail
      refine HC.out.mono ?_
      rintro x w2 ⟨rfl, hr2, ht2⟩
      have HE := Lib.hid (And.intro (HNr.out.quiet hgp ht2) (HT.out.same ht2))
      clear hr2 ht2
      go_wp2
      go_roundw
      case rel => exact ⟨i + 1, by omega, by go_num, HE.out.1, HE.out.2⟩
      case measure => simp [intOf]; omega
    · obtain rfl : i = 5 := by omega
      clear hwdr
      have HS := Lib.hid HNr.out
      clear hN hT HNr
      have HC := Lib.hid (t_no HS.out.rt [110, 111, 116] (isS_other hy (by decide)))
      go_wp2_with fail
      refine HC.out.mono ?_
      rintro x w21 ⟨rfl, -, ht⟩
      have hn := HS.out.quiet hgp ht
      clear HS
      have HS := Lib.hid hn
      have hNl := hn.lt
      clear ht hn HC
      have HC := Lib.hid (t_no HS.out.rt [114, 101, 112, 101, 97, 116] (isS_other hy (by decide)))
      go_wp2_with fail
      refine HC.out.mono ?_
      rintro x w22 ⟨rfl, -, ht⟩
      have hn := HS.out.quiet hgp ht
      clear HS
      have HS := Lib.hid hn
      have hNl := hn.lt
      clear ht hn HC
      have HC := Lib.hid (t_yes HS.out.rt [112, 105, 99, 107] hy)
      go_wp2_with fail
      refine HC.out.mono ?_
      rintro x w23 ⟨rfl, hr, ht⟩
      have hn := HS.out.call hgp hr ht
      clear HS
      have HS := Lib.hid hn
      clear hr ht hn HC
      obtain ⟨q0, q1, q2, q3, q4, q5, q6, q7, q8, q9, ql⟩ := nd_cells HS.out.h5
      have f0 := HS.out.free 0
      have f1 := HS.out.free 1
      have f2 := HS.out.free 2
      have f3 := HS.out.free 3
      have f4 := HS.out.free 4
      have f5 := HS.out.free 5
      have f6 := HS.out.free 6
      have f7 := HS.out.free 7
      have f8 := HS.out.free 8
      have f9 := HS.out.free 9
      obtain ⟨w24, hw24⟩ : ∃ W, w23.setCell ⟨w.heap.size + 1, 0, none⟩ (.int .i64 11) = W := ⟨_, rfl⟩
      have hn := HS.out.set hgp hg 0 (.int .i64 11) (us := [.int .i64 11, .int .i64 0, .int .i64 0, .string ⟨#[]⟩, .int .i64 0, .int .i64 0, .string ⟨#[]⟩, .slice none 0 0, .slice none 0 0, .slice none 0 0]) rfl
      rw [hw24] at hn
      clear HS
      have HS := Lib.hid hn
      clear hn
      have HC := Lib.hid (rpick_any hnk HSUB.out hbad HS.out.rt (by have := HS.out.lt; omega))
      have hc0 := HS.out.lt
      go_wp2_with fail
      refine HC.out.mono ?_
      rintro x w25 ⟨ht, hr, ws, ys, l, xs, A1, c1x, A, cx, rfl, hs1, hl1, hs2, hl2, hyo⟩
      have hn := HS.out.call hgp hr ht
      clear HS
      have HS := Lib.hid hn
      have HK := Lib.hid (And.intro hs1 (And.intro hl1 (And.intro hs2 hl2)))
      have HYO := Lib.hid hyo
      have HC0 := Lib.hid hc0
      clear ht hr hs1 hl1 hs2 hl2 hn hyo HC hc0
      try clear q0 q1 q2 q3 q4 q5 q6 q7 q8 q9 ql f0 f1 f2 f3 f4 f5 f6 f7 f8 f9
      obtain ⟨q0, q1, q2, q3, q4, q5, q6, q7, q8, q9, ql⟩ := nd_cells HS.out.h5
      have f0 := HS.out.free 0
      have f1 := HS.out.free 1
      have f2 := HS.out.free 2
      have f3 := HS.out.free 3
      have f4 := HS.out.free 4
      have f5 := HS.out.free 5
      have f6 := HS.out.free 6
      have f7 := HS.out.free 7
      have f8 := HS.out.free 8
      have f9 := HS.out.free 9
      obtain ⟨w26, hw26⟩ : ∃ W, (w25.setCell ⟨w.heap.size + 1, 9, none⟩ (.slice A1 ws.length c1x)).setCell ⟨w.heap.size + 1, 8, none⟩ (.slice A l.length cx) = W := ⟨_, rfl⟩
      have hn := (HS.out.set hgp hg 9 (.slice A1 ws.length c1x) (us := [.int .i64 11, .int .i64 0, .int .i64 0, .string ⟨#[]⟩, .int .i64 0, .int .i64 0, .string ⟨#[]⟩, .slice none 0 0, .slice none 0 0, .slice A1 ws.length c1x]) rfl).set hgp hg 8 (.slice A l.length cx) (us := [.int .i64 11, .int .i64 0, .int .i64 0, .string ⟨#[]⟩, .int .i64 0, .int .i64 0, .string ⟨#[]⟩, .slice none 0 0, .slice A l.length cx, .slice A1 ws.length c1x]) rfl
      rw [hw26] at hn
      clear HS
      have HS := Lib.hid hn
      clear hn
      have HT3 := Lib.hid (show Touch (F3 gp w) w25 w26 from by rw [← hw26]; exact ((Touch.refl (F3 gp w) _).setCell (p := ⟨w.heap.size + 1, 9, none⟩) (.inl (.inr (.inr rfl))) _).setCell (p := ⟨w.heap.size + 1, 8, none⟩) (.inl (.inr (.inr rfl))) _)
      obtain ⟨hld, W9, hst, hra, hr9, ht9, ht3⟩ := HS.out.fin hgp hg rfl (by intro v hv; simp only [List.mem_cons, List.not_mem_nil, or_false] at hv; rcases hv with rfl | rfl | rfl | rfl | rfl | rfl | rfl | rfl | rfl | rfl <;> rfl)
      obtain ⟨y0, y1, y2, y3, y4, y5, y6, y7, y8, y9⟩ := range_cells hra
      have HZ := Lib.hid (And.intro hr9 (And.intro ht9 ht3))
      have hNl := HS.out.lt
      clear hra hr9 ht9 ht3
      go_wp2
      have HNT := nt_pick HK.out.1 HK.out.2.1 HK.out.2.2.1 HK.out.2.2.2 (HT3.out.same HZ.out.2.2) (by have := HC0.out; omega) hgp
      exact bodyPost_ret (v := .agg #[.int .i64 11, .int .i64 0, .int .i64 0, .string ⟨#[]⟩, .int .i64 0, .int .i64 0, .string ⟨#[]⟩, .slice none 0 0, .slice A l.length cx, .slice A1 ws.length c1x]) (by simp [results, Tryz.results20, go_sem, y0, y1, y2, y3, y4, y5, y6, y7, y8, y9]) rfl
        ⟨HZ.out.2.1, HZ.out.1, .mk 11 0 0 [] x0 l ws, 0, 0, ⟨#[]⟩, none, 0, 0, _, _, _, _, rfl, HNT, fun e => by rw [(HYO.out e).1, (HYO.out e).2]⟩
end Go.Proofs.YtbikpbmknneabaaGreat
