/-
  What package printer's head returns of a node in memory, whatever its kind. Conditions: the library's table can be read; numbers fit; expressions are valid.
-/
import Derived.Test.YtnphaaahdlkmhaaGreatZs28
import Derived.Deep.RegionLaw
import Derived.Test.YtnphaaahdlkmhaaGreatZs18
import Derived.Test.YtnphaaahdlkmhaaGreatZs27
section
namespace Go.Proofs.YtnphaaahdlkmhaaGreat
open Go.ChangeShapes Go.WideShapes Go.ChangeAt Go.RowKit
set_option maxRecDepth 100000
set_option maxHeartbeats 4000000

/-- What head wants of a node. -/
structure HdOk (n : Nd) : Prop where
  a : (n.a : Int) ≤ 9223372036854775807
  b : (n.b : Int) ≤ 9223372036854775807
  x : n.kd = 7 ∨ n.kd = 8 → n.ex.depth ≤ 40 ∧ vE n.ex ∧ (prt n.ex).length ≤ 900000
end Go.Proofs.YtnphaaahdlkmhaaGreat
end
/-
  Kids of a node in memory; package printer's nested tells that a node is nested no deeper than may be. Conditions: those that each theorem names.
-/
section
namespace Go.Proofs.YtnphaaahdlkmhaaGreat
open Go.ChangeShapes Go.WideShapes Go.ChangeAt Go.RowKit
set_option maxRecDepth 100000
set_option maxHeartbeats 4000000

/-- A node's kinds are such, its kids not too many. -/
def KdOk : Nat → Nd → Prop
  | 0, _ => True
  | D + 1, n => n.kd ≤ 15 ∧ n.ks.length ≤ 100000 ∧ ∀ k ∈ n.ks, KdOk D k
end Go.Proofs.YtnphaaahdlkmhaaGreat
end
/-
  What a node's text is made of, over lists: its kids' texts piece by piece; which nodes are written, told by a plain function. Lists alone, but for what a table's place is.
-/
section
namespace Go.Proofs.YtnphaaahdlkmhaaGreat
open Go.ChangeShapes Go.WideShapes Go.ChangeAt Go.RowKit
set_option maxRecDepth 100000
set_option maxHeartbeats 4000000

/-- Nodes less than D deep that are written. -/
def PrN : Nat → Nd → Prop
  | 0, _ => False
  | D + 1, n => n.kd ≤ 15 ∧ n.ks.length ≤ 1000 ∧ n.ws.length ≤ 1000 ∧ (n.a : Int) ≤ 9223372036854775807 ∧ (n.b : Int) ≤ 9223372036854775807 ∧ (n.kd = 7 ∨ n.kd = 8 → n.ex.depth ≤ 40 ∧ vE n.ex) ∧ (∀ x ∈ n.ws, x.depth ≤ 40 ∧ vE x) ∧ ∀ k ∈ n.ks, PrN D k
theorem PrN.kd : ∀ {D : Nat} {n : Nd}, PrN D n → KdOk D n
  | 0, _, _ => trivial
  | D + 1, n, h => ⟨h.1, by have := h.2.1; omega, fun k hk => PrN.kd (h.2.2.2.2.2.2.2 k hk)⟩
theorem jnL_mem {ws : List Bs} {t : Bs} (h : t ∈ ws) : t.length ≤ (jnL ws).length := by
  cases ws with
  | nil => cases h
  | cons a r =>
    unfold jnL
    rw [List.length_append]
    rcases List.mem_cons.1 h with rfl | h
    · omega
    · have : ∀ (r : List Bs), t ∈ r → t.length ≤ (r.flatMap (fun t => if t = [59] then t else 32 :: t)).length := by
        intro r
        induction r with
        | nil => intro h; cases h
        | cons b r ih =>
          intro h
          rw [List.flatMap_cons, List.length_append]
          rcases List.mem_cons.1 h with rfl | h
          · split
            · omega
            · simp only [List.length_cons]; omega
          · have := ih h; omega
      have := this r h
      omega
theorem lnL_mem {lv : Nat} {ws : List Bs} {t : Bs} (h : t ∈ ws) : t.length ≤ (lnL lv ws).length := by
  have := jnL_mem h
  unfold lnL
  simp only [List.length_append]
  omega
/-- What head wants. -/
theorem PrN.hd {D : Nat} {n : Nd} (h : PrN (D + 1) n) {lv : Nat} (hl : (ndL (D + 1) lv n).length ≤ 900000) : HdOk n := by
  refine ⟨h.2.2.2.1, h.2.2.2.2.1, fun hk => ?_⟩
  obtain ⟨h1, h2⟩ := h.2.2.2.2.2.1 hk
  refine ⟨h1, h2, ?_⟩
  have hm : mostL n.kd = 0 := by rcases hk with e | e <;> rw [e] <;> rfl
  unfold ndL at hl
  rw [if_pos hm] at hl
  have hmem : prt n.ex ∈ hdL n ++ [[59]] := by
    obtain ⟨k, a, b, nm, ex, ks, ws⟩ := n
    simp only [Nd.kd, Nd.ex] at *
    unfold hdL
    simp only [Nd.kd, Nd.a', Nd.b', Nd.nm', Nd.ex']
    rcases hk with rfl | rfl <;> simp
  have := lnL_mem (lv := lv) hmem
  omega
end Go.Proofs.YtnphaaahdlkmhaaGreat
end
/-
  What package printer's kids writes, if node writes what it should of nodes that are less deep. Conditions: those that each theorem names.
-/
section
namespace Go.Proofs.YtnphaaahdlkmhaaGreat
open Go.ChangeShapes Go.WideShapes Go.ChangeAt Go.RowKit
set_option maxRecDepth 100000
set_option maxHeartbeats 4000000

/-- The library's table, below B. -/
def TbB (B : Nat) (w : World) : Prop := Lib.TabBelow Tryz.prog B w "internal/strconv.uint64pow10" .u64 Lib.pow10Tab
theorem TbB.go {B : Nat} {w w' : World} (h : TbB B w) (k : Below B w w') : TbB B w' := Lib.TabBelow.on h k
theorem TbB.here {B : Nat} {w : World} (h : TbB B w) : Lib.TabIs Tryz.prog w "internal/strconv.uint64pow10" .u64 Lib.pow10Tab := Lib.TabBelow.here h
end Go.Proofs.YtnphaaahdlkmhaaGreat
end
/-
  What the document's own node does where a node ends with a semicolon. Conditions: those that each theorem names.
-/
section
namespace Go.Proofs.YtnphaaahdlkmhaaGreat
open Go.ChangeShapes Go.WideShapes Go.ChangeAt Go.RowKit
set_option maxRecDepth 100000
set_option maxHeartbeats 8000000
attribute [local go_sem ↓] loadNd_of storeNd_of

theorem rnode_13 {gp g n cp L d d1 D : Nat} {ts : List Tk} {sub : St → Nd × St} (hd1 : d1 = d + 1) (hds : d ≤ 40) {w : World} {σ : St} (h : RT w gp g n cp ts L σ) (hg : g < w.heap.size) (hy : isS ts [111, 107] σ = true) :
    Calls Tryz.prog 20 #[.pointer (some ⟨gp, 0, none⟩), .int .i64 (d : Int)] w (RNP w gp g n cp ts L (D + 1) (rndK ts sub 13 (σ.1 + 1, σ.2))) := by
  have he := isS_ok hy
  show Calls _ _ _ _ (RNP w gp g n cp ts L (D + 1) (.mk 13 0 0 [] x0 [] [], exS ts [59] (σ.1 + 1, σ.2)))
  have hgp := h.lt
  obtain ⟨W0, hW0⟩ : ∃ W, (w.alloc (.cells #[.int .i64 0, .int .i64 0, .int .i64 0, .string ⟨#[]⟩, .int .i64 0, .int .i64 0, .string ⟨#[]⟩, .slice none 0 0, .slice none 0 0, .slice none 0 0] 62)).alloc (.cells #[.int .i64 0, .int .i64 0, .int .i64 0, .string ⟨#[]⟩, .int .i64 0, .int .i64 0, .string ⟨#[]⟩, .slice none 0 0, .slice none 0 0, .slice none 0 0] 62) = W := ⟨_, rfl⟩
  have hN0 := NS5.start h hW0
  obtain ⟨W1, hW1⟩ : ∃ W, W0.alloc (.cells #[.string ⟨#[115, 101, 113]⟩, .string ⟨#[115, 101, 108]⟩, .string ⟨#[109, 115, 101, 113]⟩, .string ⟨#[109, 115, 101, 108]⟩, .string ⟨#[112, 97, 114]⟩] 9) = W := ⟨_, rfl⟩
  have t1 : Touch NoB W0 W1 := by rw [← hW1]; exact (Touch.refl _ _).alloc _
  have hN1 := hN0.quiet hgp t1
  have hwd : WdAt W1 W0.heap.size 5 manyW := words_at (by rw [← hW1]; exact alloc_blk _ _ _ rfl) rfl (by decide) rfl
  have hee : ((σ.2 : Int) != 0) = false := by rw [he]; rfl
  have hdd : decide ((40 : Int) < (d : Int)) = false := by simp; omega
  obtain ⟨c1, c2, cl⟩ := hN0.rt.cells
  have HN1 := Lib.hid (And.intro hN1 hwd)
  have HW1 := Lib.hid hwd
  have hsum : IntKind.i64.wrap ((d : Int) + 1) = (d1 : Int) := by rw [show (d : Int) + 1 = (d1 : Int) from by omega]; exact IntWalk.i64_in _ (by omega)
  clear h hN0 t1 hN1 hwd he
  go_enter Tryz.func20, Tryz.ntmps20
  go_wp2
  go_loopw [7] (fun v wr => NlRel w gp g n cp ts L σ W1 5 v wr) (fun v _ => 6 - (intOf v).toNat)
  case atStart => exact ⟨0, Nat.zero_le _, rfl, HN1.out.1, Touch.refl _ _⟩
  case round =>
    obtain ⟨i, hi, rfl, hN, hT⟩ := hrel
    have hwdr := wd_touch HN1.out.2 hT
    have HNr := Lib.hid hN
    have hNl := hN.lt
    have hwl := hwdr.2.1
    by_cases hlt : i < 5
    · obtain ⟨s, hs⟩ : ∃ s, manyW[i]? = some s := ⟨manyW[i]'(by have : manyW.length = 5 := rfl; omega), List.getElem?_eq_getElem _⟩
      have hcell := hwdr.2.2 i s hs
      have hno : isS ts s σ = false := isS_other hy ((by decide : ∀ q ∈ manyW, q ≠ [111, 107]) s (List.mem_of_getElem? hs))
      have HC := Lib.hid (t_no hN.rt s hno)
      have HT := Lib.hid hT
      obtain ⟨sx, hsx⟩ : ∃ sx, bs s = sx := ⟨_, rfl⟩
      rw [hsx] at hcell HC
      have hi5 : (i : Int) < 5 := by omega
      clear hN hT hwdr hs hno hsx
      go_wp2_with fail
      refine HC.out.mono ?_
      rintro x w2 ⟨rfl, hr2, ht2⟩
      have HE := Lib.hid (And.intro (HNr.out.quiet hgp ht2) (HT.out.same ht2))
      clear hr2 ht2
      go_wp2
      go_roundw
      case rel => exact ⟨i + 1, by omega, by go_num, HE.out.1, HE.out.2⟩
      case measure => simp [intOf]; omega
    · obtain rfl : i = 5 := by omega
      clear hwdr
      have HS := Lib.hid HNr.out
      clear hN hT HNr
      have HC := Lib.hid (t_no HS.out.rt [110, 111, 116] (isS_other hy (by decide)))
      go_wp2_with fail
      refine HC.out.mono ?_
      rintro x w21 ⟨rfl, -, ht⟩
      have hn := HS.out.quiet hgp ht
      clear HS
      have HS := Lib.hid hn
      have hNl := hn.lt
      clear ht hn HC
      have HC := Lib.hid (t_no HS.out.rt [114, 101, 112, 101, 97, 116] (isS_other hy (by decide)))
      go_wp2_with fail
      refine HC.out.mono ?_
      rintro x w22 ⟨rfl, -, ht⟩
      have hn := HS.out.quiet hgp ht
      clear HS
      have HS := Lib.hid hn
      have hNl := hn.lt
      clear ht hn HC
      have HC := Lib.hid (t_no HS.out.rt [112, 105, 99, 107] (isS_other hy (by decide)))
      go_wp2_with fail
      refine HC.out.mono ?_
      rintro x w23 ⟨rfl, -, ht⟩
      have hn := HS.out.quiet hgp ht
      clear HS
      have HS := Lib.hid hn
      have hNl := hn.lt
      clear ht hn HC
      have HC := Lib.hid (t_no HS.out.rt [105, 102] (isS_other hy (by decide)))
      go_wp2_with fail
      refine HC.out.mono ?_
      rintro x w24 ⟨rfl, -, ht⟩
      have hn := HS.out.quiet hgp ht
      clear HS
      have HS := Lib.hid hn
      have hNl := hn.lt
      clear ht hn HC
      have HC := Lib.hid (t_no HS.out.rt [115, 101, 116] (isS_other hy (by decide)))
      go_wp2_with fail
      refine HC.out.mono ?_
      rintro x w25 ⟨rfl, -, ht⟩
      have hn := HS.out.quiet hgp ht
      clear HS
      have HS := Lib.hid hn
      have hNl := hn.lt
      clear ht hn HC
      have HC := Lib.hid (t_no HS.out.rt [100, 111] (isS_other hy (by decide)))
      go_wp2_with fail
      refine HC.out.mono ?_
      rintro x w26 ⟨rfl, -, ht⟩
      have hn := HS.out.quiet hgp ht
      clear HS
      have HS := Lib.hid hn
      have hNl := hn.lt
      clear ht hn HC
      have HC := Lib.hid (t_no HS.out.rt [117, 115, 101] (isS_other hy (by decide)))
      go_wp2_with fail
      refine HC.out.mono ?_
      rintro x w27 ⟨rfl, -, ht⟩
      have hn := HS.out.quiet hgp ht
      clear HS
      have HS := Lib.hid hn
      have hNl := hn.lt
      clear ht hn HC
      have HC := Lib.hid (t_no HS.out.rt [112, 108, 97, 110] (isS_other hy (by decide)))
      go_wp2_with fail
      refine HC.out.mono ?_
      rintro x w28 ⟨rfl, -, ht⟩
      have hn := HS.out.quiet hgp ht
      clear HS
      have HS := Lib.hid hn
      have hNl := hn.lt
      clear ht hn HC
      have HC := Lib.hid (t_yes HS.out.rt [111, 107] hy)
      go_wp2_with fail
      refine HC.out.mono ?_
      rintro x w29 ⟨rfl, hr, ht⟩
      have hn := HS.out.call hgp hr ht
      clear HS
      have HS := Lib.hid hn
      clear hr ht hn HC
      obtain ⟨q0, q1, q2, q3, q4, q5, q6, q7, q8, q9, ql⟩ := nd_cells HS.out.h5
      have f0 := HS.out.free 0
      have f1 := HS.out.free 1
      have f2 := HS.out.free 2
      have f3 := HS.out.free 3
      have f4 := HS.out.free 4
      have f5 := HS.out.free 5
      have f6 := HS.out.free 6
      have f7 := HS.out.free 7
      have f8 := HS.out.free 8
      have f9 := HS.out.free 9
      obtain ⟨w30, hw30⟩ : ∃ W, w29.setCell ⟨w.heap.size + 1, 0, none⟩ (.int .i64 13) = W := ⟨_, rfl⟩
      have hn := HS.out.set hgp hg 0 (.int .i64 13) (us := [.int .i64 13, .int .i64 0, .int .i64 0, .string ⟨#[]⟩, .int .i64 0, .int .i64 0, .string ⟨#[]⟩, .slice none 0 0, .slice none 0 0, .slice none 0 0]) rfl
      rw [hw30] at hn
      clear HS
      have HS := Lib.hid hn
      clear hn
      have HC := Lib.hid (t_want HS.out.rt [59])
      go_wp2_with fail
      refine HC.out.mono ?_
      rintro x w31 ⟨rfl, hr, ht⟩
      have hn := HS.out.call hgp hr ht
      clear HS
      have HS := Lib.hid hn
      have HTL := Lib.hid (show Touch (F3 gp w) w30 w31 from ht.mono (fun k hk => .inl hk))
      clear hr ht hn HC
      try clear q0 q1 q2 q3 q4 q5 q6 q7 q8 q9 ql f0 f1 f2 f3 f4 f5 f6 f7 f8 f9
      obtain ⟨hld, W9, hst, hra, hr9, ht9, ht3⟩ := HS.out.fin hgp hg rfl (by intro v hv; simp only [List.mem_cons, List.not_mem_nil, or_false] at hv; rcases hv with rfl | rfl | rfl | rfl | rfl | rfl | rfl | rfl | rfl | rfl <;> rfl)
      obtain ⟨y0, y1, y2, y3, y4, y5, y6, y7, y8, y9⟩ := range_cells hra
      have HZ := Lib.hid (And.intro hr9 (And.intro ht9 ht3))
      have hNl := HS.out.lt
      clear hra hr9 ht9 ht3
      go_wp2
      exact bodyPost_ret (v := .agg #[.int .i64 13, .int .i64 0, .int .i64 0, .string ⟨#[]⟩, .int .i64 0, .int .i64 0, .string ⟨#[]⟩, .slice none 0 0, .slice none 0 0, .slice none 0 0]) (by simp [results, Tryz.results20, go_sem, y0, y1, y2, y3, y4, y5, y6, y7, y8, y9]) rfl
        ⟨HZ.out.2.1, HZ.out.1, .mk 13 0 0 [] x0 [] [], 0, 0, ⟨#[]⟩, none, 0, 0, none, 0, none, 0, rfl, nt_leaf (et_zero _ _), fun _ => rfl⟩
theorem rnode_14 {gp g n cp L d d1 D : Nat} {ts : List Tk} {sub : St → Nd × St} (hd1 : d1 = d + 1) (hds : d ≤ 40) {w : World} {σ : St} (h : RT w gp g n cp ts L σ) (hg : g < w.heap.size) (hy : isS ts [102, 97, 105, 108] σ = true) :
    Calls Tryz.prog 20 #[.pointer (some ⟨gp, 0, none⟩), .int .i64 (d : Int)] w (RNP w gp g n cp ts L (D + 1) (rndK ts sub 14 (σ.1 + 1, σ.2))) := by
  have he := isS_ok hy
  show Calls _ _ _ _ (RNP w gp g n cp ts L (D + 1) (.mk 14 0 0 [] x0 [] [], exS ts [59] (σ.1 + 1, σ.2)))
  have hgp := h.lt
  obtain ⟨W0, hW0⟩ : ∃ W, (w.alloc (.cells #[.int .i64 0, .int .i64 0, .int .i64 0, .string ⟨#[]⟩, .int .i64 0, .int .i64 0, .string ⟨#[]⟩, .slice none 0 0, .slice none 0 0, .slice none 0 0] 62)).alloc (.cells #[.int .i64 0, .int .i64 0, .int .i64 0, .string ⟨#[]⟩, .int .i64 0, .int .i64 0, .string ⟨#[]⟩, .slice none 0 0, .slice none 0 0, .slice none 0 0] 62) = W := ⟨_, rfl⟩
  have hN0 := NS5.start h hW0
  obtain ⟨W1, hW1⟩ : ∃ W, W0.alloc (.cells #[.string ⟨#[115, 101, 113]⟩, .string ⟨#[115, 101, 108]⟩, .string ⟨#[109, 115, 101, 113]⟩, .string ⟨#[109, 115, 101, 108]⟩, .string ⟨#[112, 97, 114]⟩] 9) = W := ⟨_, rfl⟩
  have t1 : Touch NoB W0 W1 := by rw [← hW1]; exact (Touch.refl _ _).alloc _
  have hN1 := hN0.quiet hgp t1
  have hwd : WdAt W1 W0.heap.size 5 manyW := words_at (by rw [← hW1]; exact alloc_blk _ _ _ rfl) rfl (by decide) rfl
  have hee : ((σ.2 : Int) != 0) = false := by rw [he]; rfl
  have hdd : decide ((40 : Int) < (d : Int)) = false := by simp; omega
  obtain ⟨c1, c2, cl⟩ := hN0.rt.cells
  have HN1 := Lib.hid (And.intro hN1 hwd)
  have HW1 := Lib.hid hwd
  have hsum : IntKind.i64.wrap ((d : Int) + 1) = (d1 : Int) := by rw [show (d : Int) + 1 = (d1 : Int) from by omega]; exact IntWalk.i64_in _ (by omega)
  clear h hN0 t1 hN1 hwd he
  go_enter Tryz.func20, Tryz.ntmps20
  go_wp2
  go_loopw [7] (fun v wr => NlRel w gp g n cp ts L σ W1 5 v wr) (fun v _ => 6 - (intOf v).toNat)
  case atStart => exact ⟨0, Nat.zero_le _, rfl, HN1.out.1, Touch.refl _ _⟩
  case round =>
    obtain ⟨i, hi, rfl, hN, hT⟩ := hrel
    have hwdr := wd_touch HN1.out.2 hT
    have HNr := Lib.hid hN
    have hNl := hN.lt
    have hwl := hwdr.2.1
    by_cases hlt : i < 5
    · obtain ⟨s, hs⟩ : ∃ s, manyW[i]? = some s := ⟨manyW[i]'(by have : manyW.length = 5 := rfl; omega), List.getElem?_eq_getElem _⟩
      have hcell := hwdr.2.2 i s hs
      have hno : isS ts s σ = false := isS_other hy ((by decide : ∀ q ∈ manyW, q ≠ [102, 97, 105, 108]) s (List.mem_of_getElem? hs))
      have HC := Lib.hid (t_no hN.rt s hno)
      have HT := Lib.hid hT
      obtain ⟨sx, hsx⟩ : ∃ sx, bs s = sx := ⟨_, rfl⟩
      rw [hsx] at hcell HC
      have hi5 : (i : Int) < 5 := by omega
      clear hN hT hwdr hs hno hsx
      go_wp2_with fail
      refine HC.out.mono ?_
      rintro x w2 ⟨rfl, hr2, ht2⟩
      have HE := Lib.hid (And.intro (HNr.out.quiet hgp ht2) (HT.out.same ht2))
      clear hr2 ht2
      go_wp2
      go_roundw
      case rel => exact ⟨i + 1, by omega, by go_num, HE.out.1, HE.out.2⟩
      case measure => simp [intOf]; omega
    · obtain rfl : i = 5 := by omega
      clear hwdr
      have HS := Lib.hid HNr.out
      clear hN hT HNr
      have HC := Lib.hid (t_no HS.out.rt [110, 111, 116] (isS_other hy (by decide)))
      go_wp2_with fail
      refine HC.out.mono ?_
      rintro x w21 ⟨rfl, -, ht⟩
      have hn := HS.out.quiet hgp ht
      clear HS
      have HS := Lib.hid hn
      have hNl := hn.lt
      clear ht hn HC
      have HC := Lib.hid (t_no HS.out.rt [114, 101, 112, 101, 97, 116] (isS_other hy (by decide)))
      go_wp2_with fail
      refine HC.out.mono ?_
      rintro x w22 ⟨rfl, -, ht⟩
      have hn := HS.out.quiet hgp ht
      clear HS
      have HS := Lib.hid hn
      have hNl := hn.lt
      clear ht hn HC
      have HC := Lib.hid (t_no HS.out.rt [112, 105, 99, 107] (isS_other hy (by decide)))
      go_wp2_with fail
      refine HC.out.mono ?_
      rintro x w23 ⟨rfl, -, ht⟩
      have hn := HS.out.quiet hgp ht
      clear HS
      have HS := Lib.hid hn
      have hNl := hn.lt
      clear ht hn HC
      have HC := Lib.hid (t_no HS.out.rt [105, 102] (isS_other hy (by decide)))
      go_wp2_with fail
      refine HC.out.mono ?_
      rintro x w24 ⟨rfl, -, ht⟩
      have hn := HS.out.quiet hgp ht
      clear HS
      have HS := Lib.hid hn
      have hNl := hn.lt
      clear ht hn HC
      have HC := Lib.hid (t_no HS.out.rt [115, 101, 116] (isS_other hy (by decide)))
      go_wp2_with fail
      refine HC.out.mono ?_
      rintro x w25 ⟨rfl, -, ht⟩
      have hn := HS.out.quiet hgp ht
      clear HS
      have HS := Lib.hid hn
      have hNl := hn.lt
      clear ht hn HC
      have HC := Lib.hid (t_no HS.out.rt [100, 111] (isS_other hy (by decide)))
      go_wp2_with fail
      refine HC.out.mono ?_
      rintro x w26 ⟨rfl, -, ht⟩
      have hn := HS.out.quiet hgp ht
      clear HS
      have HS := Lib.hid hn
      have hNl := hn.lt
      clear ht hn HC
      have HC := Lib.hid (t_no HS.out.rt [117, 115, 101] (isS_other hy (by decide)))
      go_wp2_with fail
      refine HC.out.mono ?_
      rintro x w27 ⟨rfl, -, ht⟩
      have hn := HS.out.quiet hgp ht
      clear HS
      have HS := Lib.hid hn
      have hNl := hn.lt
      clear ht hn HC
      have HC := Lib.hid (t_no HS.out.rt [112, 108, 97, 110] (isS_other hy (by decide)))
      go_wp2_with fail
      refine HC.out.mono ?_
      rintro x w28 ⟨rfl, -, ht⟩
      have hn := HS.out.quiet hgp ht
      clear HS
      have HS := Lib.hid hn
      have hNl := hn.lt
      clear ht hn HC
      have HC := Lib.hid (t_no HS.out.rt [111, 107] (isS_other hy (by decide)))
      go_wp2_with fail
      refine HC.out.mono ?_
      rintro x w29 ⟨rfl, -, ht⟩
      have hn := HS.out.quiet hgp ht
      clear HS
      have HS := Lib.hid hn
      have hNl := hn.lt
      clear ht hn HC
      have HC := Lib.hid (t_yes HS.out.rt [102, 97, 105, 108] hy)
      go_wp2_with fail
      refine HC.out.mono ?_
      rintro x w30 ⟨rfl, hr, ht⟩
      have hn := HS.out.call hgp hr ht
      clear HS
      have HS := Lib.hid hn
      clear hr ht hn HC
      obtain ⟨q0, q1, q2, q3, q4, q5, q6, q7, q8, q9, ql⟩ := nd_cells HS.out.h5
      have f0 := HS.out.free 0
      have f1 := HS.out.free 1
      have f2 := HS.out.free 2
      have f3 := HS.out.free 3
      have f4 := HS.out.free 4
      have f5 := HS.out.free 5
      have f6 := HS.out.free 6
      have f7 := HS.out.free 7
      have f8 := HS.out.free 8
      have f9 := HS.out.free 9
      obtain ⟨w31, hw31⟩ : ∃ W, w30.setCell ⟨w.heap.size + 1, 0, none⟩ (.int .i64 14) = W := ⟨_, rfl⟩
      have hn := HS.out.set hgp hg 0 (.int .i64 14) (us := [.int .i64 14, .int .i64 0, .int .i64 0, .string ⟨#[]⟩, .int .i64 0, .int .i64 0, .string ⟨#[]⟩, .slice none 0 0, .slice none 0 0, .slice none 0 0]) rfl
      rw [hw31] at hn
      clear HS
      have HS := Lib.hid hn
      clear hn
      have HC := Lib.hid (t_want HS.out.rt [59])
      go_wp2_with fail
      refine HC.out.mono ?_
      rintro x w32 ⟨rfl, hr, ht⟩
      have hn := HS.out.call hgp hr ht
      clear HS
      have HS := Lib.hid hn
      have HTL := Lib.hid (show Touch (F3 gp w) w31 w32 from ht.mono (fun k hk => .inl hk))
      clear hr ht hn HC
      try clear q0 q1 q2 q3 q4 q5 q6 q7 q8 q9 ql f0 f1 f2 f3 f4 f5 f6 f7 f8 f9
      obtain ⟨hld, W9, hst, hra, hr9, ht9, ht3⟩ := HS.out.fin hgp hg rfl (by intro v hv; simp only [List.mem_cons, List.not_mem_nil, or_false] at hv; rcases hv with rfl | rfl | rfl | rfl | rfl | rfl | rfl | rfl | rfl | rfl <;> rfl)
      obtain ⟨y0, y1, y2, y3, y4, y5, y6, y7, y8, y9⟩ := range_cells hra
      have HZ := Lib.hid (And.intro hr9 (And.intro ht9 ht3))
      have hNl := HS.out.lt
      clear hra hr9 ht9 ht3
      go_wp2
      exact bodyPost_ret (v := .agg #[.int .i64 14, .int .i64 0, .int .i64 0, .string ⟨#[]⟩, .int .i64 0, .int .i64 0, .string ⟨#[]⟩, .slice none 0 0, .slice none 0 0, .slice none 0 0]) (by simp [results, Tryz.results20, go_sem, y0, y1, y2, y3, y4, y5, y6, y7, y8, y9]) rfl
        ⟨HZ.out.2.1, HZ.out.1, .mk 14 0 0 [] x0 [] [], 0, 0, ⟨#[]⟩, none, 0, 0, none, 0, none, 0, rfl, nt_leaf (et_zero _ _), fun _ => rfl⟩
theorem rnode_15 {gp g n cp L d d1 D : Nat} {ts : List Tk} {sub : St → Nd × St} (hd1 : d1 = d + 1) (hds : d ≤ 40) {w : World} {σ : St} (h : RT w gp g n cp ts L σ) (hg : g < w.heap.size) (hy : isS ts [119, 97, 105, 116] σ = true) :
    Calls Tryz.prog 20 #[.pointer (some ⟨gp, 0, none⟩), .int .i64 (d : Int)] w (RNP w gp g n cp ts L (D + 1) (rndK ts sub 15 (σ.1 + 1, σ.2))) := by
  have he := isS_ok hy
  show Calls _ _ _ _ (RNP w gp g n cp ts L (D + 1) (.mk 15 0 0 [] x0 [] [], exS ts [59] (σ.1 + 1, σ.2)))
  have hgp := h.lt
  obtain ⟨W0, hW0⟩ : ∃ W, (w.alloc (.cells #[.int .i64 0, .int .i64 0, .int .i64 0, .string ⟨#[]⟩, .int .i64 0, .int .i64 0, .string ⟨#[]⟩, .slice none 0 0, .slice none 0 0, .slice none 0 0] 62)).alloc (.cells #[.int .i64 0, .int .i64 0, .int .i64 0, .string ⟨#[]⟩, .int .i64 0, .int .i64 0, .string ⟨#[]⟩, .slice none 0 0, .slice none 0 0, .slice none 0 0] 62) = W := ⟨_, rfl⟩
  have hN0 := NS5.start h hW0
  obtain ⟨W1, hW1⟩ : ∃ W, W0.alloc (.cells #[.string ⟨#[115, 101, 113]⟩, .string ⟨#[115, 101, 108]⟩, .string ⟨#[109, 115, 101, 113]⟩, .string ⟨#[109, 115, 101, 108]⟩, .string ⟨#[112, 97, 114]⟩] 9) = W := ⟨_, rfl⟩
  have t1 : Touch NoB W0 W1 := by rw [← hW1]; exact (Touch.refl _ _).alloc _
  have hN1 := hN0.quiet hgp t1
  have hwd : WdAt W1 W0.heap.size 5 manyW := words_at (by rw [← hW1]; exact alloc_blk _ _ _ rfl) rfl (by decide) rfl
  have hee : ((σ.2 : Int) != 0) = false := by rw [he]; rfl
  have hdd : decide ((40 : Int) < (d : Int)) = false := by simp; omega
  obtain ⟨c1, c2, cl⟩ := hN0.rt.cells
  have HN1 := Lib.hid (And.intro hN1 hwd)
  have HW1 := Lib.hid hwd
  have hsum : IntKind.i64.wrap ((d : Int) + 1) = (d1 : Int) := by rw [show (d : Int) + 1 = (d1 : Int) from by omega]; exact IntWalk.i64_in _ (by omega)
  clear h hN0 t1 hN1 hwd he
  go_enter Tryz.func20, Tryz.ntmps20
  go_wp2
  go_loopw [7] (fun v wr => NlRel w gp g n cp ts L σ W1 5 v wr) (fun v _ => 6 - (intOf v).toNat)
  case atStart => exact ⟨0, Nat.zero_le _, rfl, HN1.out.1, Touch.refl _ _⟩
  case round =>
    obtain ⟨i, hi, rfl, hN, hT⟩ := hrel
    have hwdr := wd_touch HN1.out.2 hT
    have HNr := Lib.hid hN
    have hNl := hN.lt
    have hwl := hwdr.2.1
    by_cases hlt : i < 5
    · obtain ⟨s, hs⟩ : ∃ s, manyW[i]? = some s := ⟨manyW[i]'(by have : manyW.length = 5 := rfl; omega), List.getElem?_eq_getElem _⟩
      have hcell := hwdr.2.2 i s hs
      have hno : isS ts s σ = false := isS_other hy ((by decide : ∀ q ∈ manyW, q ≠ [119, 97, 105, 116]) s (List.mem_of_getElem? hs))
      have HC := Lib.hid (t_no hN.rt s hno)
      have HT := Lib.hid hT
      obtain ⟨sx, hsx⟩ : ∃ sx, bs s = sx := ⟨_, rfl⟩
      rw [hsx] at hcell HC
      have hi5 : (i : Int) < 5 := by omega
      clear hN hT hwdr hs hno hsx
      go_wp2_with fail
      refine HC.out.mono ?_
      rintro x w2 ⟨rfl, hr2, ht2⟩
      have HE := Lib.hid (And.intro (HNr.out.quiet hgp ht2) (HT.out.same ht2))
      clear hr2 ht2
      go_wp2
      go_roundw
      case rel => exact ⟨i + 1, by omega, by go_num, HE.out.1, HE.out.2⟩
      case measure => simp [intOf]; omega
    · obtain rfl : i = 5 := by omega
      clear hwdr
      have HS := Lib.hid HNr.out
      clear hN hT HNr
      have HC := Lib.hid (t_no HS.out.rt [110, 111, 116] (isS_other hy (by decide)))
      go_wp2_with fail
      refine HC.out.mono ?_
      rintro x w21 ⟨rfl, -, ht⟩
      have hn := HS.out.quiet hgp ht
      clear HS
      have HS := Lib.hid hn
      have hNl := hn.lt
      clear ht hn HC
      have HC := Lib.hid (t_no HS.out.rt [114, 101, 112, 101, 97, 116] (isS_other hy (by decide)))
      go_wp2_with fail
      refine HC.out.mono ?_
      rintro x w22 ⟨rfl, -, ht⟩
      have hn := HS.out.quiet hgp ht
      clear HS
      have HS := Lib.hid hn
      have hNl := hn.lt
      clear ht hn HC
      have HC := Lib.hid (t_no HS.out.rt [112, 105, 99, 107] (isS_other hy (by decide)))
      go_wp2_with fail
      refine HC.out.mono ?_
      rintro x w23 ⟨rfl, -, ht⟩
      have hn := HS.out.quiet hgp ht
      clear HS
      have HS := Lib.hid hn
      have hNl := hn.lt
      clear ht hn HC
      have HC := Lib.hid (t_no HS.out.rt [105, 102] (isS_other hy (by decide)))
      go_wp2_with fail
      refine HC.out.mono ?_
      rintro x w24 ⟨rfl, -, ht⟩
      have hn := HS.out.quiet hgp ht
      clear HS
      have HS := Lib.hid hn
      have hNl := hn.lt
      clear ht hn HC
      have HC := Lib.hid (t_no HS.out.rt [115, 101, 116] (isS_other hy (by decide)))
      go_wp2_with fail
      refine HC.out.mono ?_
      rintro x w25 ⟨rfl, -, ht⟩
      have hn := HS.out.quiet hgp ht
      clear HS
      have HS := Lib.hid hn
      have hNl := hn.lt
      clear ht hn HC
      have HC := Lib.hid (t_no HS.out.rt [100, 111] (isS_other hy (by decide)))
      go_wp2_with fail
      refine HC.out.mono ?_
      rintro x w26 ⟨rfl, -, ht⟩
      have hn := HS.out.quiet hgp ht
      clear HS
      have HS := Lib.hid hn
      have hNl := hn.lt
      clear ht hn HC
      have HC := Lib.hid (t_no HS.out.rt [117, 115, 101] (isS_other hy (by decide)))
      go_wp2_with fail
      refine HC.out.mono ?_
      rintro x w27 ⟨rfl, -, ht⟩
      have hn := HS.out.quiet hgp ht
      clear HS
      have HS := Lib.hid hn
      have hNl := hn.lt
      clear ht hn HC
      have HC := Lib.hid (t_no HS.out.rt [112, 108, 97, 110] (isS_other hy (by decide)))
      go_wp2_with fail
      refine HC.out.mono ?_
      rintro x w28 ⟨rfl, -, ht⟩
      have hn := HS.out.quiet hgp ht
      clear HS
      have HS := Lib.hid hn
      have hNl := hn.lt
      clear ht hn HC
      have HC := Lib.hid (t_no HS.out.rt [111, 107] (isS_other hy (by decide)))
      go_wp2_with fail
      refine HC.out.mono ?_
      rintro x w29 ⟨rfl, -, ht⟩
      have hn := HS.out.quiet hgp ht
      clear HS
      have HS := Lib.hid hn
      have hNl := hn.lt
      clear ht hn HC
      have HC := Lib.hid (t_no HS.out.rt [102, 97, 105, 108] (isS_other hy (by decide)))
      go_wp2_with fail
      refine HC.out.mono ?_
      rintro x w30 ⟨rfl, -, ht⟩
      have hn := HS.out.quiet hgp ht
      clear HS
      have HS := Lib.hid hn
      have hNl := hn.lt
      clear ht hn HC
      have HC := Lib.hid (t_yes HS.out.rt [119, 97, 105, 116] hy)
      go_wp2_with fail
      refine HC.out.mono ?_
      rintro x w31 ⟨rfl, hr, ht⟩
      have hn := HS.out.call hgp hr ht
      clear HS
      have HS := Lib.hid hn
      clear hr ht hn HC
      obtain ⟨q0, q1, q2, q3, q4, q5, q6, q7, q8, q9, ql⟩ := nd_cells HS.out.h5
      have f0 := HS.out.free 0
      have f1 := HS.out.free 1
      have f2 := HS.out.free 2
      have f3 := HS.out.free 3
      have f4 := HS.out.free 4
      have f5 := HS.out.free 5
      have f6 := HS.out.free 6
      have f7 := HS.out.free 7
      have f8 := HS.out.free 8
      have f9 := HS.out.free 9
      obtain ⟨w32, hw32⟩ : ∃ W, w31.setCell ⟨w.heap.size + 1, 0, none⟩ (.int .i64 15) = W := ⟨_, rfl⟩
      have hn := HS.out.set hgp hg 0 (.int .i64 15) (us := [.int .i64 15, .int .i64 0, .int .i64 0, .string ⟨#[]⟩, .int .i64 0, .int .i64 0, .string ⟨#[]⟩, .slice none 0 0, .slice none 0 0, .slice none 0 0]) rfl
      rw [hw32] at hn
      clear HS
      have HS := Lib.hid hn
      clear hn
      have HC := Lib.hid (t_want HS.out.rt [59])
      go_wp2_with fail
      refine HC.out.mono ?_
      rintro x w33 ⟨rfl, hr, ht⟩
      have hn := HS.out.call hgp hr ht
      clear HS
      have HS := Lib.hid hn
      have HTL := Lib.hid (show Touch (F3 gp w) w32 w33 from ht.mono (fun k hk => .inl hk))
      clear hr ht hn HC
      try clear q0 q1 q2 q3 q4 q5 q6 q7 q8 q9 ql f0 f1 f2 f3 f4 f5 f6 f7 f8 f9
      obtain ⟨hld, W9, hst, hra, hr9, ht9, ht3⟩ := HS.out.fin hgp hg rfl (by intro v hv; simp only [List.mem_cons, List.not_mem_nil, or_false] at hv; rcases hv with rfl | rfl | rfl | rfl | rfl | rfl | rfl | rfl | rfl | rfl <;> rfl)
      obtain ⟨y0, y1, y2, y3, y4, y5, y6, y7, y8, y9⟩ := range_cells hra
      have HZ := Lib.hid (And.intro hr9 (And.intro ht9 ht3))
      have hNl := HS.out.lt
      clear hra hr9 ht9 ht3
      go_wp2
      exact bodyPost_ret (v := .agg #[.int .i64 15, .int .i64 0, .int .i64 0, .string ⟨#[]⟩, .int .i64 0, .int .i64 0, .string ⟨#[]⟩, .slice none 0 0, .slice none 0 0, .slice none 0 0]) (by simp [results, Tryz.results20, go_sem, y0, y1, y2, y3, y4, y5, y6, y7, y8, y9]) rfl
        ⟨HZ.out.2.1, HZ.out.1, .mk 15 0 0 [] x0 [] [], 0, 0, ⟨#[]⟩, none, 0, 0, none, 0, none, 0, rfl, nt_leaf (et_zero _ _), fun _ => rfl⟩
theorem rnode_9 {gp g n cp L d d1 D : Nat} {ts : List Tk} {sub : St → Nd × St} (hd1 : d1 = d + 1) (hds : d ≤ 40) {w : World} {σ : St} (h : RT w gp g n cp ts L σ) (hg : g < w.heap.size) (hy : isS ts [100, 111] σ = true) :
    Calls Tryz.prog 20 #[.pointer (some ⟨gp, 0, none⟩), .int .i64 (d : Int)] w (RNP w gp g n cp ts L (D + 1) (rndK ts sub 9 (σ.1 + 1, σ.2))) := by
  have he := isS_ok hy
  show Calls _ _ _ _ (RNP w gp g n cp ts L (D + 1) (.mk 9 0 0 (naV ts (σ.1 + 1, σ.2)) x0 [] [], exS ts [59] (naS ts (σ.1 + 1, σ.2))))
  have hgp := h.lt
  obtain ⟨W0, hW0⟩ : ∃ W, (w.alloc (.cells #[.int .i64 0, .int .i64 0, .int .i64 0, .string ⟨#[]⟩, .int .i64 0, .int .i64 0, .string ⟨#[]⟩, .slice none 0 0, .slice none 0 0, .slice none 0 0] 62)).alloc (.cells #[.int .i64 0, .int .i64 0, .int .i64 0, .string ⟨#[]⟩, .int .i64 0, .int .i64 0, .string ⟨#[]⟩, .slice none 0 0, .slice none 0 0, .slice none 0 0] 62) = W := ⟨_, rfl⟩
  have hN0 := NS5.start h hW0
  obtain ⟨W1, hW1⟩ : ∃ W, W0.alloc (.cells #[.string ⟨#[115, 101, 113]⟩, .string ⟨#[115, 101, 108]⟩, .string ⟨#[109, 115, 101, 113]⟩, .string ⟨#[109, 115, 101, 108]⟩, .string ⟨#[112, 97, 114]⟩] 9) = W := ⟨_, rfl⟩
  have t1 : Touch NoB W0 W1 := by rw [← hW1]; exact (Touch.refl _ _).alloc _
  have hN1 := hN0.quiet hgp t1
  have hwd : WdAt W1 W0.heap.size 5 manyW := words_at (by rw [← hW1]; exact alloc_blk _ _ _ rfl) rfl (by decide) rfl
  have hee : ((σ.2 : Int) != 0) = false := by rw [he]; rfl
  have hdd : decide ((40 : Int) < (d : Int)) = false := by simp; omega
  obtain ⟨c1, c2, cl⟩ := hN0.rt.cells
  have HN1 := Lib.hid (And.intro hN1 hwd)
  have HW1 := Lib.hid hwd
  have hsum : IntKind.i64.wrap ((d : Int) + 1) = (d1 : Int) := by rw [show (d : Int) + 1 = (d1 : Int) from by omega]; exact IntWalk.i64_in _ (by omega)
  clear h hN0 t1 hN1 hwd he
  go_enter Tryz.func20, Tryz.ntmps20
  go_wp2
  go_loopw [7] (fun v wr => NlRel w gp g n cp ts L σ W1 5 v wr) (fun v _ => 6 - (intOf v).toNat)
  case atStart => exact ⟨0, Nat.zero_le _, rfl, HN1.out.1, Touch.refl _ _⟩
  case round =>
    obtain ⟨i, hi, rfl, hN, hT⟩ := hrel
    have hwdr := wd_touch HN1.out.2 hT
    have HNr := Lib.hid hN
    have hNl := hN.lt
    have hwl := hwdr.2.1
    by_cases hlt : i < 5
    · obtain ⟨s, hs⟩ : ∃ s, manyW[i]? = some s := ⟨manyW[i]'(by have : manyW.length = 5 := rfl; omega), List.getElem?_eq_getElem _⟩
      have hcell := hwdr.2.2 i s hs
      have hno : isS ts s σ = false := isS_other hy ((by decide : ∀ q ∈ manyW, q ≠ [100, 111]) s (List.mem_of_getElem? hs))
      have HC := Lib.hid (t_no hN.rt s hno)
      have HT := Lib.hid hT
      obtain ⟨sx, hsx⟩ : ∃ sx, bs s = sx := ⟨_, rfl⟩
      rw [hsx] at hcell HC
      have hi5 : (i : Int) < 5 := by omega
      clear hN hT hwdr hs hno hsx
      go_wp2_with fail
      refine HC.out.mono ?_
      rintro x w2 ⟨rfl, hr2, ht2⟩
      have HE := Lib.hid (And.intro (HNr.out.quiet hgp ht2) (HT.out.same ht2))
      clear hr2 ht2
      go_wp2
      go_roundw
      case rel => exact ⟨i + 1, by omega, by go_num, HE.out.1, HE.out.2⟩
      case measure => simp [intOf]; omega
    · obtain rfl : i = 5 := by omega
      clear hwdr
      have HS := Lib.hid HNr.out
      clear hN hT HNr
      have HC := Lib.hid (t_no HS.out.rt [110, 111, 116] (isS_other hy (by decide)))
      go_wp2_with fail
      refine HC.out.mono ?_
      rintro x w21 ⟨rfl, -, ht⟩
      have hn := HS.out.quiet hgp ht
      clear HS
      have HS := Lib.hid hn
      have hNl := hn.lt
      clear ht hn HC
      have HC := Lib.hid (t_no HS.out.rt [114, 101, 112, 101, 97, 116] (isS_other hy (by decide)))
      go_wp2_with fail
      refine HC.out.mono ?_
      rintro x w22 ⟨rfl, -, ht⟩
      have hn := HS.out.quiet hgp ht
      clear HS
      have HS := Lib.hid hn
      have hNl := hn.lt
      clear ht hn HC
      have HC := Lib.hid (t_no HS.out.rt [112, 105, 99, 107] (isS_other hy (by decide)))
      go_wp2_with fail
      refine HC.out.mono ?_
      rintro x w23 ⟨rfl, -, ht⟩
      have hn := HS.out.quiet hgp ht
      clear HS
      have HS := Lib.hid hn
      have hNl := hn.lt
      clear ht hn HC
      have HC := Lib.hid (t_no HS.out.rt [105, 102] (isS_other hy (by decide)))
      go_wp2_with fail
      refine HC.out.mono ?_
      rintro x w24 ⟨rfl, -, ht⟩
      have hn := HS.out.quiet hgp ht
      clear HS
      have HS := Lib.hid hn
      have hNl := hn.lt
      clear ht hn HC
      have HC := Lib.hid (t_no HS.out.rt [115, 101, 116] (isS_other hy (by decide)))
      go_wp2_with fail
      refine HC.out.mono ?_
      rintro x w25 ⟨rfl, -, ht⟩
      have hn := HS.out.quiet hgp ht
      clear HS
      have HS := Lib.hid hn
      have hNl := hn.lt
      clear ht hn HC
      have HC := Lib.hid (t_yes HS.out.rt [100, 111] hy)
      go_wp2_with fail
      refine HC.out.mono ?_
      rintro x w26 ⟨rfl, hr, ht⟩
      have hn := HS.out.call hgp hr ht
      clear HS
      have HS := Lib.hid hn
      clear hr ht hn HC
      obtain ⟨q0, q1, q2, q3, q4, q5, q6, q7, q8, q9, ql⟩ := nd_cells HS.out.h5
      have f0 := HS.out.free 0
      have f1 := HS.out.free 1
      have f2 := HS.out.free 2
      have f3 := HS.out.free 3
      have f4 := HS.out.free 4
      have f5 := HS.out.free 5
      have f6 := HS.out.free 6
      have f7 := HS.out.free 7
      have f8 := HS.out.free 8
      have f9 := HS.out.free 9
      obtain ⟨w27, hw27⟩ : ∃ W, w26.setCell ⟨w.heap.size + 1, 0, none⟩ (.int .i64 9) = W := ⟨_, rfl⟩
      have hn := HS.out.set hgp hg 0 (.int .i64 9) (us := [.int .i64 9, .int .i64 0, .int .i64 0, .string ⟨#[]⟩, .int .i64 0, .int .i64 0, .string ⟨#[]⟩, .slice none 0 0, .slice none 0 0, .slice none 0 0]) rfl
      rw [hw27] at hn
      clear HS
      have HS := Lib.hid hn
      clear hn
      have HC := Lib.hid (t_name HS.out.rt)
      go_wp2_with fail
      refine HC.out.mono ?_
      rintro x w28 ⟨rfl, hr, ht⟩
      have hn := HS.out.call hgp hr ht
      clear HS
      have HS := Lib.hid hn
      clear hr ht hn HC
      try clear q0 q1 q2 q3 q4 q5 q6 q7 q8 q9 ql f0 f1 f2 f3 f4 f5 f6 f7 f8 f9
      obtain ⟨q0, q1, q2, q3, q4, q5, q6, q7, q8, q9, ql⟩ := nd_cells HS.out.h5
      have f0 := HS.out.free 0
      have f1 := HS.out.free 1
      have f2 := HS.out.free 2
      have f3 := HS.out.free 3
      have f4 := HS.out.free 4
      have f5 := HS.out.free 5
      have f6 := HS.out.free 6
      have f7 := HS.out.free 7
      have f8 := HS.out.free 8
      have f9 := HS.out.free 9
      obtain ⟨w29, hw29⟩ : ∃ W, w28.setCell ⟨w.heap.size + 1, 3, none⟩ (.string (bs (naV ts (σ.1 + 1, σ.2)))) = W := ⟨_, rfl⟩
      have hn := HS.out.set hgp hg 3 (.string (bs (naV ts (σ.1 + 1, σ.2)))) (us := [.int .i64 9, .int .i64 0, .int .i64 0, .string (bs (naV ts (σ.1 + 1, σ.2))), .int .i64 0, .int .i64 0, .string ⟨#[]⟩, .slice none 0 0, .slice none 0 0, .slice none 0 0]) rfl
      rw [hw29] at hn
      clear HS
      have HS := Lib.hid hn
      clear hn
      have HC := Lib.hid (t_want HS.out.rt [59])
      go_wp2_with fail
      refine HC.out.mono ?_
      rintro x w30 ⟨rfl, hr, ht⟩
      have hn := HS.out.call hgp hr ht
      clear HS
      have HS := Lib.hid hn
      have HTL := Lib.hid (show Touch (F3 gp w) w29 w30 from ht.mono (fun k hk => .inl hk))
      clear hr ht hn HC
      try clear q0 q1 q2 q3 q4 q5 q6 q7 q8 q9 ql f0 f1 f2 f3 f4 f5 f6 f7 f8 f9
      obtain ⟨hld, W9, hst, hra, hr9, ht9, ht3⟩ := HS.out.fin hgp hg rfl (by intro v hv; simp only [List.mem_cons, List.not_mem_nil, or_false] at hv; rcases hv with rfl | rfl | rfl | rfl | rfl | rfl | rfl | rfl | rfl | rfl <;> rfl)
      obtain ⟨y0, y1, y2, y3, y4, y5, y6, y7, y8, y9⟩ := range_cells hra
      have HZ := Lib.hid (And.intro hr9 (And.intro ht9 ht3))
      have hNl := HS.out.lt
      clear hra hr9 ht9 ht3
      go_wp2
      exact bodyPost_ret (v := .agg #[.int .i64 9, .int .i64 0, .int .i64 0, .string (bs (naV ts (σ.1 + 1, σ.2))), .int .i64 0, .int .i64 0, .string ⟨#[]⟩, .slice none 0 0, .slice none 0 0, .slice none 0 0]) (by simp [results, Tryz.results20, go_sem, y0, y1, y2, y3, y4, y5, y6, y7, y8, y9]) rfl
        ⟨HZ.out.2.1, HZ.out.1, .mk 9 0 0 (naV ts (σ.1 + 1, σ.2)) x0 [] [], 0, 0, ⟨#[]⟩, none, 0, 0, none, 0, none, 0, rfl, nt_leaf (et_zero _ _), fun _ => rfl⟩
theorem rnode_10 {gp g n cp L d d1 D : Nat} {ts : List Tk} {sub : St → Nd × St} (hd1 : d1 = d + 1) (hds : d ≤ 40) {w : World} {σ : St} (h : RT w gp g n cp ts L σ) (hg : g < w.heap.size) (hy : isS ts [117, 115, 101] σ = true) :
    Calls Tryz.prog 20 #[.pointer (some ⟨gp, 0, none⟩), .int .i64 (d : Int)] w (RNP w gp g n cp ts L (D + 1) (rndK ts sub 10 (σ.1 + 1, σ.2))) := by
  have he := isS_ok hy
  show Calls _ _ _ _ (RNP w gp g n cp ts L (D + 1) (.mk 10 0 0 (naV ts (σ.1 + 1, σ.2)) x0 [] [], exS ts [59] (naS ts (σ.1 + 1, σ.2))))
  have hgp := h.lt
  obtain ⟨W0, hW0⟩ : ∃ W, (w.alloc (.cells #[.int .i64 0, .int .i64 0, .int .i64 0, .string ⟨#[]⟩, .int .i64 0, .int .i64 0, .string ⟨#[]⟩, .slice none 0 0, .slice none 0 0, .slice none 0 0] 62)).alloc (.cells #[.int .i64 0, .int .i64 0, .int .i64 0, .string ⟨#[]⟩, .int .i64 0, .int .i64 0, .string ⟨#[]⟩, .slice none 0 0, .slice none 0 0, .slice none 0 0] 62) = W := ⟨_, rfl⟩
  have hN0 := NS5.start h hW0
  obtain ⟨W1, hW1⟩ : ∃ W, W0.alloc (.cells #[.string ⟨#[115, 101, 113]⟩, .string ⟨#[115, 101, 108]⟩, .string ⟨#[109, 115, 101, 113]⟩, .string ⟨#[109, 115, 101, 108]⟩, .string ⟨#[112, 97, 114]⟩] 9) = W := ⟨_, rfl⟩
  have t1 : Touch NoB W0 W1 := by rw [← hW1]; exact (Touch.refl _ _).alloc _
  have hN1 := hN0.quiet hgp t1
  have hwd : WdAt W1 W0.heap.size 5 manyW := words_at (by rw [← hW1]; exact alloc_blk _ _ _ rfl) rfl (by decide) rfl
  have hee : ((σ.2 : Int) != 0) = false := by rw [he]; rfl
  have hdd : decide ((40 : Int) < (d : Int)) = false := by simp; omega
  obtain ⟨c1, c2, cl⟩ := hN0.rt.cells
  have HN1 := Lib.hid (And.intro hN1 hwd)
  have HW1 := Lib.hid hwd
  have hsum : IntKind.i64.wrap ((d : Int) + 1) = (d1 : Int) := by rw [show (d : Int) + 1 = (d1 : Int) from by omega]; exact IntWalk.i64_in _ (by omega)
  clear h hN0 t1 hN1 hwd he
  go_enter Tryz.func20, Tryz.ntmps20
  go_wp2
  go_loopw [7] (fun v wr => NlRel w gp g n cp ts L σ W1 5 v wr) (fun v _ => 6 - (intOf v).toNat)
  case atStart => exact ⟨0, Nat.zero_le _, rfl, HN1.out.1, Touch.refl _ _⟩
  case round =>
    obtain ⟨i, hi, rfl, hN, hT⟩ := hrel
    have hwdr := wd_touch HN1.out.2 hT
    have HNr := Lib.hid hN
    have hNl := hN.lt
    have hwl := hwdr.2.1
    by_cases hlt : i < 5
    · obtain ⟨s, hs⟩ : ∃ s, manyW[i]? = some s := ⟨manyW[i]'(by have : manyW.length = 5 := rfl; omega), List.getElem?_eq_getElem _⟩
      have hcell := hwdr.2.2 i s hs
      have hno : isS ts s σ = false := isS_other hy ((by decide : ∀ q ∈ manyW, q ≠ [117, 115, 101]) s (List.mem_of_getElem? hs))
      have HC := Lib.hid (t_no hN.rt s hno)
      have HT := Lib.hid hT
      obtain ⟨sx, hsx⟩ : ∃ sx, bs s = sx := ⟨_, rfl⟩
      rw [hsx] at hcell HC
      have hi5 : (i : Int) < 5 := by omega
      clear hN hT hwdr hs hno hsx
      go_wp2_with fail
      refine HC.out.mono ?_
      rintro x w2 ⟨rfl, hr2, ht2⟩
      have HE := Lib.hid (And.intro (HNr.out.quiet hgp ht2) (HT.out.same ht2))
      clear hr2 ht2
      go_wp2
      go_roundw
      case rel => exact ⟨i + 1, by omega, by go_num, HE.out.1, HE.out.2⟩
      case measure => simp [intOf]; omega
    · obtain rfl : i = 5 := by omega
      clear hwdr
      have HS := Lib.hid HNr.out
      clear hN hT HNr
      have HC := Lib.hid (t_no HS.out.rt [110, 111, 116] (isS_other hy (by decide)))
      go_wp2_with fail
      refine HC.out.mono ?_
      rintro x w21 ⟨rfl, -, ht⟩
      have hn := HS.out.quiet hgp ht
      clear HS
      have HS := Lib.hid hn
      have hNl := hn.lt
      clear ht hn HC
      have HC := Lib.hid (t_no HS.out.rt [114, 101, 112, 101, 97, 116] (isS_other hy (by decide)))
      go_wp2_with fail
      refine HC.out.mono ?_
      rintro x w22 ⟨rfl, -, ht⟩
      have hn := HS.out.quiet hgp ht
      clear HS
      have HS := Lib.hid hn
      have hNl := hn.lt
      clear ht hn HC
      have HC := Lib.hid (t_no HS.out.rt [112, 105, 99, 107] (isS_other hy (by decide)))
      go_wp2_with fail
      refine HC.out.mono ?_
      rintro x w23 ⟨rfl, -, ht⟩
      have hn := HS.out.quiet hgp ht
      clear HS
      have HS := Lib.hid hn
      have hNl := hn.lt
      clear ht hn HC
      have HC := Lib.hid (t_no HS.out.rt [105, 102] (isS_other hy (by decide)))
      go_wp2_with fail
      refine HC.out.mono ?_
      rintro x w24 ⟨rfl, -, ht⟩
      have hn := HS.out.quiet hgp ht
      clear HS
      have HS := Lib.hid hn
      have hNl := hn.lt
      clear ht hn HC
      have HC := Lib.hid (t_no HS.out.rt [115, 101, 116] (isS_other hy (by decide)))
      go_wp2_with fail
      refine HC.out.mono ?_
      rintro x w25 ⟨rfl, -, ht⟩
      have hn := HS.out.quiet hgp ht
      clear HS
      have HS := Lib.hid hn
      have hNl := hn.lt
      clear ht hn HC
      have HC := Lib.hid (t_no HS.out.rt [100, 111] (isS_other hy (by decide)))
      go_wp2_with fail
      refine HC.out.mono ?_
      rintro x w26 ⟨rfl, -, ht⟩
      have hn := HS.out.quiet hgp ht
      clear HS
      have HS := Lib.hid hn
      have hNl := hn.lt
      clear ht hn HC
      have HC := Lib.hid (t_yes HS.out.rt [117, 115, 101] hy)
      go_wp2_with fail
      refine HC.out.mono ?_
      rintro x w27 ⟨rfl, hr, ht⟩
      have hn := HS.out.call hgp hr ht
      clear HS
      have HS := Lib.hid hn
      clear hr ht hn HC
      obtain ⟨q0, q1, q2, q3, q4, q5, q6, q7, q8, q9, ql⟩ := nd_cells HS.out.h5
      have f0 := HS.out.free 0
      have f1 := HS.out.free 1
      have f2 := HS.out.free 2
      have f3 := HS.out.free 3
      have f4 := HS.out.free 4
      have f5 := HS.out.free 5
      have f6 := HS.out.free 6
      have f7 := HS.out.free 7
      have f8 := HS.out.free 8
      have f9 := HS.out.free 9
      obtain ⟨w28, hw28⟩ : ∃ W, w27.setCell ⟨w.heap.size + 1, 0, none⟩ (.int .i64 10) = W := ⟨_, rfl⟩
      have hn := HS.out.set hgp hg 0 (.int .i64 10) (us := [.int .i64 10, .int .i64 0, .int .i64 0, .string ⟨#[]⟩, .int .i64 0, .int .i64 0, .string ⟨#[]⟩, .slice none 0 0, .slice none 0 0, .slice none 0 0]) rfl
      rw [hw28] at hn
      clear HS
      have HS := Lib.hid hn
      clear hn
      have HC := Lib.hid (t_name HS.out.rt)
      go_wp2_with fail
      refine HC.out.mono ?_
      rintro x w29 ⟨rfl, hr, ht⟩
      have hn := HS.out.call hgp hr ht
      clear HS
      have HS := Lib.hid hn
      clear hr ht hn HC
      try clear q0 q1 q2 q3 q4 q5 q6 q7 q8 q9 ql f0 f1 f2 f3 f4 f5 f6 f7 f8 f9
      obtain ⟨q0, q1, q2, q3, q4, q5, q6, q7, q8, q9, ql⟩ := nd_cells HS.out.h5
      have f0 := HS.out.free 0
      have f1 := HS.out.free 1
      have f2 := HS.out.free 2
      have f3 := HS.out.free 3
      have f4 := HS.out.free 4
      have f5 := HS.out.free 5
      have f6 := HS.out.free 6
      have f7 := HS.out.free 7
      have f8 := HS.out.free 8
      have f9 := HS.out.free 9
      obtain ⟨w30, hw30⟩ : ∃ W, w29.setCell ⟨w.heap.size + 1, 3, none⟩ (.string (bs (naV ts (σ.1 + 1, σ.2)))) = W := ⟨_, rfl⟩
      have hn := HS.out.set hgp hg 3 (.string (bs (naV ts (σ.1 + 1, σ.2)))) (us := [.int .i64 10, .int .i64 0, .int .i64 0, .string (bs (naV ts (σ.1 + 1, σ.2))), .int .i64 0, .int .i64 0, .string ⟨#[]⟩, .slice none 0 0, .slice none 0 0, .slice none 0 0]) rfl
      rw [hw30] at hn
      clear HS
      have HS := Lib.hid hn
      clear hn
      have HC := Lib.hid (t_want HS.out.rt [59])
      go_wp2_with fail
      refine HC.out.mono ?_
      rintro x w31 ⟨rfl, hr, ht⟩
      have hn := HS.out.call hgp hr ht
      clear HS
      have HS := Lib.hid hn
      have HTL := Lib.hid (show Touch (F3 gp w) w30 w31 from ht.mono (fun k hk => .inl hk))
      clear hr ht hn HC
      try clear q0 q1 q2 q3 q4 q5 q6 q7 q8 q9 ql f0 f1 f2 f3 f4 f5 f6 f7 f8 f9
      obtain ⟨hld, W9, hst, hra, hr9, ht9, ht3⟩ := HS.out.fin hgp hg rfl (by intro v hv; simp only [List.mem_cons, List.not_mem_nil, or_false] at hv; rcases hv with rfl | rfl | rfl | rfl | rfl | rfl | rfl | rfl | rfl | rfl <;> rfl)
      obtain ⟨y0, y1, y2, y3, y4, y5, y6, y7, y8, y9⟩ := range_cells hra
      have HZ := Lib.hid (And.intro hr9 (And.intro ht9 ht3))
      have hNl := HS.out.lt
      clear hra hr9 ht9 ht3
      go_wp2
      exact bodyPost_ret (v := .agg #[.int .i64 10, .int .i64 0, .int .i64 0, .string (bs (naV ts (σ.1 + 1, σ.2))), .int .i64 0, .int .i64 0, .string ⟨#[]⟩, .slice none 0 0, .slice none 0 0, .slice none 0 0]) (by simp [results, Tryz.results20, go_sem, y0, y1, y2, y3, y4, y5, y6, y7, y8, y9]) rfl
        ⟨HZ.out.2.1, HZ.out.1, .mk 10 0 0 (naV ts (σ.1 + 1, σ.2)) x0 [] [], 0, 0, ⟨#[]⟩, none, 0, 0, none, 0, none, 0, rfl, nt_leaf (et_zero _ _), fun _ => rfl⟩
theorem rnode_12 {gp g n cp L d d1 D : Nat} {ts : List Tk} {sub : St → Nd × St} (hd1 : d1 = d + 1) (hds : d ≤ 40) {w : World} {σ : St} (h : RT w gp g n cp ts L σ) (hg : g < w.heap.size) (hy : isS ts [112, 108, 97, 110] σ = true) :
    Calls Tryz.prog 20 #[.pointer (some ⟨gp, 0, none⟩), .int .i64 (d : Int)] w (RNP w gp g n cp ts L (D + 1) (rndK ts sub 12 (σ.1 + 1, σ.2))) := by
  have he := isS_ok hy
  show Calls _ _ _ _ (RNP w gp g n cp ts L (D + 1) (.mk 12 0 0 (naV ts (σ.1 + 1, σ.2)) x0 [] [], exS ts [59] (naS ts (σ.1 + 1, σ.2))))
  have hgp := h.lt
  obtain ⟨W0, hW0⟩ : ∃ W, (w.alloc (.cells #[.int .i64 0, .int .i64 0, .int .i64 0, .string ⟨#[]⟩, .int .i64 0, .int .i64 0, .string ⟨#[]⟩, .slice none 0 0, .slice none 0 0, .slice none 0 0] 62)).alloc (.cells #[.int .i64 0, .int .i64 0, .int .i64 0, .string ⟨#[]⟩, .int .i64 0, .int .i64 0, .string ⟨#[]⟩, .slice none 0 0, .slice none 0 0, .slice none 0 0] 62) = W := ⟨_, rfl⟩
  have hN0 := NS5.start h hW0
  obtain ⟨W1, hW1⟩ : ∃ W, W0.alloc (.cells #[.string ⟨#[115, 101, 113]⟩, .string ⟨#[115, 101, 108]⟩, .string ⟨#[109, 115, 101, 113]⟩, .string ⟨#[109, 115, 101, 108]⟩, .string ⟨#[112, 97, 114]⟩] 9) = W := ⟨_, rfl⟩
  have t1 : Touch NoB W0 W1 := by rw [← hW1]; exact (Touch.refl _ _).alloc _
  have hN1 := hN0.quiet hgp t1
  have hwd : WdAt W1 W0.heap.size 5 manyW := words_at (by rw [← hW1]; exact alloc_blk _ _ _ rfl) rfl (by decide) rfl
  have hee : ((σ.2 : Int) != 0) = false := by rw [he]; rfl
  have hdd : decide ((40 : Int) < (d : Int)) = false := by simp; omega
  obtain ⟨c1, c2, cl⟩ := hN0.rt.cells
  have HN1 := Lib.hid (And.intro hN1 hwd)
  have HW1 := Lib.hid hwd
  have hsum : IntKind.i64.wrap ((d : Int) + 1) = (d1 : Int) := by rw [show (d : Int) + 1 = (d1 : Int) from by omega]; exact IntWalk.i64_in _ (by omega)
  clear h hN0 t1 hN1 hwd he
  go_enter Tryz.func20, Tryz.ntmps20
  go_wp2
  go_loopw [7] (fun v wr => NlRel w gp g n cp ts L σ W1 5 v wr) (fun v _ => 6 - (intOf v).toNat)
  case atStart => exact ⟨0, Nat.zero_le _, rfl, HN1.out.1, Touch.refl _ _⟩
  case round =>
    obtain ⟨i, hi, rfl, hN, hT⟩ := hrel
    have hwdr := wd_touch HN1.out.2 hT
    have HNr := Lib.hid hN
    have hNl := hN.lt
    have hwl := hwdr.2.1
    by_cases hlt : i < 5
    · obtain ⟨s, hs⟩ : ∃ s, manyW[i]? = some s := ⟨manyW[i]'(by have : manyW.length = 5 := rfl; omega), List.getElem?_eq_getElem _⟩
      have hcell := hwdr.2.2 i s hs
      have hno : isS ts s σ = false := isS_other hy ((by decide : ∀ q ∈ manyW, q ≠ [112, 108, 97, 110]) s (List.mem_of_getElem? hs))
      have HC := Lib.hid (t_no hN.rt s hno)
      have HT := Lib.hid hT
      obtain ⟨sx, hsx⟩ : ∃ sx, bs s = sx := ⟨_, rfl⟩
      rw [hsx] at hcell HC
      have hi5 : (i : Int) < 5 := by omega
      clear hN hT hwdr hs hno hsx
      go_wp2_with fail
      refine HC.out.mono ?_
      rintro x w2 ⟨rfl, hr2, ht2⟩
      have HE := Lib.hid (And.intro (HNr.out.quiet hgp ht2) (HT.out.same ht2))
      clear hr2 ht2
      go_wp2
      go_roundw
      case rel => exact ⟨i + 1, by omega, by go_num, HE.out.1, HE.out.2⟩
      case measure => simp [intOf]; omega
    · obtain rfl : i = 5 := by omega
      clear hwdr
      have HS := Lib.hid HNr.out
      clear hN hT HNr
      have HC := Lib.hid (t_no HS.out.rt [110, 111, 116] (isS_other hy (by decide)))
      go_wp2_with fail
      refine HC.out.mono ?_
      rintro x w21 ⟨rfl, -, ht⟩
      have hn := HS.out.quiet hgp ht
      clear HS
      have HS := Lib.hid hn
      have hNl := hn.lt
      clear ht hn HC
      have HC := Lib.hid (t_no HS.out.rt [114, 101, 112, 101, 97, 116] (isS_other hy (by decide)))
      go_wp2_with fail
      refine HC.out.mono ?_
      rintro x w22 ⟨rfl, -, ht⟩
      have hn := HS.out.quiet hgp ht
      clear HS
      have HS := Lib.hid hn
      have hNl := hn.lt
      clear ht hn HC
      have HC := Lib.hid (t_no HS.out.rt [112, 105, 99, 107] (isS_other hy (by decide)))
      go_wp2_with fail
      refine HC.out.mono ?_
      rintro x w23 ⟨rfl, -, ht⟩
      have hn := HS.out.quiet hgp ht
      clear HS
      have HS := Lib.hid hn
      have hNl := hn.lt
      clear ht hn HC
      have HC := Lib.hid (t_no HS.out.rt [105, 102] (isS_other hy (by decide)))
      go_wp2_with fail
      refine HC.out.mono ?_
      rintro x w24 ⟨rfl, -, ht⟩
      have hn := HS.out.quiet hgp ht
      clear HS
      have HS := Lib.hid hn
      have hNl := hn.lt
      clear ht hn HC
      have HC := Lib.hid (t_no HS.out.rt [115, 101, 116] (isS_other hy (by decide)))
      go_wp2_with fail
      refine HC.out.mono ?_
      rintro x w25 ⟨rfl, -, ht⟩
      have hn := HS.out.quiet hgp ht
      clear HS
      have HS := Lib.hid hn
      have hNl := hn.lt
      clear ht hn HC
      have HC := Lib.hid (t_no HS.out.rt [100, 111] (isS_other hy (by decide)))
      go_wp2_with fail
      refine HC.out.mono ?_
      rintro x w26 ⟨rfl, -, ht⟩
      have hn := HS.out.quiet hgp ht
      clear HS
      have HS := Lib.hid hn
      have hNl := hn.lt
      clear ht hn HC
      have HC := Lib.hid (t_no HS.out.rt [117, 115, 101] (isS_other hy (by decide)))
      go_wp2_with fail
      refine HC.out.mono ?_
      rintro x w27 ⟨rfl, -, ht⟩
      have hn := HS.out.quiet hgp ht
      clear HS
      have HS := Lib.hid hn
      have hNl := hn.lt
      clear ht hn HC
      have HC := Lib.hid (t_yes HS.out.rt [112, 108, 97, 110] hy)
      go_wp2_with fail
      refine HC.out.mono ?_
      rintro x w28 ⟨rfl, hr, ht⟩
      have hn := HS.out.call hgp hr ht
      clear HS
      have HS := Lib.hid hn
      clear hr ht hn HC
      obtain ⟨q0, q1, q2, q3, q4, q5, q6, q7, q8, q9, ql⟩ := nd_cells HS.out.h5
      have f0 := HS.out.free 0
      have f1 := HS.out.free 1
      have f2 := HS.out.free 2
      have f3 := HS.out.free 3
      have f4 := HS.out.free 4
      have f5 := HS.out.free 5
      have f6 := HS.out.free 6
      have f7 := HS.out.free 7
      have f8 := HS.out.free 8
      have f9 := HS.out.free 9
      obtain ⟨w29, hw29⟩ : ∃ W, w28.setCell ⟨w.heap.size + 1, 0, none⟩ (.int .i64 12) = W := ⟨_, rfl⟩
      have hn := HS.out.set hgp hg 0 (.int .i64 12) (us := [.int .i64 12, .int .i64 0, .int .i64 0, .string ⟨#[]⟩, .int .i64 0, .int .i64 0, .string ⟨#[]⟩, .slice none 0 0, .slice none 0 0, .slice none 0 0]) rfl
      rw [hw29] at hn
      clear HS
      have HS := Lib.hid hn
      clear hn
      have HC := Lib.hid (t_name HS.out.rt)
      go_wp2_with fail
      refine HC.out.mono ?_
      rintro x w30 ⟨rfl, hr, ht⟩
      have hn := HS.out.call hgp hr ht
      clear HS
      have HS := Lib.hid hn
      clear hr ht hn HC
      try clear q0 q1 q2 q3 q4 q5 q6 q7 q8 q9 ql f0 f1 f2 f3 f4 f5 f6 f7 f8 f9
      obtain ⟨q0, q1, q2, q3, q4, q5, q6, q7, q8, q9, ql⟩ := nd_cells HS.out.h5
      have f0 := HS.out.free 0
      have f1 := HS.out.free 1
      have f2 := HS.out.free 2
      have f3 := HS.out.free 3
      have f4 := HS.out.free 4
      have f5 := HS.out.free 5
      have f6 := HS.out.free 6
      have f7 := HS.out.free 7
      have f8 := HS.out.free 8
      have f9 := HS.out.free 9
      obtain ⟨w31, hw31⟩ : ∃ W, w30.setCell ⟨w.heap.size + 1, 3, none⟩ (.string (bs (naV ts (σ.1 + 1, σ.2)))) = W := ⟨_, rfl⟩
      have hn := HS.out.set hgp hg 3 (.string (bs (naV ts (σ.1 + 1, σ.2)))) (us := [.int .i64 12, .int .i64 0, .int .i64 0, .string (bs (naV ts (σ.1 + 1, σ.2))), .int .i64 0, .int .i64 0, .string ⟨#[]⟩, .slice none 0 0, .slice none 0 0, .slice none 0 0]) rfl
      rw [hw31] at hn
      clear HS
      have HS := Lib.hid hn
      clear hn
      have HC := Lib.hid (t_want HS.out.rt [59])
      go_wp2_with fail
      refine HC.out.mono ?_
      rintro x w32 ⟨rfl, hr, ht⟩
      have hn := HS.out.call hgp hr ht
      clear HS
      have HS := Lib.hid hn
      have HTL := Lib.hid (show Touch (F3 gp w) w31 w32 from ht.mono (fun k hk => .inl hk))
      clear hr ht hn HC
      try clear q0 q1 q2 q3 q4 q5 q6 q7 q8 q9 ql f0 f1 f2 f3 f4 f5 f6 f7 f8 f9
      obtain ⟨hld, W9, hst, hra, hr9, ht9, ht3⟩ := HS.out.fin hgp hg rfl (by intro v hv; simp only [List.mem_cons, List.not_mem_nil, or_false] at hv; rcases hv with rfl | rfl | rfl | rfl | rfl | rfl | rfl | rfl | rfl | rfl <;> rfl)
      obtain ⟨y0, y1, y2, y3, y4, y5, y6, y7, y8, y9⟩ := range_cells hra
      have HZ := Lib.hid (And.intro hr9 (And.intro ht9 ht3))
      have hNl := HS.out.lt
      clear hra hr9 ht9 ht3
      go_wp2
      exact bodyPost_ret (v := .agg #[.int .i64 12, .int .i64 0, .int .i64 0, .string (bs (naV ts (σ.1 + 1, σ.2))), .int .i64 0, .int .i64 0, .string ⟨#[]⟩, .slice none 0 0, .slice none 0 0, .slice none 0 0]) (by simp [results, Tryz.results20, go_sem, y0, y1, y2, y3, y4, y5, y6, y7, y8, y9]) rfl
        ⟨HZ.out.2.1, HZ.out.1, .mk 12 0 0 (naV ts (σ.1 + 1, σ.2)) x0 [] [], 0, 0, ⟨#[]⟩, none, 0, 0, none, 0, none, 0, rfl, nt_leaf (et_zero _ _), fun _ => rfl⟩
theorem rnode_7 {gp g n cp L d d1 D : Nat} {ts : List Tk} {sub : St → Nd × St} (hnk : NumsOk ts) (hd1 : d1 = d + 1) (hds : d ≤ 40) {w : World} {σ : St} (h : RT w gp g n cp ts L σ) (hg : g < w.heap.size) (hy : isS ts [105, 102] σ = true) :
    Calls Tryz.prog 20 #[.pointer (some ⟨gp, 0, none⟩), .int .i64 (d : Int)] w (RNP w gp g n cp ts L (D + 1) (rndK ts sub 7 (σ.1 + 1, σ.2))) := by
  have he := isS_ok hy
  show Calls _ _ _ _ (RNP w gp g n cp ts L (D + 1) (.mk 7 0 0 [] (eqV ts (σ.1 + 1, σ.2)) [] [], exS ts [59] (eqS ts (σ.1 + 1, σ.2))))
  have hgp := h.lt
  obtain ⟨W0, hW0⟩ : ∃ W, (w.alloc (.cells #[.int .i64 0, .int .i64 0, .int .i64 0, .string ⟨#[]⟩, .int .i64 0, .int .i64 0, .string ⟨#[]⟩, .slice none 0 0, .slice none 0 0, .slice none 0 0] 62)).alloc (.cells #[.int .i64 0, .int .i64 0, .int .i64 0, .string ⟨#[]⟩, .int .i64 0, .int .i64 0, .string ⟨#[]⟩, .slice none 0 0, .slice none 0 0, .slice none 0 0] 62) = W := ⟨_, rfl⟩
  have hN0 := NS5.start h hW0
  obtain ⟨W1, hW1⟩ : ∃ W, W0.alloc (.cells #[.string ⟨#[115, 101, 113]⟩, .string ⟨#[115, 101, 108]⟩, .string ⟨#[109, 115, 101, 113]⟩, .string ⟨#[109, 115, 101, 108]⟩, .string ⟨#[112, 97, 114]⟩] 9) = W := ⟨_, rfl⟩
  have t1 : Touch NoB W0 W1 := by rw [← hW1]; exact (Touch.refl _ _).alloc _
  have hN1 := hN0.quiet hgp t1
  have hwd : WdAt W1 W0.heap.size 5 manyW := words_at (by rw [← hW1]; exact alloc_blk _ _ _ rfl) rfl (by decide) rfl
  have hee : ((σ.2 : Int) != 0) = false := by rw [he]; rfl
  have hdd : decide ((40 : Int) < (d : Int)) = false := by simp; omega
  obtain ⟨c1, c2, cl⟩ := hN0.rt.cells
  have HN1 := Lib.hid (And.intro hN1 hwd)
  have HW1 := Lib.hid hwd
  have hsum : IntKind.i64.wrap ((d : Int) + 1) = (d1 : Int) := by rw [show (d : Int) + 1 = (d1 : Int) from by omega]; exact IntWalk.i64_in _ (by omega)
  clear h hN0 t1 hN1 hwd he
  go_enter Tryz.func20, Tryz.ntmps20
  go_wp2
  go_loopw [7] (fun v wr => NlRel w gp g n cp ts L σ W1 5 v wr) (fun v _ => 6 - (intOf v).toNat)
  case atStart => exact ⟨0, Nat.zero_le _, rfl, HN1.out.1, Touch.refl _ _⟩
  case round =>
    obtain ⟨i, hi, rfl, hN, hT⟩ := hrel
    have hwdr := wd_touch HN1.out.2 hT
    have HNr := Lib.hid hN
    have hNl := hN.lt
    have hwl := hwdr.2.1
    by_cases hlt : i < 5
    · obtain ⟨s, hs⟩ : ∃ s, manyW[i]? = some s := ⟨manyW[i]'(by have : manyW.length = 5 := rfl; omega), List.getElem?_eq_getElem _⟩
      have hcell := hwdr.2.2 i s hs
      have hno : isS ts s σ = false := isS_other hy ((by decide : ∀ q ∈ manyW, q ≠ [105, 102]) s (List.mem_of_getElem? hs))
      have HC := Lib.hid (t_no hN.rt s hno)
      have HT := Lib.hid hT
      obtain ⟨sx, hsx⟩ : ∃ sx, bs s = sx := ⟨_, rfl⟩
      rw [hsx] at hcell HC
      have hi5 : (i : Int) < 5 := by omega
      clear hN hT hwdr hs hno hsx
      go_wp2_with fail
      refine HC.out.mono ?_
      rintro x w2 ⟨rfl, hr2, ht2⟩
      have HE := Lib.hid (And.intro (HNr.out.quiet hgp ht2) (HT.out.same ht2))
      clear hr2 ht2
      go_wp2
      go_roundw
      case rel => exact ⟨i + 1, by omega, by go_num, HE.out.1, HE.out.2⟩
      case measure => simp [intOf]; omega
    · obtain rfl : i = 5 := by omega
      clear hwdr
      have HS := Lib.hid HNr.out
      clear hN hT HNr
      have HC := Lib.hid (t_no HS.out.rt [110, 111, 116] (isS_other hy (by decide)))
      go_wp2_with fail
      refine HC.out.mono ?_
      rintro x w21 ⟨rfl, -, ht⟩
      have hn := HS.out.quiet hgp ht
      clear HS
      have HS := Lib.hid hn
      have hNl := hn.lt
      clear ht hn HC
      have HC := Lib.hid (t_no HS.out.rt [114, 101, 112, 101, 97, 116] (isS_other hy (by decide)))
      go_wp2_with fail
      refine HC.out.mono ?_
      rintro x w22 ⟨rfl, -, ht⟩
      have hn := HS.out.quiet hgp ht
      clear HS
      have HS := Lib.hid hn
      have hNl := hn.lt
      clear ht hn HC
      have HC := Lib.hid (t_no HS.out.rt [112, 105, 99, 107] (isS_other hy (by decide)))
      go_wp2_with fail
      refine HC.out.mono ?_
      rintro x w23 ⟨rfl, -, ht⟩
      have hn := HS.out.quiet hgp ht
      clear HS
      have HS := Lib.hid hn
      have hNl := hn.lt
      clear ht hn HC
      have HC := Lib.hid (t_yes HS.out.rt [105, 102] hy)
      go_wp2_with fail
      refine HC.out.mono ?_
      rintro x w24 ⟨rfl, hr, ht⟩
      have hn := HS.out.call hgp hr ht
      clear HS
      have HS := Lib.hid hn
      clear hr ht hn HC
      obtain ⟨q0, q1, q2, q3, q4, q5, q6, q7, q8, q9, ql⟩ := nd_cells HS.out.h5
      have f0 := HS.out.free 0
      have f1 := HS.out.free 1
      have f2 := HS.out.free 2
      have f3 := HS.out.free 3
      have f4 := HS.out.free 4
      have f5 := HS.out.free 5
      have f6 := HS.out.free 6
      have f7 := HS.out.free 7
      have f8 := HS.out.free 8
      have f9 := HS.out.free 9
      obtain ⟨w25, hw25⟩ : ∃ W, w24.setCell ⟨w.heap.size + 1, 0, none⟩ (.int .i64 7) = W := ⟨_, rfl⟩
      have hn := HS.out.set hgp hg 0 (.int .i64 7) (us := [.int .i64 7, .int .i64 0, .int .i64 0, .string ⟨#[]⟩, .int .i64 0, .int .i64 0, .string ⟨#[]⟩, .slice none 0 0, .slice none 0 0, .slice none 0 0]) rfl
      rw [hw25] at hn
      clear HS
      have HS := Lib.hid hn
      clear hn
      have HC := Lib.hid (t_expr hnk HS.out.rt)
      go_wp2_with fail
      refine HC.out.mono ?_
      rintro x w26 ⟨y, a0, a1, a2, B0, b0, b1, rfl, hq, hr, hyo, -, ht⟩
      have hn := HS.out.call hgp hr ht
      have hsq := HS.out.lt
      clear HS
      have HS := Lib.hid hn
      have HQ := Lib.hid (And.intro hq (And.intro hyo hsq))
      clear hr ht hn HC hq hyo hsq
      try clear q0 q1 q2 q3 q4 q5 q6 q7 q8 q9 ql f0 f1 f2 f3 f4 f5 f6 f7 f8 f9
      obtain ⟨q0, q1, q2, q3, q4, q5, q6, q7, q8, q9, ql⟩ := nd_cells HS.out.h5
      have f0 := HS.out.free 0
      have f1 := HS.out.free 1
      have f2 := HS.out.free 2
      have f3 := HS.out.free 3
      have f4 := HS.out.free 4
      have f5 := HS.out.free 5
      have f6 := HS.out.free 6
      have f7 := HS.out.free 7
      have f8 := HS.out.free 8
      have f9 := HS.out.free 9
      obtain ⟨w27, hw27⟩ : ∃ W, ((((w26).setCell ⟨w.heap.size + 1, 4, none⟩ (.int .i64 a0)).setCell ⟨w.heap.size + 1, 5, none⟩ (.int .i64 a1)).setCell ⟨w.heap.size + 1, 6, none⟩ (.string a2)).setCell ⟨w.heap.size + 1, 7, none⟩ (.slice B0 b0 b1) = W := ⟨_, rfl⟩
      have hn := ((((HS.out.set hgp hg 4 (.int .i64 a0) (us := [.int .i64 7, .int .i64 0, .int .i64 0, .string ⟨#[]⟩, .int .i64 a0, .int .i64 0, .string ⟨#[]⟩, .slice none 0 0, .slice none 0 0, .slice none 0 0]) rfl).set hgp hg 5 (.int .i64 a1) (us := [.int .i64 7, .int .i64 0, .int .i64 0, .string ⟨#[]⟩, .int .i64 a0, .int .i64 a1, .string ⟨#[]⟩, .slice none 0 0, .slice none 0 0, .slice none 0 0]) rfl).set hgp hg 6 (.string a2) (us := [.int .i64 7, .int .i64 0, .int .i64 0, .string ⟨#[]⟩, .int .i64 a0, .int .i64 a1, .string a2, .slice none 0 0, .slice none 0 0, .slice none 0 0]) rfl).set hgp hg 7 (.slice B0 b0 b1) (us := [.int .i64 7, .int .i64 0, .int .i64 0, .string ⟨#[]⟩, .int .i64 a0, .int .i64 a1, .string a2, .slice B0 b0 b1, .slice none 0 0, .slice none 0 0]) rfl)
      rw [hw27] at hn
      clear HS
      have HS := Lib.hid hn
      clear hn
      have HQ2 := Lib.hid (show Touch (F3 gp w) w26 w27 from by rw [← hw27]; exact ((((Touch.refl (F3 gp w) _).setCell (p := ⟨w.heap.size + 1, 4, none⟩) (.inl (.inr (.inr rfl))) _).setCell (p := ⟨w.heap.size + 1, 5, none⟩) (.inl (.inr (.inr rfl))) _).setCell (p := ⟨w.heap.size + 1, 6, none⟩) (.inl (.inr (.inr rfl))) _).setCell (p := ⟨w.heap.size + 1, 7, none⟩) (.inl (.inr (.inr rfl))) _)
      have HC := Lib.hid (t_want HS.out.rt [59])
      go_wp2_with fail
      refine HC.out.mono ?_
      rintro x w28 ⟨rfl, hr, ht⟩
      have hn := HS.out.call hgp hr ht
      clear HS
      have HS := Lib.hid hn
      have HTL := Lib.hid (show Touch (F3 gp w) w27 w28 from ht.mono (fun k hk => .inl hk))
      clear hr ht hn HC
      try clear q0 q1 q2 q3 q4 q5 q6 q7 q8 q9 ql f0 f1 f2 f3 f4 f5 f6 f7 f8 f9
      obtain ⟨hld, W9, hst, hra, hr9, ht9, ht3⟩ := HS.out.fin hgp hg rfl (by intro v hv; simp only [List.mem_cons, List.not_mem_nil, or_false] at hv; rcases hv with rfl | rfl | rfl | rfl | rfl | rfl | rfl | rfl | rfl | rfl <;> rfl)
      obtain ⟨y0, y1, y2, y3, y4, y5, y6, y7, y8, y9⟩ := range_cells hra
      have HZ := Lib.hid (And.intro hr9 (And.intro ht9 ht3))
      have hNl := HS.out.lt
      clear hra hr9 ht9 ht3
      go_wp2
      exact bodyPost_ret (v := .agg #[.int .i64 7, .int .i64 0, .int .i64 0, .string ⟨#[]⟩, .int .i64 a0, .int .i64 a1, .string a2, .slice B0 b0 b1, .slice none 0 0, .slice none 0 0]) (by simp [results, Tryz.results20, go_sem, y0, y1, y2, y3, y4, y5, y6, y7, y8, y9]) rfl
        ⟨HZ.out.2.1, HZ.out.1, .mk 7 0 0 [] y [] [], a0, a1, a2, B0, b0, b1, none, 0, none, 0, rfl, nt_leaf ((((HQ.out.1.via (R := fun b => w.heap.size + 2 ≤ b) (fun b hb _ => by have := HQ.out.2.2; omega)).far HQ2.out (fun b hb hf => by unfold F3 at hf; omega)).far HTL.out (fun b hb hf => by unfold F3 at hf; omega)).far HZ.out.2.2 (fun b hb hf => by unfold F3 at hf; omega) |>.via (fun b hb _ => by omega)), fun e => by rw [HQ.out.2.1 (exS_ok e)]⟩
theorem rnode_8 {gp g n cp L d d1 D : Nat} {ts : List Tk} {sub : St → Nd × St} (hnk : NumsOk ts) (hd1 : d1 = d + 1) (hds : d ≤ 40) {w : World} {σ : St} (h : RT w gp g n cp ts L σ) (hg : g < w.heap.size) (hy : isS ts [115, 101, 116] σ = true) :
    Calls Tryz.prog 20 #[.pointer (some ⟨gp, 0, none⟩), .int .i64 (d : Int)] w (RNP w gp g n cp ts L (D + 1) (rndK ts sub 8 (σ.1 + 1, σ.2))) := by
  have he := isS_ok hy
  show Calls _ _ _ _ (RNP w gp g n cp ts L (D + 1) (.mk 8 0 0 (naV ts (σ.1 + 1, σ.2)) (eqV ts (exS ts [58, 61] (naS ts (σ.1 + 1, σ.2)))) [] [], exS ts [59] (eqS ts (exS ts [58, 61] (naS ts (σ.1 + 1, σ.2))))))
  have hgp := h.lt
  obtain ⟨W0, hW0⟩ : ∃ W, (w.alloc (.cells #[.int .i64 0, .int .i64 0, .int .i64 0, .string ⟨#[]⟩, .int .i64 0, .int .i64 0, .string ⟨#[]⟩, .slice none 0 0, .slice none 0 0, .slice none 0 0] 62)).alloc (.cells #[.int .i64 0, .int .i64 0, .int .i64 0, .string ⟨#[]⟩, .int .i64 0, .int .i64 0, .string ⟨#[]⟩, .slice none 0 0, .slice none 0 0, .slice none 0 0] 62) = W := ⟨_, rfl⟩
  have hN0 := NS5.start h hW0
  obtain ⟨W1, hW1⟩ : ∃ W, W0.alloc (.cells #[.string ⟨#[115, 101, 113]⟩, .string ⟨#[115, 101, 108]⟩, .string ⟨#[109, 115, 101, 113]⟩, .string ⟨#[109, 115, 101, 108]⟩, .string ⟨#[112, 97, 114]⟩] 9) = W := ⟨_, rfl⟩
  have t1 : Touch NoB W0 W1 := by rw [← hW1]; exact (Touch.refl _ _).alloc _
  have hN1 := hN0.quiet hgp t1
  have hwd : WdAt W1 W0.heap.size 5 manyW := words_at (by rw [← hW1]; exact alloc_blk _ _ _ rfl) rfl (by decide) rfl
  have hee : ((σ.2 : Int) != 0) = false := by rw [he]; rfl
  have hdd : decide ((40 : Int) < (d : Int)) = false := by simp; omega
  obtain ⟨c1, c2, cl⟩ := hN0.rt.cells
  have HN1 := Lib.hid (And.intro hN1 hwd)
  have HW1 := Lib.hid hwd
  have hsum : IntKind.i64.wrap ((d : Int) + 1) = (d1 : Int) := by rw [show (d : Int) + 1 = (d1 : Int) from by omega]; exact IntWalk.i64_in _ (by omega)
  clear h hN0 t1 hN1 hwd he
  go_enter Tryz.func20, Tryz.ntmps20
  go_wp2
  go_loopw [7] (fun v wr => NlRel w gp g n cp ts L σ W1 5 v wr) (fun v _ => 6 - (intOf v).toNat)
  case atStart => exact ⟨0, Nat.zero_le _, rfl, HN1.out.1, Touch.refl _ _⟩
  case round =>
    obtain ⟨i, hi, rfl, hN, hT⟩ := hrel
    have hwdr := wd_touch HN1.out.2 hT
    have HNr := Lib.hid hN
    have hNl := hN.lt
    have hwl := hwdr.2.1
    by_cases hlt : i < 5
    · obtain ⟨s, hs⟩ : ∃ s, manyW[i]? = some s := ⟨manyW[i]'(by have : manyW.length = 5 := rfl; omega), List.getElem?_eq_getElem _⟩
      have hcell := hwdr.2.2 i s hs
      have hno : isS ts s σ = false := isS_other hy ((by decide : ∀ q ∈ manyW, q ≠ [115, 101, 116]) s (List.mem_of_getElem? hs))
      have HC := Lib.hid (t_no hN.rt s hno)
      have HT := Lib.hid hT
      obtain ⟨sx, hsx⟩ : ∃ sx, bs s = sx := ⟨_, rfl⟩
      rw [hsx] at hcell HC
      have hi5 : (i : Int) < 5 := by omega
      clear hN hT hwdr hs hno hsx
      go_wp2_with fail
      refine HC.out.mono ?_
      rintro x w2 ⟨rfl, hr2, ht2⟩
      have HE := Lib.hid (And.intro (HNr.out.quiet hgp ht2) (HT.out.same ht2))
      clear hr2 ht2
      go_wp2
      go_roundw
      case rel => exact ⟨i + 1, by omega, by go_num, HE.out.1, HE.out.2⟩
      case measure => simp [intOf]; omega
    · obtain rfl : i = 5 := by omega
      clear hwdr
      have HS := Lib.hid HNr.out
      clear hN hT HNr
      have HC := Lib.hid (t_no HS.out.rt [110, 111, 116] (isS_other hy (by decide)))
      go_wp2_with fail
      refine HC.out.mono ?_
      rintro x w21 ⟨rfl, -, ht⟩
      have hn := HS.out.quiet hgp ht
      clear HS
      have HS := Lib.hid hn
      have hNl := hn.lt
      clear ht hn HC
      have HC := Lib.hid (t_no HS.out.rt [114, 101, 112, 101, 97, 116] (isS_other hy (by decide)))
      go_wp2_with fail
      refine HC.out.mono ?_
      rintro x w22 ⟨rfl, -, ht⟩
      have hn := HS.out.quiet hgp ht
      clear HS
      have HS := Lib.hid hn
      have hNl := hn.lt
      clear ht hn HC
      have HC := Lib.hid (t_no HS.out.rt [112, 105, 99, 107] (isS_other hy (by decide)))
      go_wp2_with fail
      refine HC.out.mono ?_
      rintro x w23 ⟨rfl, -, ht⟩
      have hn := HS.out.quiet hgp ht
      clear HS
      have HS := Lib.hid hn
      have hNl := hn.lt
      clear ht hn HC
      have HC := Lib.hid (t_no HS.out.rt [105, 102] (isS_other hy (by decide)))
      go_wp2_with fail
      refine HC.out.mono ?_
      rintro x w24 ⟨rfl, -, ht⟩
      have hn := HS.out.quiet hgp ht
      clear HS
      have HS := Lib.hid hn
      have hNl := hn.lt
      clear ht hn HC
      have HC := Lib.hid (t_yes HS.out.rt [115, 101, 116] hy)
      go_wp2_with fail
      refine HC.out.mono ?_
      rintro x w25 ⟨rfl, hr, ht⟩
      have hn := HS.out.call hgp hr ht
      clear HS
      have HS := Lib.hid hn
      clear hr ht hn HC
      obtain ⟨q0, q1, q2, q3, q4, q5, q6, q7, q8, q9, ql⟩ := nd_cells HS.out.h5
      have f0 := HS.out.free 0
      have f1 := HS.out.free 1
      have f2 := HS.out.free 2
      have f3 := HS.out.free 3
      have f4 := HS.out.free 4
      have f5 := HS.out.free 5
      have f6 := HS.out.free 6
      have f7 := HS.out.free 7
      have f8 := HS.out.free 8
      have f9 := HS.out.free 9
      obtain ⟨w26, hw26⟩ : ∃ W, w25.setCell ⟨w.heap.size + 1, 0, none⟩ (.int .i64 8) = W := ⟨_, rfl⟩
      have hn := HS.out.set hgp hg 0 (.int .i64 8) (us := [.int .i64 8, .int .i64 0, .int .i64 0, .string ⟨#[]⟩, .int .i64 0, .int .i64 0, .string ⟨#[]⟩, .slice none 0 0, .slice none 0 0, .slice none 0 0]) rfl
      rw [hw26] at hn
      clear HS
      have HS := Lib.hid hn
      clear hn
      have HC := Lib.hid (t_name HS.out.rt)
      go_wp2_with fail
      refine HC.out.mono ?_
      rintro x w27 ⟨rfl, hr, ht⟩
      have hn := HS.out.call hgp hr ht
      clear HS
      have HS := Lib.hid hn
      clear hr ht hn HC
      try clear q0 q1 q2 q3 q4 q5 q6 q7 q8 q9 ql f0 f1 f2 f3 f4 f5 f6 f7 f8 f9
      obtain ⟨q0, q1, q2, q3, q4, q5, q6, q7, q8, q9, ql⟩ := nd_cells HS.out.h5
      have f0 := HS.out.free 0
      have f1 := HS.out.free 1
      have f2 := HS.out.free 2
      have f3 := HS.out.free 3
      have f4 := HS.out.free 4
      have f5 := HS.out.free 5
      have f6 := HS.out.free 6
      have f7 := HS.out.free 7
      have f8 := HS.out.free 8
      have f9 := HS.out.free 9
      obtain ⟨w28, hw28⟩ : ∃ W, w27.setCell ⟨w.heap.size + 1, 3, none⟩ (.string (bs (naV ts (σ.1 + 1, σ.2)))) = W := ⟨_, rfl⟩
      have hn := HS.out.set hgp hg 3 (.string (bs (naV ts (σ.1 + 1, σ.2)))) (us := [.int .i64 8, .int .i64 0, .int .i64 0, .string (bs (naV ts (σ.1 + 1, σ.2))), .int .i64 0, .int .i64 0, .string ⟨#[]⟩, .slice none 0 0, .slice none 0 0, .slice none 0 0]) rfl
      rw [hw28] at hn
      clear HS
      have HS := Lib.hid hn
      clear hn
      have HC := Lib.hid (t_want HS.out.rt [58, 61])
      go_wp2_with fail
      refine HC.out.mono ?_
      rintro x w29 ⟨rfl, hr, ht⟩
      have hn := HS.out.call hgp hr ht
      clear HS
      have HS := Lib.hid hn
      clear hr ht hn HC
      have HC := Lib.hid (t_expr hnk HS.out.rt)
      go_wp2_with fail
      refine HC.out.mono ?_
      rintro x w30 ⟨y, a0, a1, a2, B0, b0, b1, rfl, hq, hr, hyo, -, ht⟩
      have hn := HS.out.call hgp hr ht
      have hsq := HS.out.lt
      clear HS
      have HS := Lib.hid hn
      have HQ := Lib.hid (And.intro hq (And.intro hyo hsq))
      clear hr ht hn HC hq hyo hsq
      try clear q0 q1 q2 q3 q4 q5 q6 q7 q8 q9 ql f0 f1 f2 f3 f4 f5 f6 f7 f8 f9
      obtain ⟨q0, q1, q2, q3, q4, q5, q6, q7, q8, q9, ql⟩ := nd_cells HS.out.h5
      have f0 := HS.out.free 0
      have f1 := HS.out.free 1
      have f2 := HS.out.free 2
      have f3 := HS.out.free 3
      have f4 := HS.out.free 4
      have f5 := HS.out.free 5
      have f6 := HS.out.free 6
      have f7 := HS.out.free 7
      have f8 := HS.out.free 8
      have f9 := HS.out.free 9
      obtain ⟨w31, hw31⟩ : ∃ W, ((((w30).setCell ⟨w.heap.size + 1, 4, none⟩ (.int .i64 a0)).setCell ⟨w.heap.size + 1, 5, none⟩ (.int .i64 a1)).setCell ⟨w.heap.size + 1, 6, none⟩ (.string a2)).setCell ⟨w.heap.size + 1, 7, none⟩ (.slice B0 b0 b1) = W := ⟨_, rfl⟩
      have hn := ((((HS.out.set hgp hg 4 (.int .i64 a0) (us := [.int .i64 8, .int .i64 0, .int .i64 0, .string (bs (naV ts (σ.1 + 1, σ.2))), .int .i64 a0, .int .i64 0, .string ⟨#[]⟩, .slice none 0 0, .slice none 0 0, .slice none 0 0]) rfl).set hgp hg 5 (.int .i64 a1) (us := [.int .i64 8, .int .i64 0, .int .i64 0, .string (bs (naV ts (σ.1 + 1, σ.2))), .int .i64 a0, .int .i64 a1, .string ⟨#[]⟩, .slice none 0 0, .slice none 0 0, .slice none 0 0]) rfl).set hgp hg 6 (.string a2) (us := [.int .i64 8, .int .i64 0, .int .i64 0, .string (bs (naV ts (σ.1 + 1, σ.2))), .int .i64 a0, .int .i64 a1, .string a2, .slice none 0 0, .slice none 0 0, .slice none 0 0]) rfl).set hgp hg 7 (.slice B0 b0 b1) (us := [.int .i64 8, .int .i64 0, .int .i64 0, .string (bs (naV ts (σ.1 + 1, σ.2))), .int .i64 a0, .int .i64 a1, .string a2, .slice B0 b0 b1, .slice none 0 0, .slice none 0 0]) rfl)
      rw [hw31] at hn
      clear HS
      have HS := Lib.hid hn
      clear hn
      have HQ2 := Lib.hid (show Touch (F3 gp w) w30 w31 from by rw [← hw31]; exact ((((Touch.refl (F3 gp w) _).setCell (p := ⟨w.heap.size + 1, 4, none⟩) (.inl (.inr (.inr rfl))) _).setCell (p := ⟨w.heap.size + 1, 5, none⟩) (.inl (.inr (.inr rfl))) _).setCell (p := ⟨w.heap.size + 1, 6, none⟩) (.inl (.inr (.inr rfl))) _).setCell (p := ⟨w.heap.size + 1, 7, none⟩) (.inl (.inr (.inr rfl))) _)
      have HC := Lib.hid (t_want HS.out.rt [59])
      go_wp2_with fail
      refine HC.out.mono ?_
      rintro x w32 ⟨rfl, hr, ht⟩
      have hn := HS.out.call hgp hr ht
      clear HS
      have HS := Lib.hid hn
      have HTL := Lib.hid (show Touch (F3 gp w) w31 w32 from ht.mono (fun k hk => .inl hk))
      clear hr ht hn HC
      try clear q0 q1 q2 q3 q4 q5 q6 q7 q8 q9 ql f0 f1 f2 f3 f4 f5 f6 f7 f8 f9
      obtain ⟨hld, W9, hst, hra, hr9, ht9, ht3⟩ := HS.out.fin hgp hg rfl (by intro v hv; simp only [List.mem_cons, List.not_mem_nil, or_false] at hv; rcases hv with rfl | rfl | rfl | rfl | rfl | rfl | rfl | rfl | rfl | rfl <;> rfl)
      obtain ⟨y0, y1, y2, y3, y4, y5, y6, y7, y8, y9⟩ := range_cells hra
      have HZ := Lib.hid (And.intro hr9 (And.intro ht9 ht3))
      have hNl := HS.out.lt
      clear hra hr9 ht9 ht3
      go_wp2
      exact bodyPost_ret (v := .agg #[.int .i64 8, .int .i64 0, .int .i64 0, .string (bs (naV ts (σ.1 + 1, σ.2))), .int .i64 a0, .int .i64 a1, .string a2, .slice B0 b0 b1, .slice none 0 0, .slice none 0 0]) (by simp [results, Tryz.results20, go_sem, y0, y1, y2, y3, y4, y5, y6, y7, y8, y9]) rfl
        ⟨HZ.out.2.1, HZ.out.1, .mk 8 0 0 (naV ts (σ.1 + 1, σ.2)) y [] [], a0, a1, a2, B0, b0, b1, none, 0, none, 0, rfl, nt_leaf ((((HQ.out.1.via (R := fun b => w.heap.size + 2 ≤ b) (fun b hb _ => by have := HQ.out.2.2; omega)).far HQ2.out (fun b hb hf => by unfold F3 at hf; omega)).far HTL.out (fun b hb hf => by unfold F3 at hf; omega)).far HZ.out.2.2 (fun b hb hf => by unfold F3 at hf; omega) |>.via (fun b hb _ => by omega)), fun e => by rw [HQ.out.2.1 (exS_ok e)]⟩
end Go.Proofs.YtnphaaahdlkmhaaGreat
end
/-
  What the document's own node does where one node follows, or weights and nodes. Conditions: those that each theorem names.
-/
section
namespace Go.Proofs.YtnphaaahdlkmhaaGreat
open Go.ChangeShapes Go.WideShapes Go.ChangeAt Go.RowKit
set_option maxRecDepth 100000
set_option maxHeartbeats 8000000
attribute [local go_sem ↓] loadNd_of storeNd_of

/-- One kid in a row of its own. -/
theorem nt_kid {w w6 w7 W9 : World} {gp D c0 : Nat} {y : Nd} {l : List Value} (hnt : NT w6 (fun b => c0 ≤ b) D y l) (hW : w6.alloc (.cells l.toArray 62) = w7) (t : Touch (F3 gp w) w7 W9) (hc : w.heap.size + 2 ≤ c0) (hgp : gp < w.heap.size) (hc6 : c0 ≤ w6.heap.size) :
    SlAt W9 (fun b => w.heap.size ≤ b) (.slice (some ⟨w6.heap.size, 0, none⟩) 1 1) 1 l ∧ LsAt (NT W9 (fun b => w.heap.size ≤ b) D) [y] l := by
  have ta : Touch NoB w6 w7 := by rw [← hW]; exact (Touch.refl _ _).alloc _
  have hb : w7.heap[w6.heap.size]? = some (.cells l.toArray 62 (0, 0)) := by rw [← hW]; exact alloc_blk _ _ _ rfl
  have hb9 := (t.block _ (blk_lt hb) (by unfold F3; omega)).trans hb
  refine ⟨⟨_, _, rfl, fun j x hj => ⟨_, rfl, by omega, blk_lt hb9, by rw [Lib.cell_of_heap hb9]; simpa using hj⟩⟩, ?_⟩
  have h9 : NT W9 (fun b => w.heap.size ≤ b) D y l := NT.via (fun b hb _ => by omega) D y l (NT.touch t (fun b hb f => by unfold F3 at f; omega) D y l (NT.touch ta (fun _ _ x => x) D y l hnt))
  exact LsAt.snoc (l := []) (xs := []) .nil h9
theorem nt_kids {W : World} {Q : Nat → Prop} {D k a b c : Nat} {A : Option Addr} {l : List Nd} {xs : List Value} (hs : SlAt W Q (.slice A l.length c) l.length xs) (hl : LsAt (NT W Q D) l xs) :
    NT W Q (D + 1) (.mk k a b [] x0 l []) [.int .i64 (k : Int), .int .i64 (a : Int), .int .i64 (b : Int), .string (bs []), .int .i64 0, .int .i64 0, .string ⟨#[]⟩, .slice none 0 0, .slice A l.length c, .slice none 0 0] :=
  ⟨0, 0, ⟨#[]⟩, none, 0, 0, _, _, xs, [], rfl, et_zero _ _, hs, hl, ⟨none, 0, rfl, fun j x h => by cases h⟩, .nil⟩
theorem nt_brace {w w6 W9 : World} {gp D k a b c c0 : Nat} {A : Option Addr} {l : List Nd} {xs : List Value} (hs : SlAt w6 (fun b => c0 ≤ b) (.slice A l.length c) l.length xs) (hl : LsAt (NT w6 (fun b => c0 ≤ b) D) l xs) (t : Touch (F3 gp w) w6 W9) (hc : w.heap.size + 2 ≤ c0) (hgp : gp < w.heap.size) :
    NT W9 (fun b => w.heap.size ≤ b) (D + 1) (.mk k a b [] x0 l []) [.int .i64 (k : Int), .int .i64 (a : Int), .int .i64 (b : Int), .string (bs []), .int .i64 0, .int .i64 0, .string ⟨#[]⟩, .slice none 0 0, .slice A l.length c, .slice none 0 0] :=
  nt_kids ((hs.touch t (fun b hb f => by unfold F3 at f; omega)).via (fun b hb _ => by omega)) (hl.mono (fun y ys hy => NT.via (fun b hb _ => by omega) D y ys (NT.touch t (fun b hb f => by unfold F3 at f; omega) D y ys hy)))
theorem nt_pick {w w6 W9 : World} {gp D c c1 c0 : Nat} {A A1 : Option Addr} {ws : List Ex} {ys : List Value} {l : List Nd} {xs : List Value} (hs1 : SlAt w6 (fun b => c0 ≤ b) (.slice A1 ws.length c1) ws.length ys) (hl1 : LsAt (XAt w6 (fun b => c0 ≤ b)) ws ys) (hs : SlAt w6 (fun b => c0 ≤ b) (.slice A l.length c) l.length xs) (hl : LsAt (NT w6 (fun b => c0 ≤ b) D) l xs) (t : Touch (F3 gp w) w6 W9) (hc : w.heap.size + 2 ≤ c0) (hgp : gp < w.heap.size) :
    NT W9 (fun b => w.heap.size ≤ b) (D + 1) (.mk 11 0 0 [] x0 l ws) [.int .i64 ((11 : Nat) : Int), .int .i64 ((0 : Nat) : Int), .int .i64 ((0 : Nat) : Int), .string (bs []), .int .i64 0, .int .i64 0, .string ⟨#[]⟩, .slice none 0 0, .slice A l.length c, .slice A1 ws.length c1] :=
  ⟨0, 0, ⟨#[]⟩, none, 0, 0, _, _, xs, ys, rfl, et_zero _ _, (hs.touch t (fun b hb f => by unfold F3 at f; omega)).via (fun b hb _ => by omega), hl.mono (fun y ys hy => NT.via (fun b hb _ => by omega) D y ys (NT.touch t (fun b hb f => by unfold F3 at f; omega) D y ys hy)),
    (hs1.touch t (fun b hb f => by unfold F3 at f; omega)).via (fun b hb _ => by omega), hl1.mono (fun y ys hy => (hy.touch t (fun b hb f => by unfold F3 at f; omega)).via (fun b hb _ => by omega))⟩
theorem rnode_5 {gp g n cp L d d1 D : Nat} {ts : List Tk} {sub : St → Nd × St} (hd1 : d1 = d + 1) (hds : d ≤ 40) (HSB : RNodeOk gp g n cp ts L d1 D sub) {w : World} {σ : St} (h : RT w gp g n cp ts L σ) (hg : g < w.heap.size) (hy : isS ts [110, 111, 116] σ = true) :
    Calls Tryz.prog 20 #[.pointer (some ⟨gp, 0, none⟩), .int .i64 (d : Int)] w (RNP w gp g n cp ts L (D + 1) (rndK ts sub 5 (σ.1 + 1, σ.2))) := by
  have he := isS_ok hy
  have HSUB := Lib.hid HSB
  clear HSB
  show Calls _ _ _ _ (RNP w gp g n cp ts L (D + 1) (.mk 5 0 0 [] x0 [(sub (σ.1 + 1, σ.2)).1] [], (sub (σ.1 + 1, σ.2)).2))
  have hgp := h.lt
  obtain ⟨W0, hW0⟩ : ∃ W, (w.alloc (.cells #[.int .i64 0, .int .i64 0, .int .i64 0, .string ⟨#[]⟩, .int .i64 0, .int .i64 0, .string ⟨#[]⟩, .slice none 0 0, .slice none 0 0, .slice none 0 0] 62)).alloc (.cells #[.int .i64 0, .int .i64 0, .int .i64 0, .string ⟨#[]⟩, .int .i64 0, .int .i64 0, .string ⟨#[]⟩, .slice none 0 0, .slice none 0 0, .slice none 0 0] 62) = W := ⟨_, rfl⟩
  have hN0 := NS5.start h hW0
  obtain ⟨W1, hW1⟩ : ∃ W, W0.alloc (.cells #[.string ⟨#[115, 101, 113]⟩, .string ⟨#[115, 101, 108]⟩, .string ⟨#[109, 115, 101, 113]⟩, .string ⟨#[109, 115, 101, 108]⟩, .string ⟨#[112, 97, 114]⟩] 9) = W := ⟨_, rfl⟩
  have t1 : Touch NoB W0 W1 := by rw [← hW1]; exact (Touch.refl _ _).alloc _
  have hN1 := hN0.quiet hgp t1
  have hwd : WdAt W1 W0.heap.size 5 manyW := words_at (by rw [← hW1]; exact alloc_blk _ _ _ rfl) rfl (by decide) rfl
  have hee : ((σ.2 : Int) != 0) = false := by rw [he]; rfl
  have hdd : decide ((40 : Int) < (d : Int)) = false := by simp; omega
  obtain ⟨c1, c2, cl⟩ := hN0.rt.cells
  have HN1 := Lib.hid (And.intro hN1 hwd)
  have HW1 := Lib.hid hwd
  have hsum : IntKind.i64.wrap ((d : Int) + 1) = (d1 : Int) := by rw [show (d : Int) + 1 = (d1 : Int) from by omega]; exact IntWalk.i64_in _ (by omega)
  clear h hN0 t1 hN1 hwd he hd1 hds
  go_enter Tryz.func20, Tryz.ntmps20
  go_wp2
  go_loopw [7] (fun v wr => NlRel w gp g n cp ts L σ W1 5 v wr) (fun v _ => 6 - (intOf v).toNat)
  case atStart => exact ⟨0, Nat.zero_le _, rfl, HN1.out.1, Touch.refl _ _⟩
  case round =>
    obtain ⟨i, hi, rfl, hN, hT⟩ := hrel
    have hwdr := wd_touch HN1.out.2 hT
    have HNr := Lib.hid hN
    have hNl := hN.lt
    have hwl := hwdr.2.1
    by_cases hlt : i < 5
    · obtain ⟨s, hs⟩ : ∃ s, manyW[i]? = some s := ⟨manyW[i]'(by have : manyW.length = 5 := rfl; omega), List.getElem?_eq_getElem _⟩
      have hcell := hwdr.2.2 i s hs
      have hno : isS ts s σ = false := isS_other hy ((by decide : ∀ q ∈ manyW, q ≠ [110, 111, 116]) s (List.mem_of_getElem? hs))
      have HC := Lib.hid (t_no hN.rt s hno)
      have HT := Lib.hid hT
      obtain ⟨sx, hsx⟩ : ∃ sx, bs s = sx := ⟨_, rfl⟩
      rw [hsx] at hcell HC
      have hi5 : (i : Int) < 5 := by omega
      clear hN hT hwdr hs hno hsx
      go_wp2_with fail
      refine HC.out.mono ?_
      rintro x w2 ⟨rfl, hr2, ht2⟩
      have HE := Lib.hid (And.intro (HNr.out.quiet hgp ht2) (HT.out.same ht2))
      clear hr2 ht2
      go_wp2
      go_roundw
      case rel => exact ⟨i + 1, by omega, by go_num, HE.out.1, HE.out.2⟩
      case measure => simp [intOf]; omega
    · obtain rfl : i = 5 := by omega
      clear hwdr
      have HS := Lib.hid HNr.out
      clear hN hT HNr
      have HC := Lib.hid (t_yes HS.out.rt [110, 111, 116] hy)
      go_wp2_with fail
      refine HC.out.mono ?_
      rintro x w21 ⟨rfl, hr, ht⟩
      have hn := HS.out.call hgp hr ht
      clear HS
      have HS := Lib.hid hn
      clear hr ht hn HC
      obtain ⟨q0, q1, q2, q3, q4, q5, q6, q7, q8, q9, ql⟩ := nd_cells HS.out.h5
      have f0 := HS.out.free 0
      have f1 := HS.out.free 1
      have f2 := HS.out.free 2
      have f3 := HS.out.free 3
      have f4 := HS.out.free 4
      have f5 := HS.out.free 5
      have f6 := HS.out.free 6
      have f7 := HS.out.free 7
      have f8 := HS.out.free 8
      have f9 := HS.out.free 9
      obtain ⟨w22, hw22⟩ : ∃ W, w21.setCell ⟨w.heap.size + 1, 0, none⟩ (.int .i64 5) = W := ⟨_, rfl⟩
      have hn := HS.out.set hgp hg 0 (.int .i64 5) (us := [.int .i64 5, .int .i64 0, .int .i64 0, .string ⟨#[]⟩, .int .i64 0, .int .i64 0, .string ⟨#[]⟩, .slice none 0 0, .slice none 0 0, .slice none 0 0]) rfl
      rw [hw22] at hn
      clear HS
      have HS := Lib.hid hn
      clear hn
      have HC := Lib.hid (HSUB.out w22 _ HS.out.rt (by have := HS.out.lt; omega))
      have hc0 := HS.out.lt
      go_wp2_with fail
      refine HC.out.mono ?_
      rintro x w23 ⟨ht, hr, y, e0, e1, e2, B, bm, bc, A1, c1x, A2, c2x, rfl, hnt, hyo⟩
      have hn := HS.out.call hgp hr ht
      have hc6 := ht.size
      clear HS
      obtain ⟨w24, hw24⟩ : ∃ W, w23.alloc (.cells #[.int .i64 (y.kd : Int), .int .i64 (y.a : Int), .int .i64 (y.b : Int), .string (bs y.nm), .int .i64 e0, .int .i64 e1, .string e2, .slice B bm bc, .slice A1 y.ks.length c1x, .slice A2 y.ws.length c2x] 62) = W := ⟨_, rfl⟩
      have ta : Touch NoB w23 w24 := by rw [← hw24]; exact (Touch.refl _ _).alloc _
      have HS := Lib.hid (hn.quiet hgp ta)
      have HK := Lib.hid (fun (W9 : World) (t : Touch (F3 gp w) w24 W9) => nt_kid hnt hw24 t (by omega) hgp hc6)
      have HYO := Lib.hid hyo
      clear ht hr hnt hn hyo HC ta
      try clear q0 q1 q2 q3 q4 q5 q6 q7 q8 q9 ql f0 f1 f2 f3 f4 f5 f6 f7 f8 f9
      obtain ⟨q0, q1, q2, q3, q4, q5, q6, q7, q8, q9, ql⟩ := nd_cells HS.out.h5
      have f0 := HS.out.free 0
      have f1 := HS.out.free 1
      have f2 := HS.out.free 2
      have f3 := HS.out.free 3
      have f4 := HS.out.free 4
      have f5 := HS.out.free 5
      have f6 := HS.out.free 6
      have f7 := HS.out.free 7
      have f8 := HS.out.free 8
      have f9 := HS.out.free 9
      obtain ⟨w25, hw25⟩ : ∃ W, w24.setCell ⟨w.heap.size + 1, 8, none⟩ (.slice (some ⟨w23.heap.size, 0, none⟩) 1 1) = W := ⟨_, rfl⟩
      have hn := HS.out.set hgp hg 8 (.slice (some ⟨w23.heap.size, 0, none⟩) 1 1) (us := [.int .i64 5, .int .i64 0, .int .i64 0, .string ⟨#[]⟩, .int .i64 0, .int .i64 0, .string ⟨#[]⟩, .slice none 0 0, .slice (some ⟨w23.heap.size, 0, none⟩) 1 1, .slice none 0 0]) rfl
      rw [hw25] at hn
      clear HS
      have HS := Lib.hid hn
      clear hn
      have HT3 := Lib.hid (show Touch (F3 gp w) w24 w25 from by rw [← hw25]; exact (Touch.refl (F3 gp w) _).setCell (p := ⟨w.heap.size + 1, 8, none⟩) (.inl (.inr (.inr rfl))) _)
      obtain ⟨hld, W9, hst, hra, hr9, ht9, ht3⟩ := HS.out.fin hgp hg rfl (by intro v hv; simp only [List.mem_cons, List.not_mem_nil, or_false] at hv; rcases hv with rfl | rfl | rfl | rfl | rfl | rfl | rfl | rfl | rfl | rfl <;> rfl)
      obtain ⟨y0, y1, y2, y3, y4, y5, y6, y7, y8, y9⟩ := range_cells hra
      have HZ := Lib.hid (And.intro hr9 (And.intro ht9 ht3))
      have hNl := HS.out.lt
      clear hra hr9 ht9 ht3
      go_wp2
      have HNT := nt_kids (k := 5) (a := 0) (b := 0) (HK.out _ (HT3.out.same HZ.out.2.2)).1 (HK.out _ (HT3.out.same HZ.out.2.2)).2
      exact bodyPost_ret (v := .agg #[.int .i64 5, .int .i64 0, .int .i64 0, .string ⟨#[]⟩, .int .i64 0, .int .i64 0, .string ⟨#[]⟩, .slice none 0 0, .slice (some ⟨w23.heap.size, 0, none⟩) 1 1, .slice none 0 0]) (by simp [results, Tryz.results20, go_sem, y0, y1, y2, y3, y4, y5, y6, y7, y8, y9]) rfl
        ⟨HZ.out.2.1, HZ.out.1, .mk 5 0 0 [] x0 [y] [], 0, 0, ⟨#[]⟩, none, 0, 0, _, _, _, _, rfl, HNT, fun e => by rw [HYO.out e]⟩
theorem rnode_6 {gp g n cp L d d1 D : Nat} {ts : List Tk} {sub : St → Nd × St} (hd1 : d1 = d + 1) (hds : d ≤ 40) (HSB : RNodeOk gp g n cp ts L d1 D sub) {w : World} {σ : St} (h : RT w gp g n cp ts L σ) (hg : g < w.heap.size) (hy : isS ts [114, 101, 112, 101, 97, 116] σ = true) :
    Calls Tryz.prog 20 #[.pointer (some ⟨gp, 0, none⟩), .int .i64 (d : Int)] w (RNP w gp g n cp ts L (D + 1) (rndK ts sub 6 (σ.1 + 1, σ.2))) := by
  have he := isS_ok hy
  have HSUB := Lib.hid HSB
  clear HSB
  show Calls _ _ _ _ (RNP w gp g n cp ts L (D + 1) (.mk 6 (nuV ts (σ.1 + 1, σ.2)) 0 [] x0 [(sub (nuS ts (σ.1 + 1, σ.2))).1] [], (sub (nuS ts (σ.1 + 1, σ.2))).2))
  have hgp := h.lt
  obtain ⟨W0, hW0⟩ : ∃ W, (w.alloc (.cells #[.int .i64 0, .int .i64 0, .int .i64 0, .string ⟨#[]⟩, .int .i64 0, .int .i64 0, .string ⟨#[]⟩, .slice none 0 0, .slice none 0 0, .slice none 0 0] 62)).alloc (.cells #[.int .i64 0, .int .i64 0, .int .i64 0, .string ⟨#[]⟩, .int .i64 0, .int .i64 0, .string ⟨#[]⟩, .slice none 0 0, .slice none 0 0, .slice none 0 0] 62) = W := ⟨_, rfl⟩
  have hN0 := NS5.start h hW0
  obtain ⟨W1, hW1⟩ : ∃ W, W0.alloc (.cells #[.string ⟨#[115, 101, 113]⟩, .string ⟨#[115, 101, 108]⟩, .string ⟨#[109, 115, 101, 113]⟩, .string ⟨#[109, 115, 101, 108]⟩, .string ⟨#[112, 97, 114]⟩] 9) = W := ⟨_, rfl⟩
  have t1 : Touch NoB W0 W1 := by rw [← hW1]; exact (Touch.refl _ _).alloc _
  have hN1 := hN0.quiet hgp t1
  have hwd : WdAt W1 W0.heap.size 5 manyW := words_at (by rw [← hW1]; exact alloc_blk _ _ _ rfl) rfl (by decide) rfl
  have hee : ((σ.2 : Int) != 0) = false := by rw [he]; rfl
  have hdd : decide ((40 : Int) < (d : Int)) = false := by simp; omega
  obtain ⟨c1, c2, cl⟩ := hN0.rt.cells
  have HN1 := Lib.hid (And.intro hN1 hwd)
  have HW1 := Lib.hid hwd
  have hsum : IntKind.i64.wrap ((d : Int) + 1) = (d1 : Int) := by rw [show (d : Int) + 1 = (d1 : Int) from by omega]; exact IntWalk.i64_in _ (by omega)
  clear h hN0 t1 hN1 hwd he hd1 hds
  go_enter Tryz.func20, Tryz.ntmps20
  go_wp2
  go_loopw [7] (fun v wr => NlRel w gp g n cp ts L σ W1 5 v wr) (fun v _ => 6 - (intOf v).toNat)
  case atStart => exact ⟨0, Nat.zero_le _, rfl, HN1.out.1, Touch.refl _ _⟩
  case round =>
    obtain ⟨i, hi, rfl, hN, hT⟩ := hrel
    have hwdr := wd_touch HN1.out.2 hT
    have HNr := Lib.hid hN
    have hNl := hN.lt
    have hwl := hwdr.2.1
    by_cases hlt : i < 5
    · obtain ⟨s, hs⟩ : ∃ s, manyW[i]? = some s := ⟨manyW[i]'(by have : manyW.length = 5 := rfl; omega), List.getElem?_eq_getElem _⟩
      have hcell := hwdr.2.2 i s hs
      have hno : isS ts s σ = false := isS_other hy ((by decide : ∀ q ∈ manyW, q ≠ [114, 101, 112, 101, 97, 116]) s (List.mem_of_getElem? hs))
      have HC := Lib.hid (t_no hN.rt s hno)
      have HT := Lib.hid hT
      obtain ⟨sx, hsx⟩ : ∃ sx, bs s = sx := ⟨_, rfl⟩
      rw [hsx] at hcell HC
      have hi5 : (i : Int) < 5 := by omega
      clear hN hT hwdr hs hno hsx
      go_wp2_with fail
      refine HC.out.mono ?_
      rintro x w2 ⟨rfl, hr2, ht2⟩
      have HE := Lib.hid (And.intro (HNr.out.quiet hgp ht2) (HT.out.same ht2))
      clear hr2 ht2
      go_wp2
      go_roundw
      case rel => exact ⟨i + 1, by omega, by go_num, HE.out.1, HE.out.2⟩
      case measure => simp [intOf]; omega
    · obtain rfl : i = 5 := by omega
      clear hwdr
      have HS := Lib.hid HNr.out
      clear hN hT HNr
      have HC := Lib.hid (t_no HS.out.rt [110, 111, 116] (isS_other hy (by decide)))
      go_wp2_with fail
      refine HC.out.mono ?_
      rintro x w21 ⟨rfl, -, ht⟩
      have hn := HS.out.quiet hgp ht
      clear HS
      have HS := Lib.hid hn
      have hNl := hn.lt
      clear ht hn HC
      have HC := Lib.hid (t_yes HS.out.rt [114, 101, 112, 101, 97, 116] hy)
      go_wp2_with fail
      refine HC.out.mono ?_
      rintro x w22 ⟨rfl, hr, ht⟩
      have hn := HS.out.call hgp hr ht
      clear HS
      have HS := Lib.hid hn
      clear hr ht hn HC
      obtain ⟨q0, q1, q2, q3, q4, q5, q6, q7, q8, q9, ql⟩ := nd_cells HS.out.h5
      have f0 := HS.out.free 0
      have f1 := HS.out.free 1
      have f2 := HS.out.free 2
      have f3 := HS.out.free 3
      have f4 := HS.out.free 4
      have f5 := HS.out.free 5
      have f6 := HS.out.free 6
      have f7 := HS.out.free 7
      have f8 := HS.out.free 8
      have f9 := HS.out.free 9
      obtain ⟨w23, hw23⟩ : ∃ W, w22.setCell ⟨w.heap.size + 1, 0, none⟩ (.int .i64 6) = W := ⟨_, rfl⟩
      have hn := HS.out.set hgp hg 0 (.int .i64 6) (us := [.int .i64 6, .int .i64 0, .int .i64 0, .string ⟨#[]⟩, .int .i64 0, .int .i64 0, .string ⟨#[]⟩, .slice none 0 0, .slice none 0 0, .slice none 0 0]) rfl
      rw [hw23] at hn
      clear HS
      have HS := Lib.hid hn
      clear hn
      have HC := Lib.hid (t_number HS.out.rt)
      go_wp2_with fail
      refine HC.out.mono ?_
      rintro x w24 ⟨rfl, hr, ht⟩
      have hn := HS.out.call hgp hr ht
      clear HS
      have HS := Lib.hid hn
      clear hr ht hn HC
      try clear q0 q1 q2 q3 q4 q5 q6 q7 q8 q9 ql f0 f1 f2 f3 f4 f5 f6 f7 f8 f9
      obtain ⟨q0, q1, q2, q3, q4, q5, q6, q7, q8, q9, ql⟩ := nd_cells HS.out.h5
      have f0 := HS.out.free 0
      have f1 := HS.out.free 1
      have f2 := HS.out.free 2
      have f3 := HS.out.free 3
      have f4 := HS.out.free 4
      have f5 := HS.out.free 5
      have f6 := HS.out.free 6
      have f7 := HS.out.free 7
      have f8 := HS.out.free 8
      have f9 := HS.out.free 9
      obtain ⟨w25, hw25⟩ : ∃ W, w24.setCell ⟨w.heap.size + 1, 1, none⟩ (.int .i64 (nuV ts (σ.1 + 1, σ.2) : Int)) = W := ⟨_, rfl⟩
      have hn := HS.out.set hgp hg 1 (.int .i64 (nuV ts (σ.1 + 1, σ.2) : Int)) (us := [.int .i64 6, .int .i64 (nuV ts (σ.1 + 1, σ.2) : Int), .int .i64 0, .string ⟨#[]⟩, .int .i64 0, .int .i64 0, .string ⟨#[]⟩, .slice none 0 0, .slice none 0 0, .slice none 0 0]) rfl
      rw [hw25] at hn
      clear HS
      have HS := Lib.hid hn
      clear hn
      have HC := Lib.hid (HSUB.out w25 _ HS.out.rt (by have := HS.out.lt; omega))
      have hc0 := HS.out.lt
      go_wp2_with fail
      refine HC.out.mono ?_
      rintro x w26 ⟨ht, hr, y, e0, e1, e2, B, bm, bc, A1, c1x, A2, c2x, rfl, hnt, hyo⟩
      have hn := HS.out.call hgp hr ht
      have hc6 := ht.size
      clear HS
      obtain ⟨w27, hw27⟩ : ∃ W, w26.alloc (.cells #[.int .i64 (y.kd : Int), .int .i64 (y.a : Int), .int .i64 (y.b : Int), .string (bs y.nm), .int .i64 e0, .int .i64 e1, .string e2, .slice B bm bc, .slice A1 y.ks.length c1x, .slice A2 y.ws.length c2x] 62) = W := ⟨_, rfl⟩
      have ta : Touch NoB w26 w27 := by rw [← hw27]; exact (Touch.refl _ _).alloc _
      have HS := Lib.hid (hn.quiet hgp ta)
      have HK := Lib.hid (fun (W9 : World) (t : Touch (F3 gp w) w27 W9) => nt_kid hnt hw27 t (by omega) hgp hc6)
      have HYO := Lib.hid hyo
      clear ht hr hnt hn hyo HC ta
      try clear q0 q1 q2 q3 q4 q5 q6 q7 q8 q9 ql f0 f1 f2 f3 f4 f5 f6 f7 f8 f9
      obtain ⟨q0, q1, q2, q3, q4, q5, q6, q7, q8, q9, ql⟩ := nd_cells HS.out.h5
      have f0 := HS.out.free 0
      have f1 := HS.out.free 1
      have f2 := HS.out.free 2
      have f3 := HS.out.free 3
      have f4 := HS.out.free 4
      have f5 := HS.out.free 5
      have f6 := HS.out.free 6
      have f7 := HS.out.free 7
      have f8 := HS.out.free 8
      have f9 := HS.out.free 9
      obtain ⟨w28, hw28⟩ : ∃ W, w27.setCell ⟨w.heap.size + 1, 8, none⟩ (.slice (some ⟨w26.heap.size, 0, none⟩) 1 1) = W := ⟨_, rfl⟩
      have hn := HS.out.set hgp hg 8 (.slice (some ⟨w26.heap.size, 0, none⟩) 1 1) (us := [.int .i64 6, .int .i64 (nuV ts (σ.1 + 1, σ.2) : Int), .int .i64 0, .string ⟨#[]⟩, .int .i64 0, .int .i64 0, .string ⟨#[]⟩, .slice none 0 0, .slice (some ⟨w26.heap.size, 0, none⟩) 1 1, .slice none 0 0]) rfl
      rw [hw28] at hn
      clear HS
      have HS := Lib.hid hn
      clear hn
      have HT3 := Lib.hid (show Touch (F3 gp w) w27 w28 from by rw [← hw28]; exact (Touch.refl (F3 gp w) _).setCell (p := ⟨w.heap.size + 1, 8, none⟩) (.inl (.inr (.inr rfl))) _)
      obtain ⟨hld, W9, hst, hra, hr9, ht9, ht3⟩ := HS.out.fin hgp hg rfl (by intro v hv; simp only [List.mem_cons, List.not_mem_nil, or_false] at hv; rcases hv with rfl | rfl | rfl | rfl | rfl | rfl | rfl | rfl | rfl | rfl <;> rfl)
      obtain ⟨y0, y1, y2, y3, y4, y5, y6, y7, y8, y9⟩ := range_cells hra
      have HZ := Lib.hid (And.intro hr9 (And.intro ht9 ht3))
      have hNl := HS.out.lt
      clear hra hr9 ht9 ht3
      go_wp2
      have HNT := nt_kids (k := 6) (a := (nuV ts (σ.1 + 1, σ.2))) (b := 0) (HK.out _ (HT3.out.same HZ.out.2.2)).1 (HK.out _ (HT3.out.same HZ.out.2.2)).2
      exact bodyPost_ret (v := .agg #[.int .i64 6, .int .i64 (nuV ts (σ.1 + 1, σ.2) : Int), .int .i64 0, .string ⟨#[]⟩, .int .i64 0, .int .i64 0, .string ⟨#[]⟩, .slice none 0 0, .slice (some ⟨w26.heap.size, 0, none⟩) 1 1, .slice none 0 0]) (by simp [results, Tryz.results20, go_sem, y0, y1, y2, y3, y4, y5, y6, y7, y8, y9]) rfl
        ⟨HZ.out.2.1, HZ.out.1, .mk 6 (nuV ts (σ.1 + 1, σ.2)) 0 [] x0 [y] [], 0, 0, ⟨#[]⟩, none, 0, 0, _, _, _, _, rfl, HNT, fun e => by rw [HYO.out e]⟩
theorem rnode_11 {gp g n cp L d d1 D : Nat} {ts : List Tk} {sub : St → Nd × St} (hnk : NumsOk ts) (hbad : ∀ σ : St, σ.2 ≠ 0 → (sub σ).2.2 ≠ 0) (hd1 : d1 = d + 1) (hds : d ≤ 40) (HSB : RNodeOk gp g n cp ts L d1 D sub) {w : World} {σ : St} (h : RT w gp g n cp ts L σ) (hg : g < w.heap.size) (hy : isS ts [112, 105, 99, 107] σ = true) :
    Calls Tryz.prog 20 #[.pointer (some ⟨gp, 0, none⟩), .int .i64 (d : Int)] w (RNP w gp g n cp ts L (D + 1) (rndK ts sub 11 (σ.1 + 1, σ.2))) := by
  have he := isS_ok hy
  have HSUB := Lib.hid HSB
  clear HSB
  show Calls _ _ _ _ (RNP w gp g n cp ts L (D + 1) (.mk 11 0 0 [] x0 (picV ts sub (σ.1 + 1, σ.2)).2 (picV ts sub (σ.1 + 1, σ.2)).1, picS ts sub (σ.1 + 1, σ.2)))
  have hgp := h.lt
  obtain ⟨W0, hW0⟩ : ∃ W, (w.alloc (.cells #[.int .i64 0, .int .i64 0, .int .i64 0, .string ⟨#[]⟩, .int .i64 0, .int .i64 0, .string ⟨#[]⟩, .slice none 0 0, .slice none 0 0, .slice none 0 0] 62)).alloc (.cells #[.int .i64 0, .int .i64 0, .int .i64 0, .string ⟨#[]⟩, .int .i64 0, .int .i64 0, .string ⟨#[]⟩, .slice none 0 0, .slice none 0 0, .slice none 0 0] 62) = W := ⟨_, rfl⟩
  have hN0 := NS5.start h hW0
  obtain ⟨W1, hW1⟩ : ∃ W, W0.alloc (.cells #[.string ⟨#[115, 101, 113]⟩, .string ⟨#[115, 101, 108]⟩, .string ⟨#[109, 115, 101, 113]⟩, .string ⟨#[109, 115, 101, 108]⟩, .string ⟨#[112, 97, 114]⟩] 9) = W := ⟨_, rfl⟩
  have t1 : Touch NoB W0 W1 := by rw [← hW1]; exact (Touch.refl _ _).alloc _
  have hN1 := hN0.quiet hgp t1
  have hwd : WdAt W1 W0.heap.size 5 manyW := words_at (by rw [← hW1]; exact alloc_blk _ _ _ rfl) rfl (by decide) rfl
  have hee : ((σ.2 : Int) != 0) = false := by rw [he]; rfl
  have hdd : decide ((40 : Int) < (d : Int)) = false := by simp; omega
  obtain ⟨c1, c2, cl⟩ := hN0.rt.cells
  have HN1 := Lib.hid (And.intro hN1 hwd)
  have HW1 := Lib.hid hwd
  have hsum : IntKind.i64.wrap ((d : Int) + 1) = (d1 : Int) := by rw [show (d : Int) + 1 = (d1 : Int) from by omega]; exact IntWalk.i64_in _ (by omega)
  clear h hN0 t1 hN1 hwd he hd1 hds
  go_enter Tryz.func20, Tryz.ntmps20
  go_wp2
  go_loopw [7] (fun v wr => NlRel w gp g n cp ts L σ W1 5 v wr) (fun v _ => 6 - (intOf v).toNat)
  case atStart => exact ⟨0, Nat.zero_le _, rfl, HN1.out.1, Touch.refl _ _⟩
  case round =>
    obtain ⟨i, hi, rfl, hN, hT⟩ := hrel
    have hwdr := wd_touch HN1.out.2 hT
    have HNr := Lib.hid hN
    have hNl := hN.lt
    have hwl := hwdr.2.1
    by_cases hlt : i < 5
    · obtain ⟨s, hs⟩ : ∃ s, manyW[i]? = some s := ⟨manyW[i]'(by have : manyW.length = 5 := rfl; omega), List.getElem?_eq_getElem _⟩
      have hcell := hwdr.2.2 i s hs
      have hno : isS ts s σ = false := isS_other hy ((by decide : ∀ q ∈ manyW, q ≠ [112, 105, 99, 107]) s (List.mem_of_getElem? hs))
      have HC := Lib.hid (t_no hN.rt s hno)
      have HT := Lib.hid hT
      obtain ⟨sx, hsx⟩ : ∃ sx, bs s = sx := ⟨_, rfl⟩
      rw [hsx] at hcell HC
      have hi5 : (i : Int) < 5 := by omega
      clear hN hT hwdr hs hno hsx
      go_wp2_with fail
      refine HC.out.mono ?_
      rintro x w2 ⟨rfl, hr2, ht2⟩
      have HE := Lib.hid (And.intro (HNr.out.quiet hgp ht2) (HT.out.same ht2))
      clear hr2 ht2
      go_wp2
      go_roundw
      case rel => exact ⟨i + 1, by omega, by go_num, HE.out.1, HE.out.2⟩
      case measure => simp [intOf]; omega
    · obtain rfl : i = 5 := by omega
      clear hwdr
      have HS := Lib.hid HNr.out
      clear hN hT HNr
      have HC := Lib.hid (t_no HS.out.rt [110, 111, 116] (isS_other hy (by decide)))
      go_wp2_with fail
      refine HC.out.mono ?_
      rintro x w21 ⟨rfl, -, ht⟩
      have hn := HS.out.quiet hgp ht
      clear HS
      have HS := Lib.hid hn
      have hNl := hn.lt
      clear ht hn HC
      have HC := Lib.hid (t_no HS.out.rt [114, 101, 112, 101, 97, 116] (isS_other hy (by decide)))
      go_wp2_with fail
      refine HC.out.mono ?_
      rintro x w22 ⟨rfl, -, ht⟩
      have hn := HS.out.quiet hgp ht
      clear HS
      have HS := Lib.hid hn
      have hNl := hn.lt
      clear ht hn HC
      have HC := Lib.hid (t_yes HS.out.rt [112, 105, 99, 107] hy)
      go_wp2_with fail
      refine HC.out.mono ?_
      rintro x w23 ⟨rfl, hr, ht⟩
      have hn := HS.out.call hgp hr ht
      clear HS
      have HS := Lib.hid hn
      clear hr ht hn HC
      obtain ⟨q0, q1, q2, q3, q4, q5, q6, q7, q8, q9, ql⟩ := nd_cells HS.out.h5
      have f0 := HS.out.free 0
      have f1 := HS.out.free 1
      have f2 := HS.out.free 2
      have f3 := HS.out.free 3
      have f4 := HS.out.free 4
      have f5 := HS.out.free 5
      have f6 := HS.out.free 6
      have f7 := HS.out.free 7
      have f8 := HS.out.free 8
      have f9 := HS.out.free 9
      obtain ⟨w24, hw24⟩ : ∃ W, w23.setCell ⟨w.heap.size + 1, 0, none⟩ (.int .i64 11) = W := ⟨_, rfl⟩
      have hn := HS.out.set hgp hg 0 (.int .i64 11) (us := [.int .i64 11, .int .i64 0, .int .i64 0, .string ⟨#[]⟩, .int .i64 0, .int .i64 0, .string ⟨#[]⟩, .slice none 0 0, .slice none 0 0, .slice none 0 0]) rfl
      rw [hw24] at hn
      clear HS
      have HS := Lib.hid hn
      clear hn
      have HC := Lib.hid (rpick_any hnk HSUB.out hbad HS.out.rt (by have := HS.out.lt; omega))
      have hc0 := HS.out.lt
      go_wp2_with fail
      refine HC.out.mono ?_
      rintro x w25 ⟨ht, hr, ws, ys, l, xs, A1, c1x, A, cx, rfl, hs1, hl1, hs2, hl2, hyo⟩
      have hn := HS.out.call hgp hr ht
      clear HS
      have HS := Lib.hid hn
      have HK := Lib.hid (And.intro hs1 (And.intro hl1 (And.intro hs2 hl2)))
      have HYO := Lib.hid hyo
      have HC0 := Lib.hid hc0
      clear ht hr hs1 hl1 hs2 hl2 hn hyo HC hc0
      try clear q0 q1 q2 q3 q4 q5 q6 q7 q8 q9 ql f0 f1 f2 f3 f4 f5 f6 f7 f8 f9
      obtain ⟨q0, q1, q2, q3, q4, q5, q6, q7, q8, q9, ql⟩ := nd_cells HS.out.h5
      have f0 := HS.out.free 0
      have f1 := HS.out.free 1
      have f2 := HS.out.free 2
      have f3 := HS.out.free 3
      have f4 := HS.out.free 4
      have f5 := HS.out.free 5
      have f6 := HS.out.free 6
      have f7 := HS.out.free 7
      have f8 := HS.out.free 8
      have f9 := HS.out.free 9
      obtain ⟨w26, hw26⟩ : ∃ W, (w25.setCell ⟨w.heap.size + 1, 9, none⟩ (.slice A1 ws.length c1x)).setCell ⟨w.heap.size + 1, 8, none⟩ (.slice A l.length cx) = W := ⟨_, rfl⟩
      have hn := (HS.out.set hgp hg 9 (.slice A1 ws.length c1x) (us := [.int .i64 11, .int .i64 0, .int .i64 0, .string ⟨#[]⟩, .int .i64 0, .int .i64 0, .string ⟨#[]⟩, .slice none 0 0, .slice none 0 0, .slice A1 ws.length c1x]) rfl).set hgp hg 8 (.slice A l.length cx) (us := [.int .i64 11, .int .i64 0, .int .i64 0, .string ⟨#[]⟩, .int .i64 0, .int .i64 0, .string ⟨#[]⟩, .slice none 0 0, .slice A l.length cx, .slice A1 ws.length c1x]) rfl
      rw [hw26] at hn
      clear HS
      have HS := Lib.hid hn
      clear hn
      have HT3 := Lib.hid (show Touch (F3 gp w) w25 w26 from by rw [← hw26]; exact ((Touch.refl (F3 gp w) _).setCell (p := ⟨w.heap.size + 1, 9, none⟩) (.inl (.inr (.inr rfl))) _).setCell (p := ⟨w.heap.size + 1, 8, none⟩) (.inl (.inr (.inr rfl))) _)
      obtain ⟨hld, W9, hst, hra, hr9, ht9, ht3⟩ := HS.out.fin hgp hg rfl (by intro v hv; simp only [List.mem_cons, List.not_mem_nil, or_false] at hv; rcases hv with rfl | rfl | rfl | rfl | rfl | rfl | rfl | rfl | rfl | rfl <;> rfl)
      obtain ⟨y0, y1, y2, y3, y4, y5, y6, y7, y8, y9⟩ := range_cells hra
      have HZ := Lib.hid (And.intro hr9 (And.intro ht9 ht3))
      have hNl := HS.out.lt
      clear hra hr9 ht9 ht3
      go_wp2
      have HNT := nt_pick HK.out.1 HK.out.2.1 HK.out.2.2.1 HK.out.2.2.2 (HT3.out.same HZ.out.2.2) (by have := HC0.out; omega) hgp
      exact bodyPost_ret (v := .agg #[.int .i64 11, .int .i64 0, .int .i64 0, .string ⟨#[]⟩, .int .i64 0, .int .i64 0, .string ⟨#[]⟩, .slice none 0 0, .slice A l.length cx, .slice A1 ws.length c1x]) (by simp [results, Tryz.results20, go_sem, y0, y1, y2, y3, y4, y5, y6, y7, y8, y9]) rfl
        ⟨HZ.out.2.1, HZ.out.1, .mk 11 0 0 [] x0 l ws, 0, 0, ⟨#[]⟩, none, 0, 0, _, _, _, _, rfl, HNT, fun e => by rw [(HYO.out e).1, (HYO.out e).2]⟩
end Go.Proofs.YtnphaaahdlkmhaaGreat
end
