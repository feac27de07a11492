/-
  What package printer's Print returns of a program in memory. Conditions: the library's table can be read; numbers fit; those that the theorem names.
-/
import Derived.Test.YtkmbobfjoaldgaaGreatDoorZb3
import Derived.Test.YtkmbobfjoaldgaaGreatDoorZb1
import Derived.Test.YtkmbobfjoaldgaaGreatDoorZa17
import Derived.Test.YtkmbobfjoaldgaaGreatDoorNum
import Derived.Test.YtkmbobfjoaldgaaGreatDoorZa1
import Derived.Lib.LaidTab
import Derived.KernelRfl
namespace Go.Proofs.YtkmbobfjoaldgaaGreatDoor
open Go.ChangeShapes Go.WideShapes Go.ChangeAt Go.RowKit
set_option maxRecDepth 100000
set_option maxHeartbeats 8000000

structure PgOk (p : Pg) : Prop where
  kl : p.keys.length ≤ 1000
  tl : p.trees.length ≤ 1000
  dl : p.doms.length ≤ 1000
  trees : ∀ t ∈ p.trees, fitB 40 t.root = true ∧ PrN 40 t.root
  doms : ∀ d ∈ p.doms, DmOk d
theorem pprint_any {p : Pg} (ho : PgOk p) (hl : (pgL p).length ≤ 900000) (hne : pgL p ≠ []) {w : World} {Q : Nat → Prop} {A1 A2 A3 : Option Addr} {n1 n2 n3 c1 c2 c3 : Nat} (hpg : PgAt w Q p [.slice A1 n1 c1, .slice A2 n2 c2, .slice A3 n3 c3]) (htab : Lib.TabIs Tryz.prog w "internal/strconv.uint64pow10" .u64 Lib.pow10Tab) :
    Calls Tryz.prog 12 #[.agg #[.slice A1 n1 c1, .slice A2 n2 c2, .slice A3 n3 c3]] w fun e w' => e = .returned (.string (bs (pgL p))) ∧ Touch NoB w w' := by
  obtain ⟨B, hBw⟩ : ∃ B, w.heap.size = B := ⟨_, rfl⟩
  have hpg2 := hpg.via (R := fun k => k < B) (fun b _ h => by omega)
  obtain ⟨v1, v2, v3, xs, ys, e, x1, x2, x3, x4, x5⟩ := hpg2
  simp only [List.cons.injEq, and_true] at e
  obtain ⟨rfl, rfl, rfl⟩ := e
  obtain ⟨e1, e2, e3⟩ : n1 = p.keys.length ∧ n2 = p.trees.length ∧ n3 = p.doms.length := by
    obtain ⟨_, _, e1, -⟩ := x1
    obtain ⟨_, _, e2, -⟩ := x2
    obtain ⟨_, _, e3, -⟩ := x4
    cases e1; cases e2; cases e3; exact ⟨rfl, rfl, rfl⟩
  have HS := Lib.hid (And.intro e1.symm (And.intro e2.symm e3.symm))
  rw [← e1] at x1
  rw [← e2] at x2
  rw [← e3] at x4
  obtain ⟨hkl, htl, hdl, htr, hdo⟩ := ho
  rw [← e1] at hkl
  rw [← e2] at htl
  rw [← e3] at hdl
  obtain ⟨X1, hX1⟩ : ∃ X, p.keys.flatMap kyL = X := ⟨_, rfl⟩
  obtain ⟨X2, hX2⟩ : ∃ X, p.trees.flatMap trL = X := ⟨_, rfl⟩
  obtain ⟨X3, hX3⟩ : ∃ X, p.doms.flatMap dmL = X := ⟨_, rfl⟩
  have htx : pgL p = X1 ++ X2 ++ X3 := by rw [← hX1, ← hX2, ← hX3]; rfl
  rw [htx] at hl hne ⊢
  have HNE := Lib.hid hne
  simp only [List.length_append] at hl
  have htb : TbB B w := by rw [← hBw]; exact Lib.tabBelow_of_tabIs htab
  obtain ⟨W1, hW1⟩ : ∃ W, w.alloc (.cells #[.slice A1 n1 c1, .slice A2 n2 c2, .slice A3 n3 c3] 29) = W := ⟨_, rfl⟩
  obtain ⟨W0, hW0⟩ : ∃ W, W1.alloc (.cells #[.pointer none, .slice none 0 0] 88) = W := ⟨_, rfl⟩
  have t1 : Touch NoB w W1 := by rw [← hW1]; exact (Touch.refl _ _).alloc _
  have t2 : Touch NoB W1 W0 := by rw [← hW0]; exact (Touch.refl _ _).alloc _
  have hs1 : W1.heap.size = B + 1 := by rw [← hW1]; simp only [World.size_alloc]; omega
  have hb1 : B3 W1 29 B (.slice A1 n1 c1) (.slice A2 n2 c2) (.slice A3 n3 c3) := by rw [← hW1]; exact B3.new _ _ _ _ _ hBw
  have hb : B3 W0 29 B (.slice A1 n1 c1) (.slice A2 n2 c2) (.slice A3 n3 c3) := (t2.block _ (blk_lt hb1) (fun x => x)).trans hb1
  have hwb : W0.heap[W1.heap.size]? = some (.cells #[.pointer none, .slice none 0 0] 88 (0, 0)) := by rw [← hW0]; exact alloc_blk _ _ _ rfl
  obtain ⟨b, hbd⟩ : ∃ b, W1.heap.size = b := ⟨_, rfl⟩
  rw [hbd] at hwb hs1
  have hw0 : WB W0 B b [] := ⟨by omega, .pointer none, .slice none 0 0, hwb, .inl rfl, BR.nil _ _⟩
  have t0 := t1.same t2
  have HBW := Lib.hid (fun (W : World) (k : Wr B b W0 W) => B3.cells (show B3 W 29 B (.slice A1 n1 c1) (.slice A2 n2 c2) (.slice A3 n3 c3) from k.oth _ _ _ _ hb (by decide) (by omega)))
  have HBW' := Lib.hid (fun (W : World) (k : Wr B b W0 W) (hX : ∀ c, W0.heap[b]? = some c → True) => k)
  obtain ⟨u0, u1, u2, ul⟩ := hb.cells
  have HW0 := Lib.hid (show Below B w W0 from t0.belowB (by omega))
  have HKY := Lib.hid (fun (W : World) (t : Below B w W) => x1.touch t.touchB (fun _ h h' => by omega))
  have HTR := Lib.hid (fun (W : World) (t : Below B w W) (i : Nat) (y : Tr) (hy : p.trees[i]? = some y) => tree_at (x2.touch t.touchB (fun _ h h' => by omega)) (x3.mono (fun x ys hx => hx.touch t.touchB (fun _ h h' => by omega))) i y hy)
  have HDO := Lib.hid (fun (W : World) (t : Below B w W) (i : Nat) (y : Dm) (hy : p.doms[i]? = some y) => dom_at (i := i) (x4.touch t.touchB (fun _ h h' => by omega)) (x5.mono (fun x ys hx => hx.touch t.touchB (fun _ h h' => by omega))) hy)
  have HK := Lib.hid (And.intro htr (And.intro hdo (And.intro htb hl)))
  have HX := Lib.hid (And.intro hX1 (And.intro hX2 hX3))
  have HWB := Lib.hid hw0
  have hbl0 := hw0.lt
  have HWR := Lib.hid hwb
  clear hne hpg htab e1 e2 e3 x1 x2 x3 x4 x5 htr hdo hl htx hX1 hX2 hX3 htb t1 t2 hb1 hb hwb hw0 t0 HBW'
  clear hs1
  subst hbd
  subst hBw
  go_enter Tryz.func12, Tryz.ntmps12
  have HG := Lib.hid (And.intro HWB.out (Wr.refl w.heap.size W1.heap.size W0))
  go_wp2
  go_loopw [13] (fun v wr => FlRel W0 w.heap.size W1.heap.size ([]) kyL p.keys v wr) (fun v _ => n1 - (intOf v).toNat)
  case atStart => exact ⟨0, Nat.zero_le _, rfl, by simpa using HG.out.1, HG.out.2⟩
  case round =>
    obtain ⟨i, hi, rfl, hwb, hwr⟩ := hrel
    rw [HS.out.1] at hi
    by_cases hlt : i < n1
    · obtain ⟨y, hy⟩ : ∃ y, p.keys[i]? = some y := ⟨p.keys[i]'(by rw [HS.out.1]; exact hlt), List.getElem?_eq_getElem _⟩
      have hbw : Below w.heap.size w wr := HW0.out.trans hwr.below
      obtain ⟨e0, e1, e2⟩ := kyC_at p.keys i y hy
      obtain ⟨g, rfl, k0, k1, k2⟩ := (HKY.out _ hbw).cells3 e0 e1 e2
      have htk := fl_take (f := kyL) hy
      have hle := fl_le kyL p.keys (i + 1)
      rw [htk, List.length_append, HX.out.1] at hle
      obtain ⟨Wk, hWk⟩ : ∃ W, wr.alloc (.cells #[.string (bs y.nm), .int .i64 (y.kd : Int), .bool y.sh] 62) = W := ⟨_, rfl⟩
      have tk : Touch NoB wr Wk := by rw [← hWk]; exact (Touch.refl _ _).alloc _
      have hkb : B3 Wk 62 wr.heap.size (.string (bs y.nm)) (.int .i64 (y.kd : Int)) (.bool y.sh) := by rw [← hWk]; exact B3.new _ _ _ _ _ rfl
      obtain ⟨q0, q1, q2, ql⟩ := hkb.cells
      have HC := Lib.hid (wkey_any (hwb.touch tk) y (by have := HK.out.2.2.2; simp only [List.nil_append]; omega))
      have HE := Lib.hid (And.intro htk (hwr.trans (Wr.touch hwb.leB tk)))
      have hbl := hwb.lt
      have hgl := cell_lt k0
      clear hwb hwr hbw htk hle tk hkb hy
      go_wp2_with fail
      refine HC.out.mono ?_
      rintro r w3 ⟨rfl, hw3, hk3⟩
      have HG2 := Lib.hid (And.intro hw3 (HE.out.2.trans hk3))
      clear hw3 hk3
      go_wp2
      go_roundw
      case rel => exact ⟨i + 1, by rw [HS.out.1]; omega, by go_num, by rw [HE.out.1, ← List.append_assoc]; exact HG2.out.1, HG2.out.2⟩
      case measure => simp [intOf]; omega
    · obtain rfl : i = n1 := by omega
      rw [List.take_of_length_le (by rw [HS.out.1]; exact Nat.le_refl _), HX.out.1] at hwb
      obtain ⟨v0, v1, v2, vl⟩ := HBW.out _ hwr
      have HG13 := Lib.hid (And.intro hwb hwr)
      have hbl13 := hwb.lt
      clear hwb hwr
      go_wp2
      go_loopw [23] (fun v wr => FlRel W0 w.heap.size W1.heap.size ([] ++ X1) trL p.trees v wr) (fun v _ => n2 - (intOf v).toNat)
      case atStart => exact ⟨0, Nat.zero_le _, rfl, by simpa using HG13.out.1, HG13.out.2⟩
      case round =>
        obtain ⟨i, hi, rfl, hwb, hwr⟩ := hrel
        rw [HS.out.2.1] at hi
        by_cases hlt : i < n2
        · obtain ⟨y, hy⟩ : ∃ y, p.trees[i]? = some y := ⟨p.trees[i]'(by rw [HS.out.2.1]; exact hlt), List.getElem?_eq_getElem _⟩
          have hbw : Below w.heap.size w wr := HW0.out.trans hwr.below
          obtain ⟨D, g, f0, f1, f2, C, cm, cc, C1, d1, C2, d2, rfl, hk⟩ := HTR.out _ hbw i y hy
          obtain ⟨kl, kn, k0, k1, k2, k3, k4, k5, k6, k7, k8, k9, hnt⟩ := hk
          have htk := fl_take (f := trL) hy
          have hle := fl_le trL p.trees (i + 1)
          rw [htk, List.length_append, HX.out.2.1] at hle
          obtain ⟨Wk, hWk⟩ : ∃ W, wr.alloc (.cells #[.string (bs y.nm), .int .i64 (y.root.kd : Int), .int .i64 (y.root.a : Int), .int .i64 (y.root.b : Int), .string (bs y.root.nm), .int .i64 f0, .int .i64 f1, .string f2, .slice C cm cc, .slice C1 y.root.ks.length d1, .slice C2 y.root.ws.length d2] 49) = W := ⟨_, rfl⟩
          have tk : Touch NoB wr Wk := by rw [← hWk]; exact (Touch.refl _ _).alloc _
          have hkb : Wk.heap[wr.heap.size]? = some (.cells #[.string (bs y.nm), .int .i64 (y.root.kd : Int), .int .i64 (y.root.a : Int), .int .i64 (y.root.b : Int), .string (bs y.root.nm), .int .i64 f0, .int .i64 f1, .string f2, .slice C cm cc, .slice C1 y.root.ks.length d1, .slice C2 y.root.ws.length d2] 49 (0, 0)) := by rw [← hWk]; exact alloc_blk _ _ _ rfl
          obtain ⟨q0, q1, q2, q3, q4, q5, q6, q7, q8, q9, q10, ql⟩ := tr_cells hkb
          obtain ⟨hyf, hyp⟩ := HK.out.1 y (List.mem_of_getElem? hy)
          have HC := Lib.hid (wtree_any (hwb.touch tk) (HK.out.2.2.1.go (hbw.trans (tk.belowB hwb.leB))) y hyp (NT.touch tk (fun _ _ x => x) 40 y.root _ (NT.fit 40 D y.root _ hyf hnt)) (by have := HK.out.2.2.2; simp only [List.length_append, List.nil_append]; omega))
          have HE := Lib.hid (And.intro htk (hwr.trans (Wr.touch hwb.leB tk)))
          have hbl := hwb.lt
          clear hwb hwr hbw htk hle tk hkb hy hyf hyp hnt
          go_wp2_with fail
          refine HC.out.mono ?_
          rintro r w3 ⟨rfl, hw3, hk3⟩
          have HG2 := Lib.hid (And.intro hw3 (HE.out.2.trans hk3))
          clear hw3 hk3
          go_wp2
          go_roundw
          case rel => exact ⟨i + 1, by rw [HS.out.2.1]; omega, by go_num, by rw [HE.out.1, ← List.append_assoc]; exact HG2.out.1, HG2.out.2⟩
          case measure => simp [intOf]; omega
        · obtain rfl : i = n2 := by omega
          rw [List.take_of_length_le (by rw [HS.out.2.1]; exact Nat.le_refl _), HX.out.2.1] at hwb
          obtain ⟨v0, v1, v2, vl⟩ := HBW.out _ hwr
          have HG23 := Lib.hid (And.intro hwb hwr)
          have hbl23 := hwb.lt
          clear hwb hwr
          go_wp2
          go_loopw [33] (fun v wr => FlRel W0 w.heap.size W1.heap.size ([] ++ X1 ++ X2) dmL p.doms v wr) (fun v _ => n3 - (intOf v).toNat)
          case atStart => exact ⟨0, Nat.zero_le _, rfl, by simpa using HG23.out.1, HG23.out.2⟩
          case round =>
            obtain ⟨i, hi, rfl, hwb, hwr⟩ := hrel
            rw [HS.out.2.2] at hi
            by_cases hlt : i < n3
            · obtain ⟨y, hy⟩ : ∃ y, p.doms[i]? = some y := ⟨p.doms[i]'(by rw [HS.out.2.2]; exact hlt), List.getElem?_eq_getElem _⟩
              have hbw : Below w.heap.size w wr := HW0.out.trans hwr.below
              obtain ⟨g, F1, g1, F2, g2, F3, g3, us, rfl, k0, k1, k2, k3, s1, s2, s3, s4⟩ := HDO.out _ hbw i y hy
              have htk := fl_take (f := dmL) hy
              have hle := fl_le dmL p.doms (i + 1)
              rw [htk, List.length_append, HX.out.2.2] at hle
              obtain ⟨Wk, hWk⟩ : ∃ W, wr.alloc (.cells #[.string (bs y.nm), .slice F1 y.vars.length g1, .slice F2 y.acts.length g2, .slice F3 y.goal.length g3] 69) = W := ⟨_, rfl⟩
              have tk : Touch NoB wr Wk := by rw [← hWk]; exact (Touch.refl _ _).alloc _
              have hkb : B4 Wk 69 wr.heap.size (.string (bs y.nm)) (.slice F1 y.vars.length g1) (.slice F2 y.acts.length g2) (.slice F3 y.goal.length g3) := by rw [← hWk]; exact B4.new _ _ _ _ _ _ rfl
              obtain ⟨q0, q1, q2, q3, ql⟩ := hkb.cells
              have hyo := HK.out.2.1 y (List.mem_of_getElem? hy)
              have HC := Lib.hid (wdom_any (hwb.touch tk) (HK.out.2.2.1.go (hbw.trans (tk.belowB hwb.leB))) y hyo (s1.touch tk (fun _ _ x => x)) (s2.touch tk (fun _ _ x => x)) (s3.mono (fun x ys hx => hx.touch tk (fun _ _ x => x))) (s4.touch tk (fun _ _ x => x)) (by have := HK.out.2.2.2; simp only [List.length_append, List.nil_append]; omega))
              have HE := Lib.hid (And.intro htk (hwr.trans (Wr.touch hwb.leB tk)))
              have hbl := hwb.lt
              have hgl := cell_lt k0
              clear hwb hwr hbw htk hle tk hkb hy hyo s1 s2 s3 s4
              go_wp2_with fail
              refine HC.out.mono ?_
              rintro r w3 ⟨rfl, hw3, hk3⟩
              have HG2 := Lib.hid (And.intro hw3 (HE.out.2.trans hk3))
              clear hw3 hk3
              go_wp2
              go_roundw
              case rel => exact ⟨i + 1, by rw [HS.out.2.2]; omega, by go_num, by rw [HE.out.1, ← List.append_assoc]; exact HG2.out.1, HG2.out.2⟩
              case measure => simp [intOf]; omega
            · obtain rfl : i = n3 := by omega
              rw [List.take_of_length_le (by rw [HS.out.2.2]; exact Nat.le_refl _), HX.out.2.2] at hwb
              obtain ⟨v0, v1, v2, vl⟩ := HBW.out _ hwr
              have HG33 := Lib.hid (And.intro hwb hwr)
              have hbl33 := hwb.lt
              have HST := Lib.hid (bstr_any (l := X1 ++ X2 ++ X3) hwb HNE.out)
              obtain ⟨tx, htx⟩ : ∃ tx, X1 ++ X2 ++ X3 = tx := ⟨_, rfl⟩
              rw [htx] at HST
              have HTX := Lib.hid htx
              clear htx
              have HE2 := Lib.hid (HW0.out.trans hwr.below)
              clear hwb hwr
              go_wp2_with fail
              refine HST.out.mono ?_
              rintro r w2 ⟨rfl, hk2⟩
              go_wp2
              go_ret
              exact ⟨by rw [HTX.out]; rfl, touch_of (HE2.out.trans hk2)⟩
end Go.Proofs.YtkmbobfjoaldgaaGreatDoor

/-
  What package printer's Node returns of a node in memory; its Print of an empty program; the statements' own example. Conditions: the library's table can be read; those that each theorem names.
-/
namespace Go.Proofs.YtkmbobfjoaldgaaGreatDoor
open Go.ChangeShapes Go.WideShapes Go.ChangeAt Go.RowKit
set_option maxRecDepth 100000
set_option maxHeartbeats 8000000

theorem wi_any (n lo hi : Int) (w : World) :
    Calls Tryz.prog 50 #[.int .i64 n, .int .i64 lo, .int .i64 hi] w fun e w' => e = .returned (.int .i64 (withinI n lo hi)) ∧ w = w' := by
  by_cases h1 : n < lo <;> by_cases h2 : hi < lo <;> by_cases h3 : hi < n
  all_goals
    go_enter Tryz.func50, Tryz.ntmps50
    go_wp2
    all_goals
      go_ret
      exact ⟨ret_int (by unfold withinI; repeat' split <;> omega), rfl⟩
theorem ndL_ne {D lv : Nat} {n : Nd} (h : PrN D n) : ndL D lv n ≠ [] := by
  cases D with
  | zero => exact h.elim
  | succ D =>
    intro e
    have := congrArg List.length e
    unfold ndL at this
    have hl : ∀ ws, 1 ≤ (lnL lv ws).length := fun ws => by unfold lnL; simp only [List.length_append, List.length_cons, List.length_nil]; omega
    split at this
    · have := hl (hdL n ++ [[59]]); simp only [List.length_nil] at *; omega
    · split at this
      · have := hl (hdL n); simp only [List.length_append, List.length_nil] at *; omega
      · have := hl (hdL n ++ [[123]]); simp only [List.length_append, List.length_nil] at *; omega
theorem pNode_any {D : Nat} (hD : D ≤ 40) (n : Nd) (hp : PrN D n) (deep : Int) (lv : Nat) (hlv : withinI deep 0 100 = (lv : Int)) (w : World) {Q : Nat → Prop} {e0 e1 : Int} {e2 : ByteArray} {A : Option Addr} {m c : Nat} {A1 : Option Addr} {c1 : Nat} {A2 : Option Addr} {c2 : Nat}
    (hn : NT w Q D n [.int .i64 (n.kd : Int), .int .i64 (n.a : Int), .int .i64 (n.b : Int), .string (bs n.nm), .int .i64 e0, .int .i64 e1, .string e2, .slice A m c, .slice A1 n.ks.length c1, .slice A2 n.ws.length c2])
    (htab : Lib.TabIs Tryz.prog w "internal/strconv.uint64pow10" .u64 Lib.pow10Tab) (hl : (ndL D lv n).length ≤ 900000) :
    Calls Tryz.prog 20 #[.agg #[.int .i64 (n.kd : Int), .int .i64 (n.a : Int), .int .i64 (n.b : Int), .string (bs n.nm), .int .i64 e0, .int .i64 e1, .string e2, .slice A m c, .slice A1 n.ks.length c1, .slice A2 n.ws.length c2], .int .i64 deep] w fun e w' => e = .returned (.string (bs (ndL D lv n))) ∧ Touch NoB w w' := by
  have hl100 : lv ≤ 100 := by have := within_hi deep 0 100; have := within_lo deep 0 100; omega
  have HNE := Lib.hid (ndL_ne (lv := lv) hp)
  have hn2 := NT.via (R := fun k => k < w.heap.size) (fun b _ h => h) D n _ hn
  have HRO := Lib.hid (fun (W : World) (b : Nat) (t : Touch NoB w W) (hw : WB W w.heap.size b []) => root_any hD n hp W w.heap.size b lv [] (NT.touch t (fun _ _ x => x) D n _ hn2) hw (TbB.go (Lib.tabBelow_of_tabIs htab) (t.belowB (Nat.le_refl _))) (by simpa using hl) (by omega))
  have HWI := Lib.hid (fun W => wi_any deep 0 100 W)
  rw [hlv] at HWI
  obtain ⟨L, hL⟩ : ∃ L, n.ks.length = L := ⟨_, rfl⟩
  obtain ⟨M, hM⟩ : ∃ M, n.ws.length = M := ⟨_, rfl⟩
  rw [hL, hM] at HRO ⊢
  obtain ⟨X, hX⟩ : ∃ X, ndL D lv n = X := ⟨_, rfl⟩
  rw [hX] at HRO HNE ⊢
  obtain ⟨W1, hW1⟩ : ∃ W, w.alloc (.cells #[.int .i64 (n.kd : Int), .int .i64 (n.a : Int), .int .i64 (n.b : Int), .string (bs n.nm), .int .i64 e0, .int .i64 e1, .string e2, .slice A m c, .slice A1 L c1, .slice A2 M c2] 47) = W := ⟨_, rfl⟩
  obtain ⟨W0, hW0⟩ : ∃ W, W1.alloc (.cells #[.pointer none, .slice none 0 0] 88) = W := ⟨_, rfl⟩
  have t1 : Touch NoB w W1 := by rw [← hW1]; exact (Touch.refl _ _).alloc _
  have t2 : Touch NoB W1 W0 := by rw [← hW0]; exact (Touch.refl _ _).alloc _
  have hb1 : W1.heap[w.heap.size]? = some (.cells #[.int .i64 (n.kd : Int), .int .i64 (n.a : Int), .int .i64 (n.b : Int), .string (bs n.nm), .int .i64 e0, .int .i64 e1, .string e2, .slice A m c, .slice A1 L c1, .slice A2 M c2] 47 (0, 0)) := by rw [← hW1]; exact alloc_blk _ _ _ rfl
  have hb := (t2.block _ (blk_lt hb1) (fun x => x)).trans hb1
  have hwb : W0.heap[W1.heap.size]? = some (.cells #[.pointer none, .slice none 0 0] 88 (0, 0)) := by rw [← hW0]; exact alloc_blk _ _ _ rfl
  have hw0 : WB W0 w.heap.size W1.heap.size [] := ⟨t1.size, .pointer none, .slice none 0 0, hwb, .inl rfl, BR.nil _ _⟩
  obtain ⟨x0, x1, x2, x3, x4, x5, x6, x7, x8, x9, xl⟩ := nd_cells (W := W0.drew) (show W0.drew.heap[w.heap.size]? = _ from hb)
  have HT := Lib.hid (And.intro (show Touch NoB w W0.drew from (t1.same t2).drew) (hw0.touch (Touch.refl _ _).drew))
  have hbl := hw0.lt
  clear hn hn2 hp htab hl hX hb1 hb hwb hw0 t1 t2 hlv
  go_enter Tryz.func20, Tryz.ntmps20
  go_wp2_with fail
  go_region_law (first
    | (go_simp; go_at_call 50; refine (HWI.out _).mono ?_; rintro r w1 ⟨rfl, rfl⟩)
    | (go_simp; go_at_call 49; refine (HRO.out _ _ HT.out.1 HT.out.2).mono ?_; rintro r w1 ⟨rfl, hw1, hk1⟩
       have HG := Lib.hid (And.intro hw1 (HT.out.1.belowB (Nat.le_refl _) |>.trans hk1.below))
       have hbl1 := hw1.lt
       clear hw1 hk1))
  all_goals
    have HST := Lib.hid (bstr_any (l := X) HG.out.1 HNE.out)
    go_wp2_with fail
    refine HST.out.mono ?_
    rintro r w2 ⟨rfl, hk2⟩
    go_wp2
    go_ret
    exact ⟨rfl, touch_of (HG.out.2.trans hk2)⟩
theorem pprint_nil (w : World) :
    Calls Tryz.prog 12 #[.agg #[.slice none 0 0, .slice none 0 0, .slice none 0 0]] w fun e w' => e = .returned (.string (bs [])) ∧ Touch NoB w w' := by
  obtain ⟨W1, hW1⟩ : ∃ W, w.alloc (.cells #[.slice none 0 0, .slice none 0 0, .slice none 0 0] 29) = W := ⟨_, rfl⟩
  obtain ⟨W0, hW0⟩ : ∃ W, W1.alloc (.cells #[.pointer none, .slice none 0 0] 88) = W := ⟨_, rfl⟩
  have t1 : Touch NoB w W1 := by rw [← hW1]; exact (Touch.refl _ _).alloc _
  have t2 : Touch NoB W1 W0 := by rw [← hW0]; exact (Touch.refl _ _).alloc _
  have hb1 : B3 W1 29 w.heap.size (.slice none 0 0) (.slice none 0 0) (.slice none 0 0) := by rw [← hW1]; exact B3.new _ _ _ _ _ rfl
  have hb : B3 W0 29 w.heap.size (.slice none 0 0) (.slice none 0 0) (.slice none 0 0) := (t2.block _ (blk_lt hb1) (fun x => x)).trans hb1
  have hwb : W0.heap[W1.heap.size]? = some (.cells #[.pointer none, .slice none 0 0] 88 (0, 0)) := by rw [← hW0]; exact alloc_blk _ _ _ rfl
  obtain ⟨u0, u1, u2, ul⟩ := hb.cells
  have hbl := blk_lt hwb
  have HST := Lib.hid (bstr_nil (B := W0.heap.size) hwb)
  have HT := Lib.hid (t1.same t2)
  clear t1 t2 hb1 hb hwb
  go_enter Tryz.func12, Tryz.ntmps12
  go_wp2
  go_loopw [13] (fun v wr => v = .int .i64 0 ∧ wr = W0) (fun _ _ => 0)
  case atStart => exact ⟨rfl, rfl⟩
  case round =>
    obtain ⟨rfl, hw⟩ := hrel
    rw [hw]
    clear hw
    go_wp2
    go_loopw [23] (fun v wr => v = .int .i64 0 ∧ wr = W0) (fun _ _ => 0)
    case atStart => exact ⟨rfl, rfl⟩
    case round =>
      obtain ⟨rfl, hw⟩ := hrel
      rw [hw]
      clear hw
      go_wp2
      go_loopw [33] (fun v wr => v = .int .i64 0 ∧ wr = W0) (fun _ _ => 0)
      case atStart => exact ⟨rfl, rfl⟩
      case round =>
        obtain ⟨rfl, hw⟩ := hrel
        rw [hw]
        clear hw
        go_wp2_with fail
        refine HST.out.mono ?_
        rintro r w2 ⟨rfl, hk2⟩
        go_wp2
        go_ret
        exact ⟨rfl, HT.out.same (touch_of hk2)⟩
end Go.Proofs.YtkmbobfjoaldgaaGreatDoor

/-
  The texts of PrinterKnown: what they come to, and what is written of it. Lists alone.
-/
namespace Go.Proofs.YtkmbobfjoaldgaaGreatDoor
set_option maxRecDepth 100000

def inB (n : Int) : Bool := decide (-9223372036854775807 ≤ n) && decide (n ≤ 9223372036854775807)
def acB (a : Ac) : Bool := decide (a.cost ≤ 9223372036854775807) && decide (a.need.length ≤ 1000) && decide (a.make.length ≤ 1000) && a.need.all (fun c => inB c.n) && a.make.all (fun c => inB c.n)
theorem acB_ok {a : Ac} (h : acB a = true) : AcOk a := by
  simp only [acB, Bool.and_eq_true, List.all_eq_true, decide_eq_true_eq, inB] at h
  obtain ⟨⟨⟨⟨h1, h2⟩, h3⟩, h4⟩, h5⟩ := h
  exact ⟨by omega, h2, h3, h4, h5⟩
def dmB (d : Dm) : Bool := decide (d.vars.length ≤ 1000) && decide (d.acts.length ≤ 1000) && decide (d.goal.length ≤ 1000) && d.vars.all (fun v => inB v.lo && inB v.hi) && d.acts.all acB && d.goal.all (fun c => inB c.n)
theorem dmB_ok {d : Dm} (h : dmB d = true) : DmOk d := by
  simp only [dmB, Bool.and_eq_true, List.all_eq_true, decide_eq_true_eq, inB] at h
  obtain ⟨⟨⟨⟨⟨h1, h2⟩, h3⟩, h4⟩, h5⟩, h6⟩ := h
  exact ⟨h1, h2, h3, fun v hv => h4 v hv, fun a ha => acB_ok (h5 a ha), h6⟩
def pgB (p : Pg) : Bool := decide (p.keys.length ≤ 1000) && decide (p.trees.length ≤ 1000) && decide (p.doms.length ≤ 1000) && p.trees.all (fun t => fitB 40 t.root && prB 40 t.root) && p.doms.all dmB
theorem pgB_ok {p : Pg} (h : pgB p = true) : PgOk p := by
  simp only [pgB, Bool.and_eq_true, List.all_eq_true, decide_eq_true_eq] at h
  obtain ⟨⟨⟨⟨h1, h2⟩, h3⟩, h4⟩, h5⟩ := h
  exact ⟨h1, h2, h3, fun t ht => ⟨(h4 t ht).1, prB_ok 40 _ (h4 t ht).2⟩, fun d hd => dmB_ok (h5 d hd)⟩
/-- The texts, and what is written. -/
def pkP : List (Bs × Bs) := [
  ([107, 101, 121, 32, 111, 119, 110, 32, 97, 32, 105, 110, 116, 59, 107, 101, 121, 32, 115, 104, 97, 114, 101, 100, 32, 98, 32, 112, 111, 105, 110, 116, 59], [107, 101, 121, 32, 111, 119, 110, 32, 97, 32, 105, 110, 116, 59, 10, 107, 101, 121, 32, 115, 104, 97, 114, 101, 100, 32, 98, 32, 112, 111, 105, 110, 116, 59, 10]),
  ([116, 114, 101, 101, 32, 116, 123, 115, 101, 113, 123, 111, 107, 59, 110, 111, 116, 32, 102, 97, 105, 108, 59, 125, 125], [116, 114, 101, 101, 32, 116, 32, 123, 10, 32, 32, 115, 101, 113, 32, 123, 10, 32, 32, 32, 32, 111, 107, 59, 10, 32, 32, 32, 32, 110, 111, 116, 10, 32, 32, 32, 32, 32, 32, 102, 97, 105, 108, 59, 10, 32, 32, 125, 10, 125, 10]),
  ([116, 114, 101, 101, 32, 116, 123, 112, 97, 114, 32, 49, 32, 50, 123, 119, 97, 105, 116, 59, 100, 111, 32, 120, 59, 125, 125], [116, 114, 101, 101, 32, 116, 32, 123, 10, 32, 32, 112, 97, 114, 32, 49, 32, 50, 32, 123, 10, 32, 32, 32, 32, 119, 97, 105, 116, 59, 10, 32, 32, 32, 32, 100, 111, 32, 120, 59, 10, 32, 32, 125, 10, 125, 10]),
  ([116, 114, 101, 101, 32, 116, 123, 112, 105, 99, 107, 123, 49, 58, 111, 107, 59, 97, 43, 98, 58, 114, 101, 112, 101, 97, 116, 32, 51, 32, 117, 115, 101, 32, 117, 59, 125, 125], [116, 114, 101, 101, 32, 116, 32, 123, 10, 32, 32, 112, 105, 99, 107, 32, 123, 10, 32, 32, 32, 32, 49, 32, 58, 10, 32, 32, 32, 32, 32, 32, 111, 107, 59, 10, 32, 32, 32, 32, 40, 97, 32, 43, 32, 98, 41, 32, 58, 10, 32, 32, 32, 32, 32, 32, 114, 101, 112, 101, 97, 116, 32, 51, 10, 32, 32, 32, 32, 32, 32, 32, 32, 117, 115, 101, 32, 117, 59, 10, 32, 32, 125, 10, 125, 10]),
  ([116, 114, 101, 101, 32, 116, 123, 105, 102, 32, 110, 111, 116, 32, 97, 60, 49, 59, 125], [116, 114, 101, 101, 32, 116, 32, 123, 10, 32, 32, 105, 102, 32, 40, 110, 111, 116, 32, 97, 32, 60, 32, 49, 41, 59, 10, 125, 10]),
  ([116, 114, 101, 101, 32, 116, 123, 115, 101, 116, 32, 97, 58, 61, 40, 49, 44, 45, 50, 41, 59, 125], [116, 114, 101, 101, 32, 116, 32, 123, 10, 32, 32, 115, 101, 116, 32, 97, 32, 58, 61, 32, 40, 49, 44, 32, 45, 50, 41, 59, 10, 125, 10]),
  ([100, 111, 109, 97, 105, 110, 32, 100, 123, 103, 111, 97, 108, 32, 118, 62, 61, 49, 59, 118, 97, 114, 32, 118, 32, 45, 49, 32, 50, 59, 97, 99, 116, 32, 120, 32, 99, 111, 115, 116, 32, 51, 123, 109, 97, 107, 101, 32, 118, 43, 49, 59, 110, 101, 101, 100, 32, 118, 60, 61, 48, 59, 109, 97, 107, 101, 32, 118, 45, 32, 50, 59, 109, 97, 107, 101, 32, 118, 61, 45, 49, 59, 125, 125], [100, 111, 109, 97, 105, 110, 32, 100, 32, 123, 10, 32, 32, 118, 97, 114, 32, 118, 32, 45, 49, 32, 50, 59, 10, 32, 32, 97, 99, 116, 32, 120, 32, 99, 111, 115, 116, 32, 51, 32, 123, 10, 32, 32, 32, 32, 110, 101, 101, 100, 32, 118, 32, 60, 61, 32, 48, 59, 10, 32, 32, 32, 32, 109, 97, 107, 101, 32, 118, 32, 43, 32, 49, 59, 10, 32, 32, 32, 32, 109, 97, 107, 101, 32, 118, 32, 45, 32, 50, 59, 10, 32, 32, 32, 32, 109, 97, 107, 101, 32, 118, 32, 61, 32, 45, 49, 59, 10, 32, 32, 125, 10, 32, 32, 103, 111, 97, 108, 32, 118, 32, 62, 61, 32, 49, 59, 10, 125, 10]),
  ([116, 114, 101, 101, 32, 116, 123, 105, 102, 32, 102, 97, 114, 40, 97, 44, 116, 117, 114, 110, 40, 49, 44, 50, 41, 41, 42, 50, 61, 61, 114, 101, 32, 98, 59, 125], [116, 114, 101, 101, 32, 116, 32, 123, 10, 32, 32, 105, 102, 32, 40, 40, 102, 97, 114, 40, 97, 44, 32, 116, 117, 114, 110, 32, 40, 49, 44, 32, 50, 41, 41, 32, 42, 32, 50, 41, 32, 61, 61, 32, 114, 101, 32, 98, 41, 59, 10, 125, 10])]
def pkF (p : Bs × Bs) : Bool := match parP p.1 with
  | .ok a => pgB a && decide (pgL a = p.2) && decide (p.1.length ≤ 200) && decide (p.2.length ≤ 1000) && decide (0 < p.2.length)
  | _ => false
theorem pkP_all : pkP.all pkF = true := by decide +kernel
theorem pkP_at {i : Nat} {p : Bs × Bs} (h : pkP[i]? = some p) : ∃ a, parP p.1 = .ok a ∧ PgOk a ∧ pgL a = p.2 ∧ p.1.length ≤ 200 ∧ p.2.length ≤ 1000 ∧ p.2 ≠ [] := by
  have := List.all_eq_true.1 pkP_all p (List.mem_of_getElem? h)
  unfold pkF at this
  split at this
  · rename_i a h1
    simp only [Bool.and_eq_true, decide_eq_true_eq] at this
    obtain ⟨⟨⟨⟨h2, h3⟩, h4⟩, h5⟩, h6⟩ := this
    exact ⟨a, h1, pgB_ok h2, h3, h4, h5, by intro e; rw [e] at h6; simp at h6⟩
  · cases this
def pkA : Array Value := #[.string ⟨#[107, 101, 121, 32, 111, 119, 110, 32, 97, 32, 105, 110, 116, 59, 107, 101, 121, 32, 115, 104, 97, 114, 101, 100, 32, 98, 32, 112, 111, 105, 110, 116, 59]⟩, .string ⟨#[116, 114, 101, 101, 32, 116, 123, 115, 101, 113, 123, 111, 107, 59, 110, 111, 116, 32, 102, 97, 105, 108, 59, 125, 125]⟩, .string ⟨#[116, 114, 101, 101, 32, 116, 123, 112, 97, 114, 32, 49, 32, 50, 123, 119, 97, 105, 116, 59, 100, 111, 32, 120, 59, 125, 125]⟩, .string ⟨#[116, 114, 101, 101, 32, 116, 123, 112, 105, 99, 107, 123, 49, 58, 111, 107, 59, 97, 43, 98, 58, 114, 101, 112, 101, 97, 116, 32, 51, 32, 117, 115, 101, 32, 117, 59, 125, 125]⟩, .string ⟨#[116, 114, 101, 101, 32, 116, 123, 105, 102, 32, 110, 111, 116, 32, 97, 60, 49, 59, 125]⟩, .string ⟨#[116, 114, 101, 101, 32, 116, 123, 115, 101, 116, 32, 97, 58, 61, 40, 49, 44, 45, 50, 41, 59, 125]⟩, .string ⟨#[100, 111, 109, 97, 105, 110, 32, 100, 123, 103, 111, 97, 108, 32, 118, 62, 61, 49, 59, 118, 97, 114, 32, 118, 32, 45, 49, 32, 50, 59, 97, 99, 116, 32, 120, 32, 99, 111, 115, 116, 32, 51, 123, 109, 97, 107, 101, 32, 118, 43, 49, 59, 110, 101, 101, 100, 32, 118, 60, 61, 48, 59, 109, 97, 107, 101, 32, 118, 45, 32, 50, 59, 109, 97, 107, 101, 32, 118, 61, 45, 49, 59, 125, 125]⟩, .string ⟨#[116, 114, 101, 101, 32, 116, 123, 105, 102, 32, 102, 97, 114, 40, 97, 44, 116, 117, 114, 110, 40, 49, 44, 50, 41, 41, 42, 50, 61, 61, 114, 101, 32, 98, 59, 125]⟩]
def pkW : Array Value := #[.string ⟨#[107, 101, 121, 32, 111, 119, 110, 32, 97, 32, 105, 110, 116, 59, 10, 107, 101, 121, 32, 115, 104, 97, 114, 101, 100, 32, 98, 32, 112, 111, 105, 110, 116, 59, 10]⟩, .string ⟨#[116, 114, 101, 101, 32, 116, 32, 123, 10, 32, 32, 115, 101, 113, 32, 123, 10, 32, 32, 32, 32, 111, 107, 59, 10, 32, 32, 32, 32, 110, 111, 116, 10, 32, 32, 32, 32, 32, 32, 102, 97, 105, 108, 59, 10, 32, 32, 125, 10, 125, 10]⟩, .string ⟨#[116, 114, 101, 101, 32, 116, 32, 123, 10, 32, 32, 112, 97, 114, 32, 49, 32, 50, 32, 123, 10, 32, 32, 32, 32, 119, 97, 105, 116, 59, 10, 32, 32, 32, 32, 100, 111, 32, 120, 59, 10, 32, 32, 125, 10, 125, 10]⟩, .string ⟨#[116, 114, 101, 101, 32, 116, 32, 123, 10, 32, 32, 112, 105, 99, 107, 32, 123, 10, 32, 32, 32, 32, 49, 32, 58, 10, 32, 32, 32, 32, 32, 32, 111, 107, 59, 10, 32, 32, 32, 32, 40, 97, 32, 43, 32, 98, 41, 32, 58, 10, 32, 32, 32, 32, 32, 32, 114, 101, 112, 101, 97, 116, 32, 51, 10, 32, 32, 32, 32, 32, 32, 32, 32, 117, 115, 101, 32, 117, 59, 10, 32, 32, 125, 10, 125, 10]⟩, .string ⟨#[116, 114, 101, 101, 32, 116, 32, 123, 10, 32, 32, 105, 102, 32, 40, 110, 111, 116, 32, 97, 32, 60, 32, 49, 41, 59, 10, 125, 10]⟩, .string ⟨#[116, 114, 101, 101, 32, 116, 32, 123, 10, 32, 32, 115, 101, 116, 32, 97, 32, 58, 61, 32, 40, 49, 44, 32, 45, 50, 41, 59, 10, 125, 10]⟩, .string ⟨#[100, 111, 109, 97, 105, 110, 32, 100, 32, 123, 10, 32, 32, 118, 97, 114, 32, 118, 32, 45, 49, 32, 50, 59, 10, 32, 32, 97, 99, 116, 32, 120, 32, 99, 111, 115, 116, 32, 51, 32, 123, 10, 32, 32, 32, 32, 110, 101, 101, 100, 32, 118, 32, 60, 61, 32, 48, 59, 10, 32, 32, 32, 32, 109, 97, 107, 101, 32, 118, 32, 43, 32, 49, 59, 10, 32, 32, 32, 32, 109, 97, 107, 101, 32, 118, 32, 45, 32, 50, 59, 10, 32, 32, 32, 32, 109, 97, 107, 101, 32, 118, 32, 61, 32, 45, 49, 59, 10, 32, 32, 125, 10, 32, 32, 103, 111, 97, 108, 32, 118, 32, 62, 61, 32, 49, 59, 10, 125, 10]⟩, .string ⟨#[116, 114, 101, 101, 32, 116, 32, 123, 10, 32, 32, 105, 102, 32, 40, 40, 102, 97, 114, 40, 97, 44, 32, 116, 117, 114, 110, 32, 40, 49, 44, 32, 50, 41, 41, 32, 42, 32, 50, 41, 32, 61, 61, 32, 114, 101, 32, 98, 41, 59, 10, 125, 10]⟩]
end Go.Proofs.YtkmbobfjoaldgaaGreatDoor

/-
  PrinterKnown: what is written of given programs. Conditions: the listed variables read as they are laid.
-/
namespace Go.Proofs.YtkmbobfjoaldgaaGreatDoor
open Go.ChangeShapes Go.WideShapes Go.ChangeAt Go.RowKit
set_option maxRecDepth 100000
set_option maxHeartbeats 8000000

/-- What the walks want of the listed variables. -/
def E3 (w : World) : Prop := E2 w ∧ Lib.TabIs Tryz.prog w "internal/strconv.uint64pow10" .u64 Lib.pow10Tab
theorem E3.touch {w w' : World} (h : E3 w) (t : Touch NoB w w') : E3 w' := ⟨h.1.touch t, ((Lib.tabBelow_of_tabIs h.2).on (t.belowB (Nat.le_refl _))).here⟩
theorem e3_of_laid {W : World} (h : laidMetH Tryz.prog laid5 W) : E3 W := by
  refine ⟨⟨en_of_laid h, ev_of_laid h⟩, ?_⟩
  rw [MakeChecks.laidMetH_plain _ _ _ (by kernel_rfl)] at h
  exact Lib.tabIs_of_head (g := 0) (t := 187) (e := 171) (n := 20) (by kernel_rfl) (by kernel_rfl) (by kernel_rfl) (by kernel_rfl) (by kernel_rfl) (by kernel_rfl) h.tail.tail
theorem num12_any (n : Int) (w : World) : Calls Tryz.prog 14 #[.int .i64 n] w fun e w' => e = .returned (.int .i64 n) ∧ w = w' := by
  go_enter Tryz.func14, Tryz.ntmps14
  go_wp2
  go_ret
  exact ⟨rfl, rfl⟩
theorem pkA_eq : pkA.toList = pkP.map (fun p => Value.string (bs p.1)) := by kernel_rfl
theorem pkW_eq : pkW.toList = pkP.map (fun p => Value.string (bs p.2)) := by kernel_rfl
def okN0 : Nd := .mk 13 0 0 [] (.leaf 0 0 []) [] []
theorem okN0_pr : PrN 1 okN0 := prB_ok 1 okN0 (by decide)
theorem okN0_at (w : World) : NT w (fun _ => False) 1 okN0 [.int .i64 (okN0.kd : Int), .int .i64 (okN0.a : Int), .int .i64 (okN0.b : Int), .string (bs okN0.nm), .int .i64 0, .int .i64 0, .string (bs []), .slice none 0 0, .slice none okN0.ks.length 0, .slice none okN0.ws.length 0] :=
  ⟨0, 0, bs [], none, 0, 0, _, _, [], [], rfl, ⟨rfl, rfl, rfl, rfl, rfl, rfl⟩, ⟨none, 0, rfl, fun j x h => by cases h⟩, .nil, ⟨none, 0, rfl, fun j x h => by cases h⟩, .nil⟩
theorem okN0_tx : ndL 1 0 okN0 = [111, 107, 59, 10] := by decide
theorem alive12_any (w : World) (htab : Lib.TabIs Tryz.prog w "internal/strconv.uint64pow10" .u64 Lib.pow10Tab) : Calls Tryz.prog 10 #[] w fun e w' => e = .returned (.bool true) ∧ Touch NoB w w' := by
  have HP : Hid (Calls Tryz.prog 12 #[.agg #[.slice none 0 0, .slice none 0 0, .slice none 0 0]] w fun e w' => e = .returned (.string ⟨#[]⟩) ∧ Touch NoB w w') := Lib.hid (pprint_nil w)
  have HB := Lib.hid (Lib.tabBelow_of_tabIs htab)
  have HN := Lib.hid (fun (W : World) (t : Touch NoB w W) => pNode_any (by omega) okN0 okN0_pr 0 0 (by decide) W (okN0_at W) (HB.out.on (t.belowB (Nat.le_refl _))).here (by rw [okN0_tx]; decide))
  rw [okN0_tx] at HN
  have hq : ((bs [111, 107, 59, 10]).toList == [111, 107, 59, 10]) = true := by rw [bs_toList]; rfl
  clear htab
  go_enter Tryz.func10, Tryz.ntmps10
  go_wp2_with fail
  refine HP.out.mono ?_
  rintro e w1 ⟨rfl, hT1⟩
  have HT1 := Lib.hid hT1
  clear hT1
  go_wp2_with fail
  refine (HN.out _ HT1.out).mono ?_
  rintro e w2 ⟨rfl, hT2⟩
  go_wp2
  go_ret
  exact ⟨rfl, HT1.out.same hT2⟩
theorem pk_out (k : Int) (w : World) (h : k < 0 ∨ 8 ≤ k) (hev : E3 w) : Calls Tryz.prog 5 #[.int .i64 k] w fun e w' => e = .returned (.bool true) ∧ Touch NoB w w' := by
  have HA := Lib.hid (alive12_any w hev.2)
  clear hev
  rcases h with h | h
  · have h0 : decide (k < 0) = true := by simpa using h
    go_enter Tryz.func5, Tryz.ntmps5
    go_wp2_with fail
    refine HA.out.mono ?_
    rintro e w1 ⟨rfl, hT1⟩
    have HT := Lib.hid hT1
    clear hT1
    go_wp2
    go_ret
    exact ⟨rfl, (HT.out.alloc _).alloc _⟩
  · have h0 : decide (k < 0) = false := by simp; omega
    have h1 : decide (8 ≤ k) = true := by simpa using h
    go_enter Tryz.func5, Tryz.ntmps5
    go_wp2_with fail
    refine HA.out.mono ?_
    rintro e w1 ⟨rfl, hT1⟩
    have HT := Lib.hid hT1
    clear hT1
    go_wp2
    go_ret
    exact ⟨rfl, (HT.out.alloc _).alloc _⟩
theorem pk_in (i : Nat) (w : World) (h : i < 8) (hev : E3 w) : Calls Tryz.prog 5 #[.int .i64 (i : Int)] w fun e w' => e = .returned (.bool true) ∧ Touch NoB w w' := by
  have HA := Lib.hid (alive12_any w hev.2)
  have HN := Lib.hid (fun n w => num12_any n w)
  have HE := Lib.hid hev
  obtain ⟨p, hp⟩ : ∃ p, pkP[i]? = some p := ⟨_, List.getElem?_eq_getElem (show i < pkP.length from h)⟩
  obtain ⟨pg, hpar, hok, htx, l1, l2, hne⟩ := pkP_at hp
  obtain ⟨s1, hs1⟩ : ∃ s, bs p.1 = s := ⟨_, rfl⟩
  obtain ⟨s2, hs2⟩ : ∃ s, bs p.2 = s := ⟨_, rfl⟩
  have hd1 : s1.data.toList = p.1 := by rw [← hs1, bs_list]
  have HR := Lib.hid (fun (W : World) (cap : Nat) (A : Option Addr) (hc1 : s1.size ≤ cap) (hc2 : cap ≤ 9223372036854775807) (hB : BAt W A p.1) (hE : E2 W) => parse_ok hd1 (by omega) hpar hc1 hc2 hB hE)
  have HPR := Lib.hid (fun (W : World) (Q : Nat → Prop) (A1 A2 A3 : Option Addr) (n1 n2 n3 c1 c2 c3 : Nat) (hpg : PgAt W Q pg [.slice A1 n1 c1, .slice A2 n2 c2, .slice A3 n3 c3]) (hE : E3 W) => pprint_any hok (by rw [htx]; omega) (by rw [htx]; exact hne) hpg hE.2)
  rw [htx, hs2] at HPR
  have hcA : ∀ (W : World) (q : Nat), W.heap.size = q → (W.alloc (.cells pkA 9)).cell? ⟨q, i, none⟩ = some (.string s1) := fun W q hq => by
    rw [cell_of_row _ q i pkA 9 _ (alloc_blk W pkA 9 hq)]
    rw [← Array.getElem?_toList, pkA_eq, List.getElem?_map, hp, ← hs1]
    rfl
  have hcW : ∀ (W : World) (q : Nat), W.heap.size = q → (W.alloc (.cells pkW 9)).cell? ⟨q, i, none⟩ = some (.string s2) := fun W q hq => by
    rw [cell_of_row _ q i pkW 9 _ (alloc_blk W pkW 9 hq)]
    rw [← Array.getElem?_toList, pkW_eq, List.getElem?_map, hp, ← hs2]
    rfl
  have HCA := Lib.hid hcA
  have HCW := Lib.hid hcW
  have HSD := Lib.hid (And.intro hd1 (show s1.size ≤ 1000 by rw [← hs1, bs_size]; omega))
  have h0 : decide ((i : Int) < 0) = false := by simp
  have h1 : decide ((8 : Int) ≤ (i : Int)) = false := by simp; omega
  have hi : (i : Int) < 8 := by omega
  have hss : (s2.toList == s2.toList) = true := by simp
  clear hp hpar hok htx hs1 hs2 hcA hcW hev hd1 h l1 l2 hne
  go_enter Tryz.func5, Tryz.ntmps5
  go_wp2_with fail
  refine HA.out.mono ?_
  rintro e w1 ⟨rfl, hT1⟩
  go_upto_region 4 with fail
  obtain ⟨W1, hW1⟩ : ∃ W, W = w1.alloc (.cells pkA 9 (0, 0)) := ⟨_, rfl⟩
  obtain ⟨W2, hW2⟩ : ∃ W, W = W1.alloc (.cells pkW 9 (0, 0)) := ⟨_, rfl⟩
  show Code.wp _ _ _ _ ((w1.alloc (.cells pkA 9 (0, 0))).alloc (.cells pkW 9 (0, 0)))
  rw [← hW1, ← hW2]
  have t1 : Touch NoB w1 W1 := by rw [hW1]; exact (Touch.refl _ _).alloc _
  have t2 : Touch NoB W1 W2 := by rw [hW2]; exact (Touch.refl _ _).alloc _
  have hs1 : W1.heap.size = w1.heap.size + 1 := by rw [hW1]; simp only [World.size_alloc]
  have ca0 : W1.cell? ⟨w1.heap.size, i, none⟩ = some (.string s1) := by rw [hW1]; exact HCA.out w1 _ rfl
  have ca : W2.cell? ⟨w1.heap.size, i, none⟩ = some (.string s1) := (t2.cell (p := ⟨w1.heap.size, i, none⟩) (by simp only; omega) (fun z => z)).trans ca0
  have cw : W2.cell? ⟨w1.heap.size + 1, i, none⟩ = some (.string s2) := by rw [hW2]; exact HCW.out W1 _ hs1
  have hsz2 : W2.heap.size = w1.heap.size + 2 := by rw [hW2]; simp only [World.size_alloc]; omega
  obtain ⟨cap, W3, hcv, hc1, hc2, hT3, hB3⟩ := conv_any s1 (by have := HSD.out.2; omega) W2
  rw [HSD.out.1] at hB3
  have HT := Lib.hid ((hT1.same t1).same (t2.same hT3))
  have HQ := Lib.hid (HR.out W3 cap _ hc1 hc2 hB3 (HE.out.touch HT.out).1)
  have HC2 := Lib.hid (And.intro cw (And.intro hT3 hsz2))
  clear hT1 t1 t2 ca0 hc1 hc2 hT3 hB3 cw hW1 hW2 hsz2 hs1
  go_wp2_with fail
  refine HQ.out.mono ?_
  rintro r w4 ⟨hT4, A1, n1, c1, A2, n2, c2, A3, n3, c3, rfl, hpg⟩
  obtain ⟨W4, hW4⟩ : ∃ W, w4.alloc (.cells #[.slice A1 n1 c1, .slice A2 n2 c2, .slice A3 n3 c3] 29) = W := ⟨_, rfl⟩
  have t4 : Touch NoB w4 W4 := by rw [← hW4]; exact (Touch.refl _ _).alloc _
  have hb4 : B3 W4 29 w4.heap.size (.slice A1 n1 c1) (.slice A2 n2 c2) (.slice A3 n3 c3) := by rw [← hW4]; exact B3.new _ _ _ _ _ rfl
  have hHT4 := HT.out.same (hT4.same t4)
  obtain ⟨x0, x1, x2, xl⟩ := hb4.cells
  have y0 : W4.drew.cell? ⟨w4.heap.size, 0, none⟩ = some (.slice A1 n1 c1) := x0
  have y1 : W4.drew.cell? ⟨w4.heap.size, 1, none⟩ = some (.slice A2 n2 c2) := x1
  have y2 : W4.drew.cell? ⟨w4.heap.size, 2, none⟩ = some (.slice A3 n3 c3) := x2
  have td : Touch NoB W4 W4.drew := (Touch.refl _ _).drew
  have HP := Lib.hid (HPR.out W4.drew _ _ _ _ _ _ _ _ _ _ ((hpg.touch t4 (fun _ _ x => x)).touch td (fun _ _ x => x)) (HE.out.touch (hHT4.same td)))
  have HCW2 := Lib.hid (fun (W : World) (t : Touch NoB W4.drew W) => ((HC2.out.2.1.same ((hT4.same t4).same (td.same t))).cell (p := ⟨w1.heap.size + 1, i, none⟩) (by have := HC2.out.2.2; simp only; omega) (fun z => z)).trans HC2.out.1)
  have cw4 := HCW2.out W4.drew (Touch.refl _ _)
  have HT4 := Lib.hid (hHT4.same td)
  clear hT4 t4 hb4 hpg hHT4 td
  go_wp2_with fail
  go_region_law (first
    | (go_simp; go_at_call 14; refine (HN.out _ _).mono ?_; rintro e w' ⟨rfl, rfl⟩)
    | (go_simp; go_at_call 12; refine HP.out.mono ?_; rintro e w5 ⟨rfl, hT5⟩
       have cw5 := HCW2.out _ hT5
       have HT5 := Lib.hid (HT4.out.same hT5)
       clear hT5))
  all_goals
    go_wp2
    go_ret
    exact ⟨rfl, HT5.out⟩
theorem printerknown_any (k : Int) (w : World) (hev : E3 w) : Calls Tryz.prog 5 #[.int .i64 k] w fun e w' => e = .returned (.bool true) ∧ Touch NoB w w' := by
  by_cases h : k < 0 ∨ 8 ≤ k
  · exact pk_out k w h hev
  · obtain ⟨i, rfl⟩ : ∃ i : Nat, k = (i : Int) := ⟨k.toNat, by omega⟩
    exact pk_in i w (by omega) hev
end Go.Proofs.YtkmbobfjoaldgaaGreatDoor
