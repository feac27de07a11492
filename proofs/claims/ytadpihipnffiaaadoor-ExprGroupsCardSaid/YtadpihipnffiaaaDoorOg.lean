/-
  ExprGroups: which of two operators binds more, and that those of one level group from the left. Conditions: the listed variables read as they are laid.
-/
import Derived.Test.YtadpihipnffiaaaDoorOf
import Derived.Test.YtadpihipnffiaaaDoorOk
import Derived.Test.YtadpihipnffiaaaDoorQt
import Derived.Deep.RegionLaw
import Derived.Deep.CutRange
import Derived.Deep.DeepCutAuto
namespace Go.Proofs.YtadpihipnffiaaaDoor
open Go.ChangeShapes Go.WideShapes Go.ChangeAt Go.RowKit
set_option maxRecDepth 100000
set_option maxHeartbeats 8000000

theorem bs_add (x y : Bs) : bs x ++ bs y = bs (x ++ y) := by
  apply ByteArray.ext
  simp [bs, ByteArray.data_append]
/-- A sum of two strings, as the walks want it. -/
theorem add_run (x y : Bs) (h : x.length + y.length ≤ 1000) {sx sy sz : ByteArray} (hx : bs x = sx) (hy : bs y = sy) (hz : bs (x ++ y) = sz) (W : World) : (Op.stringOp .add sx sy).run Tryd.prog W = .ok (.string sz) W := by
  subst hx hy hz
  have h1 : (bs x).size = x.length := bs_size x
  have h2 : (bs y).size = y.length := bs_size y
  exact (run_string_add_sum (P := Tryd.prog) (w := W) _ _ (by omega)).trans (by rw [bs_add])
/-- An expression lies in block q. -/
def LyX (w : World) (q : Nat) (x : Ex) : Prop := ∃ (a b : Int) (s : ByteArray) (A : Option Addr) (m c : Nat), XB w q a b s A m c ∧ ET w (fun _ => True) x a b s A m c
theorem LyX.touch {w w' : World} {q : Nat} {x : Ex} (h : LyX w q x) (t : Touch NoB w w') : LyX w' q x := by
  obtain ⟨a, b, s, A, m, c, h1, h2⟩ := h
  exact ⟨a, b, s, A, m, c, (t.block q (blk_lt h1) (fun x => x)).trans h1, h2.touch0 t⟩
def opA : Array Value := (opB.map fun b => Value.string (bs b)).toArray
def rkA : Array Value := (rkL.map fun r => Value.int .i64 r).toArray
theorem groups_in (i j : Nat) (w : World) (hi : i < 8) (hj : j < 8) (hev : EN w) : Calls Tryd.prog 5 #[.int .i64 (i : Int), .int .i64 (j : Int)] w fun e w' => e = .returned (.bool true) ∧ Touch NoB w w' := by
  have HA := Lib.hid (alive_any w hev)
  have HE := Lib.hid hev
  obtain ⟨p, q, r, s, a, l, g, o, n, k2, k3, k4, hp, hq, hr, hs, lp, lq, -, hG⟩ := gr_at hi hj
  have HG := Lib.hid hG
  have HR1 := Lib.hid (fun W (hW : EN W) => read_new hG.t1 (by unfold gr1; simp only [List.length_append, List.length_cons, List.length_nil]; omega) W hW)
  have HR2 := Lib.hid (fun W (hW : EN W) => read_new hG.t2 (by unfold gr2; simp only [List.length_append, List.length_cons, List.length_nil]; omega) W hW)
  have HR3 := Lib.hid (fun W (hW : EN W) => read_new hG.t3 (by unfold gr3; simp only [List.length_append, List.length_cons, List.length_nil]; omega) W hW)
  have HR4 := Lib.hid (fun W (hW : EN W) => read_new hG.t4 (by unfold gr4; simp only [List.length_append, List.length_cons, List.length_nil]; omega) W hW)
  obtain ⟨sp, hsp⟩ : ∃ sp, bs p = sp := ⟨_, rfl⟩
  obtain ⟨sq, hsq⟩ : ∃ sq, bs q = sq := ⟨_, rfl⟩
  obtain ⟨z11, hz11⟩ : ∃ z, bs ([97, 32] ++ p) = z := ⟨_, rfl⟩
  obtain ⟨z12, hz12⟩ : ∃ z, bs ([97, 32] ++ p ++ [32, 98, 32]) = z := ⟨_, rfl⟩
  obtain ⟨z13, hz13⟩ : ∃ z, bs ([97, 32] ++ p ++ [32, 98, 32] ++ q) = z := ⟨_, rfl⟩
  obtain ⟨z14, hz14⟩ : ∃ z, bs ([97, 32] ++ p ++ [32, 98, 32] ++ q ++ [32, 99]) = z := ⟨_, rfl⟩
  have a11 := add_run [97, 32] p (by simp only [List.length_cons, List.length_nil]; omega) (sx := ⟨#[97, 32]⟩) rfl hsp hz11
  have a12 := add_run ([97, 32] ++ p) [32, 98, 32] (by simp only [List.length_append, List.length_cons, List.length_nil]; omega) (sy := ⟨#[32, 98, 32]⟩) hz11 rfl hz12
  have a13 := add_run ([97, 32] ++ p ++ [32, 98, 32]) q (by simp only [List.length_append, List.length_cons, List.length_nil]; omega) hz12 hsq hz13
  have a14 := add_run ([97, 32] ++ p ++ [32, 98, 32] ++ q) [32, 99] (by simp only [List.length_append, List.length_cons, List.length_nil]; omega) (sy := ⟨#[32, 99]⟩) hz13 rfl hz14
  have hg1 : bs (gr1 p q) = z14 := hz14
  rw [hg1] at HR1
  obtain ⟨z21, hz21⟩ : ∃ z, bs ([40, 97, 32] ++ p) = z := ⟨_, rfl⟩
  obtain ⟨z22, hz22⟩ : ∃ z, bs ([40, 97, 32] ++ p ++ [32, 98, 41, 32]) = z := ⟨_, rfl⟩
  obtain ⟨z23, hz23⟩ : ∃ z, bs ([40, 97, 32] ++ p ++ [32, 98, 41, 32] ++ q) = z := ⟨_, rfl⟩
  obtain ⟨z24, hz24⟩ : ∃ z, bs ([40, 97, 32] ++ p ++ [32, 98, 41, 32] ++ q ++ [32, 99]) = z := ⟨_, rfl⟩
  have a21 := add_run [40, 97, 32] p (by simp only [List.length_cons, List.length_nil]; omega) (sx := ⟨#[40, 97, 32]⟩) rfl hsp hz21
  have a22 := add_run ([40, 97, 32] ++ p) [32, 98, 41, 32] (by simp only [List.length_append, List.length_cons, List.length_nil]; omega) (sy := ⟨#[32, 98, 41, 32]⟩) hz21 rfl hz22
  have a23 := add_run ([40, 97, 32] ++ p ++ [32, 98, 41, 32]) q (by simp only [List.length_append, List.length_cons, List.length_nil]; omega) hz22 hsq hz23
  have a24 := add_run ([40, 97, 32] ++ p ++ [32, 98, 41, 32] ++ q) [32, 99] (by simp only [List.length_append, List.length_cons, List.length_nil]; omega) (sy := ⟨#[32, 99]⟩) hz23 rfl hz24
  have hg2 : bs (gr2 p q) = z24 := hz24
  rw [hg2] at HR2
  obtain ⟨z31, hz31⟩ : ∃ z, bs ([97, 32] ++ p) = z := ⟨_, rfl⟩
  obtain ⟨z32, hz32⟩ : ∃ z, bs ([97, 32] ++ p ++ [32, 40, 98, 32]) = z := ⟨_, rfl⟩
  obtain ⟨z33, hz33⟩ : ∃ z, bs ([97, 32] ++ p ++ [32, 40, 98, 32] ++ q) = z := ⟨_, rfl⟩
  obtain ⟨z34, hz34⟩ : ∃ z, bs ([97, 32] ++ p ++ [32, 40, 98, 32] ++ q ++ [32, 99, 41]) = z := ⟨_, rfl⟩
  have a31 := add_run [97, 32] p (by simp only [List.length_cons, List.length_nil]; omega) (sx := ⟨#[97, 32]⟩) rfl hsp hz31
  have a32 := add_run ([97, 32] ++ p) [32, 40, 98, 32] (by simp only [List.length_append, List.length_cons, List.length_nil]; omega) (sy := ⟨#[32, 40, 98, 32]⟩) hz31 rfl hz32
  have a33 := add_run ([97, 32] ++ p ++ [32, 40, 98, 32]) q (by simp only [List.length_append, List.length_cons, List.length_nil]; omega) hz32 hsq hz33
  have a34 := add_run ([97, 32] ++ p ++ [32, 40, 98, 32] ++ q) [32, 99, 41] (by simp only [List.length_append, List.length_cons, List.length_nil]; omega) (sy := ⟨#[32, 99, 41]⟩) hz33 rfl hz34
  have hg3 : bs (gr3 p q) = z34 := hz34
  rw [hg3] at HR3
  obtain ⟨z41, hz41⟩ : ∃ z, bs ([97, 32] ++ p) = z := ⟨_, rfl⟩
  obtain ⟨z42, hz42⟩ : ∃ z, bs ([97, 32] ++ p ++ [32, 98]) = z := ⟨_, rfl⟩
  have a41 := add_run [97, 32] p (by simp only [List.length_cons, List.length_nil]; omega) (sx := ⟨#[97, 32]⟩) rfl hsp hz41
  have a42 := add_run ([97, 32] ++ p) [32, 98] (by simp only [List.length_append, List.length_cons, List.length_nil]; omega) (sy := ⟨#[32, 98]⟩) hz41 rfl hz42
  have hg4 : bs (gr4 p) = z42 := hz42
  rw [hg4] at HR4
  obtain rfl : z31 = z11 := hz31.symm.trans hz11
  obtain rfl : z41 = z31 := hz41.symm.trans hz31
  have HC := Lib.hid (And.intro hp (And.intro hq (And.intro hr (And.intro hs (And.intro hsp hsq)))))
  have hi0 : decide ((i : Int) < 0) = false := by simp
  have hi1 : decide ((8 : Int) ≤ (i : Int)) = false := by simp; omega
  have hj0 : decide ((j : Int) < 0) = false := by simp
  have hiI : (i : Int) < 8 := by omega
  have hjI : (j : Int) < 8 := by omega
  have hj1 : decide ((8 : Int) ≤ (j : Int)) = false := by simp; omega
  clear hev hG hp hq hr hs hsp hsq hz11 hz12 hz13 hz14 hz21 hz22 hz23 hz24 hz31 hz32 hz33 hz34 hz41 hz42 hg1 hg2 hg3 hg4 lp lq
  go_enter Tryd.func5, Tryd.ntmps5
  go_wp2_with fail
  refine HA.out.mono ?_
  rintro e w1 ⟨rfl, hT1⟩
  have HT1 := Lib.hid hT1
  clear hT1
  go_upto_region 4 with fail
  obtain ⟨W, hW⟩ : ∃ W, W = (w1.alloc (.cells opA 9 (0, 0))).alloc (.cells rkA 3 (0, 0)) := ⟨_, rfl⟩
  show Code.wp _ _ _ _ ((w1.alloc (.cells opA 9 (0, 0))).alloc (.cells rkA 3 (0, 0)))
  obtain ⟨N, hN⟩ : ∃ N, w1.heap.size = N := ⟨_, rfl⟩
  have hb1 : W.heap[N]? = some (.cells opA 9 (0, 0)) := by rw [hW, ← hN, heap_alloc_old _ _ (by simp only [World.size_alloc]; omega)]; exact heap_alloc_new w1 _
  have hb2 : W.heap[N + 1]? = some (.cells rkA 3 (0, 0)) := by rw [hW, ← hN]; exact alloc_blk _ _ _ (by simp only [World.size_alloc])
  have HL : Hid (∀ W', Touch NoB W W' → W'.cell? ⟨N, i, none⟩ = some (.string sp) ∧ W'.cell? ⟨N, j, none⟩ = some (.string sq) ∧ W'.cell? ⟨N + 1, i, none⟩ = some (.int .i64 r) ∧ W'.cell? ⟨N + 1, j, none⟩ = some (.int .i64 s) ∧ N < W'.heap.size ∧ N + 1 < W'.heap.size) := Lib.hid (fun W' t => by
    obtain ⟨hp, hq, hr, hs, hsp, hsq⟩ := HC.out
    have e1 := (t.block N (blk_lt hb1) (fun x => x)).trans hb1
    have e2 := (t.block (N + 1) (blk_lt hb2) (fun x => x)).trans hb2
    refine ⟨?_, ?_, ?_, ?_, blk_lt e1, blk_lt e2⟩
    · rw [cell_of_row _ _ _ _ _ _ e1]; unfold opA; rw [List.getElem?_toArray, List.getElem?_map, hp]; simp [hsp]
    · rw [cell_of_row _ _ _ _ _ _ e1]; unfold opA; rw [List.getElem?_toArray, List.getElem?_map, hq]; simp [hsq]
    · rw [cell_of_row _ _ _ _ _ _ e2]; unfold rkA; rw [List.getElem?_toArray, List.getElem?_map, hr]; rfl
    · rw [cell_of_row _ _ _ _ _ _ e2]; unfold rkA; rw [List.getElem?_toArray, List.getElem?_map, hs]; rfl)
  have hT : Touch NoB w W := by rw [hW]; exact (HT1.out.alloc _).alloc _
  rw [← hW, hN]
  have HTW := Lib.hid hT
  clear hW hN hb1 hb2 hT
  go_upto_region 6 with fail
  go_cut [8, 9] (fun vp vk wx => ∃ q, vp = .pointer (some ⟨q, 0, none⟩) ∧ vk = .int .i64 (n : Int) ∧ LyX wx q a ∧ Touch NoB W wx)
  case first =>
    obtain ⟨c1, c2, -, -, cl, -⟩ := HL.out W.drew ((Touch.refl NoB W).drew)
    obtain ⟨d1, d2, -, -, dl, -⟩ := HL.out (W.alloc (.cells #[.int .i64 0, .int .i64 0, .string ⟨#[]⟩, .slice none 0 0] 29)).drew (((Touch.refl NoB W).alloc _).drew)
    have HRR := Lib.hid (fun W' (t : Touch NoB W W') => HR1.out W' (HE.out.touch (HTW.out.same ((Touch.refl NoB W).same t))))
    go_region_law (first
      | (go_simp; go_at_call 20; refine (HRR.out W.drew (Touch.refl _ _).drew).mono ?_; rintro e w2 ⟨a1, b1, q1, A1, m1, c1, rfl, het1, hT2⟩
         have hT3 : Touch NoB W w2 := (Touch.refl NoB W).drew.same hT2
         have HXA := Lib.hid (And.intro (het1.via (R := fun _ => True) (fun _ _ _ => trivial)) hT3)
         clear het1 hT2 hT3)
      | (go_simp; go_at_call 20; refine (HRR.out (W.alloc (.cells #[.int .i64 0, .int .i64 0, .string ⟨#[]⟩, .slice none 0 0] 29)).drew ((Touch.refl _ _).alloc _).drew).mono ?_; rintro e w2 ⟨a1, b1, q1, A1, m1, c1, rfl, het1, hT2⟩
         have hsz : (W.alloc (.cells #[.int .i64 0, .int .i64 0, .string ⟨#[]⟩, .slice none 0 0] 29)).drew.heap.size = W.heap.size + 1 := by show (W.alloc _).heap.size = _; simp only [World.size_alloc]
         have hx0 : XB w2 W.heap.size 0 0 ⟨#[]⟩ none 0 0 := (hT2.block _ (by rw [hsz]; omega) (fun x => x)).trans (XB.new W _ _ _ _ _ _ rfl)
         obtain ⟨y0, y1, y2, y3, y4⟩ := hx0.cells
         obtain ⟨f0, f1, f2, f3⟩ := hx0.free
         have hT3 : Touch NoB W w2 := ((Touch.refl NoB W).alloc (.cells #[.int .i64 0, .int .i64 0, .string ⟨#[]⟩, .slice none 0 0] 29)).drew.same hT2
         have HXB := Lib.hid (And.intro (het1.via (R := fun b => W.heap.size < b) (fun b h1 _ => by rw [hsz] at h1; omega)) (And.intro hT3 hx0))
         clear het1 hT2 hx0 hT3 hsz))
    all_goals
      go_wp2_with fail
      go_meet
      first
      | (have hxa := HXA.out
         exact ⟨w2.heap.size, rfl, rfl, ⟨a1, b1, q1, A1, m1, c1, XB.new w2 a1 b1 q1 A1 m1 c1 rfl, ET.touch0 ((Touch.refl NoB w2).alloc _) hxa.1⟩, hxa.2.alloc _⟩)
      | (have hxb := HXB.out
         exact ⟨W.heap.size, rfl, rfl, ⟨a1, b1, q1, A1, m1, c1, set4 hxb.2.2 _ _ _ _, (hxb.1.aside (touch4 (F := fun b => b = W.heap.size) (Touch.refl _ w2) (.inl rfl) (.int .i64 a1) (.int .i64 b1) (.string q1) (.slice A1 m1 c1)) (by omega)).via (fun _ _ _ => trivial)⟩, touch4 hxb.2.1 (.inr (Nat.le_refl _)) (.int .i64 a1) (.int .i64 b1) (.string q1) (.slice A1 m1 c1)⟩)
  case rest =>
  obtain ⟨q8, rfl, rfl, hly, htt⟩ := hcut
  obtain ⟨X1, hXX⟩ : ∃ x, wc = x := ⟨_, rfl⟩
  rw [hXX] at hly htt ⊢
  have HY1 := Lib.hid hly
  have HTX1 := Lib.hid ((Touch.refl NoB W).same htt)
  have HSX1 := Lib.hid htt
  clear hXX hly htt
  go_upto_region 7 with fail
  go_cut [10, 11] (fun vp vk wx => ∃ q, vp = .pointer (some ⟨q, 0, none⟩) ∧ vk = .int .i64 (k2 : Int) ∧ LyX wx q l ∧ Touch NoB X1 wx)
  case first =>
    obtain ⟨c1, c2, -, -, cl, -⟩ := HL.out X1.drew (HTX1.out.drew)
    obtain ⟨d1, d2, -, -, dl, -⟩ := HL.out (X1.alloc (.cells #[.int .i64 0, .int .i64 0, .string ⟨#[]⟩, .slice none 0 0] 29)).drew ((HTX1.out.alloc _).drew)
    have HRR := Lib.hid (fun W' (t : Touch NoB X1 W') => HR2.out W' (HE.out.touch (HTW.out.same (HTX1.out.same t))))
    go_region_law (first
      | (go_simp; go_at_call 20; refine (HRR.out X1.drew (Touch.refl _ _).drew).mono ?_; rintro e w2 ⟨a1, b1, q1, A1, m1, c1, rfl, het1, hT2⟩
         have hT3 : Touch NoB X1 w2 := (Touch.refl NoB X1).drew.same hT2
         have HXA := Lib.hid (And.intro (het1.via (R := fun _ => True) (fun _ _ _ => trivial)) hT3)
         clear het1 hT2 hT3)
      | (go_simp; go_at_call 20; refine (HRR.out (X1.alloc (.cells #[.int .i64 0, .int .i64 0, .string ⟨#[]⟩, .slice none 0 0] 29)).drew ((Touch.refl _ _).alloc _).drew).mono ?_; rintro e w2 ⟨a1, b1, q1, A1, m1, c1, rfl, het1, hT2⟩
         have hsz : (X1.alloc (.cells #[.int .i64 0, .int .i64 0, .string ⟨#[]⟩, .slice none 0 0] 29)).drew.heap.size = X1.heap.size + 1 := by show (X1.alloc _).heap.size = _; simp only [World.size_alloc]
         have hx0 : XB w2 X1.heap.size 0 0 ⟨#[]⟩ none 0 0 := (hT2.block _ (by rw [hsz]; omega) (fun x => x)).trans (XB.new X1 _ _ _ _ _ _ rfl)
         obtain ⟨y0, y1, y2, y3, y4⟩ := hx0.cells
         obtain ⟨f0, f1, f2, f3⟩ := hx0.free
         have hT3 : Touch NoB X1 w2 := ((Touch.refl NoB X1).alloc (.cells #[.int .i64 0, .int .i64 0, .string ⟨#[]⟩, .slice none 0 0] 29)).drew.same hT2
         have HXB := Lib.hid (And.intro (het1.via (R := fun b => X1.heap.size < b) (fun b h1 _ => by rw [hsz] at h1; omega)) (And.intro hT3 hx0))
         clear het1 hT2 hx0 hT3 hsz))
    all_goals
      go_wp2_with fail
      go_meet
      first
      | (have hxa := HXA.out
         exact ⟨w2.heap.size, rfl, rfl, ⟨a1, b1, q1, A1, m1, c1, XB.new w2 a1 b1 q1 A1 m1 c1 rfl, ET.touch0 ((Touch.refl NoB w2).alloc _) hxa.1⟩, hxa.2.alloc _⟩)
      | (have hxb := HXB.out
         exact ⟨X1.heap.size, rfl, rfl, ⟨a1, b1, q1, A1, m1, c1, set4 hxb.2.2 _ _ _ _, (hxb.1.aside (touch4 (F := fun b => b = X1.heap.size) (Touch.refl _ w2) (.inl rfl) (.int .i64 a1) (.int .i64 b1) (.string q1) (.slice A1 m1 c1)) (by omega)).via (fun _ _ _ => trivial)⟩, touch4 hxb.2.1 (.inr (Nat.le_refl _)) (.int .i64 a1) (.int .i64 b1) (.string q1) (.slice A1 m1 c1)⟩)
  case rest =>
  obtain ⟨q10, rfl, rfl, hly, htt⟩ := hcut
  obtain ⟨X2, hXX⟩ : ∃ x, wc = x := ⟨_, rfl⟩
  rw [hXX] at hly htt ⊢
  have HY2 := Lib.hid hly
  have HTX2 := Lib.hid (HTX1.out.same htt)
  have HSX2 := Lib.hid htt
  clear hXX hly htt
  go_upto_region 8 with fail
  go_cut [12, 13] (fun vp vk wx => ∃ q, vp = .pointer (some ⟨q, 0, none⟩) ∧ vk = .int .i64 (k3 : Int) ∧ LyX wx q g ∧ Touch NoB X2 wx)
  case first =>
    obtain ⟨c1, c2, -, -, cl, -⟩ := HL.out X2.drew (HTX2.out.drew)
    obtain ⟨d1, d2, -, -, dl, -⟩ := HL.out (X2.alloc (.cells #[.int .i64 0, .int .i64 0, .string ⟨#[]⟩, .slice none 0 0] 29)).drew ((HTX2.out.alloc _).drew)
    have HRR := Lib.hid (fun W' (t : Touch NoB X2 W') => HR3.out W' (HE.out.touch (HTW.out.same (HTX2.out.same t))))
    go_region_law (first
      | (go_simp; go_at_call 20; refine (HRR.out X2.drew (Touch.refl _ _).drew).mono ?_; rintro e w2 ⟨a1, b1, q1, A1, m1, c1, rfl, het1, hT2⟩
         have hT3 : Touch NoB X2 w2 := (Touch.refl NoB X2).drew.same hT2
         have HXA := Lib.hid (And.intro (het1.via (R := fun _ => True) (fun _ _ _ => trivial)) hT3)
         clear het1 hT2 hT3)
      | (go_simp; go_at_call 20; refine (HRR.out (X2.alloc (.cells #[.int .i64 0, .int .i64 0, .string ⟨#[]⟩, .slice none 0 0] 29)).drew ((Touch.refl _ _).alloc _).drew).mono ?_; rintro e w2 ⟨a1, b1, q1, A1, m1, c1, rfl, het1, hT2⟩
         have hsz : (X2.alloc (.cells #[.int .i64 0, .int .i64 0, .string ⟨#[]⟩, .slice none 0 0] 29)).drew.heap.size = X2.heap.size + 1 := by show (X2.alloc _).heap.size = _; simp only [World.size_alloc]
         have hx0 : XB w2 X2.heap.size 0 0 ⟨#[]⟩ none 0 0 := (hT2.block _ (by rw [hsz]; omega) (fun x => x)).trans (XB.new X2 _ _ _ _ _ _ rfl)
         obtain ⟨y0, y1, y2, y3, y4⟩ := hx0.cells
         obtain ⟨f0, f1, f2, f3⟩ := hx0.free
         have hT3 : Touch NoB X2 w2 := ((Touch.refl NoB X2).alloc (.cells #[.int .i64 0, .int .i64 0, .string ⟨#[]⟩, .slice none 0 0] 29)).drew.same hT2
         have HXB := Lib.hid (And.intro (het1.via (R := fun b => X2.heap.size < b) (fun b h1 _ => by rw [hsz] at h1; omega)) (And.intro hT3 hx0))
         clear het1 hT2 hx0 hT3 hsz))
    all_goals
      go_wp2_with fail
      go_meet
      first
      | (have hxa := HXA.out
         exact ⟨w2.heap.size, rfl, rfl, ⟨a1, b1, q1, A1, m1, c1, XB.new w2 a1 b1 q1 A1 m1 c1 rfl, ET.touch0 ((Touch.refl NoB w2).alloc _) hxa.1⟩, hxa.2.alloc _⟩)
      | (have hxb := HXB.out
         exact ⟨X2.heap.size, rfl, rfl, ⟨a1, b1, q1, A1, m1, c1, set4 hxb.2.2 _ _ _ _, (hxb.1.aside (touch4 (F := fun b => b = X2.heap.size) (Touch.refl _ w2) (.inl rfl) (.int .i64 a1) (.int .i64 b1) (.string q1) (.slice A1 m1 c1)) (by omega)).via (fun _ _ _ => trivial)⟩, touch4 hxb.2.1 (.inr (Nat.le_refl _)) (.int .i64 a1) (.int .i64 b1) (.string q1) (.slice A1 m1 c1)⟩)
  case rest =>
  obtain ⟨q12, rfl, rfl, hly, htt⟩ := hcut
  obtain ⟨X3, hXX⟩ : ∃ x, wc = x := ⟨_, rfl⟩
  rw [hXX] at hly htt ⊢
  have HY3 := Lib.hid hly
  have HTX3 := Lib.hid (HTX2.out.same htt)
  have HSX3 := Lib.hid htt
  clear hXX hly htt
  obtain ⟨a1, b1, s1, A1, m1, c1, hx8, het8⟩ := HY1.out.touch (HSX2.out.same HSX3.out)
  obtain ⟨a2, b2, s2, A2, m2, c2, hx10, het10⟩ := HY2.out.touch HSX3.out
  obtain ⟨a3, b3, s3, A3, m3, c3, hx12, het12⟩ := HY3.out
  obtain ⟨p80, p81, p82, p83, p84⟩ := hx8.cells
  obtain ⟨p100, p101, p102, p103, p104⟩ := hx10.cells
  obtain ⟨p120, p121, p122, p123, p124⟩ := hx12.cells
  have HX := Lib.hid (And.intro (And.intro hx8 het8) (And.intro (And.intro hx10 het10) (And.intro hx12 het12)))
  obtain ⟨r01, r02, r1, r2, rl0, rl⟩ := HL.out X3 HTX3.out
  have hTw3 := HTW.out.same HTX3.out
  have HT3 := Lib.hid hTw3
  have HRD := Lib.hid (HR4.out X3 (HE.out.touch hTw3))
  clear hx8 het8 hx10 het10 hx12 het12 hTw3
  by_cases hrs : r = 2 ∧ s = 2
  · obtain ⟨hr2, hs2⟩ := hrs
    subst hr2 hs2
    obtain ⟨hn, hso⟩ := HG.out.two ⟨rfl, rfl⟩
    subst hn
    have HSO := Lib.hid hso
    clear hso
    go_wp2_with fail
    refine HRD.out.mono ?_
    rintro e w4 ⟨a4, b4, s4, A4, m4, c4, rfl, het4, hT4⟩
    obtain ⟨W4, hW4⟩ : ∃ W, w4.alloc (.cells #[.int .i64 a4, .int .i64 b4, .string s4, .slice A4 m4 c4] 29) = W := ⟨_, rfl⟩
    have t4 : Touch NoB w4 W4 := by rw [← hW4]; exact (Touch.refl _ _).alloc _
    have hx14 : XB W4 w4.heap.size a4 b4 s4 A4 m4 c4 := by rw [← hW4]; exact XB.new _ _ _ _ _ _ _ rfl
    have hx8 : XB W4 q8 a1 b1 s1 A1 m1 c1 := ((hT4.same t4).block _ (blk_lt HX.out.1.1) (fun x => x)).trans HX.out.1.1
    obtain ⟨y80, y81, y82, y83, y84⟩ := hx8.cells
    obtain ⟨y140, y141, y142, y143, y144⟩ := hx14.cells
    have HSM := Lib.hid (same_all a.depth a o (Nat.le_refl _) W4 _ _ _ _ _ _ _ _ _ _ _ _ _ _ (HX.out.1.2.touch0 (hT4.same t4)) (het4.touch0 t4))
    rw [HSO.out] at HSM
    have HT4 := Lib.hid (HT3.out.same (hT4.same t4))
    clear het4 hT4 t4 hx14 hx8
    go_wp2_with fail
    refine HSM.out.mono ?_
    rintro e w5 ⟨rfl, hT5⟩
    have HT5 := Lib.hid (HT4.out.same hT5)
    clear hT5
    go_wp2
    go_ret
    exact ⟨rfl, HT5.out⟩
  · obtain ⟨hn, hlg, hge, hlt⟩ := HG.out.els hrs
    subst hn
    have HSM := Lib.hid (same_all l.depth l g (Nat.le_refl _) X3 _ _ _ _ _ _ _ _ _ _ _ _ _ _ HX.out.2.1.2 HX.out.2.2.2)
    rw [hlg] at HSM
    have HNX := Lib.hid (And.intro hge hlt)
    have hbb : (r == 2) = false ∨ ((r == 2) = true ∧ (s == 2) = false) := by
      cases h1 : (r == 2)
      · exact .inl rfl
      · cases h2 : (s == 2)
        · exact .inr ⟨rfl, rfl⟩
        · exact absurd ⟨by simpa using h1, by simpa using h2⟩ hrs
    clear hlg hge hlt hrs
    rcases hbb with hr2 | ⟨hr2, hs2⟩
    all_goals
      go_wp2_with fail
      refine HSM.out.mono ?_
      rintro e w5 ⟨rfl, hT5⟩
      have hx8 : XB w5 q8 a1 b1 s1 A1 m1 c1 := (hT5.block _ (blk_lt HX.out.1.1) (fun x => x)).trans HX.out.1.1
      have hx10 : XB w5 q10 a2 b2 s2 A2 m2 c2 := (hT5.block _ (blk_lt HX.out.2.1.1) (fun x => x)).trans HX.out.2.1.1
      have hx12 : XB w5 q12 a3 b3 s3 A3 m3 c3 := (hT5.block _ (blk_lt HX.out.2.2.1) (fun x => x)).trans HX.out.2.2.1
      have dX : Touch NoB X3 w5.drew := hT5.drew
      obtain ⟨-, -, u1, u2, -, ul⟩ := HL.out w5.drew (HTX3.out.same dX)
      obtain ⟨y80, y81, y82, y83, y84⟩ := (show XB w5.drew _ _ _ _ _ _ _ from hx8).cells
      obtain ⟨y100, y101, y102, y103, y104⟩ := (show XB w5.drew _ _ _ _ _ _ _ from hx10).cells
      obtain ⟨y120, y121, y122, y123, y124⟩ := (show XB w5.drew _ _ _ _ _ _ _ from hx12).cells
      have HL1 := Lib.hid (same_all a.depth a l (Nat.le_refl _) w5.drew _ _ _ _ _ _ _ _ _ _ _ _ _ _ (HX.out.1.2.touch0 dX) (HX.out.2.1.2.touch0 dX))
      have HL2 := Lib.hid (same_all a.depth a g (Nat.le_refl _) w5.drew _ _ _ _ _ _ _ _ _ _ _ _ _ _ (HX.out.1.2.touch0 dX) (HX.out.2.2.2.touch0 dX))
      have HT5 := Lib.hid (HT3.out.same dX)
      clear hT5 hx8 hx10 hx12 dX p80 p81 p82 p83 p84 p100 p101 p102 p103 p104 p120 p121 p122 p123 p124 r01 r02 r1 r2 rl0 rl
      by_cases hsr : s ≤ r
      · have hq := HNX.out.1 (by omega)
        rw [hq] at HL1
        have hds : decide (s ≤ r) = true := by simpa using hsr
        clear hq HL2
        go_wp2_with fail
        go_region
        go_wp2_with fail
        refine HL1.out.mono ?_
        rintro e w6 ⟨rfl, hT6⟩
        have HT6 := Lib.hid (HT5.out.same hT6)
        clear hT6
        go_wp2
        go_ret
        exact ⟨rfl, HT6.out⟩
      · have hq := HNX.out.2 (by omega)
        rw [hq] at HL2
        have hds : decide (s ≤ r) = false := by simpa using hsr
        clear hq HL1
        go_wp2_with fail
        go_region
        go_wp2_with fail
        refine HL2.out.mono ?_
        rintro e w6 ⟨rfl, hT6⟩
        have HT6 := Lib.hid (HT5.out.same hT6)
        clear hT6
        go_wp2
        go_ret
        exact ⟨rfl, HT6.out⟩
theorem exprgroups_any (x y : Int) (w : World) (hev : EN w) : Calls Tryd.prog 5 #[.int .i64 x, .int .i64 y] w fun e w' => e = .returned (.bool true) ∧ Touch NoB w w' := by
  by_cases h : x < 0 ∨ 8 ≤ x ∨ y < 0 ∨ 8 ≤ y
  · exact groups_out x y w h hev
  · obtain ⟨i, rfl⟩ : ∃ i : Nat, x = (i : Int) := ⟨x.toNat, by omega⟩
    obtain ⟨j, rfl⟩ : ∃ j : Nat, y = (j : Int) := ⟨y.toNat, by omega⟩
    exact groups_in i j w (by omega) (by omega) hev
end Go.Proofs.YtadpihipnffiaaaDoor
