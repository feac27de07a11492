/-
  The walk of EcsMaps.
-/
import Derived.Test.YtjddfmllphcehaaFe
import Derived.Deep.DeepCutAuto
import Derived.Deep.CutBlock
import Derived.Deep.RegionWith
import Derived.Deep.RegionHeld3
namespace Go.Proofs.Ytjddfmllphcehaa
open Go.ChangeShapes Go.WideShapes Go.ChangeAt Go.RowKit Go.Maps
set_option maxRecDepth 100000
set_option maxHeartbeats 40000000

/-- The j-th call of the list. -/
def MActAt (w : World) (b off j : Nat) (way : Int) (made : Bool) (at_ i x c v : Int) (Ac : Option Addr) (n cp : Nat) (all nn : Int) : Prop :=
  w.cell? ⟨b, off + j * 10, none⟩ = some (.int .i64 way) ∧ w.cell? ⟨b, off + j * 10 + 1, none⟩ = some (.bool made) ∧ w.cell? ⟨b, off + j * 10 + 2, none⟩ = some (.int .i64 at_) ∧ w.cell? ⟨b, off + j * 10 + 3, none⟩ = some (.int .i64 i) ∧ w.cell? ⟨b, off + j * 10 + 4, none⟩ = some (.int .i64 x) ∧
  w.cell? ⟨b, off + j * 10 + 5, none⟩ = some (.int .i64 c) ∧ w.cell? ⟨b, off + j * 10 + 6, none⟩ = some (.int .i64 v) ∧ w.cell? ⟨b, off + j * 10 + 7, none⟩ = some (.slice Ac n cp) ∧ w.cell? ⟨b, off + j * 10 + 8, none⟩ = some (.int .u16 all) ∧ w.cell? ⟨b, off + j * 10 + 9, none⟩ = some (.int .u16 nn)

/-- What holds behind the switch, and at the end of each round. -/
def MapEnd (w : World) (g n k : Nat) (v5 v6 v7 v8 : Value) (wr : World) : Prop :=
  ∃ (cnt : Nat) (F : Nat → Prop) (md : List (Int × Int)) (th : List Bool) (ms : List Int) (vs : List (List Int)), cnt ≤ 2 * k ∧ md.length = n ∧ MB w wr F cnt g n n n n v5 v6 v7 v8 (idc md) (bc th) (mc ms) (vc vs) md th ms vs
/-- What holds at the head of the loop. -/
def MapRel (w : World) (g N : Nat) (v5 v6 v7 v8 v9 : Value) (wr : World) : Prop :=
  ∃ k n : Nat, k ≤ N ∧ v9 = .int .i64 k ∧ n ≤ k ∧ MapEnd w g n k v5 v6 v7 v8 wr
def CntR (w : World) (n : Nat) (v18 : Value) (wr : World) : Prop := ∃ k : Nat, k ≤ n ∧ v18 = .int .i64 k ∧ Touch NoB w wr

theorem and_low15 (z : Int) : ∃ c : Nat, bits .and .i64 z 15 = c ∧ c < 16 := by
  have h : bits .and .i64 z 15 = IntKind.i64.wrap ((BitVec.ofInt 64 z &&& BitVec.ofInt 64 15).toNat : Int) := rfl
  have h2 : (BitVec.ofInt 64 z).toNat &&& (BitVec.ofInt 64 15).toNat ≤ (BitVec.ofInt 64 15).toNat := Nat.and_le_right
  have h3 : (BitVec.ofInt 64 15).toNat = 15 := by decide
  refine ⟨(BitVec.ofInt 64 z &&& BitVec.ofInt 64 15).toNat, ?_, ?_⟩
  · rw [h, BitVec.toNat_and, IntKind.wrap_i64]
    omega
  · rw [BitVec.toNat_and]; omega

theorem bne_f {b : Bool} (h : (b != false) = false) : b = false := by cases b <;> first | rfl | cases h
theorem bne_t {b : Bool} (h : (b != true) = false) : b = true := by cases b <;> first | rfl | cases h
theorem mod_low' (z : Int) {n : Nat} (h : 0 < n) : ∃ a : Nat, (bits .and .i64 z 1023).tmod (n : Int) = a ∧ a < n := by
  obtain ⟨L, rfl⟩ : ∃ L, n = L + 1 := ⟨n - 1, by omega⟩
  obtain ⟨a, h1, h2⟩ := mod_low z L
  exact ⟨a, h1, by omega⟩

theorem maps_in (A : Option Addr) (N cap : Nat) (w : World) (hN : N ≤ 60)
    (hz : ∀ j : Nat, j < N → ∃ b off way made at_ i x c v Ac n cp all nn, A = some ⟨b, off, none⟩ ∧ b < w.heap.size ∧ MActAt w b off j way made at_ i x c v Ac n cp all nn) :
    Calls Try.prog 4 #[.slice A N cap] w fun e w' => e = .returned (.bool true) ∧ Touch NoB w w' := by
  have HZ := Lib.hid hz
  clear hz
  obtain ⟨i0, hi, hz0, hz1, hz2⟩ := info_parts info_id
  obtain ⟨j0, hj, hy0, hy1, hy2⟩ := info_parts info_bool
  obtain ⟨k0, hk, hx0, hx1, hx2⟩ := info_parts info_u16
  obtain ⟨l0, hl, hw0, hw1, hw2⟩ := info_parts info_arr
  have d3 : decide (60 < (N : Int)) = false := by simp; omega
  go_enter Try.func4, Try.ntmps4
  go_wp2_with fail
  refine (ealive_any w).mono ?_
  rintro e w1 ⟨rfl, hT1⟩
  have HT1 := Lib.hid hT1
  clear hT1
  go_wp2_with fail
  refine (new_st 100 1000 w1).mono ?_
  rintro e w2 ⟨g, F, rfl, hS2, hT2, hF2⟩
  rw [show roomI 100 = 100 from by decide, show withinI 1000 1 1000 = 1000 from by decide] at hS2
  have hs1 := HT1.out.size
  have hF2' : InW w2 w.heap.size F := fun b hb => by have := hF2 b hb; omega
  have hs2 := hT2.size
  have HE : Hid (MapEnd w g 0 0 (.slice none 0 0) (.slice none 0 0) (.slice none 0 0) (.slice none 0 0) w2) :=
    ⟨0, F, [], [], [], [], by omega, rfl, ⟨[], [], [], hS2, minv_start⟩, ⟨hF2', by omega, World.ownsRow_nil _ _ _ _, World.ownsRow_nil _ _ _ _, World.ownsRow_nil _ _ _ _, World.ownsRow_nil _ _ _ _, fun b hb => by simp [Value.ownBlock] at hb, fun b hb => by simp [Value.ownBlock] at hb, fun b hb => by simp [Value.ownBlock] at hb, fun b hb => by simp [Value.ownBlock] at hb⟩, HT1.out.same hT2⟩
  clear hS2 hT2 hF2 hF2' hs1 hs2
  go_wp2
  go_loopw [5, 6, 7, 8, 9] (fun v5 v6 v7 v8 v9 wr => MapRel w g N v5 v6 v7 v8 v9 wr) (fun _ _ _ _ v9 _ => N - (intOf v9).toNat)
  case atStart => exact ⟨0, 0, Nat.zero_le _, rfl, Nat.le_refl _, HE.out⟩
  case round =>
    obtain ⟨wo, rfl⟩ : ∃ x, x = wr := ⟨_, rfl⟩
    clear HE
    obtain ⟨k, n, hkN, rfl, hnk, cnt, F1, md, th, ms, vs, hcnt, hmd, hB⟩ := hrel
    obtain ⟨A5, c5, rfl, hq5, hm5⟩ := row_any hB.2.1.r5
    obtain ⟨A6, c6, rfl, hq6, hm6⟩ := row_any hB.2.1.r6
    obtain ⟨A7, c7, rfl, hq7, hm7⟩ := row_any hB.2.1.r7
    obtain ⟨A8, c8, rfl, hq8, hm8⟩ := row_any hB.2.1.r8
    unfold maxLen at hm5 hm6 hm7 hm8
    have HT := Lib.hid hB.2.2
    have HB := Lib.hid hB
    have HMD := Lib.hid hmd
    have hsr := HT.out.size
    clear hB hmd
    by_cases hlt : k < N
    · obtain ⟨b, off, way, made, at_, i, x, c, v, Ac, n', cp, all, nn, rfl, hb, hact⟩ := HZ.out k hlt
      obtain ⟨a0, a1, a2, a3, a4, a5, a6, a7, a8, a9⟩ := hact
      have c0 := (HT.out.cell hb (fun x => x)).trans a0
      have c1 := (HT.out.cell hb (fun x => x)).trans a1
      have c2 := (HT.out.cell hb (fun x => x)).trans a2
      have c3 := (HT.out.cell hb (fun x => x)).trans a3
      have c4 := (HT.out.cell hb (fun x => x)).trans a4
      have c5' := (HT.out.cell hb (fun x => x)).trans a5
      have c6' := (HT.out.cell hb (fun x => x)).trans a6
      have c7' := (HT.out.cell hb (fun x => x)).trans a7
      have c8' := (HT.out.cell hb (fun x => x)).trans a8
      have c9' := (HT.out.cell hb (fun x => x)).trans a9
      clear a0 a1 a2 a3 a4 a5 a6 a7 a8 a9
      have hbr : b < wo.heap.size := by omega
      obtain ⟨y, hy, hy16⟩ := and_low15 c
      have HY := Lib.hid hy
      have hgd : (way == 0) = true ∨ ((way == 0) = false ∧ ((n : Int) == 0) = true) ∨ ((way == 0) = false ∧ ((n : Int) == 0) = false) := by
        by_cases e1 : way = 0
        · exact .inl (by simpa using e1)
        · by_cases e2 : n = 0
          · exact .inr (.inl ⟨by simpa using e1, by simpa using e2⟩)
          · exact .inr (.inr ⟨by simpa using e1, by simpa using e2⟩)
      have hsl : IntKind.u16.wrap ((2 : Int) ^ y) = bw y := by
        have h1 := bw_range hy16
        rw [show ((2 : Int) ^ y) = bw y from by unfold bw; simp, IntKind.wrap_u16]
        omega
      rcases hgd with hg1 | ⟨hg1, hg2⟩ | ⟨hg1, hg2⟩
      · skip
        go_wp2_with fail
        refine (ms_spawn (HB.out.quiet (by repeat (first | with_reducible exact Touch.refl _ _ | with_reducible refine Touch.alloc ?_ _ | with_reducible refine Touch.drewN ?_ _ | with_reducible refine Touch.drew ?_))).1 (by omega) (by rw [HMD.out]; omega)).mono ?_
        rintro e w5 ⟨i5, x5, rfl, hM5, hT5⟩
        have hB5 := MB.call (HB.out.quiet (Touch.alloc (Touch.refl NoB wo) (.cells #[.int .i64 way, .bool made, .int .i64 at_, .int .i64 i, .int .i64 x, .int .i64 c, .int .i64 v, .slice Ac n' cp, .int .u16 all, .int .u16 nn] 36))) hM5 hT5
        have hs5 := hT5.size
        have HB5 := Lib.hid hB5
        clear hB5 hM5 hT5 HB
        go_wp2_with (first | (go_at_call 10; refine (num_any _ _).mono ?_; rintro e w' ⟨rfl, rfl⟩) | (at_builtin; refine wpList_append_own_at _ rfl (.tmp 66) (.tmp 68) 28 rfl w.heap.size 30 i0 _ 2 16 Try.underlying28 hi hz0 hz1 hz2 rfl (by decide) (.slice A5 n c5) n (idc md) rfl ?o5 ⟨w5.heap.size + 1, 0, none⟩ 1 1 [.int .i64 i5, .int .i64 x5] rfl rfl ?a5 ?b5 ?c5 ?d5 ?e5 ?go5))
        case o5 => exact (HB5.out.quiet (by repeat (first | with_reducible exact Touch.refl _ _ | with_reducible refine Touch.alloc ?_ _ | with_reducible refine Touch.drewN ?_ _ | with_reducible refine Touch.drew ?_))).2.1.r5
        case a5 => exact World.news_of_block (cs := #[.int .i64 i5, .int .i64 x5]) (alloc_blk _ _ _ (by first | rfl | simp))
        case b5 => intro u hu; simp at hu; rcases hu with rfl | rfl <;> rfl
        case c5 => unfold maxLen; omega
        case d5 => omega
        case e5 => have := (HB5.out.quiet (w' := _) (by repeat (first | with_reducible exact Touch.refl _ _ | with_reducible refine Touch.alloc ?_ _ | with_reducible refine Touch.drewN ?_ _ | with_reducible refine Touch.drew ?_))).2.1.hb; first | exact this | (simp at this ⊢; omega)
        case go5 =>
        intro v5' w5' hown hgrow _ hat
        have HB6 := Lib.hid ((HB5.out.quiet (by repeat (first | with_reducible exact Touch.refl _ _ | with_reducible refine Touch.alloc ?_ _ | with_reducible refine Touch.drewN ?_ _ | with_reducible refine Touch.drew ?_))).app5 hown hgrow (hat.imp id fun e => e.trans (by simp)))
        clear hown hgrow hat HB5
        go_wp2_with (first | (go_at_call 10; refine (num_any _ _).mono ?_; rintro e w' ⟨rfl, rfl⟩) | (at_builtin; refine wpList_append_own_at _ rfl (.tmp 70) (.tmp 71) 53 rfl w.heap.size 4 j0 _ 1 1 Try.underlying53 hj hy0 hy1 hy2 rfl (by decide) (.slice A6 n c6) n (bc th) rfl ?o6 ⟨w5'.heap.size, 0, none⟩ 1 1 [.bool true] rfl rfl ?a6 ?b6 ?c6 ?d6 ?e6 ?go6))
        case o6 => exact (HB6.out.quiet (by repeat (first | with_reducible exact Touch.refl _ _ | with_reducible refine Touch.alloc ?_ _ | with_reducible refine Touch.drewN ?_ _ | with_reducible refine Touch.drew ?_))).2.1.r6
        case a6 => exact World.news_of_block (cs := #[.bool true]) (alloc_blk _ _ _ (by first | rfl | simp))
        case b6 => intro u hu; simp at hu; rcases hu with rfl; rfl
        case c6 => unfold maxLen; omega
        case d6 => omega
        case e6 => have := (HB6.out.quiet (w' := _) (by repeat (first | with_reducible exact Touch.refl _ _ | with_reducible refine Touch.alloc ?_ _ | with_reducible refine Touch.drewN ?_ _ | with_reducible refine Touch.drew ?_))).2.1.hb; first | exact this | (simp at this ⊢; omega)
        case go6 =>
        intro v6' w6' hown hgrow _ hat
        have HB7 := Lib.hid ((HB6.out.quiet (by repeat (first | with_reducible exact Touch.refl _ _ | with_reducible refine Touch.alloc ?_ _ | with_reducible refine Touch.drewN ?_ _ | with_reducible refine Touch.drew ?_))).app6 hown hgrow (hat.imp id fun e => e.trans (by simp)))
        clear hown hgrow hat HB6
        go_wp2_with (first | (go_at_call 10; refine (num_any _ _).mono ?_; rintro e w' ⟨rfl, rfl⟩) | (at_builtin; refine wpList_append_own_at _ rfl (.tmp 73) (.tmp 74) 54 rfl w.heap.size 34 k0 _ 1 2 Try.underlying54 hk hx0 hx1 hx2 rfl (by decide) (.slice A7 n c7) n (mc ms) rfl ?o7 ⟨w6'.heap.size, 0, none⟩ 1 1 [.int .u16 0] rfl rfl ?a7 ?b7 ?c7 ?d7 ?e7 ?go7))
        case o7 => exact (HB7.out.quiet (by repeat (first | with_reducible exact Touch.refl _ _ | with_reducible refine Touch.alloc ?_ _ | with_reducible refine Touch.drewN ?_ _ | with_reducible refine Touch.drew ?_))).2.1.r7
        case a7 => exact World.news_of_block (cs := #[.int .u16 0]) (alloc_blk _ _ _ (by first | rfl | simp))
        case b7 => intro u hu; simp at hu; rcases hu with rfl; rfl
        case c7 => unfold maxLen; omega
        case d7 => omega
        case e7 => have := (HB7.out.quiet (w' := _) (by repeat (first | with_reducible exact Touch.refl _ _ | with_reducible refine Touch.alloc ?_ _ | with_reducible refine Touch.drewN ?_ _ | with_reducible refine Touch.drew ?_))).2.1.hb; first | exact this | (simp at this ⊢; omega)
        case go7 =>
        intro v7' w7' hown hgrow _ hat
        have HB8 := Lib.hid ((HB7.out.quiet (by repeat (first | with_reducible exact Touch.refl _ _ | with_reducible refine Touch.alloc ?_ _ | with_reducible refine Touch.drewN ?_ _ | with_reducible refine Touch.drew ?_))).app7 hown hgrow (hat.imp id fun e => e.trans (by simp)))
        clear hown hgrow hat HB7
        go_wp2_with (first | (go_at_call 10; refine (num_any _ _).mono ?_; rintro e w' ⟨rfl, rfl⟩) | (at_builtin; refine wpList_append_own_at _ rfl (.tmp 76) (.tmp 78) 55 rfl w.heap.size 57 l0 _ 16 128 Try.underlying55 hl hw0 hw1 hw2 rfl (by decide) (.slice A8 n c8) n (vc vs) rfl ?o8 ⟨w7'.heap.size, 0, none⟩ 1 1 [.int .i64 0, .int .i64 0, .int .i64 0, .int .i64 0, .int .i64 0, .int .i64 0, .int .i64 0, .int .i64 0, .int .i64 0, .int .i64 0, .int .i64 0, .int .i64 0, .int .i64 0, .int .i64 0, .int .i64 0, .int .i64 0] rfl rfl ?a8 ?b8 ?c8 ?d8 ?e8 ?go8))
        case o8 => exact (HB8.out.quiet (by repeat (first | with_reducible exact Touch.refl _ _ | with_reducible refine Touch.alloc ?_ _ | with_reducible refine Touch.drewN ?_ _ | with_reducible refine Touch.drew ?_))).2.1.r8
        case a8 => exact World.news_of_block (cs := #[.int .i64 0, .int .i64 0, .int .i64 0, .int .i64 0, .int .i64 0, .int .i64 0, .int .i64 0, .int .i64 0, .int .i64 0, .int .i64 0, .int .i64 0, .int .i64 0, .int .i64 0, .int .i64 0, .int .i64 0, .int .i64 0]) (alloc_blk _ _ _ (by first | rfl | simp))
        case b8 => intro u hu; simp at hu; rcases hu with rfl; rfl
        case c8 => unfold maxLen; omega
        case d8 => omega
        case e8 => have := (HB8.out.quiet (w' := _) (by repeat (first | with_reducible exact Touch.refl _ _ | with_reducible refine Touch.alloc ?_ _ | with_reducible refine Touch.drewN ?_ _ | with_reducible refine Touch.drew ?_))).2.1.hb; first | exact this | (simp at this ⊢; omega)
        case go8 =>
        intro v8' w8' hown hgrow _ hat
        have HB9 := Lib.hid ((HB8.out.quiet (by repeat (first | with_reducible exact Touch.refl _ _ | with_reducible refine Touch.alloc ?_ _ | with_reducible refine Touch.drewN ?_ _ | with_reducible refine Touch.drew ?_))).app8 hown hgrow (hat.imp id fun e => e.trans (by simp)))
        clear hown hgrow hat HB8
        go_wp2
        go_roundw
        case rel =>
          refine ⟨k + 1, n + 1, by omega, by go_num, by omega, cnt + 1, Ext F1 (wo.alloc (.cells #[.int .i64 way, .bool made, .int .i64 at_, .int .i64 i, .int .i64 x, .int .i64 c, .int .i64 v, .slice Ac n' cp, .int .u16 all, .int .u16 nn] 36)) w5, md ++ [(i5, x5)], th ++ [true], ms ++ [0], vs ++ [List.replicate 16 0], by omega, by simp [HMD.out], ?_⟩
          rw [idc_snoc, bc_snoc, mc_snoc, vc_snoc]
          exact HB9.out
        case measure => simp [intOf]; omega
      · skip
        go_wp2_with fail
        refine (ms_spawn (HB.out.quiet (by repeat (first | with_reducible exact Touch.refl _ _ | with_reducible refine Touch.alloc ?_ _ | with_reducible refine Touch.drewN ?_ _ | with_reducible refine Touch.drew ?_))).1 (by omega) (by rw [HMD.out]; omega)).mono ?_
        rintro e w5 ⟨i5, x5, rfl, hM5, hT5⟩
        have hB5 := MB.call (HB.out.quiet (Touch.alloc (Touch.refl NoB wo) (.cells #[.int .i64 way, .bool made, .int .i64 at_, .int .i64 i, .int .i64 x, .int .i64 c, .int .i64 v, .slice Ac n' cp, .int .u16 all, .int .u16 nn] 36))) hM5 hT5
        have hs5 := hT5.size
        have HB5 := Lib.hid hB5
        clear hB5 hM5 hT5 HB
        go_wp2_with (first | (go_at_call 10; refine (num_any _ _).mono ?_; rintro e w' ⟨rfl, rfl⟩) | (at_builtin; refine wpList_append_own_at _ rfl (.tmp 66) (.tmp 68) 28 rfl w.heap.size 30 i0 _ 2 16 Try.underlying28 hi hz0 hz1 hz2 rfl (by decide) (.slice A5 n c5) n (idc md) rfl ?o5 ⟨w5.heap.size + 1, 0, none⟩ 1 1 [.int .i64 i5, .int .i64 x5] rfl rfl ?a5 ?b5 ?c5 ?d5 ?e5 ?go5))
        case o5 => exact (HB5.out.quiet (by repeat (first | with_reducible exact Touch.refl _ _ | with_reducible refine Touch.alloc ?_ _ | with_reducible refine Touch.drewN ?_ _ | with_reducible refine Touch.drew ?_))).2.1.r5
        case a5 => exact World.news_of_block (cs := #[.int .i64 i5, .int .i64 x5]) (alloc_blk _ _ _ (by first | rfl | simp))
        case b5 => intro u hu; simp at hu; rcases hu with rfl | rfl <;> rfl
        case c5 => unfold maxLen; omega
        case d5 => omega
        case e5 => have := (HB5.out.quiet (w' := _) (by repeat (first | with_reducible exact Touch.refl _ _ | with_reducible refine Touch.alloc ?_ _ | with_reducible refine Touch.drewN ?_ _ | with_reducible refine Touch.drew ?_))).2.1.hb; first | exact this | (simp at this ⊢; omega)
        case go5 =>
        intro v5' w5' hown hgrow _ hat
        have HB6 := Lib.hid ((HB5.out.quiet (by repeat (first | with_reducible exact Touch.refl _ _ | with_reducible refine Touch.alloc ?_ _ | with_reducible refine Touch.drewN ?_ _ | with_reducible refine Touch.drew ?_))).app5 hown hgrow (hat.imp id fun e => e.trans (by simp)))
        clear hown hgrow hat HB5
        go_wp2_with (first | (go_at_call 10; refine (num_any _ _).mono ?_; rintro e w' ⟨rfl, rfl⟩) | (at_builtin; refine wpList_append_own_at _ rfl (.tmp 70) (.tmp 71) 53 rfl w.heap.size 4 j0 _ 1 1 Try.underlying53 hj hy0 hy1 hy2 rfl (by decide) (.slice A6 n c6) n (bc th) rfl ?o6 ⟨w5'.heap.size, 0, none⟩ 1 1 [.bool true] rfl rfl ?a6 ?b6 ?c6 ?d6 ?e6 ?go6))
        case o6 => exact (HB6.out.quiet (by repeat (first | with_reducible exact Touch.refl _ _ | with_reducible refine Touch.alloc ?_ _ | with_reducible refine Touch.drewN ?_ _ | with_reducible refine Touch.drew ?_))).2.1.r6
        case a6 => exact World.news_of_block (cs := #[.bool true]) (alloc_blk _ _ _ (by first | rfl | simp))
        case b6 => intro u hu; simp at hu; rcases hu with rfl; rfl
        case c6 => unfold maxLen; omega
        case d6 => omega
        case e6 => have := (HB6.out.quiet (w' := _) (by repeat (first | with_reducible exact Touch.refl _ _ | with_reducible refine Touch.alloc ?_ _ | with_reducible refine Touch.drewN ?_ _ | with_reducible refine Touch.drew ?_))).2.1.hb; first | exact this | (simp at this ⊢; omega)
        case go6 =>
        intro v6' w6' hown hgrow _ hat
        have HB7 := Lib.hid ((HB6.out.quiet (by repeat (first | with_reducible exact Touch.refl _ _ | with_reducible refine Touch.alloc ?_ _ | with_reducible refine Touch.drewN ?_ _ | with_reducible refine Touch.drew ?_))).app6 hown hgrow (hat.imp id fun e => e.trans (by simp)))
        clear hown hgrow hat HB6
        go_wp2_with (first | (go_at_call 10; refine (num_any _ _).mono ?_; rintro e w' ⟨rfl, rfl⟩) | (at_builtin; refine wpList_append_own_at _ rfl (.tmp 73) (.tmp 74) 54 rfl w.heap.size 34 k0 _ 1 2 Try.underlying54 hk hx0 hx1 hx2 rfl (by decide) (.slice A7 n c7) n (mc ms) rfl ?o7 ⟨w6'.heap.size, 0, none⟩ 1 1 [.int .u16 0] rfl rfl ?a7 ?b7 ?c7 ?d7 ?e7 ?go7))
        case o7 => exact (HB7.out.quiet (by repeat (first | with_reducible exact Touch.refl _ _ | with_reducible refine Touch.alloc ?_ _ | with_reducible refine Touch.drewN ?_ _ | with_reducible refine Touch.drew ?_))).2.1.r7
        case a7 => exact World.news_of_block (cs := #[.int .u16 0]) (alloc_blk _ _ _ (by first | rfl | simp))
        case b7 => intro u hu; simp at hu; rcases hu with rfl; rfl
        case c7 => unfold maxLen; omega
        case d7 => omega
        case e7 => have := (HB7.out.quiet (w' := _) (by repeat (first | with_reducible exact Touch.refl _ _ | with_reducible refine Touch.alloc ?_ _ | with_reducible refine Touch.drewN ?_ _ | with_reducible refine Touch.drew ?_))).2.1.hb; first | exact this | (simp at this ⊢; omega)
        case go7 =>
        intro v7' w7' hown hgrow _ hat
        have HB8 := Lib.hid ((HB7.out.quiet (by repeat (first | with_reducible exact Touch.refl _ _ | with_reducible refine Touch.alloc ?_ _ | with_reducible refine Touch.drewN ?_ _ | with_reducible refine Touch.drew ?_))).app7 hown hgrow (hat.imp id fun e => e.trans (by simp)))
        clear hown hgrow hat HB7
        go_wp2_with (first | (go_at_call 10; refine (num_any _ _).mono ?_; rintro e w' ⟨rfl, rfl⟩) | (at_builtin; refine wpList_append_own_at _ rfl (.tmp 76) (.tmp 78) 55 rfl w.heap.size 57 l0 _ 16 128 Try.underlying55 hl hw0 hw1 hw2 rfl (by decide) (.slice A8 n c8) n (vc vs) rfl ?o8 ⟨w7'.heap.size, 0, none⟩ 1 1 [.int .i64 0, .int .i64 0, .int .i64 0, .int .i64 0, .int .i64 0, .int .i64 0, .int .i64 0, .int .i64 0, .int .i64 0, .int .i64 0, .int .i64 0, .int .i64 0, .int .i64 0, .int .i64 0, .int .i64 0, .int .i64 0] rfl rfl ?a8 ?b8 ?c8 ?d8 ?e8 ?go8))
        case o8 => exact (HB8.out.quiet (by repeat (first | with_reducible exact Touch.refl _ _ | with_reducible refine Touch.alloc ?_ _ | with_reducible refine Touch.drewN ?_ _ | with_reducible refine Touch.drew ?_))).2.1.r8
        case a8 => exact World.news_of_block (cs := #[.int .i64 0, .int .i64 0, .int .i64 0, .int .i64 0, .int .i64 0, .int .i64 0, .int .i64 0, .int .i64 0, .int .i64 0, .int .i64 0, .int .i64 0, .int .i64 0, .int .i64 0, .int .i64 0, .int .i64 0, .int .i64 0]) (alloc_blk _ _ _ (by first | rfl | simp))
        case b8 => intro u hu; simp at hu; rcases hu with rfl; rfl
        case c8 => unfold maxLen; omega
        case d8 => omega
        case e8 => have := (HB8.out.quiet (w' := _) (by repeat (first | with_reducible exact Touch.refl _ _ | with_reducible refine Touch.alloc ?_ _ | with_reducible refine Touch.drewN ?_ _ | with_reducible refine Touch.drew ?_))).2.1.hb; first | exact this | (simp at this ⊢; omega)
        case go8 =>
        intro v8' w8' hown hgrow _ hat
        have HB9 := Lib.hid ((HB8.out.quiet (by repeat (first | with_reducible exact Touch.refl _ _ | with_reducible refine Touch.alloc ?_ _ | with_reducible refine Touch.drewN ?_ _ | with_reducible refine Touch.drew ?_))).app8 hown hgrow (hat.imp id fun e => e.trans (by simp)))
        clear hown hgrow hat HB8
        go_wp2
        go_roundw
        case rel =>
          refine ⟨k + 1, n + 1, by omega, by go_num, by omega, cnt + 1, Ext F1 (wo.alloc (.cells #[.int .i64 way, .bool made, .int .i64 at_, .int .i64 i, .int .i64 x, .int .i64 c, .int .i64 v, .slice Ac n' cp, .int .u16 all, .int .u16 nn] 36)) w5, md ++ [(i5, x5)], th ++ [true], ms ++ [0], vs ++ [List.replicate 16 0], by omega, by simp [HMD.out], ?_⟩
          rw [idc_snoc, bc_snoc, mc_snoc, vc_snoc]
          exact HB9.out
        case measure => simp [intOf]; omega
      · skip
        obtain ⟨a, hka, han⟩ := mod_low' at_ (n := n) (by have : ((n : Int) == 0) = false := hg2; simp at this; omega)
        obtain ⟨⟨i1, x1⟩, ha1⟩ : ∃ p, md[a]? = some p := ⟨_, List.getElem?_eq_getElem (by rw [HMD.out]; exact han)⟩
        obtain ⟨u, hu⟩ : ∃ u, th[a]? = some u := ⟨_, List.getElem?_eq_getElem (by rw [HB.out.1.tl, HMD.out]; exact han)⟩
        obtain ⟨m, hm⟩ : ∃ m, ms[a]? = some m := ⟨_, List.getElem?_eq_getElem (by rw [HB.out.1.ml, HMD.out]; exact han)⟩
        obtain ⟨l, hl16⟩ : ∃ l, vs[a]? = some l := ⟨_, List.getElem?_eq_getElem (by rw [HB.out.1.vl, HMD.out]; exact han)⟩
        have hmr := HB.out.1.rng hm
        obtain ⟨g5, cc, hv, ha_, hb_, hob5⟩ := row_form HB.out.2.1.r5 (by omega)
        injection hv with hv1 hv2 hv3
        subst hv1
        clear hv2 hv3 ha_ hb_ cc
        obtain ⟨g6, cc, hv, ha_, hb_, hob6⟩ := row_form HB.out.2.1.r6 (by omega)
        injection hv with hv1 hv2 hv3
        subst hv1
        clear hv2 hv3 ha_ hb_ cc
        obtain ⟨g7, cc, hv, ha_, hb_, hob7⟩ := row_form HB.out.2.1.r7 (by omega)
        injection hv with hv1 hv2 hv3
        subst hv1
        clear hv2 hv3 ha_ hb_ cc
        obtain ⟨g8, cc, hv, ha_, hb_, hob8⟩ := row_form HB.out.2.1.r8 (by omega)
        injection hv with hv1 hv2 hv3
        subst hv1
        clear hv2 hv3 ha_ hb_ cc
        have hlt5 := row_lt HB.out.2.1.r5 hob5
        have hlt6 := row_lt HB.out.2.1.r6 hob6
        have hlt7 := row_lt HB.out.2.1.r7 hob7
        have hlt8 := row_lt HB.out.2.1.r8 hob8
        have HA := Lib.hid (And.intro ha1 (And.intro hu (And.intro hm hl16)))
        clear ha1 hu hm hl16 hob5 hob6 hob7 hob8
        have b1 : (0 : Int) ≤ (a : Int) := by omega
        have b2 : (a : Int) < (n : Int) := by omega
        go_upto_block 2 with fail
        obtain ⟨wa, hwa⟩ : ∃ W, wo.alloc (.cells #[.int .i64 way, .bool made, .int .i64 at_, .int .i64 i, .int .i64 x, .int .i64 c, .int .i64 v, .slice Ac n' cp, .int .u16 all, .int .u16 nn] 36) = W := ⟨_, rfl⟩
        obtain ⟨ga, hgaE⟩ : ∃ G, wo.heap.size = G := ⟨_, rfl⟩
        have hgb := alloc_blk wo #[.int .i64 way, .bool made, .int .i64 at_, .int .i64 i, .int .i64 x, .int .i64 c, .int .i64 v, .slice Ac n' cp, .int .u16 all, .int .u16 nn] 36 hgaE
        have HNF := Lib.hid (show ¬ F1 ga from fun e => by have := (HB.out.2.1.inw ga e).2; omega)
        have hb2 := HB.out.quiet (Touch.alloc (Touch.refl NoB wo) (.cells #[.int .i64 way, .bool made, .int .i64 at_, .int .i64 i, .int .i64 x, .int .i64 c, .int .i64 v, .slice Ac n' cp, .int .u16 all, .int .u16 nn] 36))
        rw [hwa] at hgb hb2
        rw [hwa, hgaE]
        have HS16 := Lib.hid HB.out.1.six
        have N7 := Lib.hid (show g7 ≠ ga ∧ g7 ≠ g8 from ⟨by omega, fun e => row_row_ne HB.out.2.1.r7 HB.out.2.1.r8 (by decide) (k := g7) rfl (by rw [e]; rfl)⟩)
        clear HB HT c0 c1 c2 c3 c4 c5' c6' c7' c8' c9' hb hbr hsr hlt5 hlt6 hlt7 hlt8 hwa hgaE hka hsl HY
        have HB := Lib.hid hb2
        have q0 : wa.cell? ⟨ga, 0, none⟩ = some (.int .i64 way) := cell_blk hgb 0
        have q6 : wa.cell? ⟨ga, 6, none⟩ = some (.int .i64 v) := cell_blk hgb 6
        have hga := blk_lt hgb
        have k0 := (HB.out.c5 HA.out.1 han).1
        have k1 := (HB.out.c5 HA.out.1 han).2.1
        have k2 := (HB.out.c6 HA.out.2.1 han).1
        have k3 := (HB.out.c6 HA.out.2.1 han).2.1
        have k4 := (HB.out.c7 HA.out.2.2.1 han).1
        have k5 := (HB.out.c7 HA.out.2.2.1 han).2.1
        have k6 := (HB.out.c8 HS16.out HA.out.2.2.2 han hy16).1
        have k7 := (HB.out.c8 HS16.out HA.out.2.2.2 han hy16).2.1
        clear hgb hb2
        have hy1 : (0 : Int) ≤ (y : Int) := by omega
        have hy2 : (y : Int) < 16 := by omega
        go_cut [] (fun wx => MapEnd w g n (k + 1) (.slice (some ⟨g5, 0, none⟩) n c5) (.slice (some ⟨g6, 0, none⟩) n c6) (.slice (some ⟨g7, 0, none⟩) n c7) (.slice (some ⟨g8, 0, none⟩) n c8) wx)
        case first =>
          by_cases e1 : way = 1
          · subst e1
            cases u
            · as_aux_lemma =>
              go_wp2_with fail
              go_region_held3 (fun w' => w'.cell? ⟨g5, a * 2, none⟩ = some (.int .i64 i1) ∧ w'.cell? ⟨g5, a * 2 + 1, none⟩ = some (.int .i64 x1) ∧ w'.cell? ⟨g6, a, none⟩ = some (.bool false) ∧ w'.cell? ⟨ga, 6, none⟩ = some (.int .i64 v)) (first | go_keep | exact ⟨hk0, hk1, hk2, hka⟩ | exact ⟨k0, k1, k2, q6⟩)
                (first | (go_at_call 10; refine (num_any _ _).mono ?_; rintro e w' ⟨rfl, rfl⟩)
                       | (go_at_call 11; refine (ms_despawn (HB.out.quiet (by repeat (first | with_reducible exact Touch.refl _ _ | with_reducible refine Touch.alloc ?_ _ | with_reducible refine Touch.drewN ?_ _ | with_reducible refine Touch.drew ?_))).1 (by omega) HA.out.1 HA.out.2.1).mono ?_; rintro e w6 ⟨z, rfl, hz, hM6, hT6⟩; obtain ⟨F2, hb⟩ : ∃ F2, MB w w6 F2 (cnt + 2) g n n n n (.slice (some ⟨g5, 0, none⟩) n c5) (.slice (some ⟨g6, 0, none⟩) n c6) (.slice (some ⟨g7, 0, none⟩) n c7) (.slice (some ⟨g8, 0, none⟩) n c8) (idc md) (bc th) (mc ms) (vc vs) md (th.set a false) ms vs := ⟨_, MB.call (HB.out.quiet (by repeat (first | with_reducible exact Touch.refl _ _ | with_reducible refine Touch.alloc ?_ _ | with_reducible refine Touch.drewN ?_ _ | with_reducible refine Touch.drew ?_))) hM6 hT6⟩; have hka : w6.cell? ⟨ga, 6, none⟩ = some (.int .i64 v) := (hT6.cell (p := ⟨ga, 6, none⟩) hga (fun e => HNF.out e)).trans q6; have hgw : ga < w6.heap.size := Nat.lt_of_lt_of_le hga hT6.size; have hk0 := (hb.c5 HA.out.1 han).1; have hk1 := (hb.c5 HA.out.1 han).2.1; have hk2 := (hb.c6 HA.out.2.1 han).1; have hk3 := (hb.c6 HA.out.2.1 han).2.1; have hk4 := (hb.c7 HA.out.2.2.1 han).1; have hk5 := (hb.c7 HA.out.2.2.1 han).2.1; have hk6 := (hb.c8 HS16.out HA.out.2.2.2 han hy16).1; have hk7 := (hb.c8 HS16.out HA.out.2.2.2 han hy16).2.1; have dz : (z == 0) = false := bne_f hz; clear HB; have HB := Lib.hid hb; clear hM6 hT6 hb hz))
              all_goals
                go_wp2
                go_meet
                exact ⟨cnt + 2, F2, md, th.set a false, ms, vs, by omega, HMD.out, by rw [bc_set]; exact (HB.out.quiet (by repeat (first | with_reducible exact Touch.refl _ _ | with_reducible refine Touch.alloc ?_ _ | with_reducible refine Touch.drewN ?_ _ | with_reducible refine Touch.drew ?_))).set6 a _⟩
            · as_aux_lemma =>
              go_wp2_with fail
              go_region_held3 (fun w' => w'.cell? ⟨g5, a * 2, none⟩ = some (.int .i64 i1) ∧ w'.cell? ⟨g5, a * 2 + 1, none⟩ = some (.int .i64 x1) ∧ w'.cell? ⟨g6, a, none⟩ = some (.bool true) ∧ w'.cell? ⟨ga, 6, none⟩ = some (.int .i64 v)) (first | go_keep | exact ⟨hk0, hk1, hk2, hka⟩ | exact ⟨k0, k1, k2, q6⟩)
                (first | (go_at_call 10; refine (num_any _ _).mono ?_; rintro e w' ⟨rfl, rfl⟩)
                       | (go_at_call 11; refine (ms_despawn (HB.out.quiet (by repeat (first | with_reducible exact Touch.refl _ _ | with_reducible refine Touch.alloc ?_ _ | with_reducible refine Touch.drewN ?_ _ | with_reducible refine Touch.drew ?_))).1 (by omega) HA.out.1 HA.out.2.1).mono ?_; rintro e w6 ⟨z, rfl, hz, hM6, hT6⟩; obtain ⟨F2, hb⟩ : ∃ F2, MB w w6 F2 (cnt + 2) g n n n n (.slice (some ⟨g5, 0, none⟩) n c5) (.slice (some ⟨g6, 0, none⟩) n c6) (.slice (some ⟨g7, 0, none⟩) n c7) (.slice (some ⟨g8, 0, none⟩) n c8) (idc md) (bc th) (mc ms) (vc vs) md (th.set a false) ms vs := ⟨_, MB.call (HB.out.quiet (by repeat (first | with_reducible exact Touch.refl _ _ | with_reducible refine Touch.alloc ?_ _ | with_reducible refine Touch.drewN ?_ _ | with_reducible refine Touch.drew ?_))) hM6 hT6⟩; have hka : w6.cell? ⟨ga, 6, none⟩ = some (.int .i64 v) := (hT6.cell (p := ⟨ga, 6, none⟩) hga (fun e => HNF.out e)).trans q6; have hgw : ga < w6.heap.size := Nat.lt_of_lt_of_le hga hT6.size; have hk0 := (hb.c5 HA.out.1 han).1; have hk1 := (hb.c5 HA.out.1 han).2.1; have hk2 := (hb.c6 HA.out.2.1 han).1; have hk3 := (hb.c6 HA.out.2.1 han).2.1; have hk4 := (hb.c7 HA.out.2.2.1 han).1; have hk5 := (hb.c7 HA.out.2.2.1 han).2.1; have hk6 := (hb.c8 HS16.out HA.out.2.2.2 han hy16).1; have hk7 := (hb.c8 HS16.out HA.out.2.2.2 han hy16).2.1; have dz : (z == 0) = true := bne_t hz; clear HB; have HB := Lib.hid hb; clear hM6 hT6 hb hz))
              all_goals
                go_wp2
                go_meet
                exact ⟨cnt + 2, F2, md, th.set a false, ms, vs, by omega, HMD.out, by rw [bc_set]; exact (HB.out.quiet (by repeat (first | with_reducible exact Touch.refl _ _ | with_reducible refine Touch.alloc ?_ _ | with_reducible refine Touch.drewN ?_ _ | with_reducible refine Touch.drew ?_))).set6 a _⟩
          · by_cases e2 : way = 2
            · subst e2
              cases u
              · as_aux_lemma =>
                go_wp2_with fail
                go_region_held3 (fun w' => w'.cell? ⟨g5, a * 2, none⟩ = some (.int .i64 i1) ∧ w'.cell? ⟨g5, a * 2 + 1, none⟩ = some (.int .i64 x1) ∧ w'.cell? ⟨g6, a, none⟩ = some (.bool false) ∧ w'.cell? ⟨ga, 6, none⟩ = some (.int .i64 v)) (first | go_keep | exact ⟨hk0, hk1, hk2, hka⟩ | exact ⟨k0, k1, k2, q6⟩)
                  (first | (go_at_call 10; refine (num_any _ _).mono ?_; rintro e w' ⟨rfl, rfl⟩)
                         | (go_at_call 13; refine (ms_put (HB.out.quiet (by repeat (first | with_reducible exact Touch.refl _ _ | with_reducible refine Touch.alloc ?_ _ | with_reducible refine Touch.drewN ?_ _ | with_reducible refine Touch.drew ?_))).1 (by omega) HA.out.1 HA.out.2.1 HA.out.2.2.1 HA.out.2.2.2 hy16).mono ?_; rintro e w6 ⟨z, rfl, hz, hM6, hT6⟩; simp only [Bool.false_eq_true, if_false] at hM6; obtain ⟨F2, hb⟩ : ∃ F2, MB w w6 F2 (cnt + 2) g n n n n (.slice (some ⟨g5, 0, none⟩) n c5) (.slice (some ⟨g6, 0, none⟩) n c6) (.slice (some ⟨g7, 0, none⟩) n c7) (.slice (some ⟨g8, 0, none⟩) n c8) (idc md) (bc th) (mc ms) (vc vs) md th ms vs := ⟨_, MB.call (HB.out.quiet (by repeat (first | with_reducible exact Touch.refl _ _ | with_reducible refine Touch.alloc ?_ _ | with_reducible refine Touch.drewN ?_ _ | with_reducible refine Touch.drew ?_))) hM6 hT6⟩; have hka : w6.cell? ⟨ga, 6, none⟩ = some (.int .i64 v) := (hT6.cell (p := ⟨ga, 6, none⟩) hga (fun e => HNF.out e)).trans q6; have hgw : ga < w6.heap.size := Nat.lt_of_lt_of_le hga hT6.size; have hk0 := (hb.c5 HA.out.1 han).1; have hk1 := (hb.c5 HA.out.1 han).2.1; have hk2 := (hb.c6 HA.out.2.1 han).1; have hk3 := (hb.c6 HA.out.2.1 han).2.1; have hk4 := (hb.c7 HA.out.2.2.1 han).1; have hk5 := (hb.c7 HA.out.2.2.1 han).2.1; have hk6 := (hb.c8 HS16.out HA.out.2.2.2 han hy16).1; have hk7 := (hb.c8 HS16.out HA.out.2.2.2 han hy16).2.1; have dz : (z == 0) = false := bne_f hz; clear HB; have HB := Lib.hid hb; clear hM6 hT6 hb hz))
                all_goals
                  go_wp2
                  go_meet
                  exact ⟨cnt + 2, F2, md, th, ms, vs, by omega, HMD.out, HB.out.quiet (by repeat (first | with_reducible exact Touch.refl _ _ | with_reducible refine Touch.alloc ?_ _ | with_reducible refine Touch.drewN ?_ _ | with_reducible refine Touch.drew ?_))⟩
              · as_aux_lemma =>
                have hor := or_bw hmr.1 hmr.2 hy16
                have n7 : g7 ≠ ga := N7.out.1
                have n8 : g7 ≠ g8 := N7.out.2
                go_wp2_with fail
                go_region_held3 (fun w' => w'.cell? ⟨g5, a * 2, none⟩ = some (.int .i64 i1) ∧ w'.cell? ⟨g5, a * 2 + 1, none⟩ = some (.int .i64 x1) ∧ w'.cell? ⟨g6, a, none⟩ = some (.bool true) ∧ w'.cell? ⟨ga, 6, none⟩ = some (.int .i64 v)) (first | go_keep | exact ⟨hk0, hk1, hk2, hka⟩ | exact ⟨k0, k1, k2, q6⟩)
                  (first | (go_at_call 10; refine (num_any _ _).mono ?_; rintro e w' ⟨rfl, rfl⟩)
                         | (go_at_call 13; refine (ms_put (HB.out.quiet (by repeat (first | with_reducible exact Touch.refl _ _ | with_reducible refine Touch.alloc ?_ _ | with_reducible refine Touch.drewN ?_ _ | with_reducible refine Touch.drew ?_))).1 (by omega) HA.out.1 HA.out.2.1 HA.out.2.2.1 HA.out.2.2.2 hy16).mono ?_; rintro e w6 ⟨z, rfl, hz, hM6, hT6⟩; simp only [if_true] at hM6; obtain ⟨F2, hb⟩ : ∃ F2, MB w w6 F2 (cnt + 2) g n n n n (.slice (some ⟨g5, 0, none⟩) n c5) (.slice (some ⟨g6, 0, none⟩) n c6) (.slice (some ⟨g7, 0, none⟩) n c7) (.slice (some ⟨g8, 0, none⟩) n c8) (idc md) (bc th) (mc ms) (vc vs) md th (ms.set a (orM m y)) (vs.set a (l.set y v)) := ⟨_, MB.call (HB.out.quiet (by repeat (first | with_reducible exact Touch.refl _ _ | with_reducible refine Touch.alloc ?_ _ | with_reducible refine Touch.drewN ?_ _ | with_reducible refine Touch.drew ?_))) hM6 hT6⟩; have hka : w6.cell? ⟨ga, 6, none⟩ = some (.int .i64 v) := (hT6.cell (p := ⟨ga, 6, none⟩) hga (fun e => HNF.out e)).trans q6; have hgw : ga < w6.heap.size := Nat.lt_of_lt_of_le hga hT6.size; have hk0 := (hb.c5 HA.out.1 han).1; have hk1 := (hb.c5 HA.out.1 han).2.1; have hk2 := (hb.c6 HA.out.2.1 han).1; have hk3 := (hb.c6 HA.out.2.1 han).2.1; have hk4 := (hb.c7 HA.out.2.2.1 han).1; have hk5 := (hb.c7 HA.out.2.2.1 han).2.1; have hk6 := (hb.c8 HS16.out HA.out.2.2.2 han hy16).1; have hk7 := (hb.c8 HS16.out HA.out.2.2.2 han hy16).2.1; have dz : (z == 0) = true := bne_t hz; clear HB; have HB := Lib.hid hb; clear hM6 hT6 hb hz))
                all_goals
                  go_wp2
                  go_region
                  all_goals
                    go_wp2
                    go_meet
                    exact ⟨cnt + 2, F2, md, th, ms.set a (orM m y), vs.set a (l.set y v), by omega, HMD.out, by rw [mc_set, vc_set HS16.out HA.out.2.2.2 hy16]; exact (((HB.out.quiet (by repeat (first | with_reducible exact Touch.refl _ _ | with_reducible refine Touch.alloc ?_ _ | with_reducible refine Touch.drewN ?_ _ | with_reducible refine Touch.drew ?_))).set7 a _).set8 _ _).quiet (by repeat (first | with_reducible exact Touch.refl _ _ | with_reducible refine Touch.alloc ?_ _ | with_reducible refine Touch.drewN ?_ _ | with_reducible refine Touch.drew ?_))⟩
            · by_cases e3 : way = 3
              · subst e3
                cases u
                · as_aux_lemma =>
                  go_wp2_with fail
                  refine (ms_take HB.out.1 (by omega) HA.out.1 HA.out.2.1 HA.out.2.2.1 HA.out.2.2.2 hy16).mono ?_
                  rintro e w6 ⟨y0, z, rfl, hz, hM6, hT6⟩
                  simp only [Bool.false_eq_true, if_false] at hM6
                  obtain ⟨F2, hb⟩ : ∃ F2, MB w w6 F2 (cnt + 2) g n n n n (.slice (some ⟨g5, 0, none⟩) n c5) (.slice (some ⟨g6, 0, none⟩) n c6) (.slice (some ⟨g7, 0, none⟩) n c7) (.slice (some ⟨g8, 0, none⟩) n c8) (idc md) (bc th) (mc ms) (vc vs) md th ms vs := ⟨_, MB.call HB.out hM6 hT6⟩
                  have hk0 := (hb.c5 HA.out.1 han).1
                  have hk1 := (hb.c5 HA.out.1 han).2.1
                  have hk2 := (hb.c6 HA.out.2.1 han).1
                  have hk3 := (hb.c6 HA.out.2.1 han).2.1
                  have hk4 := (hb.c7 HA.out.2.2.1 han).1
                  have hk5 := (hb.c7 HA.out.2.2.1 han).2.1
                  have hk6 := (hb.c8 HS16.out HA.out.2.2.2 han hy16).1
                  have hk7 := (hb.c8 HS16.out HA.out.2.2.2 han hy16).2.1
                  have dz : (z == 0) = false := bne_f hz
                  clear HB hM6 hT6 hz
                  have HB := Lib.hid hb
                  clear hb
                  go_wp2
                  go_quiet ((go_at_call 10; exact quiet_num (num_any _ _)))
                  go_wp2
                  go_meet
                  exact ⟨cnt + 2, F2, md, th, ms, vs, by omega, HMD.out, HB.out.quiet (by repeat (first | with_reducible exact Touch.refl _ _ | with_reducible refine Touch.alloc ?_ _ | with_reducible refine Touch.drewN ?_ _ | with_reducible refine Touch.drew ?_))⟩
                · cases hbt : bitB m y
                  · as_aux_lemma =>
                    have hand := and_bw hmr.1 hmr.2 hy16
                    rw [hbt, if_neg (by decide)] at hand
                    have hcl := cl_bw hmr.1 hmr.2 hy16
                    go_wp2_with fail
                    refine (ms_take HB.out.1 (by omega) HA.out.1 HA.out.2.1 HA.out.2.2.1 HA.out.2.2.2 hy16).mono ?_
                    rintro e w6 ⟨y0, z, rfl, hz, hM6, hT6⟩
                    simp only [if_true] at hM6
                    obtain ⟨F2, hb⟩ : ∃ F2, MB w w6 F2 (cnt + 2) g n n n n (.slice (some ⟨g5, 0, none⟩) n c5) (.slice (some ⟨g6, 0, none⟩) n c6) (.slice (some ⟨g7, 0, none⟩) n c7) (.slice (some ⟨g8, 0, none⟩) n c8) (idc md) (bc th) (mc ms) (vc vs) md th (ms.set a (clM m y)) vs := ⟨_, MB.call HB.out hM6 hT6⟩
                    have hk0 := (hb.c5 HA.out.1 han).1
                    have hk1 := (hb.c5 HA.out.1 han).2.1
                    have hk2 := (hb.c6 HA.out.2.1 han).1
                    have hk3 := (hb.c6 HA.out.2.1 han).2.1
                    have hk4 := (hb.c7 HA.out.2.2.1 han).1
                    have hk5 := (hb.c7 HA.out.2.2.1 han).2.1
                    have hk6 := (hb.c8 HS16.out HA.out.2.2.2 han hy16).1
                    have hk7 := (hb.c8 HS16.out HA.out.2.2.2 han hy16).2.1
                    rw [hbt] at hz
                    have dz : (z == 0) = false := bne_f hz
                    clear HB hM6 hT6 hz
                    have HB := Lib.hid hb
                    clear hb
                    go_wp2
                    go_quiet ((go_at_call 10; exact quiet_num (num_any _ _)))
                    go_wp2
                    go_meet
                    exact ⟨cnt + 2, F2, md, th, ms.set a (clM m y), vs, by omega, HMD.out, by rw [mc_set]; exact (HB.out.quiet (by repeat (first | with_reducible exact Touch.refl _ _ | with_reducible refine Touch.alloc ?_ _ | with_reducible refine Touch.drewN ?_ _ | with_reducible refine Touch.drew ?_))).set7 a _⟩
                  · as_aux_lemma =>
                    have hand := and_bw hmr.1 hmr.2 hy16
                    rw [hbt, if_pos rfl] at hand
                    have hbz : (bw y != 0) = true := by have := (bw_range hy16).1; simp; omega
                    have hcl := cl_bw hmr.1 hmr.2 hy16
                    go_wp2_with fail
                    refine (ms_take HB.out.1 (by omega) HA.out.1 HA.out.2.1 HA.out.2.2.1 HA.out.2.2.2 hy16).mono ?_
                    rintro e w6 ⟨y0, z, rfl, hz, hM6, hT6⟩
                    simp only [if_true] at hM6
                    obtain ⟨F2, hb⟩ : ∃ F2, MB w w6 F2 (cnt + 2) g n n n n (.slice (some ⟨g5, 0, none⟩) n c5) (.slice (some ⟨g6, 0, none⟩) n c6) (.slice (some ⟨g7, 0, none⟩) n c7) (.slice (some ⟨g8, 0, none⟩) n c8) (idc md) (bc th) (mc ms) (vc vs) md th (ms.set a (clM m y)) vs := ⟨_, MB.call HB.out hM6 hT6⟩
                    have hk0 := (hb.c5 HA.out.1 han).1
                    have hk1 := (hb.c5 HA.out.1 han).2.1
                    have hk2 := (hb.c6 HA.out.2.1 han).1
                    have hk3 := (hb.c6 HA.out.2.1 han).2.1
                    have hk4 := (hb.c7 HA.out.2.2.1 han).1
                    have hk5 := (hb.c7 HA.out.2.2.1 han).2.1
                    have hk6 := (hb.c8 HS16.out HA.out.2.2.2 han hy16).1
                    have hk7 := (hb.c8 HS16.out HA.out.2.2.2 han hy16).2.1
                    rw [hbt] at hz
                    have dz : (z == 0) = true := bne_t hz
                    clear HB hM6 hT6 hz
                    have HB := Lib.hid hb
                    clear hb
                    go_wp2
                    go_quiet ((go_at_call 10; exact quiet_num (num_any _ _)))
                    go_wp2
                    go_meet
                    exact ⟨cnt + 2, F2, md, th, ms.set a (clM m y), vs, by omega, HMD.out, by rw [mc_set]; exact (HB.out.quiet (by repeat (first | with_reducible exact Touch.refl _ _ | with_reducible refine Touch.alloc ?_ _ | with_reducible refine Touch.drewN ?_ _ | with_reducible refine Touch.drew ?_))).set7 a _⟩
              · have f1 : (way == 1) = false := by simpa using e1
                have f2 : (way == 2) = false := by simpa using e2
                have f3 : (way == 3) = false := by simpa using e3
                go_wp2
                go_meet
                exact ⟨cnt, F1, md, th, ms, vs, by omega, HMD.out, HB.out.quiet (by repeat (first | with_reducible exact Touch.refl _ _ | with_reducible refine Touch.alloc ?_ _ | with_reducible refine Touch.drewN ?_ _ | with_reducible refine Touch.drew ?_))⟩
        case rest =>
          as_aux_lemma =>
            clear HB HA HS16 HNF N7 q0 q6 k0 k1 k2 k3 k4 k5 k6 k7 hga hmr hy1 hy2 hg1 hg2 HMD
            obtain ⟨cnt2, F2, md2, th2, ms2, vs2, hcnt2, hmd2, hb2⟩ := hcut
            have htl2 := hb2.1.tl
            have hml2 := hb2.1.ml
            have hvl2 := hb2.1.vl
            have HS2 := Lib.hid hb2.1.six
            have HMD2 := Lib.hid (And.intro hmd2 (And.intro htl2 (And.intro hml2 hvl2)))
            have HB2 := Lib.hid hb2
            clear hb2 hmd2 htl2 hml2 hvl2
            go_wp2
            go_loopw [18] (fun v18 wr => CntR wc n v18 wr) (fun v18 _ => n - (intOf v18).toNat)
            case atStart => exact ⟨0, Nat.zero_le _, rfl, Touch.refl _ _⟩
            case round =>
              obtain ⟨wx, rfl⟩ : ∃ z, z = wr := ⟨_, rfl⟩
              obtain ⟨j, hj1, rfl, hTx⟩ := hrel
              have HTx := Lib.hid hTx
              clear hTx
              by_cases hjn : j < n
              · obtain ⟨⟨i2, x2⟩, ha2⟩ : ∃ p, md2[j]? = some p := ⟨_, List.getElem?_eq_getElem (by rw [HMD2.out.1]; exact hjn)⟩
                obtain ⟨ub, hu2⟩ : ∃ u, th2[j]? = some u := ⟨_, List.getElem?_eq_getElem (by rw [HMD2.out.2.1, HMD2.out.1]; exact hjn)⟩
                obtain ⟨m2, hm2⟩ : ∃ m, ms2[j]? = some m := ⟨_, List.getElem?_eq_getElem (by rw [HMD2.out.2.2.1, HMD2.out.1]; exact hjn)⟩
                obtain ⟨l2, hl2⟩ : ∃ l, vs2[j]? = some l := ⟨_, List.getElem?_eq_getElem (by rw [HMD2.out.2.2.2, HMD2.out.1]; exact hjn)⟩
                have hmr2 := HB2.out.1.rng hm2
                have HA2 := Lib.hid (And.intro ha2 (And.intro hu2 (And.intro hm2 hl2)))
                have HMR2 := Lib.hid hmr2
                clear ha2 hu2 hm2 hl2 hmr2
                have p1 : (0 : Int) ≤ (j : Int) := by omega
                have p2 : (j : Int) < (n : Int) := by omega
                go_wp2
                go_loopw [19] (fun v19 wr => CntR wx 16 v19 wr) (fun v19 _ => 16 - (intOf v19).toNat)
                case atStart => exact ⟨0, Nat.zero_le _, rfl, Touch.refl _ _⟩
                case round =>
                  obtain ⟨e, he, rfl, hTy⟩ := hrel
                  have HTy := Lib.hid (HTx.out.same hTy)
                  have HTz := Lib.hid hTy
                  clear hTy
                  by_cases he16 : e < 16
                  · have hbr := HB2.out.quiet HTy.out
                    have k0 := (hbr.c5 HA2.out.1 hjn).1
                    have k1 := (hbr.c5 HA2.out.1 hjn).2.1
                    have kb := (hbr.c5 HA2.out.1 hjn).2.2
                    have HG := Lib.hid (ms_get hbr.1 (by omega) HA2.out.1 HA2.out.2.1 HA2.out.2.2.1 HA2.out.2.2.2 he16)
                    clear hbr
                    have y1 : (0 : Int) ≤ (e : Int) := by omega
                    have y2 : (e : Int) < 16 := by omega
                    go_wp2_with fail
                    refine HG.out.mono ?_
                    rintro e8 w8 ⟨y8, z8, rfl, hz8, hv8, hT8⟩
                    have HT8 := Lib.hid (HTz.out.same hT8)
                    have hbr := HB2.out.quiet (HTy.out.same hT8)
                    have k2 := (hbr.c6 HA2.out.2.1 hjn).1
                    have k3 := (hbr.c7 HA2.out.2.2.1 hjn).1
                    have k4 := (hbr.c8 HS2.out HA2.out.2.2.2 hjn he16).1
                    have hdv := div_range HMR2.out.1 HMR2.out.2 e
                    have b1 : (bits .and .u16 (m2 / 2 ^ e) 1 == 1) = bitB m2 e := by rw [and_one hdv.1 hdv.2]; rfl
                    clear hbr hT8 HG k0 k1 kb hdv
                    cases ub
                    · have dz : (z8 == 0) = false := bne_f hz8
                      clear hz8 hv8 b1
                      go_wp2_with (go_at_call 10; refine (num_any _ _).mono ?_; rintro e w' ⟨rfl, rfl⟩)
                      go_roundw
                      case rel => exact ⟨e + 1, by omega, by go_num, HT8.out⟩
                      case measure => simp [intOf]; omega
                    · cases hbt : bitB m2 e
                      · rw [hbt] at hz8 b1
                        have dz : (z8 == 0) = false := bne_f hz8
                        clear hz8 hv8 hbt
                        go_wp2_with (go_at_call 10; refine (num_any _ _).mono ?_; rintro e w' ⟨rfl, rfl⟩)
                        go_roundw
                        case rel => exact ⟨e + 1, by omega, by go_num, HT8.out⟩
                        case measure => simp [intOf]; omega
                      · rw [hbt] at hz8 b1
                        have dz : (z8 == 0) = true := bne_t hz8
                        obtain rfl := hv8 rfl hbt
                        have dv : (l2.getD e 0 != l2.getD e 0) = false := by simp
                        clear hz8 hv8 hbt
                        go_wp2_with (go_at_call 10; refine (num_any _ _).mono ?_; rintro e w' ⟨rfl, rfl⟩)
                        go_roundw
                        case rel => exact ⟨e + 1, by omega, by go_num, HT8.out⟩
                        case measure => simp [intOf]; omega
                  · obtain rfl : e = 16 := by omega
                    go_wp2
                    go_roundw
                    case rel => exact ⟨j + 1, by omega, by go_num, HTy.out⟩
                    case measure => simp [intOf]; omega
              · obtain rfl : j = n := by omega
                go_wp2
                go_roundw
                case rel => exact ⟨k + 1, j, by omega, by go_num, by omega, cnt2, F2, md2, th2, ms2, vs2, hcnt2, HMD2.out.1, HB2.out.quiet HTx.out⟩
                case measure => simp [intOf]; omega
    · go_wp2
      go_ret
      exact ⟨rfl, HT.out⟩
end Go.Proofs.Ytjddfmllphcehaa
