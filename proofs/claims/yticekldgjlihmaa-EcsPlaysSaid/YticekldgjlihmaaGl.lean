/-
  Take of the document's own Store.
-/
import Derived.Test.YticekldgjlihmaaGj
namespace Go.Proofs.Yticekldgjlihmaa
open Go.ChangeShapes Go.WideShapes Go.ChangeAt Go.RowKit Go.Maps
set_option maxRecDepth 100000
set_option maxHeartbeats 4000000

section
variable {w : World} {F : Nat → Prop} {g : Nat} {room most : Int} {ps : List (Int × Bool)} {ds : List Int} {bs : List Tb}
theorem rtake_no (i x c : Int) {z : Int} (hz : z ≠ 0) (hG : ∀ W, Touch NoB w W → Calls Try.prog 17 #[.pointer (some ⟨g, 0, none⟩), .agg #[.int .i64 i, .int .i64 x], .int .i64 c] W fun e w' => e = .returned (.tuple #[.int .i64 0, .int .i64 z]) ∧ Touch NoB W w') :
    Calls Try.prog 15 #[.pointer (some ⟨g, 0, none⟩), .agg #[.int .i64 i, .int .i64 x], .int .i64 c] w fun e w' => e = .returned (.tuple #[.int .i64 0, .int .i64 z]) ∧ Touch NoB w w' := by
  have HG := Lib.hid hG
  have dz : (z != 0) = true := by simpa using hz
  clear hG hz
  go_enter Try.func15, Try.ntmps15
  go_wp2_with fail
  refine (HG.out _ ((Touch.refl NoB w).alloc _)).mono ?_
  rintro e w1 ⟨rfl, hT1⟩
  have HT1 := Lib.hid (((Touch.refl NoB w).alloc (.cells #[.int .i64 i, .int .i64 x] 30)).same hT1)
  clear hT1
  go_wp2
  go_ret2
  exact ⟨rfl, HT1.out.same (by repeat (first | with_reducible exact Touch.refl _ _ | with_reducible refine Touch.alloc ?_ _ | with_reducible refine Touch.drewN ?_ _ | with_reducible refine Touch.drew ?_))⟩
theorem rtake_in (h : RSt w F g room most ps ds bs) (hu : UniqB bs) (hbl : bs.length ≤ 1000) (hll : ∀ b ∈ bs, b.ids.length < 1000000) (i x : Int) {c : Nat} (hn : hasI ps i x = true) {j k : Nat} {b : Tb} (hb : bs[j]? = some b) (hk : b.ids[k]? = some (i, x)) (hc : c < 16) (hbt : bitB b.m c = true) :
    Calls Try.prog 15 #[.pointer (some ⟨g, 0, none⟩), .agg #[.int .i64 i, .int .i64 x], .int .i64 c] w fun e w' => ∃ y z, e = .returned (tup2 (y, z)) ∧ RMoveEnd w F g room most ps ds bs j k b (clM b.m c) (i, x) [] z w' ∧ y = if z = 0 then (b.cf c).getD k 0 else 0 := by
  have hG := rget_some (h.quiet ((Touch.refl NoB w).alloc (.cells #[.int .i64 i, .int .i64 x] 30))) hu i x c hn hb hk (isC_nat hc) (by rw [Int.toNat_natCast]; exact hbt)
  rw [Int.toNat_natCast] at hG
  obtain ⟨y, hy⟩ : ∃ y, (b.cf c).getD k 0 = y := ⟨_, rfl⟩
  rw [hy] at hG
  simp only [hy]
  obtain ⟨φ, gi, ts, vl, h1, h2, h3⟩ := h
  obtain ⟨t, ht, htb⟩ := rat h2 hb
  have hk' : (t.l.map Prod.fst)[k]? = some (i, x) := by rw [← htb] at hk; exact hk
  have htm : t.m = b.m := by rw [← htb]; rfl
  obtain ⟨ct, htl, _⟩ := (h1.tab j t ht).mask
  obtain ⟨hm0, hm1⟩ := h1.m0 j t ht
  have hu' : UniqB (ts.map RTb.b) := by rw [h2]; exact hu
  have HOF := Lib.hid (fun W (hW : Touch NoB w W) => rs_of (h1.quiet hW) hu' ht hk')
  rw [htm] at ct hm0 hm1
  have hz : ∀ b, w.heap.size ≤ b → φ b = 0 := fun b hb => by
    by_cases e : φ b = 0
    · exact e
    · have := h1.wf _ e; omega
  have HZ := Lib.hid hz
  have hoff : bitB (clM b.m c) c = false := by rw [clM_bit hm0 hc hc]; simp
  have hmv : moveB bs j k b (clM b.m c) (i, x) [((c : Int), 0)] = moveB bs j k b (clM b.m c) (i, x) [] := by
    unfold moveB
    rw [enter_skip _ _ _ _ hoff, List.append_nil]
  have HMOVE := Lib.hid (fun W (hW : Touch NoB w W) => (rs_move (h1.quiet hW) h2 h3 hu hbl hll i x (clM b.m c) c 0 (clM_range _ _) ht hk' (by rw [htm]; exact clM_ne hm0 hc hbt)).mono fun e w' ⟨z, a, y⟩ => (⟨z, a, by have := y.1.after hW; rw [htb] at this; unfold RMoveEnd at this ⊢; rwa [hmv] at this, by have := y.1.after hW; exact this.code, by have := y.2.1; rwa [htm] at this, y.2.2⟩ : ∃ z, e = Ending.returned (.int .i64 z) ∧ RMoveEnd w F g room most ps ds bs j k b (clM b.m c) (i, x) [] z w' ∧ (z = 0 ∨ z = 10) ∧ w'.cell? ⟨t.g, 0, none⟩ = some (Value.int .u16 b.m) ∧ Touch (fun b => φ b ≠ 0) W w'))
  have hcl := cl_bw hm0 hm1 hc
  have hsl := shl_bw hc
  have hmin := min_wrap hc
  obtain ⟨G, hGe⟩ : ∃ G, t.g = G := ⟨_, rfl⟩
  rw [hGe] at HOF htl ct HMOVE
  have HGET := Lib.hid hG
  obtain ⟨R, hR⟩ : ∃ R : Int → World → Prop, R = fun z w' => RMoveEnd w F g room most ps ds bs j k b (clM b.m c) (i, x) [] z w' := ⟨_, rfl⟩
  have e1 : ∀ z w', RMoveEnd w F g room most ps ds bs j k b (clM b.m c) (i, x) [] z w' = R z w' := fun z w' => by rw [hR]
  simp only [e1] at HMOVE
  simp only [e1]
  obtain ⟨bm, hbm⟩ : ∃ bm, b.m = bm := ⟨_, rfl⟩
  rw [hbm] at ct hcl HMOVE
  have HMV : Hid (∀ M, M = clM bm c → ∀ W, Touch NoB w W → Calls Try.prog 46 #[.pointer (some ⟨g, 0, none⟩), .agg #[.int .i64 i, .int .i64 x], .int .u16 M, .agg #[.int .i64 c, .int .i64 0]] W fun e w' => ∃ z, e = Ending.returned (.int .i64 z) ∧ R z w' ∧ (z = 0 ∨ z = 10) ∧ w'.cell? ⟨G, 0, none⟩ = some (Value.int .u16 bm) ∧ Touch (fun b => φ b ≠ 0) W w') := Lib.hid (fun M hM W hW => by rw [hM]; exact HMOVE.out W hW)
  clear HMOVE hz h1 h2 h3 hn hb hk hk' ht hu hu' hbt hm0 hm1 hGe hR e1 htm htb hll hbl hbm hG hy hoff hmv
  unfold tup2
  go_enter Try.func15, Try.ntmps15
  go_wp2_with fail
  have hid := alloc_blk w #[.int .i64 i, .int .i64 x] 30 rfl
  refine HGET.out.mono ?_
  rintro e w6 ⟨rfl, hT6⟩
  have hA := (hT6.block w.heap.size (by simp) (fun e => e)).trans hid
  have k0 : w6.cell? ⟨w.heap.size, 0, none⟩ = some (.int .i64 i) := cell_blk hA 0
  have k1 : w6.cell? ⟨w.heap.size, 1, none⟩ = some (.int .i64 x) := cell_blk hA 1
  have hl6 := blk_lt hA
  have HT6 := Lib.hid (((Touch.refl NoB w).alloc (.cells #[.int .i64 i, .int .i64 x] 30)).same hT6)
  clear hid hT6 hA
  go_wp2_with fail
  refine (HOF.out _ (HT6.out.same (by repeat (first | with_reducible exact Touch.refl _ _ | with_reducible refine Touch.alloc ?_ _ | with_reducible refine Touch.drewN ?_ _ | with_reducible refine Touch.drew ?_)))).mono ?_
  rintro e w7 ⟨rfl, hT7⟩
  have hq7 : Touch NoB w6 w7 := Touch.same (by repeat (first | with_reducible exact Touch.refl _ _ | with_reducible refine Touch.alloc ?_ _ | with_reducible refine Touch.drewN ?_ _ | with_reducible refine Touch.drew ?_)) hT7
  have p0 := (hq7.cell (p := ⟨w.heap.size, 0, none⟩) hl6 (fun e => e)).trans k0
  have p1 := (hq7.cell (p := ⟨w.heap.size, 1, none⟩) hl6 (fun e => e)).trans k1
  have pm := ((HT6.out.same hq7).cell (p := ⟨G, 0, none⟩) htl (fun e => e)).trans ct
  have hl7 := Nat.lt_of_lt_of_le hl6 hq7.size
  have HT7 := Lib.hid (HT6.out.same hq7)
  clear hT7 hq7
  go_wp2_with fail
  go_region_held3 (fun w' => w'.cell? ⟨G, 0, none⟩ = some (.int .u16 bm) ∧ w'.cell? ⟨w.heap.size, 0, none⟩ = some (.int .i64 i) ∧ w'.cell? ⟨w.heap.size, 1, none⟩ = some (.int .i64 x)) (first | exact ⟨pm, p0, p1⟩ | exact ⟨s0, s1, s2⟩ | go_keep)
    (first | (go_at_call 46; refine (HMV.out _ (by first | rfl | (rw [hmin, hsl]; exact hcl)) _ (HT7.out.same (by repeat (first | with_reducible exact Touch.refl _ _ | with_reducible refine Touch.alloc ?_ _ | with_reducible refine Touch.drewN ?_ _ | with_reducible refine Touch.drew ?_)))).mono ?_; rintro e w9 ⟨z, rfl, hE, hz, s0, hT9⟩; have hqq : Touch (fun b => φ b ≠ 0) w7 w9 := Touch.trans (by repeat (first | with_reducible exact Touch.refl _ _ | with_reducible refine Touch.alloc ?_ _ | with_reducible refine Touch.drewN ?_ _ | with_reducible refine Touch.drew ?_)) hT9 (fun b e => .inl e); have s1 := (Touch.cell hqq (p := ⟨w.heap.size, 0, none⟩) hl7 (fun e => e (HZ.out _ (Nat.le_refl _)))).trans p0; have s2 := (Touch.cell hqq (p := ⟨w.heap.size, 1, none⟩) hl7 (fun e => e (HZ.out _ (Nat.le_refl _)))).trans p1; have HE := Lib.hid (And.intro hE hz); clear hE hz hT9 hqq))
  all_goals
    have hzz := HE.out.2
    have HR := Lib.hid HE.out.1
    clear HE
    rcases hzz with rfl | rfl
    · go_wp2
      go_ret2
      exact ⟨y, 0, rfl, HR.out, by simp⟩
    · go_wp2
      go_ret2
      exact ⟨0, 10, rfl, HR.out, by simp⟩
end
end Go.Proofs.Yticekldgjlihmaa
