/-
  EcsPlays: same, where both sides stand for the same lists.
-/
import Derived.Test.YticekldgjlihmaaM6
import Derived.Deep.DeepCutAuto
import Derived.Deep.RegionHeld3
namespace Go.Proofs.Yticekldgjlihmaa
open Go.ChangeShapes Go.WideShapes Go.ChangeAt Go.RowKit Go.Maps
set_option maxRecDepth 100000
set_option maxHeartbeats 16000000

def SameRel (w1 : World) (n : Nat) (v15 : Value) (wr : World) : Prop := ∃ k : Nat, k ≤ n ∧ v15 = .int .i64 k ∧ Touch NoB w1 wr

section
variable {w : World} {F G : Nat → Prop} {cnt g r : Nat} {room tables : Int} {ps : List (Int × Bool)} {ds : List Int} {bs : List Tb}
theorem same_any (h : St w F cnt g room tables ps ds bs) (hr : RSt w G r room tables ps ds bs) (hc : cnt ≤ 300) (i x : Int) (hi : I64 i) (hx : I64 x) (a0 a1 a2 a3 a4 a5 a6 a7 : Value) (all nn : Int) :
    Calls Try.prog 18 #[.pointer (some ⟨g, 0, none⟩), .pointer (some ⟨r, 0, none⟩), .agg #[.int .i64 i, .int .i64 x], .agg #[a0, a1, a2, a3, a4, a5, a6, a7, .int .u16 all, .int .u16 nn]] w fun e w' => e = .returned (.bool true) ∧ Touch NoB w w' := by
  have QB : Touch NoB w ((w.alloc (.cells #[.int .i64 i, .int .i64 x] 30)).alloc (.cells #[a0, a1, a2, a3, a4, a5, a6, a7, .int .u16 all, .int .u16 nn] 36)) := ((Touch.refl NoB w).alloc _).alloc _
  have hS := h.quiet QB
  have hR := hr.quiet QB
  obtain ⟨m, z, P1, P2⟩ := pair_mask hS i x hi hx
  have hs := h.small
  have hq : ∀ a n, (queryB a n bs).length ≤ 100000 := fun a n => by
    have h1 := query_len a n 300 bs (fun b hb => by have := hs.2.1 b hb; omega)
    have h2 := Nat.mul_le_mul_right 300 (show bs.length ≤ 300 by omega)
    omega
  have hml : (masksB bs).length ≤ 300 := by unfold masksB; rw [List.length_map]; omega
  have hsm : bs.length ≤ 1000 ∧ ∀ b ∈ bs, b.ids.length ≤ 1000 := ⟨by omega, fun b hb => by have := hs.2.1 b hb; omega⟩
  have hn0 := two_new w (.cells #[.int .i64 i, .int .i64 x] 30) (.cells #[a0, a1, a2, a3, a4, a5, a6, a7, .int .u16 all, .int .u16 nn] 36)
  have HS := Lib.hid hS
  have HR := Lib.hid hR
  have HP := Lib.hid P2
  have HP1 := Lib.hid P1
  have HSM := Lib.hid hsm
  have hE : ∀ a n (W : World), Touch NoB ((w.alloc (.cells #[.int .i64 i, .int .i64 x] 30)).alloc (.cells #[a0, a1, a2, a3, a4, a5, a6, a7, .int .u16 all, .int .u16 nn] 36)) W → Calls Try.prog 19 #[.pointer (some ⟨g, 0, none⟩), .int .u16 a, .int .u16 n] W (NewRow W 30 2 (queryB a n bs).length (idc (queryB a n bs))) := fun a n W hW => query_any (hS.quiet hW) a n (by omega)
  have hRQ : ∀ a n (W : World), Touch NoB ((w.alloc (.cells #[.int .i64 i, .int .i64 x] 30)).alloc (.cells #[a0, a1, a2, a3, a4, a5, a6, a7, .int .u16 all, .int .u16 nn] 36)) W → Calls Try.prog 52 #[.pointer (some ⟨r, 0, none⟩), .int .u16 a, .int .u16 n] W (NewRow W 30 2 (queryB a n bs).length (idc (queryB a n bs))) := fun a n W hW => rquery_any (hR.quiet hW) hsm.1 hsm.2 a n
  have HE := Lib.hid hE
  have HRQ := Lib.hid hRQ
  have HL := Lib.hid hq
  clear hE hRQ
  have HBI := Lib.hid hn0.1
  have HBK := Lib.hid hn0.2
  have HB0 := Lib.hid QB
  clear h hr hS hR P1 P2 hs hq hsm hn0 QB
  go_enter Try.func18, Try.ntmps18
  go_wp2_with fail
  refine (HP1.out _ (Touch.refl _ _)).mono ?_
  rintro e w1 ⟨rfl, hT1⟩
  have i0 : w1.cell? ⟨w.heap.size, 0, none⟩ = some (.int .i64 i) := cell_blk ((Touch.block hT1 w.heap.size (by simp; omega) (fun e => e)).trans HBI.out) 0
  have i1 : w1.cell? ⟨w.heap.size, 1, none⟩ = some (.int .i64 x) := cell_blk ((Touch.block hT1 w.heap.size (by simp; omega) (fun e => e)).trans HBI.out) 1
  have hl1 : w.heap.size < w1.heap.size := Nat.lt_of_lt_of_le (by simp; omega) hT1.size
  have HT1 := Lib.hid hT1
  clear hT1
  go_wp2_with fail
  refine (HP.out _ _ _ (HR.out.quiet HT1.out)).mono ?_
  rintro e w2 ⟨rfl, hT5⟩
  have ht := HT1.out.same hT5
  clear i0 i1
  have hk8 : w2.cell? ⟨w.heap.size + 1, 8, none⟩ = some (.int .u16 all) := cell_blk ((Touch.block ht (w.heap.size + 1) (by simp) (fun e => e)).trans HBK.out) 8; have hk9 : w2.cell? ⟨w.heap.size + 1, 9, none⟩ = some (.int .u16 nn) := cell_blk ((Touch.block ht (w.heap.size + 1) (by simp) (fun e => e)).trans HBK.out) 9; have hlk : w.heap.size + 1 < w2.heap.size := Nat.lt_of_lt_of_le (by simp) (Touch.size ht); (try clear HQ); have HQ := Lib.hid ht; clear ht hT5
  have dm : (m != m) = false := by simp
  have dz : (z != z) = false := by simp
  go_wp2_with fail
  go_region_held3 (fun w' => w'.cell? ⟨w.heap.size + 1, 8, none⟩ = some (.int .u16 all) ∧ w'.cell? ⟨w.heap.size + 1, 9, none⟩ = some (.int .u16 nn)) (first | exact ⟨hk8, hk9⟩ | go_keep)
    (first | (go_at_call 9; refine (num_any _ _).mono ?_; rintro e w' ⟨rfl, rfl⟩)
           | (go_at_call 19; refine (HE.out _ _ _ (HQ.out.same (by repeat (first | with_reducible exact Touch.refl _ _ | with_reducible refine Touch.alloc ?_ _ | with_reducible refine Touch.drewN ?_ _ | with_reducible refine Touch.drew ?_)))).mono ?_; rintro e w4 ⟨v1, rfl, hrow, hT5⟩; obtain ⟨A1, cp1, rfl, _, _⟩ := row_any hrow; (try (have hx := row_touch HA2.out (Touch.same (by repeat (first | with_reducible exact Touch.refl _ _ | with_reducible refine Touch.alloc ?_ _ | with_reducible refine Touch.drewN ?_ _ | with_reducible refine Touch.drew ?_)) hT5) (fun _ _ x => x); clear HA2; have HA2 := Lib.hid hx; clear hx)); (try clear HA1); have HA1 := Lib.hid hrow; clear hrow; have ht := HQ.out.same (Touch.same (by repeat (first | with_reducible exact Touch.refl _ _ | with_reducible refine Touch.alloc ?_ _ | with_reducible refine Touch.drewN ?_ _ | with_reducible refine Touch.drew ?_)) hT5); have hk8 : w4.cell? ⟨w.heap.size + 1, 8, none⟩ = some (.int .u16 all) := cell_blk ((Touch.block ht (w.heap.size + 1) (by simp) (fun e => e)).trans HBK.out) 8; have hk9 : w4.cell? ⟨w.heap.size + 1, 9, none⟩ = some (.int .u16 nn) := cell_blk ((Touch.block ht (w.heap.size + 1) (by simp) (fun e => e)).trans HBK.out) 9; have hlk : w.heap.size + 1 < w4.heap.size := Nat.lt_of_lt_of_le (by simp) (Touch.size ht); (try clear HQ); have HQ := Lib.hid ht; clear ht hT5)
           | (go_at_call 52; refine (HRQ.out _ _ _ (HQ.out.same (by repeat (first | with_reducible exact Touch.refl _ _ | with_reducible refine Touch.alloc ?_ _ | with_reducible refine Touch.drewN ?_ _ | with_reducible refine Touch.drew ?_)))).mono ?_; rintro e w5 ⟨v2, rfl, hrow, hT5⟩; obtain ⟨A2, cp2, rfl, _, _⟩ := row_any hrow; (try (have hx := row_touch HA1.out (Touch.same (by repeat (first | with_reducible exact Touch.refl _ _ | with_reducible refine Touch.alloc ?_ _ | with_reducible refine Touch.drewN ?_ _ | with_reducible refine Touch.drew ?_)) hT5) (fun _ _ x => x); clear HA1; have HA1 := Lib.hid hx; clear hx)); (try clear HA2); have HA2 := Lib.hid hrow; clear hrow; have ht := HQ.out.same (Touch.same (by repeat (first | with_reducible exact Touch.refl _ _ | with_reducible refine Touch.alloc ?_ _ | with_reducible refine Touch.drewN ?_ _ | with_reducible refine Touch.drew ?_)) hT5); have hk8 : w5.cell? ⟨w.heap.size + 1, 8, none⟩ = some (.int .u16 all) := cell_blk ((Touch.block ht (w.heap.size + 1) (by simp) (fun e => e)).trans HBK.out) 8; have hk9 : w5.cell? ⟨w.heap.size + 1, 9, none⟩ = some (.int .u16 nn) := cell_blk ((Touch.block ht (w.heap.size + 1) (by simp) (fun e => e)).trans HBK.out) 9; have hlk : w.heap.size + 1 < w5.heap.size := Nat.lt_of_lt_of_le (by simp) (Touch.size ht); (try clear HQ); have HQ := Lib.hid ht; clear ht hT5)
           | (go_at_call 51; refine (same_ids _ _ _ _ _ _ _ _ (row_touch HA1.out (by repeat (first | with_reducible exact Touch.refl _ _ | with_reducible refine Touch.alloc ?_ _ | with_reducible refine Touch.drewN ?_ _ | with_reducible refine Touch.drew ?_)) (fun _ _ x => x)) (row_touch HA2.out (by repeat (first | with_reducible exact Touch.refl _ _ | with_reducible refine Touch.alloc ?_ _ | with_reducible refine Touch.drewN ?_ _ | with_reducible refine Touch.drew ?_)) (fun _ _ x => x)) (HL.out _ _)).mono ?_; rintro e w6 ⟨rfl, hT5⟩; clear HA1 HA2; have ht := HQ.out.same (Touch.same (by repeat (first | with_reducible exact Touch.refl _ _ | with_reducible refine Touch.alloc ?_ _ | with_reducible refine Touch.drewN ?_ _ | with_reducible refine Touch.drew ?_)) hT5); have hk8 : w6.cell? ⟨w.heap.size + 1, 8, none⟩ = some (.int .u16 all) := cell_blk ((Touch.block ht (w.heap.size + 1) (by simp) (fun e => e)).trans HBK.out) 8; have hk9 : w6.cell? ⟨w.heap.size + 1, 9, none⟩ = some (.int .u16 nn) := cell_blk ((Touch.block ht (w.heap.size + 1) (by simp) (fun e => e)).trans HBK.out) 9; have hlk : w.heap.size + 1 < w6.heap.size := Nat.lt_of_lt_of_le (by simp) (Touch.size ht); (try clear HQ); have HQ := Lib.hid ht; clear ht hT5))
  all_goals
    go_wp2_with fail
    refine (masks_any (HS.out.quiet (HQ.out.same (by repeat (first | with_reducible exact Touch.refl _ _ | with_reducible refine Touch.alloc ?_ _ | with_reducible refine Touch.drewN ?_ _ | with_reducible refine Touch.drew ?_)))) (by omega)).mono ?_
    rintro e wa ⟨v13, rfl, hx1, hT5⟩
    obtain ⟨A3, cp3, rfl, _, hcp3⟩ := row_any hx1
    have HQ2 := Lib.hid (HQ.out.same (Touch.same (by repeat (first | with_reducible exact Touch.refl _ _ | with_reducible refine Touch.alloc ?_ _ | with_reducible refine Touch.drewN ?_ _ | with_reducible refine Touch.drew ?_)) hT5))
    clear hT5
    go_wp2_with fail
    refine (rmasks_any (HR.out.quiet (HQ2.out.same (by repeat (first | with_reducible exact Touch.refl _ _ | with_reducible refine Touch.alloc ?_ _ | with_reducible refine Touch.drewN ?_ _ | with_reducible refine Touch.drew ?_)))) HSM.out.1).mono ?_
    rintro e wb ⟨v14, rfl, hx2, hT5⟩
    obtain ⟨A4, cp4, rfl, _, hcp4⟩ := row_any hx2
    have hx1' := row_touch hx1 hT5 (fun _ _ x => x)
    have HQ3 := Lib.hid (HQ2.out.same hT5)
    clear hT5 hx1
    unfold maxLen at hcp3 hcp4
    generalize masksB bs = L at hx1' hx2 hml ⊢
    obtain ⟨n, hn⟩ : ∃ n, L.length = n := ⟨_, rfl⟩
    rw [hn] at hx1' hx2 hml ⊢
    have HN := Lib.hid hn
    have HX1 := Lib.hid hx1'
    have HX2 := Lib.hid hx2
    have dn : ((n : Int) != (n : Int)) = false := by simp
    clear hn hx1' hx2
    go_wp2
    go_loopw [15] (fun v15 wr => SameRel wb n v15 wr) (fun v15 _ => n - (intOf v15).toNat)
    case atStart => exact ⟨0, Nat.zero_le _, rfl, Touch.refl _ _⟩
    case round =>
      obtain ⟨k, hk, rfl, hT⟩ := hrel
      have HT := Lib.hid hT
      by_cases hlt : k < n
      · obtain ⟨m', hm'⟩ : ∃ m', L[k]? = some m' := ⟨_, List.getElem?_eq_getElem (by rw [HN.out]; exact hlt)⟩
        have hy1 := row_touch HX1.out hT (fun _ _ x => x)
        have hy2 := row_touch HX2.out hT (fun _ _ x => x)
        obtain ⟨g1, cq1, hv1, _, _, ho1⟩ := row_form hy1 (by omega)
        obtain ⟨g2, cq2, hv2, _, _, ho2⟩ := row_form hy2 (by omega)
        have l1 := row_lt hy1 ho1
        have l2 := row_lt hy2 ho2
        injection hv1 with hv1 _ hc1
        injection hv2 with hv2 _ hc2
        subst hv1 hv2 hc1 hc2
        have y1 : wr.cell? ⟨g1, k, none⟩ = some (.int .u16 m') := by rw [hy1.cellAt k (by omega), mc_at, hm']; rfl
        have y2 : wr.cell? ⟨g2, k, none⟩ = some (.int .u16 m') := by rw [hy2.cellAt k (by omega), mc_at, hm']; rfl
        have dm' : (m' != m') = false := by simp
        clear hy1 hy2 ho1 ho2 hT hm'
        go_wp2
        go_region
        all_goals
          go_wp2
          go_roundw
          case rel => exact ⟨k + 1, by omega, by go_num, HT.out.same (by repeat (first | with_reducible exact Touch.refl _ _ | with_reducible refine Touch.alloc ?_ _ | with_reducible refine Touch.drewN ?_ _ | with_reducible refine Touch.drew ?_))⟩
          case measure => simp [intOf]; omega
      · obtain rfl : k = n := by omega
        clear hT
        go_wp2
        go_ret
        exact ⟨rfl, (HB0.out.same (HQ3.out.same HT.out)).same (by repeat (first | with_reducible exact Touch.refl _ _ | with_reducible refine Touch.alloc ?_ _ | with_reducible refine Touch.drewN ?_ _ | with_reducible refine Touch.drew ?_))⟩
end
end Go.Proofs.Yticekldgjlihmaa
