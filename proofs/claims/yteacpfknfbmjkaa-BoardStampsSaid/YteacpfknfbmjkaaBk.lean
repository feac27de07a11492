/-
  The walk of BoardStamps.
-/
import Derived.Test.YteacpfknfbmjkaaBj
import Derived.Laws.BitsAllLaws
import Derived.Laws.BitsLemmas
import Derived.Deep.Slices
namespace Go.Proofs.Yteacpfknfbmjkaa
open Go.ChangeShapes Go.WideShapes Go.ChangeAt Go.RowKit Go.Maps
set_option maxRecDepth 100000
set_option maxHeartbeats 8000000

attribute [local go_sem] run_equalIn_complex run_store_complex

theorem and_one (x : Int) : bits .and .i64 x 1 = 0 ∨ bits .and .i64 x 1 = 1 := by
  have h : (BitVec.ofInt 64 x).toNat &&& (BitVec.ofInt 64 1).toNat ≤ 1 := Nat.and_le_right
  have e : bits .and .i64 x 1 = IntKind.i64.wrap (((BitVec.ofInt 64 x).toNat &&& (BitVec.ofInt 64 1).toNat : Nat) : Int) := by
    simp only [bits, BitVec.toNat_and]
    rfl
  rw [e]
  generalize (BitVec.ofInt 64 x).toNat &&& (BitVec.ofInt 64 1).toNat = z at h
  rcases z with _ | _ | z
  · left; rfl
  · right; rfl
  · omega

/-- Ints that came in. -/
def IntsIn (w : World) (A : Option Addr) (vs : List Int) : Prop :=
  ∀ (j : Nat) (x : Int), vs[j]? = some x → ∃ b off, A = some ⟨b, off, none⟩ ∧ b < w.heap.size ∧ w.cell? ⟨b, off + j, none⟩ = some (.int .i64 x)

def oK : Ow := ⟨0, 1, false⟩
def oS : Ow := ⟨0, 0, true⟩
/-- Behind i rounds: the two values, the count of changes. -/
def StRel (w : World) (vs : List Int) (g ab nb : Nat) (v7 v9 : Value) (wr : World) : Prop :=
  ∃ (i : Nat) (C : Ow → Nat → Int × Int) (now : Int), i ≤ vs.length ∧ v9 = .int .i64 i ∧ v7 = .int .i64 now ∧ 0 ≤ now ∧ now ≤ i ∧ SB w wr (fun b => b = ab ∨ b = nb) g K2 C now (2 * i) ∧
    wr.heap[ab]? = some (.cells #[.int .i64 (C oK 0).1, .int .i64 (C oS 1).1] 41 (0, 0)) ∧ wr.heap[nb]? = some (.cells #[.string ⟨#[107]⟩, .string ⟨#[115]⟩] 9 (0, 0))

/-- A cell of the statement's own is set. -/
theorem SB.setOwn {w w1 : World} {L : Nat → Prop} {g : Nat} {l : List Ky} {C : Ow → Nat → Int × Int} {now : Int} {cnt : Nat} (h : SB w w1 L g l C now cnt) {b j : Nat} (hb : L b) (hw : w.heap.size ≤ b) (u : Value) : SB w (w1.setCell ⟨b, j, none⟩ u) L g l C now cnt := by
  obtain ⟨F, a1, a2, a3, a4⟩ := h
  have T : Touch (fun k => k = b) w1 (w1.setCell ⟨b, j, none⟩ u) := (Touch.refl (fun k => k = b) w1).setCell (p := ⟨b, j, none⟩) (.inl rfl) u
  refine ⟨F, a1.keep T (fun k hk e => (a3 b hb).1 (e ▸ hk)), a2.more T.size, fun k hk => ⟨(a3 k hk).1, Nat.lt_of_lt_of_le (a3 k hk).2 T.size⟩, a4.trans T (fun k e => .inr (by rw [e]; exact hw))⟩

theorem stamps_walk (A : Option Addr) (N cap : Nat) (vs : List Int) (w : World) (hN : vs.length = N) (hc : N ≤ 60) (hV : IntsIn w A vs) :
    Calls Try.prog 4 #[.slice A N cap] w fun e w' => e = .returned (.bool true) ∧ Touch NoB w w' := by
  have HN := Lib.hid (fun g w' (h : KAt w' NoB (some ⟨g, 0, none⟩) K2) => bnew_yes (some ⟨g, 0, none⟩) 2 2 K2 w' rfl (by simp) h errK_2 bkeys_2)
  have HV := Lib.hid hV
  have HL := Lib.hid hN
  have d60 : decide (60 < (N : Int)) = false := by simp; omega
  clear hV hN
  go_enter Try.func4, Try.ntmps4
  go_wp2_with fail
  refine (alive_any _).mono ?_
  rintro e w1 ⟨rfl, hT1⟩
  have HT1 := Lib.hid hT1
  clear hT1
  go_wp2_with fail
  refine (HN.out _ _ (kat_2 w1)).mono ?_
  intro e w2 hP
  obtain ⟨g, rfl, hS, -⟩ := hP.sb (w := w) (L := NoB) (HT1.out.alloc _) (fun b hb => hb.elim)
  have HS := Lib.hid hS
  clear hP hS
  go_wp2_with fail
  refine (num_any _ _).mono ?_
  rintro e w' ⟨rfl, rfl⟩
  go_upto_region 8 with fail
  obtain ⟨w3, hw3⟩ : ∃ w3, (w2.alloc (.cells #[.int .i64 0, .int .i64 0] 41)).alloc (.cells #[.string ⟨#[107]⟩, .string ⟨#[115]⟩] 9) = w3 := ⟨_, rfl⟩
  have T3 : Touch NoB w2 w3 := by rw [← hw3]; exact ((Touch.refl NoB w2).alloc _).alloc _
  obtain ⟨ab, hab⟩ : ∃ ab, w2.heap.size = ab := ⟨_, rfl⟩
  have hA : w3.heap[ab]? = some (.cells #[.int .i64 0, .int .i64 0] 41 (0, 0)) := by
    rw [← hw3, ← hab, heap_alloc_old _ _ (by simp only [World.size_alloc]; omega)]; exact alloc_blk _ _ _ rfl
  have hB : w3.heap[ab + 1]? = some (.cells #[.string ⟨#[107]⟩, .string ⟨#[115]⟩] 9 (0, 0)) := by
    rw [← hw3, ← hab]; exact alloc_blk _ _ _ (by simp only [World.size_alloc])
  have hS3 : SB w w3 (fun b => b = ab ∨ b = ab + 1) g K2 C0 0 0 := by
    obtain ⟨F, a1, a2, a3, a4⟩ := HS.out
    refine ⟨F, a1.quiet T3, a2.more T3.size, fun b hb => ⟨fun e => ?_, ?_⟩, a4.same T3⟩
    · have := (a2 b e).2; omega
    · have := blk_lt hA; have := blk_lt hB; omega
  simp only [hw3, hab]
  have hwab : w.heap.size ≤ ab := by rw [← hab]; exact HS.out.touch.size
  have H3 := Lib.hid (And.intro hS3 (And.intro hA hB))
  clear hw3 hab T3 hA hB hS3 HS HT1 HN
  go_wp2
  go_loopw [7, 9] (fun v7 v9 wr => StRel w vs g ab (ab + 1) v7 v9 wr) (fun _ v9 _ => N - (intOf v9).toNat)
  case atStart => exact ⟨0, C0, 0, Nat.zero_le _, rfl, rfl, by decide, by decide, H3.out.1, H3.out.2.1, H3.out.2.2⟩
  case round =>
    clear H3
    obtain ⟨i, C, now, hi, rfl, rfl, hn0, hn1, hS, hA, hB⟩ := hrel
    have hab := blk_lt hA
    have hnb := blk_lt hB
    by_cases hlt : i < N
    · obtain ⟨x, hx⟩ : ∃ x, vs[i]? = some x := ⟨vs[i]'(by have := HL.out; omega), List.getElem?_eq_getElem _⟩
      obtain ⟨b, off, rfl, hb, hcell⟩ := HV.out i x hx
      have c0 : wr.cell? ⟨b, off + i, none⟩ = some (.int .i64 x) := (hS.touch.cell (p := ⟨b, off + i, none⟩) hb (fun e => e)).trans hcell
      have hbl := Nat.lt_of_lt_of_le hb hS.touch.size
      have n0 : wr.cell? ⟨ab + 1, 0, none⟩ = some (.string ⟨#[107]⟩) := cell_blk hB 0
      have n1 : wr.cell? ⟨ab + 1, 1, none⟩ = some (.string ⟨#[115]⟩) := cell_blk hB 1
      have HS := Lib.hid hS
      have HAB := Lib.hid (And.intro hA hB)
      clear hS hA hB hcell
      obtain ⟨k, hk⟩ : ∃ k, bits .and .i64 x 1 = k := ⟨_, rfl⟩
      have hk01 := hk ▸ and_one x
      rcases hk01 with rfl | rfl
      · go_upto_region 13 with fail
        obtain ⟨m, hm⟩ : ∃ m, bits .and .i64 (x / 2) 3 = m := ⟨_, rfl⟩
        simp only [hm]
        clear hm hk
        go_wp2_with fail
        refine (sb_write HS.out (by omega) (by decide) find_k (k := kyK) rfl i64_zero i64_one m hn0 (by omega)).mono ?_
        rintro e w4 ⟨rfl, hS4, hK4⟩
        rw [show ownO kyK 0 1 = oK from rfl] at hS4
        have hA4 := (hK4.1 _ (.inl rfl)).trans HAB.out.1
        have hB4 := (hK4.1 _ (.inr rfl)).trans HAB.out.2
        clear HS HAB n0 n1 c0 hbl hab hnb
        have n0 : w4.cell? ⟨ab + 1, 0, none⟩ = some (.string ⟨#[107]⟩) := cell_blk hB4 0
        have n1 : w4.cell? ⟨ab + 1, 1, none⟩ = some (.string ⟨#[115]⟩) := cell_blk hB4 1
        have hnb := blk_lt hB4
        have HS4 := Lib.hid hS4
        have HAB := Lib.hid (And.intro hA4 hB4)
        clear hS4 hK4 hA4 hB4
        go_wp2_with fail
        refine (sb_stamp HS4.out (by decide) find_k (k := kyK) rfl i64_zero i64_one).mono ?_
        rintro e w5 ⟨rfl, hT5⟩
        rw [show ownO kyK 0 1 = oK from rfl]
        have hA5 := (hT5.block _ (blk_lt HAB.out.1) (fun e => e)).trans HAB.out.1
        have hB5 := (hT5.block _ (blk_lt HAB.out.2) (fun e => e)).trans HAB.out.2
        have hS5 := HS4.out.quiet hT5
        clear HS4 HAB n0 n1 hnb hT5
        have a0 : w5.cell? ⟨ab, 0, none⟩ = some (.int .i64 (C oK 0).1) := cell_blk hA5 0
        have a1 : w5.cell? ⟨ab, 1, none⟩ = some (.int .i64 (C oS 1).1) := cell_blk hA5 1
        have f0 : w5.frozen? ⟨ab, 0, none⟩ = false := free_blk hA5 0
        have hab := blk_lt hA5
        have hC1 := wrC_same C oK 0 m now
        have hC2 : (wrC C oK 0 m now oS 1).1 = (C oS 1).1 := by rw [wrC_other C 0 m now (fun e => Bool.noConfusion (congrArg Ow.e e))]
        have hA6 := set_blk hA5 0 (.int .i64 m)
        have hB6 : (w5.setCell ⟨ab, 0, none⟩ (.int .i64 m)).heap[ab + 1]? = some (.cells #[.string ⟨#[107]⟩, .string ⟨#[115]⟩] 9 (0, 0)) := (Below.heap_setCell _ _ _ _ (by simp)).trans hB5
        have hS6 := hS5.setOwn (b := ab) (j := 0) (.inl rfl) hwab (.int .i64 m)
        rw [show (#[Value.int .i64 (C oK 0).1, .int .i64 (C oS 1).1] : Array Value).setIfInBounds 0 (.int .i64 m) = #[.int .i64 m, .int .i64 (C oS 1).1] from rfl] at hA6
        by_cases hmc : m = (C oK 0).1
        · have hw : wrC C oK 0 m now = C ∧ wrN C oK 0 m now = now := ⟨by unfold wrC; exact if_pos hmc, by unfold wrN; exact if_pos hmc⟩
          rw [hw.1, hw.2] at hS6
          rw [hw.1] at hC1
          have HEnd := Lib.hid (show StRel w vs g ab (ab + 1) (.int .i64 now) (.int .i64 ((i + 1 : Nat) : Int)) (w5.setCell ⟨ab, 0, none⟩ (.int .i64 m)) from ⟨i + 1, C, now, by have := HL.out; omega, rfl, rfl, hn0, by omega, hS6, by rw [hA6, hC1], hB6⟩)
          have HNow := Lib.hid hS6
          have hbeq : (m != (C oK 0).1) = false := by simp [hmc]
          clear hw hA5 hB5 hS5 hA6 hB6 hS6 hC1 hC2 hmc
          go_wp2_with fail
          refine (sb_now HNow.out).mono ?_
          rintro e w' ⟨rfl, rfl⟩
          go_wp2
          go_roundw
          case rel => exact HEnd.out
          case measure => simp [intOf]; omega
        · have hw : wrC C oK 0 m now = setC C oK 0 (m, now + 1) ∧ wrN C oK 0 m now = now + 1 := ⟨by unfold wrC; exact if_neg hmc, by unfold wrN; exact if_neg hmc⟩
          have hst : (wrC C oK 0 m now oK 0).2 = now + 1 := by rw [hw.1, setC_same]
          rw [hst]
          obtain ⟨C', hCe⟩ : ∃ C', wrC C oK 0 m now = C' := ⟨_, rfl⟩
          rw [hCe] at hC1 hC2 hS6
          rw [hw.2] at hS6
          have HEnd := Lib.hid (show StRel w vs g ab (ab + 1) (.int .i64 (now + 1)) (.int .i64 ((i + 1 : Nat) : Int)) (w5.setCell ⟨ab, 0, none⟩ (.int .i64 m)) from ⟨i + 1, C', now + 1, by have := HL.out; omega, rfl, rfl, by omega, by omega, hS6, by rw [hA6, hC1, hC2], hB6⟩)
          have HNow := Lib.hid hS6
          have hbeq : (m != (C oK 0).1) = true := by simp [hmc]
          clear hw hst hA5 hB5 hS5 hA6 hB6 hS6 hC1 hC2 hCe hmc
          go_wp2_with fail
          refine (sb_now HNow.out).mono ?_
          rintro e w' ⟨rfl, rfl⟩
          go_wp2
          go_roundw
          case rel => exact HEnd.out
          case measure => simp [intOf]; omega
      · go_upto_region 13 with fail
        obtain ⟨m, hm⟩ : ∃ m, bits .and .i64 (x / 2) 3 = m := ⟨_, rfl⟩
        simp only [hm]
        clear hm hk
        go_wp2_with fail
        refine (sb_write HS.out (by omega) (by decide) find_s (k := kyS) rfl i64_zero i64_one m hn0 (by omega)).mono ?_
        rintro e w4 ⟨rfl, hS4, hK4⟩
        rw [show ownO kyS 0 1 = oS from rfl] at hS4
        have hA4 := (hK4.1 _ (.inl rfl)).trans HAB.out.1
        have hB4 := (hK4.1 _ (.inr rfl)).trans HAB.out.2
        clear HS HAB n0 n1 c0 hbl hab hnb
        have n0 : w4.cell? ⟨ab + 1, 0, none⟩ = some (.string ⟨#[107]⟩) := cell_blk hB4 0
        have n1 : w4.cell? ⟨ab + 1, 1, none⟩ = some (.string ⟨#[115]⟩) := cell_blk hB4 1
        have hnb := blk_lt hB4
        have HS4 := Lib.hid hS4
        have HAB := Lib.hid (And.intro hA4 hB4)
        clear hS4 hK4 hA4 hB4
        go_wp2_with fail
        refine (sb_stamp HS4.out (by decide) find_s (k := kyS) rfl i64_zero i64_one).mono ?_
        rintro e w5 ⟨rfl, hT5⟩
        rw [show ownO kyS 0 1 = oS from rfl]
        have hA5 := (hT5.block _ (blk_lt HAB.out.1) (fun e => e)).trans HAB.out.1
        have hB5 := (hT5.block _ (blk_lt HAB.out.2) (fun e => e)).trans HAB.out.2
        have hS5 := HS4.out.quiet hT5
        clear HS4 HAB n0 n1 hnb hT5
        have a0 : w5.cell? ⟨ab, 0, none⟩ = some (.int .i64 (C oK 0).1) := cell_blk hA5 0
        have a1 : w5.cell? ⟨ab, 1, none⟩ = some (.int .i64 (C oS 1).1) := cell_blk hA5 1
        have f0 : w5.frozen? ⟨ab, 1, none⟩ = false := free_blk hA5 1
        have hab := blk_lt hA5
        have hC1 := wrC_same C oS 1 m now
        have hC2 : (wrC C oS 1 m now oK 0).1 = (C oK 0).1 := by rw [wrC_other C 1 m now (fun e => Bool.noConfusion (congrArg Ow.e e))]
        have hA6 := set_blk hA5 1 (.int .i64 m)
        have hB6 : (w5.setCell ⟨ab, 1, none⟩ (.int .i64 m)).heap[ab + 1]? = some (.cells #[.string ⟨#[107]⟩, .string ⟨#[115]⟩] 9 (0, 0)) := (Below.heap_setCell _ _ _ _ (by simp)).trans hB5
        have hS6 := hS5.setOwn (b := ab) (j := 1) (.inl rfl) hwab (.int .i64 m)
        rw [show (#[Value.int .i64 (C oK 0).1, .int .i64 (C oS 1).1] : Array Value).setIfInBounds 1 (.int .i64 m) = #[.int .i64 (C oK 0).1, .int .i64 m] from rfl] at hA6
        by_cases hmc : m = (C oS 1).1
        · have hw : wrC C oS 1 m now = C ∧ wrN C oS 1 m now = now := ⟨by unfold wrC; exact if_pos hmc, by unfold wrN; exact if_pos hmc⟩
          rw [hw.1, hw.2] at hS6
          rw [hw.1] at hC1
          have HEnd := Lib.hid (show StRel w vs g ab (ab + 1) (.int .i64 now) (.int .i64 ((i + 1 : Nat) : Int)) (w5.setCell ⟨ab, 1, none⟩ (.int .i64 m)) from ⟨i + 1, C, now, by have := HL.out; omega, rfl, rfl, hn0, by omega, hS6, by rw [hA6, hC1], hB6⟩)
          have HNow := Lib.hid hS6
          have hbeq : (m != (C oS 1).1) = false := by simp [hmc]
          clear hw hA5 hB5 hS5 hA6 hB6 hS6 hC1 hC2 hmc
          go_wp2_with fail
          refine (sb_now HNow.out).mono ?_
          rintro e w' ⟨rfl, rfl⟩
          go_wp2
          go_roundw
          case rel => exact HEnd.out
          case measure => simp [intOf]; omega
        · have hw : wrC C oS 1 m now = setC C oS 1 (m, now + 1) ∧ wrN C oS 1 m now = now + 1 := ⟨by unfold wrC; exact if_neg hmc, by unfold wrN; exact if_neg hmc⟩
          have hst : (wrC C oS 1 m now oS 1).2 = now + 1 := by rw [hw.1, setC_same]
          rw [hst]
          obtain ⟨C', hCe⟩ : ∃ C', wrC C oS 1 m now = C' := ⟨_, rfl⟩
          rw [hCe] at hC1 hC2 hS6
          rw [hw.2] at hS6
          have HEnd := Lib.hid (show StRel w vs g ab (ab + 1) (.int .i64 (now + 1)) (.int .i64 ((i + 1 : Nat) : Int)) (w5.setCell ⟨ab, 1, none⟩ (.int .i64 m)) from ⟨i + 1, C', now + 1, by have := HL.out; omega, rfl, rfl, by omega, by omega, hS6, by rw [hA6, hC1, hC2], hB6⟩)
          have HNow := Lib.hid hS6
          have hbeq : (m != (C oS 1).1) = true := by simp [hmc]
          clear hw hst hA5 hB5 hS5 hA6 hB6 hS6 hC1 hC2 hCe hmc
          go_wp2_with fail
          refine (sb_now HNow.out).mono ?_
          rintro e w' ⟨rfl, rfl⟩
          go_wp2
          go_roundw
          case rel => exact HEnd.out
          case measure => simp [intOf]; omega
    · have hin : i = N := by have := HL.out; omega
      subst hin
      have HS := Lib.hid hS
      clear hS hA hB
      go_wp2
      go_ret
      exact ⟨rfl, HS.out.touch⟩
end Go.Proofs.Yteacpfknfbmjkaa
