/-
  The walk of EcsLimits.
-/
import Derived.Test.YtbefpbcfgjlcgaaEo
import Derived.Test.YtbefpbcfgjlcgaaEq
namespace Go.Proofs.Ytbefpbcfgjlcgaa
open Go.ChangeShapes Go.WideShapes Go.ChangeAt Go.RowKit Go.Maps
set_option maxRecDepth 100000
set_option maxHeartbeats 2000000

theorem want_zero {m : Int} (h0 : 0 ≤ m) (h1 : m < 65536) : wantM 0 0 m = true := by
  unfold wantM
  rw [u16_and _ _ h0 h1 (by decide) (by decide)]
  simp
/-- Masks that came in. -/
def MasksAt (w : World) (A : Option Addr) (ms : List Int) : Prop :=
  ∀ (j : Nat) (m : Int), ms[j]? = some m → 0 ≤ m ∧ m < 65536 ∧ ∃ b off, A = some ⟨b, off, none⟩ ∧ b < w.heap.size ∧ w.cell? ⟨b, off + j, none⟩ = some (.int .u16 m)
theorem MasksAt.touch {w w' : World} {A : Option Addr} {ms : List Int} (h : MasksAt w A ms) (t : Touch NoB w w') : MasksAt w' A ms := by
  intro j m hj
  obtain ⟨h0, h1, b, off, e, hb, hc⟩ := h j m hj
  exact ⟨h0, h1, b, off, e, Nat.lt_of_lt_of_le hb t.size, (t.cell (p := ⟨b, off + j, none⟩) hb (fun x => x)).trans hc⟩
theorem cells_row {w : World} {F : Nat → Prop} {B : Nat} {A : Option Addr} {n cap : Nat} {cl : List (Int × Int)} (h : w.ownsRow B 32 2 (.slice A n cap) n (idc cl)) (hF : ∀ b, (Value.slice A n cap).ownBlock = some b → ¬ F b) : CellsAt w F A cl := by
  intro j c v hj
  have hl := h.1
  rw [idc_length] at hl
  have hjl := (List.getElem?_eq_some_iff.1 hj).1
  obtain ⟨g, cp, hv, _, _, hob⟩ := row_form h (by omega)
  injection hv with h1 h2 h3
  subst h1 h3
  refine ⟨g, 0, rfl, row_lt h hob, hF g hob, ?_, ?_⟩
  · rw [Nat.zero_add, h.cellAt (j * 2) (by omega), idc_at0, hj]; rfl
  · rw [Nat.zero_add, h.cellAt (j * 2 + 1) (by omega), idc_at1, hj]; rfl

structure LInv (ps : List (Int × Bool)) (bs : List Tb) (kn : List Int) (n : Nat) : Prop where
  n1 : ps.length = n
  n2 : (queryB 0 0 bs).length = n
  k1 : kn.length = bs.length
  k2 : ∀ m, m ∈ kn ↔ m ∈ masksB bs
theorem LInv.known {ps : List (Int × Bool)} {bs : List Tb} {kn : List Int} {n : Nat} (h : LInv ps bs kn n) {m : Int} (h0 : 0 ≤ m) (h1 : m < 65536) (hh : hasB bs m = true) (hs : SortB bs) (p : Int × Int) (cl : List (Int × Int)) (x : Int × Bool) : LInv (ps ++ [x]) (enterB bs m p cl) kn (n + 1) := by
  refine ⟨by simp [h.n1], ?_, by rw [enter_length, if_pos hh]; exact h.k1, fun y => ?_⟩
  · rw [(enter_query 0 0 bs m p cl).length_eq, if_pos (want_zero h0 h1)]; simp [h.n2]
  · rw [enter_masks, h.k2]
    constructor
    · exact .inl
    · rintro (a | rfl)
      · exact a
      · exact (hasB_iff hs _).1 hh
theorem LInv.fresh {ps : List (Int × Bool)} {bs : List Tb} {kn : List Int} {n : Nat} (h : LInv ps bs kn n) {m : Int} (h0 : 0 ≤ m) (h1 : m < 65536) (hh : hasB bs m = false) (p : Int × Int) (cl : List (Int × Int)) (x : Int × Bool) : LInv (ps ++ [x]) (enterB bs m p cl) (kn ++ [m]) (n + 1) := by
  refine ⟨by simp [h.n1], ?_, by rw [enter_length, if_neg (by rw [hh]; decide)]; simp [h.k1], fun y => ?_⟩
  · rw [(enter_query 0 0 bs m p cl).length_eq, if_pos (want_zero h0 h1)]; simp [h.n2]
  · rw [enter_masks, List.mem_append, List.mem_singleton, h.k2]

def LimRel (w : World) (ms : List Int) (room tables : Int) (g : Nat) (v9 v10 v11 : Value) (wr : World) : Prop :=
  ∃ (k n : Nat) (F : Nat → Prop) (ps : List (Int × Bool)) (bs : List Tb) (kn : List Int), k ≤ ms.length ∧ v11 = .int .i64 k ∧ v10 = .int .i64 n ∧ St wr F k g room tables ps [] bs ∧ InW wr w.heap.size F ∧ wr.ownsRow w.heap.size 34 1 v9 kn.length (mc kn) ∧ (∀ b, v9.ownBlock = some b → ¬ F b) ∧ LInv ps bs kn n ∧ Touch NoB w wr
def CellRel (w : World) (m v : Int) (v12 v14 : Value) (wr : World) : Prop :=
  ∃ c : Nat, c ≤ 16 ∧ v14 = .int .i64 c ∧ wr.ownsRow w.heap.size 32 2 v12 (bitC m v c).length (idc (bitC m v c)) ∧ Touch NoB w wr
def InRel (w : World) (m : Int) (kn : List Int) (v13 v15 : Value) (wr : World) : Prop :=
  ∃ k : Nat, k ≤ kn.length ∧ v15 = .int .i64 k ∧ v13 = .bool (decide (m ∈ kn.take k)) ∧ Touch NoB w wr

theorem limits_in (room tables : Int) (A : Option Addr) (N cap : Nat) (ms : List Int) (w : World) (hr : 1 ≤ room ∧ room ≤ 20) (ht : 1 ≤ tables ∧ tables ≤ 10) (hN : ms.length = N) (hN2 : N ≤ 40) (hM : MasksAt w A ms) :
    Calls Try.prog 7 #[.int .i64 room, .int .i64 tables, .slice A N cap] w fun e w' => e = .returned (.bool true) ∧ Touch NoB w w' := by
  have HM := Lib.hid hM
  have HN := Lib.hid hN
  clear hM hN
  obtain ⟨hr1, hr2⟩ := hr
  obtain ⟨ht1, ht2⟩ := ht
  obtain ⟨i0, hi, hz0, hz1, hz2⟩ := info_parts info_cell
  obtain ⟨j0, hj, hy0, hy1, hy2⟩ := info_parts info_u16
  go_enter Try.func7, Try.ntmps7
  go_wp2_with fail
  refine (ealive_any w).mono ?_
  rintro e w1 ⟨rfl, hT1⟩
  have HT1 := Lib.hid hT1
  clear hT1
  go_wp2_with fail
  refine (new_st room tables w1).mono ?_
  rintro e w2 ⟨g, F, rfl, hS2, hT2, hF2⟩
  rw [show roomI room = room from by unfold roomI withinI; repeat' split <;> omega, show withinI tables 1 1000 = tables from by unfold withinI; repeat' split <;> omega] at hS2
  have hs1 := HT1.out.size
  have hF2' : InW w2 w.heap.size F := fun b hb => by have := hF2 b hb; omega
  have HS2 := Lib.hid hS2
  have HT2 := Lib.hid (HT1.out.same hT2)
  have HF2 := Lib.hid hF2'
  clear hS2 hT2 hF2 hF2' hs1
  go_wp2
  go_loopw [9, 10, 11] (fun v9 v10 v11 wr => LimRel w ms room tables g v9 v10 v11 wr) (fun _ _ v11 _ => N - (intOf v11).toNat)
  case atStart => exact ⟨0, 0, F, [], [], [], Nat.zero_le _, rfl, rfl, HS2.out, HF2.out, World.ownsRow_nil _ _ _ _, fun b hb => by simp [Value.ownBlock] at hb, ⟨rfl, rfl, rfl, fun m => by simp [masksB]⟩, HT2.out⟩
  case round =>
    obtain ⟨wo, rfl⟩ : ∃ x, x = wr := ⟨_, rfl⟩
    obtain ⟨k, n, F1, ps, bs, kn, hk, rfl, rfl, hS, hF, hkn, hkF, hI, hT⟩ := hrel
    clear HS2 HT2 HF2
    rw [HN.out] at hk
    by_cases hlt : k < N
    · obtain ⟨m, hm⟩ : ∃ m, ms[k]? = some m := ⟨_, List.getElem?_eq_getElem (by rw [HN.out]; exact hlt)⟩
      obtain ⟨h0, h1, b, off, rfl, hb0, hc0⟩ := HM.out k m hm
      have hc : wo.cell? ⟨b, off + k, none⟩ = some (.int .u16 m) := (hT.cell (p := ⟨b, off + k, none⟩) hb0 (fun e => e)).trans hc0
      have hb : b < wo.heap.size := Nat.lt_of_lt_of_le hb0 hT.size
      clear hc0
      have HS := Lib.hid hS
      have HF := Lib.hid hF
      obtain ⟨K, hK⟩ : ∃ K, kn.length = K := ⟨_, rfl⟩
      rw [hK] at hkn
      have HK := Lib.hid hK
      have HKN := Lib.hid hkn
      have HKF := Lib.hid hkF
      have HI := Lib.hid hI
      have HT := Lib.hid hT
      obtain ⟨A9, c9, rfl, hq1, hq2⟩ := row_any hkn
      unfold maxLen at hq2
      have HMM := Lib.hid hm
      clear hS hF hkn hkF hI hT hm hK
      go_wp2
      go_loopw [12, 14] (fun v12 v14 wr => CellRel wo m 0 v12 v14 wr) (fun _ v14 _ => 16 - (intOf v14).toNat)
      case atStart => exact ⟨0, Nat.zero_le _, rfl, World.ownsRow_nil _ _ _ _, Touch.refl _ _⟩
      case round =>
        obtain ⟨c, hcc, rfl, hrow, hTc⟩ := hrel
        have hbc := hTc.size
        have kb : wr.cell? ⟨b, off + k, none⟩ = some (.int .u16 m) := (hTc.cell (p := ⟨b, off + k, none⟩) hb (fun e => e)).trans hc
        have hb' : b < wr.heap.size := by omega
        by_cases hc16 : c < 16
        · have hdv := div_range h0 h1 c
          have b1 : (bits .and .u16 (m / 2 ^ c) 1 == 1) = bitB m c := by rw [and_one hdv.1 hdv.2]; rfl
          have hbl := bitC_length m 0 c
          have HR := Lib.hid hrow
          have HTc := Lib.hid hTc
          clear hrow hTc hdv
          cases hbt : bitB m c
          · rw [hbt] at b1
            have hno := bitC_no (v := 0) hbt
            have HNO := Lib.hid hno
            clear hbt hno
            go_wp2
            go_roundw
            case rel => exact ⟨c + 1, by omega, by go_num, by rw [HNO.out]; exact HR.out, HTc.out⟩
            case measure => simp [intOf]; omega
          · rw [hbt] at b1
            have hyes := bitC_yes (v := 0) hbt
            have HYES := Lib.hid hyes
            clear hbt hyes
            obtain ⟨L, hL⟩ : ∃ L, bitC m 0 c = L := ⟨_, rfl⟩
            rw [hL] at HYES HR hbl
            clear hL
            go_wp2_with (at_builtin; refine wpList_append_own_at _ rfl (.tmp 66) (.tmp 69) 33 rfl wo.heap.size 32 i0 _ 2 16 Try.underlying33 hi hz0 hz1 hz2 rfl (by decide) _ L.length (idc L) rfl ?o1 ⟨wr.heap.size, 0, none⟩ 1 1 [.int .i64 c, .int .i64 0] rfl rfl ?c1 ?c2 ?c3 ?c4 ?c5 ?go)
            case o1 => exact HR.out.alloc _
            case c1 => exact World.news_of_block (cs := #[.int .i64 c, .int .i64 0]) (alloc_blk wr _ _ rfl)
            case c2 => intro u hu; simp at hu; rcases hu with rfl | rfl <;> rfl
            case c3 => unfold maxLen; omega
            case c4 => omega
            case c5 => first | omega | (rw [World.size_alloc]; omega) | (simp; omega)
            case go =>
            intro v4 w4 hown4 hgrow _ _
            have hT4 : Touch NoB wo w4 := (HTc.out.alloc _).grown hgrow (fun q e => .inr (HR.out.lt q e).1)
            have HO4 := Lib.hid hown4
            have HT4 := Lib.hid hT4
            clear hown4 hgrow hT4
            go_wp2
            go_roundw
            case rel =>
              refine ⟨c + 1, by omega, by go_num, ?_, HT4.out⟩
              rw [HYES.out, idc_snoc, List.length_append]
              exact HO4.out
            case measure => simp [intOf]; omega
        · obtain rfl : c = 16 := by omega
          obtain ⟨L12, hL12⟩ : ∃ L12, (bitC m 0 16).length = L12 := ⟨_, rfl⟩
          have hl12 := bitC_length m 0 16
          rw [hL12] at hrow hl12
          have HL12 := Lib.hid hL12
          clear hL12
          have HR := Lib.hid hrow
          have HTc := Lib.hid hTc
          have hkb := row_touch HKN.out hTc (fun _ _ e => e)
          obtain ⟨A12, c12, rfl, hx1, hx2⟩ := row_any hrow
          unfold maxLen at hx2
          clear hrow hTc
          obtain ⟨wi, rfl⟩ : ∃ x, x = wr := ⟨_, rfl⟩
          have HKB := Lib.hid hkb
          clear hkb
          go_wp2
          go_loopw [13, 15] (fun v13 v15 wr => InRel wi m kn v13 v15 wr) (fun _ v15 _ => K - (intOf v15).toNat)
          case atStart => exact ⟨0, Nat.zero_le _, rfl, by simp, Touch.refl _ _⟩
          case round =>
            obtain ⟨q, hq, rfl, rfl, hTq⟩ := hrel
            rw [HK.out] at hq
            have hbq := hTq.size
            have kb : wr.cell? ⟨b, off + k, none⟩ = some (.int .u16 m) := (hTq.cell (p := ⟨b, off + k, none⟩) hb' (fun e => e)).trans kb
            have hb2 : b < wr.heap.size := by omega
            have HTq := Lib.hid hTq
            obtain ⟨z, hz⟩ : ∃ z, decide (m ∈ kn.take q) = z := ⟨_, rfl⟩
            rw [hz]
            have HZ := Lib.hid hz
            clear hz
            by_cases hqK : q < K
            · obtain ⟨y, hy⟩ : ∃ y, kn[q]? = some y := ⟨_, List.getElem?_eq_getElem (by rw [HK.out]; exact hqK)⟩
              have hrw := row_touch HKB.out hTq (fun _ _ e => e)
              obtain ⟨g9, c9', hv9, _, _, hob⟩ := row_form hrw (by omega)
              injection hv9 with e1 e2 e3
              subst e1 e3
              clear e2
              have hg9 := row_lt hrw hob
              have kq : wr.cell? ⟨g9, q, none⟩ = some (.int .u16 y) := by rw [hrw.cellAt q (by omega), mc_at, hy]; rfl
              have htk : decide (m ∈ kn.take (q + 1)) = (z || decide (m = y)) := by
                rw [take_one hy, ← HZ.out]
                simp
              have HTK := Lib.hid htk
              clear hrw hob htk hTq hy
              cases z
              · by_cases hym : y = m
                · have d1 : (y == m) = true := by simp [hym]
                  have hnx : decide (m ∈ kn.take (q + 1)) = true := by rw [HTK.out]; simp [hym]
                  have HNX := Lib.hid hnx
                  clear hym hnx
                  go_wp2
                  go_quiet (fail)
                  go_wp2
                  go_roundw
                  case rel => exact ⟨q + 1, by rw [HK.out]; omega, by go_num, by rw [HNX.out], HTq.out.drewN _⟩
                  case measure => simp [intOf]; omega
                · have d1 : (y == m) = false := by simp [hym]
                  have hnx : decide (m ∈ kn.take (q + 1)) = false := by rw [HTK.out]; simp [Ne.symm hym]
                  have HNX := Lib.hid hnx
                  clear hym hnx
                  go_wp2
                  go_quiet (fail)
                  go_wp2
                  go_roundw
                  case rel => exact ⟨q + 1, by rw [HK.out]; omega, by go_num, by rw [HNX.out], HTq.out.drewN _⟩
                  case measure => simp [intOf]; omega
              · have hnx : decide (m ∈ kn.take (q + 1)) = true := by rw [HTK.out]; rfl
                have HNX := Lib.hid hnx
                clear hnx
                go_wp2
                go_quiet (fail)
                go_wp2
                go_roundw
                case rel => exact ⟨q + 1, by rw [HK.out]; omega, by go_num, by rw [HNX.out], HTq.out.drewN _⟩
                case measure => simp [intOf]; omega
            · obtain rfl : q = K := by omega
              have hz2 : decide (m ∈ kn) = z := by
                have e : kn.take q = kn := List.take_of_length_le (by have := HK.out; omega)
                have := HZ.out
                rwa [e] at this
              have hin : hasB bs m = z := by
                have e := hasB_iff HS.out.sorted m
                rw [← HI.out.k2] at e
                rw [← hz2]
                cases hh : hasB bs m
                · rw [hh] at e
                  simp at e
                  simp [e]
                · rw [hh] at e
                  simp at e
                  simp [e]
              have HIN := Lib.hid hin
              clear hz2 hin hTq
              obtain ⟨wq, rfl⟩ : ∃ x, x = wr := ⟨_, rfl⟩
              have hTo := (HTc.out.same HTq.out)
              have hsz := hTo.size
              have HSq := Lib.hid (HS.out.quiet hTo)
              have HFq := Lib.hid (HF.out.more hTo.size)
              have HTO := Lib.hid (HT.out.same hTo)
              have HC := Lib.hid (cells_row (F := F1) (row_touch HR.out HTq.out (fun _ _ e => e)) (fun b hb hf => by have h1 := (HR.out.lt b hb).1; have h2 := (HF.out b hf).2; omega))
              have HKQ := Lib.hid (row_touch HKN.out hTo (fun _ _ e => e))
              have hbits := bitC_all h0 h1 0
              have HBits := Lib.hid hbits
              have hw0 := HT.out.size
              have HW0 := Lib.hid (And.intro hw0 hsz)
              clear hTo hsz hbits hw0
              by_cases hnr : (n : Int) < room
              · have hmk : makeS room ps [] = some (((ps.length : Int), 1), ps ++ [(1, true)], []) := by
                  unfold makeS
                  simp only [List.getLast?_nil]
                  rw [if_pos (by rw [HI.out.n1]; exact hnr)]
                have HMK := Lib.hid hmk
                clear hmk
                cases z
                · by_cases hLt : (q : Int) < tables
                  · go_wp2_with fail
                    refine (spawn_ok HSq.out A12 L12 c12 (bitC m 0 16) HL12.out (by omega) HC.out HBits.out (by rw [HIN.out, ← HI.out.k1, HK.out]; simpa using hLt) HMK.out (by omega)).mono ?_
                    rintro e w5 ⟨rfl, hS5, hT5⟩
                    have hs5 := hT5.size
                    have hb5 : b < w5.heap.size := by omega
                    have kb5 : w5.cell? ⟨b, off + k, none⟩ = some (.int .u16 m) := (hT5.cell (p := ⟨b, off + k, none⟩) hb2 (fun e => by have := (HF.out b e).1; omega)).trans kb
                    have hI2 := HI.out.fresh h0 h1 HIN.out ((ps.length : Int), 1) (bitC m 0 16) (1, true)
                    have HI2 := Lib.hid hI2
                    have HS5 := Lib.hid hS5
                    have HT5 := Lib.hid hT5
                    have HK5 := Lib.hid (row_touch HKQ.out hT5 (fun q e => HKF.out q e))
                    clear hS5 hT5 hI2
                    go_wp2_with (first | (go_at_call 13; refine (num_any _ _).mono ?_; rintro e w' ⟨rfl, rfl⟩) | (at_builtin; refine wpList_append_own_at _ rfl (.tmp 127) (.tmp 132) 54 rfl w.heap.size 34 j0 _ 1 2 Try.underlying54 hj hy0 hy1 hy2 rfl (by decide) (.slice A9 q c9) q (mc kn) rfl ((HK5.out.alloc _).alloc _) ⟨w5.heap.size + 1, 0, none⟩ 1 1 [.int .u16 m] rfl rfl ?d1 ?d2 ?d3 ?d4 ?d5 ?dgo))
                    case d1 => exact World.news_of_block (cs := #[.int .u16 m]) (alloc_blk _ _ _ (by simp))
                    case d2 => intro u hu; simp at hu; subst hu; rfl
                    case d3 => unfold maxLen; have := HK.out; have := HI.out.k1; have := HI.out.n1; omega
                    case d4 => omega
                    case d5 => have := HW0.out; simp; omega
                    case dgo =>
                    intro v6 w6 hown6 hgrow _ hat6
                    obtain ⟨A6, c6, rfl, hq61, hq62⟩ := row_any hown6
                    unfold maxLen at hq62
                    have hTA : Touch (fun b => (Value.slice A9 q c9).ownBlock = some b) w5 w6 := (((Touch.refl _ w5).alloc _).alloc _).grown hgrow (fun x e => .inl e)
                    have hS6 := HS5.out.keep hTA (fun x hx hr => by
                      rcases hx with hx | hx
                      · exact HKF.out x hr hx
                      · have := row_lt HKQ.out hr; omega)
                    have hT6 : Touch NoB w w6 := (HTO.out.trans HT5.out (fun x e => .inr (HF.out x e).1)).trans hTA (fun x e => .inr (HKQ.out.lt x e).1)
                    have hkl : (kn ++ [m]).length = q + 1 := by rw [List.length_append, HK.out]; rfl
                    have HKL := Lib.hid hkl
                    have HS6 := Lib.hid hS6
                    have HT6 := Lib.hid hT6
                    have HO6 := Lib.hid hown6
                    have HTA := Lib.hid hTA
                    have HAt := Lib.hid hat6
                    clear hS6 hT6 hown6 hTA hgrow hat6 hkl
                    go_wp2_with fail
                    refine (query_any HS6.out 0 0 (by omega)).mono ?_
                    rintro e w7 ⟨v7, rfl, hv7, hT7⟩
                    rw [HI2.out.n2] at hv7
                    obtain ⟨A7, c7, rfl, hx7, hy7⟩ := row_any hv7
                    unfold maxLen at hy7
                    have HS7 := Lib.hid (HS6.out.quiet hT7)
                    have HT7 := Lib.hid hT7
                    clear hv7 hT7
                    go_wp2_with fail
                    refine (masks_any HS7.out (by omega)).mono ?_
                    rintro e w8 ⟨v8, rfl, hv8, hT8⟩
                    rw [show (masksB (enterB bs m ((ps.length : Int), 1) (bitC m 0 16))).length = q + 1 from by have := HI2.out.k1; unfold masksB; rw [List.length_map, ← this, HKL.out]] at hv8
                    obtain ⟨A8, c8, rfl, hx8, hy8⟩ := row_any hv8
                    unfold maxLen at hy8
                    have HS8 := Lib.hid (HS7.out.quiet hT8)
                    have HT8 := Lib.hid (HT7.out.same hT8)
                    clear hv8 hT8
                    go_wp2
                    go_roundw
                    case rel => exact ⟨k + 1, n + 1, Ext F1 wq w5, _, _, kn ++ [m], by rw [HN.out]; omega, by go_num, by go_num, HS8.out, by
                                          have hi := HFq.out.ext (w' := w5) HT5.out.size (by have := HW0.out; omega)
                                          exact hi.more (by have := HTA.out.size; have := HT8.out.size; omega), by
                                          have hm : mc (kn ++ [m]) = mc kn ++ [.int .u16 m] := mc_snoc _ _
                                          rw [HKL.out, hm]
                                          exact row_touch HO6.out HT8.out (fun _ _ e => e), by
                                          intro x hx hf
                                          rcases HAt.out with e | e
                                          · rw [e] at hx
                                            rcases hf with hf | hf
                                            · exact HKF.out x hx hf
                                            · have := row_lt HKQ.out hx; omega
                                          · rw [e] at hx
                                            injection hx with hx
                                            (try simp only [World.size_alloc] at hx)
                                            rcases hf with hf | hf
                                            · have := (HFq.out x hf).2; have := HT5.out.size; omega
                                            · omega, HI2.out, HT6.out.same HT8.out⟩
                    case measure => simp [intOf]; omega
                  · have hf : (hasB bs m || decide ((bs.length : Int) < tables)) = false := by rw [HIN.out, ← HI.out.k1, HK.out]; simpa using hLt
                    have HFull := Lib.hid hf
                    clear hf
                    go_wp2_with fail
                    refine (spawn_room HSq.out A12 L12 c12 (bitC m 0 16) HL12.out (by omega) HC.out HBits.out HFull.out (by omega)).mono ?_
                    rintro e w5 ⟨rfl, hT5⟩
                    have HS5 := Lib.hid (HSq.out.quiet hT5)
                    have HT5 := Lib.hid (HTO.out.same hT5)
                    have HTA := Lib.hid hT5
                    have HI2 := Lib.hid HI.out
                    have HKL := Lib.hid HK.out
                    clear hT5
                    have HS6 := Lib.hid (HS5.out.quiet ((Touch.refl NoB w5).alloc (.cells #[.int .i64 0, .int .i64 0] 30)))
                    go_wp2_with (go_at_call 13; refine (num_any _ _).mono ?_; rintro e w' ⟨rfl, rfl⟩)
                    refine (query_any HS6.out 0 0 (by omega)).mono ?_
                    rintro e w7 ⟨v7, rfl, hv7, hT7⟩
                    rw [HI2.out.n2] at hv7
                    obtain ⟨A7, c7, rfl, hx7, hy7⟩ := row_any hv7
                    unfold maxLen at hy7
                    have HS7 := Lib.hid (HS6.out.quiet hT7)
                    have HT7 := Lib.hid hT7
                    clear hv7 hT7
                    go_wp2_with fail
                    refine (masks_any HS7.out (by omega)).mono ?_
                    rintro e w8 ⟨v8, rfl, hv8, hT8⟩
                    rw [show (masksB bs).length = q from by have := HI2.out.k1; unfold masksB; rw [List.length_map, ← this, HKL.out]] at hv8
                    obtain ⟨A8, c8, rfl, hx8, hy8⟩ := row_any hv8
                    unfold maxLen at hy8
                    have HS8 := Lib.hid (HS7.out.quiet hT8)
                    have HT8 := Lib.hid (HT7.out.same hT8)
                    clear hv8 hT8
                    go_wp2
                    go_roundw
                    case rel => exact ⟨k + 1, n, F1, ps, bs, kn, by rw [HN.out]; omega, by go_num, rfl, HS8.out.more (fun _ e => e) (by omega), HFq.out.more (by have h1 := HTA.out.size; have h2 := HT8.out.size; simp at h2; omega), by
                                          rw [HKL.out]
                                          exact row_touch HKQ.out ((HTA.out.alloc _).same HT8.out) (fun _ _ e => e), HKF.out, HI2.out, (HT5.out.alloc _).same HT8.out⟩
                    case measure => simp [intOf]; omega
                · go_wp2_with fail
                  refine (spawn_ok HSq.out A12 L12 c12 (bitC m 0 16) HL12.out (by omega) HC.out HBits.out (by rw [HIN.out]; rfl) HMK.out (by omega)).mono ?_
                  rintro e w5 ⟨rfl, hS5, hT5⟩
                  have hs5 := hT5.size
                  have hI2 := HI.out.known h0 h1 HIN.out HS.out.sorted ((ps.length : Int), 1) (bitC m 0 16) (1, true)
                  have HI2 := Lib.hid hI2
                  have HS5 := Lib.hid hS5
                  have HK5 := Lib.hid (row_touch HKQ.out hT5 (fun q e => HKF.out q e))
                  have HTA := Lib.hid hT5
                  have HT5 := Lib.hid (HTO.out.trans hT5 (fun x e => .inr (HF.out x e).1))
                  have HKL := Lib.hid HK.out
                  clear hS5 hT5 hI2
                  have HS6 := Lib.hid (HS5.out.quiet ((Touch.refl NoB w5).alloc (.cells #[.int .i64 ps.length, .int .i64 1] 30)))
                  go_wp2_with (go_at_call 13; refine (num_any _ _).mono ?_; rintro e w' ⟨rfl, rfl⟩)
                  refine (query_any HS6.out 0 0 (by omega)).mono ?_
                  rintro e w7 ⟨v7, rfl, hv7, hT7⟩
                  rw [HI2.out.n2] at hv7
                  obtain ⟨A7, c7, rfl, hx7, hy7⟩ := row_any hv7
                  unfold maxLen at hy7
                  have HS7 := Lib.hid (HS6.out.quiet hT7)
                  have HT7 := Lib.hid hT7
                  clear hv7 hT7
                  go_wp2_with fail
                  refine (masks_any HS7.out (by omega)).mono ?_
                  rintro e w8 ⟨v8, rfl, hv8, hT8⟩
                  rw [show (masksB (enterB bs m ((ps.length : Int), 1) (bitC m 0 16))).length = q from by have := HI2.out.k1; unfold masksB; rw [List.length_map, ← this, HKL.out]] at hv8
                  obtain ⟨A8, c8, rfl, hx8, hy8⟩ := row_any hv8
                  unfold maxLen at hy8
                  have HS8 := Lib.hid (HS7.out.quiet hT8)
                  have HT8 := Lib.hid (HT7.out.same hT8)
                  clear hv8 hT8
                  go_wp2
                  go_roundw
                  case rel => exact ⟨k + 1, n + 1, Ext F1 wq w5, _, _, kn, by rw [HN.out]; omega, by go_num, by go_num, HS8.out, by
                                        have hi := HFq.out.ext (w' := w5) HTA.out.size (by have := HW0.out; omega)
                                        exact hi.more (by have h2 := HT8.out.size; simp at h2; omega), by
                                        rw [HKL.out]
                                        exact row_touch (HK5.out.alloc _) HT8.out (fun _ _ e => e), by
                                        intro x hx hf
                                        rcases hf with hf | hf
                                        · exact HKF.out x hx hf
                                        · have := row_lt HKQ.out hx; omega, HI2.out, (HT5.out.alloc _).same HT8.out⟩
                  case measure => simp [intOf]; omega
              · have hno : Calls Try.prog 11 #[.pointer (some ⟨g, 0, none⟩), .slice A12 L12 c12] wq fun e w' => NoId 10 e wq w' := by
                  have hmk : makeS room ps [] = none := by
                    unfold makeS
                    simp only [List.getLast?_nil]
                    rw [if_neg (by rw [HI.out.n1]; exact hnr)]
                  cases hf : (hasB bs m || decide ((bs.length : Int) < tables))
                  · exact spawn_room HSq.out A12 L12 c12 (bitC m 0 16) HL12.out (by omega) HC.out HBits.out hf (by omega)
                  · exact spawn_full HSq.out A12 L12 c12 (bitC m 0 16) HL12.out (by omega) HC.out HBits.out hf hmk (by omega)
                have HNO := Lib.hid hno
                clear hno
                go_wp2_with fail
                refine HNO.out.mono ?_
                rintro e w5 ⟨rfl, hT5⟩
                have HS5 := Lib.hid (HSq.out.quiet hT5)
                have HT5 := Lib.hid (HTO.out.same hT5)
                have HTA := Lib.hid hT5
                have HI2 := Lib.hid HI.out
                have HKL := Lib.hid HK.out
                clear hT5
                have HS6 := Lib.hid (HS5.out.quiet ((Touch.refl NoB w5).alloc (.cells #[.int .i64 0, .int .i64 0] 30)))
                go_wp2_with (go_at_call 13; refine (num_any _ _).mono ?_; rintro e w' ⟨rfl, rfl⟩)
                refine (query_any HS6.out 0 0 (by omega)).mono ?_
                rintro e w7 ⟨v7, rfl, hv7, hT7⟩
                rw [HI2.out.n2] at hv7
                obtain ⟨A7, c7, rfl, hx7, hy7⟩ := row_any hv7
                unfold maxLen at hy7
                have HS7 := Lib.hid (HS6.out.quiet hT7)
                have HT7 := Lib.hid hT7
                clear hv7 hT7
                go_wp2_with fail
                refine (masks_any HS7.out (by omega)).mono ?_
                rintro e w8 ⟨v8, rfl, hv8, hT8⟩
                rw [show (masksB bs).length = q from by have := HI2.out.k1; unfold masksB; rw [List.length_map, ← this, HKL.out]] at hv8
                obtain ⟨A8, c8, rfl, hx8, hy8⟩ := row_any hv8
                unfold maxLen at hy8
                have HS8 := Lib.hid (HS7.out.quiet hT8)
                have HT8 := Lib.hid (HT7.out.same hT8)
                clear hv8 hT8
                go_wp2
                go_roundw
                case rel => exact ⟨k + 1, n, F1, ps, bs, kn, by rw [HN.out]; omega, by go_num, rfl, HS8.out.more (fun _ e => e) (by omega), HFq.out.more (by have h1 := HTA.out.size; have h2 := HT8.out.size; simp at h2; omega), by
                                      rw [HKL.out]
                                      exact row_touch HKQ.out ((HTA.out.alloc _).same HT8.out) (fun _ _ e => e), HKF.out, HI2.out, (HT5.out.alloc _).same HT8.out⟩
                case measure => simp [intOf]; omega
    · have HTz := Lib.hid hT
      clear hS hF hkn hkF hI hT
      go_wp2
      go_ret
      exact ⟨rfl, HTz.out⟩
end Go.Proofs.Ytbefpbcfgjlcgaa
