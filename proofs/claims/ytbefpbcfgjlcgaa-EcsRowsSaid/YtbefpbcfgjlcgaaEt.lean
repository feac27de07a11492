/-
  The walk of EcsQueries.
-/
import Derived.Test.YtbefpbcfgjlcgaaEr
namespace Go.Proofs.Ytbefpbcfgjlcgaa
open Go.ChangeShapes Go.WideShapes Go.ChangeAt Go.RowKit Go.Maps
set_option maxRecDepth 100000
set_option maxHeartbeats 2000000

theorem St.few {w : World} {F : Nat → Prop} {cnt g : Nat} {room tables : Int} {ps : List (Int × Bool)} {ds : List Int} {bs : List Tb} (h : St w F cnt g room tables ps ds bs) : bs.length ≤ cnt := by
  obtain ⟨φ, ts, H, nh, va, bh, h1, h2, h3, h4⟩ := h
  rw [← h3, List.length_map]
  exact h2.len
/-- The first k identifiers. -/
def mdK (k : Nat) : List (Int × Int) := (List.range k).map fun (j : Nat) => ((j : Int), 1)
theorem mdK_succ (k : Nat) : mdK (k + 1) = mdK k ++ [((k : Int), 1)] := by simp [mdK, List.range_succ]
theorem mdK_length (k : Nat) : (mdK k).length = k := by simp [mdK]
theorem mdK_get {k j : Nat} (h : j < k) : (mdK k)[j]? = some ((j : Int), 1) := by simp [mdK, List.getElem?_range h]
/-- Of the first k entities those whose masks are asked for. -/
def wl (all nn : Int) (ms : List Int) (k : Nat) : List (Int × Int) := ((List.range k).filter fun j => wantM all nn (ms.getD j 0)).map fun (j : Nat) => ((j : Int), 1)
theorem wl_succ (all nn : Int) {ms : List Int} {k : Nat} {m : Int} (h : ms[k]? = some m) : wl all nn ms (k + 1) = wl all nn ms k ++ (if wantM all nn m = true then [((k : Int), 1)] else []) := by
  unfold wl
  rw [List.range_succ, List.filter_append, List.map_append]
  congr 1
  have e : ms.getD k 0 = m := by rw [List.getD_eq_getElem?_getD, h]; rfl
  rw [List.filter_cons, e]
  by_cases hw : wantM all nn m = true
  · rw [if_pos hw, if_pos hw]; rfl
  · rw [if_neg hw, if_neg hw]; rfl
theorem wl_count (all nn : Int) (ms : List Int) (i : Nat) : ∀ k, (wl all nn ms k).count ((i : Int), 1) = if i < k ∧ wantM all nn (ms.getD i 0) = true then 1 else 0
  | 0 => by simp [wl]
  | k + 1 => by
    have ih := wl_count all nn ms i k
    unfold wl at ih ⊢
    rw [List.range_succ, List.filter_append, List.map_append, List.count_append, ih, List.filter_cons]
    by_cases hw : wantM all nn (ms.getD k 0) = true
    · rw [if_pos hw]
      by_cases e : i = k
      · subst e
        rw [if_neg (by omega), if_pos ⟨by omega, hw⟩]
        simp
      · have hne : (((k : Int), (1 : Int)) == ((i : Int), (1 : Int))) = false := by simp; omega
        rw [List.filter_nil, List.map_cons, List.map_nil, List.count_singleton, hne]
        simp only [Bool.false_eq_true, if_false, Nat.add_zero]
        by_cases hi : i < k ∧ wantM all nn (ms.getD i 0) = true
        · rw [if_pos hi, if_pos ⟨by omega, hi.2⟩]
        · rw [if_neg hi, if_neg (fun x => hi ⟨by omega, x.2⟩)]
    · rw [if_neg hw]
      by_cases hi : i < k ∧ wantM all nn (ms.getD i 0) = true
      · rw [if_pos hi, if_pos ⟨by omega, hi.2⟩]; rfl
      · rw [if_neg hi, if_neg (fun x => hi ⟨by
          by_cases e : i = k
          · subst e; exact absurd x.2 hw
          · omega, x.2⟩)]; rfl

def QuRel (w : World) (ms : List Int) (g : Nat) (v9 v10 : Value) (wr : World) : Prop :=
  ∃ (k : Nat) (F : Nat → Prop) (ps : List (Int × Bool)) (bs : List Tb), k ≤ ms.length ∧ v10 = .int .i64 k ∧ St wr F k g 100 1000 ps [] bs ∧ InW wr w.heap.size F ∧ wr.ownsRow w.heap.size 30 2 v9 k (idc (mdK k)) ∧ (∀ b, v9.ownBlock = some b → ¬ F b) ∧ ps.length = k ∧ (∀ all nn, (queryB all nn bs).Perm (wl all nn ms k)) ∧ Touch NoB w wr
def GotRel (w : World) (lq : List (Int × Int)) (p : Int × Int) (v19 v20 : Value) (wr : World) : Prop :=
  ∃ q : Nat, q ≤ lq.length ∧ v20 = .int .i64 q ∧ v19 = .int .i64 ((lq.take q).count p) ∧ Touch NoB w wr
def SumRel (w : World) (all nn : Int) (ms : List Int) (v16 v17 : Value) (wr : World) : Prop :=
  ∃ k : Nat, k ≤ ms.length ∧ v17 = .int .i64 k ∧ v16 = .int .i64 (wl all nn ms k).length ∧ Touch NoB w wr

theorem queries_in (all nn : Int) (A : Option Addr) (N cap : Nat) (ms : List Int) (w : World) (hN : ms.length = N) (hN2 : N ≤ 40) (hM : MasksAt w A ms) :
    Calls Try.prog 5 #[.slice A N cap, .int .u16 all, .int .u16 nn] w fun e w' => e = .returned (.bool true) ∧ Touch NoB w w' := by
  have HM := Lib.hid hM
  have HN := Lib.hid hN
  clear hM hN
  obtain ⟨i0, hi, hz0, hz1, hz2⟩ := info_parts info_cell
  obtain ⟨j0, hj, hy0, hy1, hy2⟩ := info_parts info_id
  go_enter Try.func5, Try.ntmps5
  go_wp2_with fail
  refine (ealive_any w).mono ?_
  rintro e w1 ⟨rfl, hT1⟩
  have HT1 := Lib.hid hT1
  clear hT1
  go_wp2_with fail
  refine (new_st 100 1000 w1).mono ?_
  rintro e w2 ⟨g, F, rfl, hS2, hT2, hF2⟩
  rw [show roomI 100 = 100 from by decide, show withinI 1000 1 1000 = 1000 from by decide] at hS2
  have hs1 := HT1.out.size
  have hF2' : InW w2 w.heap.size F := fun b hb => by have := hF2 b hb; omega
  have HS2 := Lib.hid hS2
  have HT2 := Lib.hid (HT1.out.same hT2)
  have HF2 := Lib.hid hF2'
  clear hS2 hT2 hF2 hF2' hs1
  go_wp2
  go_loopw [9, 10] (fun v9 v10 wr => QuRel w ms g v9 v10 wr) (fun _ v10 _ => N - (intOf v10).toNat)
  case atStart => exact ⟨0, F, [], [], Nat.zero_le _, rfl, HS2.out, HF2.out, World.ownsRow_nil _ _ _ _, fun b hb => by simp [Value.ownBlock] at hb, rfl, fun _ _ => List.Perm.refl _, HT2.out⟩
  case round =>
    obtain ⟨wo, rfl⟩ : ∃ x, x = wr := ⟨_, rfl⟩
    obtain ⟨k, F1, ps, bs, hk, rfl, hS, hF, hmd, hkF, hpl, hP, hT⟩ := hrel
    clear HS2 HT2 HF2
    rw [HN.out] at hk
    by_cases hlt : k < N
    · obtain ⟨m, hm⟩ : ∃ m, ms[k]? = some m := ⟨_, List.getElem?_eq_getElem (by rw [HN.out]; exact hlt)⟩
      obtain ⟨h0, h1, b, off, rfl, hb0, hc0⟩ := HM.out k m hm
      have hc : wo.cell? ⟨b, off + k, none⟩ = some (.int .u16 m) := (hT.cell (p := ⟨b, off + k, none⟩) hb0 (fun e => e)).trans hc0
      have hb : b < wo.heap.size := Nat.lt_of_lt_of_le hb0 hT.size
      clear hc0
      have HS := Lib.hid hS
      have HF := Lib.hid hF
      have HMD := Lib.hid hmd
      have HKF := Lib.hid hkF
      have HPL := Lib.hid hpl
      have HP := Lib.hid hP
      have HT := Lib.hid hT
      obtain ⟨A9, c9, rfl, hq1, hq2⟩ := row_any hmd
      unfold maxLen at hq2
      have HMM := Lib.hid hm
      clear hS hF hmd hkF hpl hP hT hm
      go_wp2
      go_loopw [11, 12] (fun v11 v12 wr => CellRel wo m k v11 v12 wr) (fun _ v12 _ => 16 - (intOf v12).toNat)
      case atStart => exact ⟨0, Nat.zero_le _, rfl, World.ownsRow_nil _ _ _ _, Touch.refl _ _⟩
      case round =>
        obtain ⟨c, hcc, rfl, hrow, hTc⟩ := hrel
        have hbc := hTc.size
        have kb : wr.cell? ⟨b, off + k, none⟩ = some (.int .u16 m) := (hTc.cell (p := ⟨b, off + k, none⟩) hb (fun e => e)).trans hc
        have hb' : b < wr.heap.size := by omega
        by_cases hc16 : c < 16
        · have hdv := div_range h0 h1 c
          have b1 : (bits .and .u16 (m / 2 ^ c) 1 == 1) = bitB m c := by rw [and_one hdv.1 hdv.2]; rfl
          have hbl := bitC_length m k c
          have HR := Lib.hid hrow
          have HTc := Lib.hid hTc
          clear hrow hTc hdv
          cases hbt : bitB m c
          · rw [hbt] at b1
            have hno := bitC_no (v := (k : Int)) hbt
            have HNO := Lib.hid hno
            clear hbt hno
            go_wp2
            go_roundw
            case rel => exact ⟨c + 1, by omega, by go_num, by rw [HNO.out]; exact HR.out, HTc.out⟩
            case measure => simp [intOf]; omega
          · rw [hbt] at b1
            have hyes := bitC_yes (v := (k : Int)) hbt
            have HYES := Lib.hid hyes
            clear hbt hyes
            obtain ⟨L, hL⟩ : ∃ L, bitC m k c = L := ⟨_, rfl⟩
            rw [hL] at HYES HR hbl
            clear hL
            go_wp2_with (at_builtin; refine wpList_append_own_at _ rfl (.tmp 50) (.tmp 54) 33 rfl wo.heap.size 32 i0 _ 2 16 Try.underlying33 hi hz0 hz1 hz2 rfl (by decide) _ L.length (idc L) rfl ?o1 ⟨wr.heap.size, 0, none⟩ 1 1 [.int .i64 c, .int .i64 k] rfl rfl ?c1 ?c2 ?c3 ?c4 ?c5 ?go)
            case o1 => exact HR.out.alloc _
            case c1 => exact World.news_of_block (cs := #[.int .i64 c, .int .i64 k]) (alloc_blk wr _ _ rfl)
            case c2 => intro u hu; simp at hu; rcases hu with rfl | rfl <;> rfl
            case c3 => unfold maxLen; omega
            case c4 => omega
            case c5 => first | omega | (rw [World.size_alloc]; omega) | (simp; omega)
            case go =>
            intro v4 w4 hown4 hgrow _ _
            have hT4 : Touch NoB wo w4 := (HTc.out.alloc _).grown hgrow (fun q e => .inr (HR.out.lt q e).1)
            have HO4 := Lib.hid hown4
            have HT4 := Lib.hid hT4
            clear hown4 hgrow hT4
            go_wp2
            go_roundw
            case rel =>
              refine ⟨c + 1, by omega, by go_num, ?_, HT4.out⟩
              rw [HYES.out, idc_snoc, List.length_append]
              exact HO4.out
            case measure => simp [intOf]; omega
        · obtain rfl : c = 16 := by omega
          obtain ⟨L12, hL12⟩ : ∃ L12, (bitC m k 16).length = L12 := ⟨_, rfl⟩
          have hl12 := bitC_length m k 16
          rw [hL12] at hrow hl12
          have HL12 := Lib.hid hL12
          clear hL12
          have HR := Lib.hid hrow
          have HTc := Lib.hid hTc
          obtain ⟨A12, c12, rfl, hx1, hx2⟩ := row_any hrow
          unfold maxLen at hx2
          clear hrow hTc
          obtain ⟨wq, rfl⟩ : ∃ x, x = wr := ⟨_, rfl⟩
          have hsz := HTc.out.size
          have HSq := Lib.hid (HS.out.quiet HTc.out)
          have HFq := Lib.hid (HF.out.more HTc.out.size)
          have HTO := Lib.hid (HT.out.same HTc.out)
          have HC := Lib.hid (cells_row (F := F1) HR.out (fun b hb hf => by have h1 := (HR.out.lt b hb).1; have h2 := (HF.out b hf).2; omega))
          have HKQ := Lib.hid (row_touch HMD.out HTc.out (fun _ _ e => e))
          have hbits := bitC_all h0 h1 (k : Int)
          have HBits := Lib.hid hbits
          have hw0 := HT.out.size
          have HW0 := Lib.hid (And.intro hw0 hsz)
          have hmk : makeS 100 ps [] = some (((k : Int), 1), ps ++ [(1, true)], []) := by
            unfold makeS
            simp only [List.getLast?_nil]
            rw [HPL.out, if_pos (by omega)]
          have HMK := Lib.hid hmk
          have hfew := HS.out.few
          have hroom : (hasB bs m || decide ((bs.length : Int) < 1000)) = true := by
            have : decide ((bs.length : Int) < 1000) = true := by simp; omega
            rw [this, Bool.or_true]
          have HRoom := Lib.hid hroom
          clear hsz hbits hw0 hmk hfew hroom
          go_wp2_with fail
          refine (spawn_ok HSq.out A12 L12 c12 (bitC m k 16) HL12.out (by omega) HC.out HBits.out HRoom.out HMK.out (by omega)).mono ?_
          rintro e w5 ⟨rfl, hS5, hT5⟩
          have hs5 := hT5.size
          have HS5 := Lib.hid hS5
          have HT5 := Lib.hid hT5
          have HK5 := Lib.hid (row_touch HKQ.out hT5 (fun q e => HKF.out q e))
          clear hS5 hT5
          go_wp2_with (first | (go_at_call 13; refine (num_any _ _).mono ?_; rintro e w' ⟨rfl, rfl⟩) | (at_builtin; refine wpList_append_own_at _ rfl (.tmp 65) (.tmp 67) 28 rfl w.heap.size 30 j0 _ 2 16 Try.underlying28 hj hy0 hy1 hy2 rfl (by decide) (.slice A9 k c9) k (idc (mdK k)) rfl ((HK5.out.alloc _).alloc _) ⟨w5.heap.size + 1, 0, none⟩ 1 1 [.int .i64 k, .int .i64 1] rfl rfl ?d1 ?d2 ?d3 ?d4 ?d5 ?dgo))
          case d1 => exact World.news_of_block (cs := #[.int .i64 k, .int .i64 1]) (alloc_blk _ _ _ (by simp))
          case d2 => intro u hu; simp at hu; rcases hu with rfl | rfl <;> rfl
          case d3 => unfold maxLen; omega
          case d4 => omega
          case d5 => have := HW0.out; simp; omega
          case dgo =>
          intro v6 w6 hown6 hgrow _ hat6
          have hTA : Touch (fun b => (Value.slice A9 k c9).ownBlock = some b) w5 w6 := (((Touch.refl _ w5).alloc _).alloc _).grown hgrow (fun x e => .inl e)
          have hS6 := HS5.out.keep hTA (fun x hx hr => by
            rcases hx with hx | hx
            · exact HKF.out x hr hx
            · have := row_lt HKQ.out hr; omega)
          have hT6 : Touch NoB w w6 := (HTO.out.trans HT5.out (fun x e => .inr (HF.out x e).1)).trans hTA (fun x e => .inr (HKQ.out.lt x e).1)
          have HS6 := Lib.hid hS6
          have HT6 := Lib.hid hT6
          have HO6 := Lib.hid hown6
          have HTA := Lib.hid hTA
          have HAt := Lib.hid hat6
          clear hS6 hT6 hown6 hTA hgrow hat6
          go_wp2
          go_roundw
          case rel =>
            refine ⟨k + 1, Ext F1 wq w5, _, _, by rw [HN.out]; omega, by go_num, HS6.out, ?_, ?_, ?_, by simp [HPL.out], fun all nn => ?_, HT6.out⟩
            · exact (HFq.out.ext (w' := w5) HT5.out.size (by have := HW0.out; omega)).more HTA.out.size
            · rw [mdK_succ, idc_snoc]
              exact HO6.out
            · intro x hx hf
              rcases HAt.out with e | e
              · rw [e] at hx
                rcases hf with hf | hf
                · exact HKF.out x hx hf
                · have := row_lt HKQ.out hx; omega
              · rw [e] at hx
                injection hx with hx
                (try simp only [World.size_alloc] at hx)
                rcases hf with hf | hf
                · have := (HFq.out x hf).2; have := HT5.out.size; omega
                · omega
            · rw [wl_succ all nn HMM.out]
              exact (enter_query all nn bs m _ _).trans ((HP.out all nn).append_right _)
          case measure => simp [intOf]; omega
    · obtain rfl : k = N := by omega
      have HS := Lib.hid hS
      have HMD := Lib.hid hmd
      have HT := Lib.hid hT
      have HP := Lib.hid (hP all nn)
      obtain ⟨A9, c9, rfl, hq1, hq2⟩ := row_any hmd
      unfold maxLen at hq2
      clear hS hF hmd hkF hpl hP hT
      go_wp2_with fail
      refine (query_any HS.out all nn (by omega)).mono ?_
      rintro e w7 ⟨v7, rfl, hv7, hT7⟩
      obtain ⟨lq, hlq⟩ : ∃ lq, queryB all nn bs = lq := ⟨_, rfl⟩
      rw [hlq] at hv7 HP
      obtain ⟨Lq, hLq⟩ : ∃ Lq, lq.length = Lq := ⟨_, rfl⟩
      rw [hLq] at hv7
      have hwle : (wl all nn ms k).length ≤ k := by
        unfold wl
        rw [List.length_map]
        have := List.length_filter_le (fun j => wantM all nn (ms.getD j 0)) (List.range k)
        simpa using this
      have hLk : Lq ≤ k := by rw [← hLq, HP.out.length_eq]; exact hwle
      have HLQ := Lib.hid hLq
      have HV7 := Lib.hid hv7
      have HT7 := Lib.hid (HT.out.same hT7)
      have HM7 := Lib.hid (row_touch HMD.out hT7 (fun _ _ e => e))
      obtain ⟨A7, c7, rfl, hx7, hy7⟩ := row_any hv7
      unfold maxLen at hy7
      clear hv7 hT7 hlq hLq hwle
      go_wp2
      go_loopw [16, 17] (fun v16 v17 wr => SumRel w7 all nn ms v16 v17 wr) (fun _ v17 _ => k - (intOf v17).toNat)
      case atStart => exact ⟨0, Nat.zero_le _, rfl, rfl, Touch.refl _ _⟩
      case round =>
        obtain ⟨wo, rfl⟩ : ∃ x, x = wr := ⟨_, rfl⟩
        obtain ⟨i, hik, rfl, rfl, hTi⟩ := hrel
        rw [HN.out] at hik
        by_cases hilt : i < k
        · obtain ⟨m, hm⟩ : ∃ m, ms[i]? = some m := ⟨_, List.getElem?_eq_getElem (by rw [HN.out]; exact hilt)⟩
          obtain ⟨h0, h1, b, off, rfl, hb0, hc0⟩ := HM.out i m hm
          have hc7 : w7.cell? ⟨b, off + i, none⟩ = some (.int .u16 m) := (HT7.out.cell (p := ⟨b, off + i, none⟩) hb0 (fun e => e)).trans hc0
          have hb7 : b < w7.heap.size := Nat.lt_of_lt_of_le hb0 HT7.out.size
          have hc : wo.cell? ⟨b, off + i, none⟩ = some (.int .u16 m) := (hTi.cell (p := ⟨b, off + i, none⟩) hb7 (fun e => e)).trans hc7
          have hb : b < wo.heap.size := Nat.lt_of_lt_of_le hb7 hTi.size
          have hgd : ms.getD i 0 = m := by rw [List.getD_eq_getElem?_getD, hm]; rfl
          have hcnt : lq.count ((i : Int), 1) = if wantM all nn m = true then 1 else 0 := by
            rw [HP.out.count_eq, wl_count, hgd]
            by_cases hw : wantM all nn m = true
            · rw [if_pos ⟨hilt, hw⟩, if_pos hw]
            · rw [if_neg (fun x => hw x.2), if_neg hw]
          have hsl : (wl all nn ms (i + 1)).length = (wl all nn ms i).length + if wantM all nn m = true then 1 else 0 := by
            rw [wl_succ all nn hm, List.length_append]
            by_cases hw : wantM all nn m = true
            · rw [if_pos hw, if_pos hw]; rfl
            · rw [if_neg hw, if_neg hw]; rfl
          have hwl : (wl all nn ms i).length ≤ i := by
            unfold wl
            rw [List.length_map]
            have := List.length_filter_le (fun j => wantM all nn (ms.getD j 0)) (List.range i)
            simpa using this
          have HCNT := Lib.hid hcnt
          have HSL := Lib.hid hsl
          have HTi := Lib.hid hTi
          have hmo := row_touch HM7.out hTi (fun _ _ e => e)
          obtain ⟨g9, c9', hv9, _, _, hob9⟩ := row_form hmo (by omega)
          injection hv9 with e1 e2 e3
          subst e1 e3
          clear e2
          have hl9 := row_lt hmo hob9
          have p0 : wo.cell? ⟨g9, i * 2, none⟩ = some (.int .i64 i) := by rw [hmo.cellAt (i * 2) (by omega), idc_at0, mdK_get hilt]; rfl
          have p1 : wo.cell? ⟨g9, i * 2 + 1, none⟩ = some (.int .i64 1) := by rw [hmo.cellAt (i * 2 + 1) (by omega), idc_at1, mdK_get hilt]; rfl
          have HVo := Lib.hid (row_touch HV7.out hTi (fun _ _ e => e))
          obtain ⟨S, hS⟩ : ∃ S, (wl all nn ms i).length = S := ⟨_, rfl⟩
          rw [hS] at hwl HSL
          rw [hS]
          obtain ⟨wb, hwb⟩ : ∃ wb, wantM all nn m = wb := ⟨_, rfl⟩
          rw [hwb] at HCNT HSL
          unfold wantM at hwb
          clear hm hc7 hc0 hgd hcnt hsl hTi hmo hob9 hS
          have key : ∀ (d1 d2 : Bool), (bits .and .u16 m all == all) = d1 → (bits .and .u16 m nn == 0) = d2 → (d1 && d2) = wb := fun d1 d2 a b => by rw [← hwb, a, b]
          clear hwb
          cases d1 : (bits .and .u16 m all == all)
          · obtain rfl : wb = false := by have := key false _ d1 rfl; simpa using this.symm
            clear key
            go_wp2
            go_loopw [19, 20] (fun v19 v20 wr => GotRel wo lq ((i : Int), 1) v19 v20 wr) (fun _ v20 _ => Lq - (intOf v20).toNat)
            case atStart => exact ⟨0, Nat.zero_le _, rfl, rfl, Touch.refl _ _⟩
            case round =>
              obtain ⟨q, hq, rfl, rfl, hTq⟩ := hrel
              rw [HLQ.out] at hq
              have hcl : (lq.take q).count ((i : Int), 1) ≤ 40 := by
                have h1 := List.count_le_length (l := lq.take q) (a := ((i : Int), (1 : Int)))
                rw [List.length_take] at h1
                omega
              by_cases hqL : q < Lq
              · obtain ⟨⟨a2, b2⟩, hab⟩ : ∃ p, lq[q]? = some p := ⟨_, List.getElem?_eq_getElem (by rw [HLQ.out]; exact hqL)⟩
                have hvr := row_touch HVo.out hTq (fun _ _ e => e)
                obtain ⟨g7, c7', hv7, _, _, hob7⟩ := row_form hvr (by omega)
                injection hv7 with e1 e2 e3
                subst e1 e3
                clear e2
                have hl7 := row_lt hvr hob7
                have r0 : wr.cell? ⟨g7, q * 2, none⟩ = some (.int .i64 a2) := by rw [hvr.cellAt (q * 2) (by omega), idc_at0, hab]; rfl
                have r1 : wr.cell? ⟨g7, q * 2 + 1, none⟩ = some (.int .i64 b2) := by rw [hvr.cellAt (q * 2 + 1) (by omega), idc_at1, hab]; rfl
                have p0' : wr.cell? ⟨g9, i * 2, none⟩ = some (.int .i64 i) := (hTq.cell (p := ⟨g9, i * 2, none⟩) hl9 (fun e => e)).trans p0
                have p1' : wr.cell? ⟨g9, i * 2 + 1, none⟩ = some (.int .i64 1) := (hTq.cell (p := ⟨g9, i * 2 + 1, none⟩) hl9 (fun e => e)).trans p1
                have hl9' : g9 < wr.heap.size := Nat.lt_of_lt_of_le hl9 hTq.size
                have htk : (lq.take (q + 1)).count ((i : Int), 1) = (lq.take q).count ((i : Int), 1) + if a2 = i ∧ b2 = 1 then 1 else 0 := by
                  rw [take_one hab, List.count_append, List.count_singleton]
                  congr 1
                  by_cases h : a2 = i ∧ b2 = 1
                  · rw [if_pos h, if_pos (by simp [h.1, h.2])]
                  · rw [if_neg h, if_neg (by simp; exact fun x y => h ⟨x, y⟩)]
                have HTK := Lib.hid htk
                have HTq := Lib.hid hTq
                obtain ⟨cq, hcq⟩ : ∃ cq, (lq.take q).count ((i : Int), 1) = cq := ⟨_, rfl⟩
                rw [hcq] at HTK hcl
                rw [hcq]
                clear hvr hob7 hab hTq hcq
                by_cases ha : a2 = i
                · by_cases hb2 : b2 = 1
                  · have e1 : (a2 == (i : Int)) = true := by simp [ha]
                    have e2 : (b2 == 1) = true := by simp [hb2]
                    have hnx : (lq.take (q + 1)).count ((i : Int), 1) = cq + 1 := by rw [HTK.out, if_pos ⟨ha, hb2⟩]
                    have HNX := Lib.hid hnx
                    clear ha hb2 hnx
                    go_wp2
                    go_quiet (fail)
                    go_wp2
                    go_roundw
                    case rel => exact ⟨q + 1, by rw [HLQ.out]; omega, by go_num, by rw [HNX.out]; go_num, HTq.out.drewN _⟩
                    case measure => simp [intOf]; omega
                  · have e1 : (a2 == (i : Int)) = true := by simp [ha]
                    have e2 : (b2 == 1) = false := by simp [hb2]
                    have hnx : (lq.take (q + 1)).count ((i : Int), 1) = cq := by rw [HTK.out, if_neg (fun x => hb2 x.2)]; rfl
                    have HNX := Lib.hid hnx
                    clear ha hb2 hnx
                    go_wp2
                    go_quiet (fail)
                    go_wp2
                    go_roundw
                    case rel => exact ⟨q + 1, by rw [HLQ.out]; omega, by go_num, by rw [HNX.out], HTq.out.drewN _⟩
                    case measure => simp [intOf]; omega
                · have e1 : (a2 == (i : Int)) = false := by simp [ha]
                  have hnx : (lq.take (q + 1)).count ((i : Int), 1) = cq := by rw [HTK.out, if_neg (fun x => ha x.1)]; rfl
                  have HNX := Lib.hid hnx
                  clear ha hnx
                  go_wp2
                  go_quiet (fail)
                  go_wp2
                  go_roundw
                  case rel => exact ⟨q + 1, by rw [HLQ.out]; omega, by go_num, by rw [HNX.out], HTq.out.drewN _⟩
                  case measure => simp [intOf]; omega
              · obtain rfl : q = Lq := by omega
                have htl : lq.take q = lq := List.take_of_length_le (by have := HLQ.out; omega)
                have hgot : (lq.take q).count ((i : Int), 1) = 0 := by rw [htl, HCNT.out]; rfl
                rw [hgot]
                have HTq := Lib.hid hTq
                have hS1 : (wl all nn ms (i + 1)).length = S + 0 := by rw [HSL.out]; rfl
                have HS1 := Lib.hid hS1
                clear hTq htl hgot hcl hS1
                go_wp2
                go_roundw
                case rel => exact ⟨i + 1, by rw [HN.out]; omega, by go_num, by rw [HS1.out]; go_num, HTi.out.same HTq.out⟩
                case measure => simp [intOf]; omega
          · cases d2 : (bits .and .u16 m nn == 0)
            · obtain rfl : wb = false := by have := key true false d1 d2; simpa using this.symm
              clear key
              go_wp2
              go_loopw [19, 20] (fun v19 v20 wr => GotRel wo lq ((i : Int), 1) v19 v20 wr) (fun _ v20 _ => Lq - (intOf v20).toNat)
              case atStart => exact ⟨0, Nat.zero_le _, rfl, rfl, Touch.refl _ _⟩
              case round =>
                obtain ⟨q, hq, rfl, rfl, hTq⟩ := hrel
                rw [HLQ.out] at hq
                have hcl : (lq.take q).count ((i : Int), 1) ≤ 40 := by
                  have h1 := List.count_le_length (l := lq.take q) (a := ((i : Int), (1 : Int)))
                  rw [List.length_take] at h1
                  omega
                by_cases hqL : q < Lq
                · obtain ⟨⟨a2, b2⟩, hab⟩ : ∃ p, lq[q]? = some p := ⟨_, List.getElem?_eq_getElem (by rw [HLQ.out]; exact hqL)⟩
                  have hvr := row_touch HVo.out hTq (fun _ _ e => e)
                  obtain ⟨g7, c7', hv7, _, _, hob7⟩ := row_form hvr (by omega)
                  injection hv7 with e1 e2 e3
                  subst e1 e3
                  clear e2
                  have hl7 := row_lt hvr hob7
                  have r0 : wr.cell? ⟨g7, q * 2, none⟩ = some (.int .i64 a2) := by rw [hvr.cellAt (q * 2) (by omega), idc_at0, hab]; rfl
                  have r1 : wr.cell? ⟨g7, q * 2 + 1, none⟩ = some (.int .i64 b2) := by rw [hvr.cellAt (q * 2 + 1) (by omega), idc_at1, hab]; rfl
                  have p0' : wr.cell? ⟨g9, i * 2, none⟩ = some (.int .i64 i) := (hTq.cell (p := ⟨g9, i * 2, none⟩) hl9 (fun e => e)).trans p0
                  have p1' : wr.cell? ⟨g9, i * 2 + 1, none⟩ = some (.int .i64 1) := (hTq.cell (p := ⟨g9, i * 2 + 1, none⟩) hl9 (fun e => e)).trans p1
                  have hl9' : g9 < wr.heap.size := Nat.lt_of_lt_of_le hl9 hTq.size
                  have htk : (lq.take (q + 1)).count ((i : Int), 1) = (lq.take q).count ((i : Int), 1) + if a2 = i ∧ b2 = 1 then 1 else 0 := by
                    rw [take_one hab, List.count_append, List.count_singleton]
                    congr 1
                    by_cases h : a2 = i ∧ b2 = 1
                    · rw [if_pos h, if_pos (by simp [h.1, h.2])]
                    · rw [if_neg h, if_neg (by simp; exact fun x y => h ⟨x, y⟩)]
                  have HTK := Lib.hid htk
                  have HTq := Lib.hid hTq
                  obtain ⟨cq, hcq⟩ : ∃ cq, (lq.take q).count ((i : Int), 1) = cq := ⟨_, rfl⟩
                  rw [hcq] at HTK hcl
                  rw [hcq]
                  clear hvr hob7 hab hTq hcq
                  by_cases ha : a2 = i
                  · by_cases hb2 : b2 = 1
                    · have e1 : (a2 == (i : Int)) = true := by simp [ha]
                      have e2 : (b2 == 1) = true := by simp [hb2]
                      have hnx : (lq.take (q + 1)).count ((i : Int), 1) = cq + 1 := by rw [HTK.out, if_pos ⟨ha, hb2⟩]
                      have HNX := Lib.hid hnx
                      clear ha hb2 hnx
                      go_wp2
                      go_quiet (fail)
                      go_wp2
                      go_roundw
                      case rel => exact ⟨q + 1, by rw [HLQ.out]; omega, by go_num, by rw [HNX.out]; go_num, HTq.out.drewN _⟩
                      case measure => simp [intOf]; omega
                    · have e1 : (a2 == (i : Int)) = true := by simp [ha]
                      have e2 : (b2 == 1) = false := by simp [hb2]
                      have hnx : (lq.take (q + 1)).count ((i : Int), 1) = cq := by rw [HTK.out, if_neg (fun x => hb2 x.2)]; rfl
                      have HNX := Lib.hid hnx
                      clear ha hb2 hnx
                      go_wp2
                      go_quiet (fail)
                      go_wp2
                      go_roundw
                      case rel => exact ⟨q + 1, by rw [HLQ.out]; omega, by go_num, by rw [HNX.out], HTq.out.drewN _⟩
                      case measure => simp [intOf]; omega
                  · have e1 : (a2 == (i : Int)) = false := by simp [ha]
                    have hnx : (lq.take (q + 1)).count ((i : Int), 1) = cq := by rw [HTK.out, if_neg (fun x => ha x.1)]; rfl
                    have HNX := Lib.hid hnx
                    clear ha hnx
                    go_wp2
                    go_quiet (fail)
                    go_wp2
                    go_roundw
                    case rel => exact ⟨q + 1, by rw [HLQ.out]; omega, by go_num, by rw [HNX.out], HTq.out.drewN _⟩
                    case measure => simp [intOf]; omega
                · obtain rfl : q = Lq := by omega
                  have htl : lq.take q = lq := List.take_of_length_le (by have := HLQ.out; omega)
                  have hgot : (lq.take q).count ((i : Int), 1) = 0 := by rw [htl, HCNT.out]; rfl
                  rw [hgot]
                  have HTq := Lib.hid hTq
                  have hS1 : (wl all nn ms (i + 1)).length = S + 0 := by rw [HSL.out]; rfl
                  have HS1 := Lib.hid hS1
                  clear hTq htl hgot hcl hS1
                  go_wp2
                  go_roundw
                  case rel => exact ⟨i + 1, by rw [HN.out]; omega, by go_num, by rw [HS1.out]; go_num, HTi.out.same HTq.out⟩
                  case measure => simp [intOf]; omega
            · obtain rfl : wb = true := by have := key true true d1 d2; simpa using this.symm
              clear key
              go_wp2
              go_loopw [19, 20] (fun v19 v20 wr => GotRel wo lq ((i : Int), 1) v19 v20 wr) (fun _ v20 _ => Lq - (intOf v20).toNat)
              case atStart => exact ⟨0, Nat.zero_le _, rfl, rfl, Touch.refl _ _⟩
              case round =>
                obtain ⟨q, hq, rfl, rfl, hTq⟩ := hrel
                rw [HLQ.out] at hq
                have hcl : (lq.take q).count ((i : Int), 1) ≤ 40 := by
                  have h1 := List.count_le_length (l := lq.take q) (a := ((i : Int), (1 : Int)))
                  rw [List.length_take] at h1
                  omega
                by_cases hqL : q < Lq
                · obtain ⟨⟨a2, b2⟩, hab⟩ : ∃ p, lq[q]? = some p := ⟨_, List.getElem?_eq_getElem (by rw [HLQ.out]; exact hqL)⟩
                  have hvr := row_touch HVo.out hTq (fun _ _ e => e)
                  obtain ⟨g7, c7', hv7, _, _, hob7⟩ := row_form hvr (by omega)
                  injection hv7 with e1 e2 e3
                  subst e1 e3
                  clear e2
                  have hl7 := row_lt hvr hob7
                  have r0 : wr.cell? ⟨g7, q * 2, none⟩ = some (.int .i64 a2) := by rw [hvr.cellAt (q * 2) (by omega), idc_at0, hab]; rfl
                  have r1 : wr.cell? ⟨g7, q * 2 + 1, none⟩ = some (.int .i64 b2) := by rw [hvr.cellAt (q * 2 + 1) (by omega), idc_at1, hab]; rfl
                  have p0' : wr.cell? ⟨g9, i * 2, none⟩ = some (.int .i64 i) := (hTq.cell (p := ⟨g9, i * 2, none⟩) hl9 (fun e => e)).trans p0
                  have p1' : wr.cell? ⟨g9, i * 2 + 1, none⟩ = some (.int .i64 1) := (hTq.cell (p := ⟨g9, i * 2 + 1, none⟩) hl9 (fun e => e)).trans p1
                  have hl9' : g9 < wr.heap.size := Nat.lt_of_lt_of_le hl9 hTq.size
                  have htk : (lq.take (q + 1)).count ((i : Int), 1) = (lq.take q).count ((i : Int), 1) + if a2 = i ∧ b2 = 1 then 1 else 0 := by
                    rw [take_one hab, List.count_append, List.count_singleton]
                    congr 1
                    by_cases h : a2 = i ∧ b2 = 1
                    · rw [if_pos h, if_pos (by simp [h.1, h.2])]
                    · rw [if_neg h, if_neg (by simp; exact fun x y => h ⟨x, y⟩)]
                  have HTK := Lib.hid htk
                  have HTq := Lib.hid hTq
                  obtain ⟨cq, hcq⟩ : ∃ cq, (lq.take q).count ((i : Int), 1) = cq := ⟨_, rfl⟩
                  rw [hcq] at HTK hcl
                  rw [hcq]
                  clear hvr hob7 hab hTq hcq
                  by_cases ha : a2 = i
                  · by_cases hb2 : b2 = 1
                    · have e1 : (a2 == (i : Int)) = true := by simp [ha]
                      have e2 : (b2 == 1) = true := by simp [hb2]
                      have hnx : (lq.take (q + 1)).count ((i : Int), 1) = cq + 1 := by rw [HTK.out, if_pos ⟨ha, hb2⟩]
                      have HNX := Lib.hid hnx
                      clear ha hb2 hnx
                      go_wp2
                      go_quiet (fail)
                      go_wp2
                      go_roundw
                      case rel => exact ⟨q + 1, by rw [HLQ.out]; omega, by go_num, by rw [HNX.out]; go_num, HTq.out.drewN _⟩
                      case measure => simp [intOf]; omega
                    · have e1 : (a2 == (i : Int)) = true := by simp [ha]
                      have e2 : (b2 == 1) = false := by simp [hb2]
                      have hnx : (lq.take (q + 1)).count ((i : Int), 1) = cq := by rw [HTK.out, if_neg (fun x => hb2 x.2)]; rfl
                      have HNX := Lib.hid hnx
                      clear ha hb2 hnx
                      go_wp2
                      go_quiet (fail)
                      go_wp2
                      go_roundw
                      case rel => exact ⟨q + 1, by rw [HLQ.out]; omega, by go_num, by rw [HNX.out], HTq.out.drewN _⟩
                      case measure => simp [intOf]; omega
                  · have e1 : (a2 == (i : Int)) = false := by simp [ha]
                    have hnx : (lq.take (q + 1)).count ((i : Int), 1) = cq := by rw [HTK.out, if_neg (fun x => ha x.1)]; rfl
                    have HNX := Lib.hid hnx
                    clear ha hnx
                    go_wp2
                    go_quiet (fail)
                    go_wp2
                    go_roundw
                    case rel => exact ⟨q + 1, by rw [HLQ.out]; omega, by go_num, by rw [HNX.out], HTq.out.drewN _⟩
                    case measure => simp [intOf]; omega
                · obtain rfl : q = Lq := by omega
                  have htl : lq.take q = lq := List.take_of_length_le (by have := HLQ.out; omega)
                  have hgot : (lq.take q).count ((i : Int), 1) = 1 := by rw [htl, HCNT.out]; rfl
                  rw [hgot]
                  have HTq := Lib.hid hTq
                  have hS1 : (wl all nn ms (i + 1)).length = S + 1 := by rw [HSL.out]; rfl
                  have HS1 := Lib.hid hS1
                  clear hTq htl hgot hcl hS1
                  go_wp2
                  go_roundw
                  case rel => exact ⟨i + 1, by rw [HN.out]; omega, by go_num, by rw [HS1.out]; go_num, HTi.out.same HTq.out⟩
                  case measure => simp [intOf]; omega
        · obtain rfl : i = k := by omega
          have hfin : (wl all nn ms i).length = Lq := by rw [← HLQ.out, HP.out.length_eq]
          rw [hfin]
          have HTi := Lib.hid hTi
          clear hTi hfin
          have dq : ((Lq : Int) == (Lq : Int)) = true := by simp
          go_wp2
          go_ret
          exact ⟨by simp, HT7.out.same HTi.out⟩
end Go.Proofs.Ytbefpbcfgjlcgaa
