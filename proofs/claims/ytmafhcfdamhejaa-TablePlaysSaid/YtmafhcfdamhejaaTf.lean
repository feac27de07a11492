/-
  The document's example of chapter 4, as its statements ask it first; the walk of TableCells.
-/
import Derived.Test.YtmafhcfdamhejaaTe
namespace Go.Proofs.Ytmafhcfdamhejaa
open Go.ChangeShapes Go.WideShapes Go.ChangeAt Go.RowKit Go.Maps

theorem mapis_nil : MapIs (.map []) [] := ⟨fun r i x h => by simp at h, fun i x _ _ _ => rfl⟩
theorem i64_zero : I64 0 := i64_mk (by decide) (by decide)
theorem i64_one : I64 1 := i64_mk (by decide) (by decide)

set_option maxHeartbeats 2000000 in
theorem talive_any (w : World) :
    Calls Try.prog 20 #[] w fun e w' => e = .returned (.bool true) ∧ Touch NoB w w' := by
  go_enter Try.func20, Try.ntmps20
  go_wp2_with fail
  refine (tnew_any 5 w).mono ?_
  rintro e w1 ⟨rfl, hO, hT⟩
  have HO := Lib.hid hO
  have HT := Lib.hid hT
  clear hO hT
  go_wp2_with fail
  refine (trow_any w.heap.size 5 0 0 [] _ _ 0 _ w1 HO.out mapis_nil i64_zero i64_zero).mono ?_
  rintro e w2 ⟨rfl, hT2⟩
  rw [show rowV [] (0, 0) = -1 from rfl]
  have hO2 := HO.out.quiet (hT2.alloc (.cells #[.int .i64 2, .int .i64 9] 66))
  have hs1 := HT.out.size
  have hs2 := hT2.size
  have hg1 : w.heap.size < w1.heap.size := by
    obtain ⟨_, _, _, _, h⟩ := HO.out
    exact h.lt
  have hF : InW (w2.alloc (.cells #[.int .i64 2, .int .i64 9] 66)) 0 (fun b => b = w.heap.size) := by
    rintro b rfl
    simp
    omega
  have hC : CellsAt (w2.alloc (.cells #[.int .i64 2, .int .i64 9] 66)) (fun b => b = w.heap.size) (some ⟨w2.heap.size, 0, none⟩) [(2, 9)] := by
    intro j c v hj
    have hb := alloc_blk w2 #[.int .i64 2, .int .i64 9] 66 rfl
    cases j with
    | zero =>
      simp at hj
      obtain ⟨rfl, rfl⟩ := hj
      exact ⟨_, _, rfl, by simp, fun e => by omega, cell_blk hb 0, cell_blk hb 1⟩
    | succ j => simp at hj
  have HA := Lib.hid (tadd_yes w.heap.size 5 0 1 (some ⟨w2.heap.size, 0, none⟩) 1 1 [(2, 9)] [] _ _ 0 _ _ hO2 mapis_nil hF i64_zero i64_one rfl (by decide) (by decide) (by decide) (by decide) (fun c _ _ => rfl) rfl (by decide) hC)
  have HT2 := Lib.hid hT2
  clear hO2 hF hC hT2
  go_wp2_with fail
  refine HA.out.mono ?_
  rintro e w3 ⟨rfl, hO3, hT3⟩
  simp only [List.length_nil]
  have HG := Lib.hid (tget_yes w.heap.size 0 2 5 9 _ _ _ _ _ w3 hO3 (by decide) (by decide) (by decide) (by decide) (by decide) rfl)
  have HT3 := Lib.hid hT3
  clear hO3 hT3
  go_wp2_with fail
  refine HG.out.mono ?_
  rintro e w4 ⟨rfl, rfl⟩
  go_wp2
  go_ret
  refine ⟨rfl, ((HT.out.same HT2.out).alloc _).trans HT3.out (fun x e => .inr (by rw [e]; exact Nat.le_refl _))⟩

theorem and_low15 {q : Nat} (h : q < 16) : bits .and .i64 (q : Int) 15 = q := by
  have := bits_mask .i64 63 (by decide) (fun n a b => by rw [IntKind.wrap_i64]; omega) 4 (by decide) (q : Int) (by omega) (by omega)
  rw [show ((2 : Int) ^ 4 - 1) = 15 from rfl] at this
  rw [this]
  omega

/-- What holds at the head of TableCells' loop over the columns. -/
def CellsRel (w : World) (F : Nat → Prop) (g : Nat) (m : Int) (cl : List (Int × Int)) (D : DataW Unit) (i : Value) (wr : World) : Prop :=
  ∃ c : Int, -1 ≤ c ∧ c ≤ 17 ∧ i = .int .i64 c ∧ TO wr F g m [(0, 1)] (newCol m (fun _ => []) cl) D 1 ∧ Touch NoB w wr

set_option maxHeartbeats 4000000 in
set_option maxRecDepth 100000 in
theorem tableCells_in (m : Int) (A : Option Addr) (N cap : Nat) (cl : List (Int × Int)) (w : World) (hm : 0 ≤ m) (hm2 : m < 65536) (hN : N ≤ 40) (hl : cl.length = N) (hC : CellsAt w NoB A cl) :
    Calls Try.prog 6 #[.int .u16 m, .slice A N cap] w fun e w' => e = .returned (.bool true) ∧ Touch NoB w w' := by
  have HC := Lib.hid hC
  have HL := Lib.hid hl
  clear hC hl
  have d3 : decide (40 < (N : Int)) = false := by simp; omega
  go_enter Try.func6, Try.ntmps6
  go_wp2_with fail
  refine (talive_any w).mono ?_
  rintro e w1 ⟨rfl, hT⟩
  have HT := Lib.hid hT
  have hs1 := hT.size
  clear hT
  go_wp2_with fail
  refine (tnew_any m w1).mono ?_
  rintro e w2 ⟨rfl, hO, hT⟩
  have hg1 : w1.heap.size < w2.heap.size := by
    obtain ⟨_, _, _, _, h⟩ := hO
    exact h.lt
  have hF : InW w2 0 (fun b => b = w1.heap.size) := by
    rintro b rfl
    omega
  have hT2 : Touch NoB w w2 := HT.out.same hT
  have hC2 : CellsAt w2 (fun b => b = w1.heap.size) A cl := by
    intro j c v hj
    obtain ⟨b, off, rfl, hb, _, e1, e2⟩ := HC.out.touch hT2 j c v hj
    obtain ⟨b', off', he, hb', _, _, _⟩ := HC.out j c v hj
    injection he with he
    injection he with he1 he2
    subst he1
    exact ⟨b, off, rfl, hb, fun e => by omega, e1, e2⟩
  have HA := Lib.hid (tadd_yes w1.heap.size m 0 1 A N cap cl [] _ _ 0 _ w2 hO mapis_nil hF i64_zero i64_one rfl hm hm2 (by decide) (by decide) (fun c _ _ => rfl) HL.out (by omega) hC2)
  have HT2 := Lib.hid hT2
  clear hO hT hF hT2 hC2
  go_wp2_with fail
  refine HA.out.mono ?_
  rintro e w3 ⟨rfl, hO3, hT3⟩
  have hT4 : Touch NoB w w3 := HT2.out.trans hT3 (fun x e => .inr (by rw [e]; exact hs1))
  simp only [List.length_nil]
  rw [show ((0 : Nat) : Int) = 0 from rfl]
  have HO3 := Lib.hid hO3
  have HT4 := Lib.hid hT4
  clear hO3 hT3 hT4
  go_wp2
  go_loopw [7] (fun i wr => CellsRel w (Ext (fun b => b = w1.heap.size) w2 w3) w1.heap.size m cl ((DataW.map []).put (klI 0 1) (.lit (.int .i64 ((0 : Nat) : Int)))) i wr) (fun i _ => (17 - intOf i).toNat)
  case atStart => exact ⟨-1, by omega, by omega, rfl, HO3.out, HT4.out⟩
  case round =>
    clear HO3 HT4
    obtain ⟨c, hc1, hc2, rfl, hO, hTr⟩ := hrel
    have hsr := hTr.size
    have HO := Lib.hid hO
    have HTr := Lib.hid hTr
    clear hO hTr
    by_cases hlt : c ≤ 16
    · go_wp2_with fail
      go_loop [8, 9] (fun v j => ∃ q : Nat, q ≤ N ∧ j = .int .i64 q ∧ v = .int .i64 (lastI (cl.take q) c)) (fun _ j => N - (intOf j).toNat)
      case atStart => exact ⟨0, Nat.zero_le _, rfl, rfl⟩
      case round =>
        obtain ⟨q, hq, rfl, rfl⟩ := hrel
        by_cases hql : q < N
        · obtain ⟨d, v, hdv⟩ : ∃ d v, cl[q]? = some (d, v) := ⟨_, _, List.getElem?_eq_getElem (by have := HL.out; omega)⟩
          obtain ⟨b, off, rfl, hb, _, e1, e2⟩ := HC.out.touch HTr.out q d v hdv
          have htk : lastI (cl.take (q + 1)) c = if d = c then v else lastI (cl.take q) c := by
            rw [List.take_succ_eq_append_getElem (by have := HL.out; omega), (List.getElem?_eq_some_iff.1 hdv).2, lastI_snoc]
          have HTK := Lib.hid htk
          clear hdv htk
          by_cases hdc : d = c
          · subst hdc
            have f1 : (d == d) = true := by simp
            go_wp2
            go_round
            case rel => exact ⟨q + 1, by omega, by go_num, by rw [HTK.out, if_pos rfl]⟩
            case measure => simp [intOf]; omega
          · have f1 : (d == c) = false := by simpa using hdc
            have HDC := Lib.hid hdc
            clear hdc
            go_wp2
            go_round
            case rel => exact ⟨q + 1, by omega, by go_num, by rw [HTK.out, if_neg HDC.out]⟩
            case measure => simp [intOf]; omega
        · obtain rfl : q = N := by omega
          have e1 : cl.take q = cl := List.take_of_length_le (by have := HL.out; omega)
          rw [e1]
          clear e1
          have HK := Lib.hid (tcolumn_any w1.heap.size m c [(0, 1)] _ _ 1 _ wr HO.out hm hm2 (fun d _ => by unfold newCol; split <;> simp))
          by_cases hr : 0 ≤ c ∧ c < 16
          · obtain ⟨k, rfl⟩ := Int.eq_ofNat_of_zero_le hr.1
            have hk : k < 16 := by omega
            have a1 := and_low15 hk
            have hdv := div_range hm hm2 k
            have b1 : (bits .and .u16 (m / 2 ^ k) 1 == 1) = bitB m k := by rw [and_one hdv.1 hdv.2]; rfl
            cases hb : bitB m k
            · rw [hb] at b1
              have hcol : colB m (k : Int) = false := by unfold colB; simp [hb]
              have hlc : (columnI m (newCol m (fun _ => []) cl) (k : Int)).length = 0 := by unfold columnI; rw [hcol]; rfl
              have HG := Lib.hid (tget_no w1.heap.size m 0 k [(0, 1)] _ _ 1 _ wr HO.out hm hm2 (by rw [hcol, Bool.and_false]))
              have HLC := Lib.hid hlc
              clear hb hcol hlc hdv hr
              go_wp2_with fail
              refine HG.out.mono ?_
              rintro e w4 ⟨rfl, rfl⟩
              go_wp2_with fail
              refine HK.out.mono ?_
              rintro e w5 ⟨v5, rfl, hown, hT5⟩
              rw [HLC.out] at hown
              obtain ⟨A5, cap5, rfl, hc5, hc6⟩ := row_any hown
              unfold maxLen at hc6
              have HT5 := Lib.hid hT5
              clear hown hT5
              go_wp2
              go_roundw
              case rel => exact ⟨(k : Int) + 1, by omega, by omega, by go_num, HO.out.quiet HT5.out, HTr.out.same HT5.out⟩
              case measure => simp [intOf]; omega
            · rw [hb] at b1
              have hcol : colB m (k : Int) = true := colB_nat hk hb
              have hnc : newCol m (fun _ => []) cl k = [lastI cl k] := by unfold newCol; rw [if_pos ⟨hk, hb⟩]; rfl
              have hlc : (columnI m (newCol m (fun _ => []) cl) (k : Int)).length = 1 := by
                unfold columnI
                rw [hcol, if_pos rfl, Int.toNat_natCast, hnc]
                rfl
              have HG := Lib.hid (tget_yes w1.heap.size 0 k m (lastI cl k) [(0, 1)] _ _ 1 _ wr HO.out hm hm2 (by simp) hk hb (by rw [hnc]; rfl))
              have HLC := Lib.hid hlc
              obtain ⟨z, hz⟩ : ∃ z, lastI cl (k : Int) = z := ⟨_, rfl⟩
              rw [hz] at HG
              rw [hz]
              have dz : (z != z) = false := by simp
              clear hb hcol hlc hdv hr hnc hz
              go_wp2_with fail
              refine HG.out.mono ?_
              rintro e w4 ⟨rfl, rfl⟩
              go_wp2_with fail
              refine HK.out.mono ?_
              rintro e w5 ⟨v5, rfl, hown, hT5⟩
              rw [HLC.out] at hown
              obtain ⟨A5, cap5, rfl, hc5, hc6⟩ := row_any hown
              unfold maxLen at hc6
              have HT5 := Lib.hid hT5
              clear hown hT5
              go_wp2
              go_roundw
              case rel => exact ⟨(k : Int) + 1, by omega, by omega, by go_num, HO.out.quiet HT5.out, HTr.out.same HT5.out⟩
              case measure => simp [intOf]; omega
          · have hcol : colB m c = false := by
              unfold colB
              by_cases h0 : 0 ≤ c
              · have h1 : ¬ c < 16 := fun e => hr ⟨h0, e⟩
                simp [h1]
              · simp [h0]
            have hlc : (columnI m (newCol m (fun _ => []) cl) c).length = 0 := by unfold columnI; rw [hcol]; rfl
            have HG := Lib.hid (tget_no w1.heap.size m 0 c [(0, 1)] _ _ 1 _ wr HO.out hm hm2 (by rw [hcol, Bool.and_false]))
            have HLC := Lib.hid hlc
            have hcc : c = -1 ∨ c = 16 := by omega
            clear hcol hlc hr
            rcases hcc with rfl | rfl
            · go_wp2_with fail
              refine HG.out.mono ?_
              rintro e w4 ⟨rfl, rfl⟩
              go_wp2_with fail
              refine HK.out.mono ?_
              rintro e w5 ⟨v5, rfl, hown, hT5⟩
              rw [HLC.out] at hown
              obtain ⟨A5, cap5, rfl, hc5, hc6⟩ := row_any hown
              unfold maxLen at hc6
              have HT5 := Lib.hid hT5
              clear hown hT5
              go_wp2
              go_roundw
              case rel => exact ⟨0, by omega, by omega, by go_num, HO.out.quiet HT5.out, HTr.out.same HT5.out⟩
              case measure => simp [intOf]
            · go_wp2_with fail
              refine HG.out.mono ?_
              rintro e w4 ⟨rfl, rfl⟩
              go_wp2_with fail
              refine HK.out.mono ?_
              rintro e w5 ⟨v5, rfl, hown, hT5⟩
              rw [HLC.out] at hown
              obtain ⟨A5, cap5, rfl, hc5, hc6⟩ := row_any hown
              unfold maxLen at hc6
              have HT5 := Lib.hid hT5
              clear hown hT5
              go_wp2
              go_roundw
              case rel => exact ⟨17, by omega, by omega, by go_num, HO.out.quiet HT5.out, HTr.out.same HT5.out⟩
              case measure => simp [intOf]
    · obtain rfl : c = 17 := by omega
      go_wp2
      go_ret
      exact ⟨rfl, HTr.out⟩

set_option maxHeartbeats 1000000 in
set_option maxRecDepth 100000 in
theorem tableCells_out (m : Int) (A : Option Addr) (N cap : Nat) (w : World) (hN : N ≤ 9223372036854775807) (h : 40 < N) :
    Calls Try.prog 6 #[.int .u16 m, .slice A N cap] w fun e w' => e = .returned (.bool true) ∧ Touch NoB w w' := by
  go_enter Try.func6, Try.ntmps6
  go_wp2_with fail
  refine (talive_any w).mono ?_
  rintro e w1 ⟨rfl, hT⟩
  have HT := Lib.hid hT
  clear hT
  go_wp2
  go_ret
  exact ⟨rfl, HT.out⟩
end Go.Proofs.Ytmafhcfdamhejaa
