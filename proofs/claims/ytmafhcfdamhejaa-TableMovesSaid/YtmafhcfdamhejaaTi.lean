/-
  The walk of TableMoves.
-/
import Derived.Test.YtmafhcfdamhejaaTh
import Derived.Test.YtmafhcfdamhejaaTf
namespace Go.Proofs.Ytmafhcfdamhejaa
open Go.ChangeShapes Go.WideShapes Go.ChangeAt Go.RowKit Go.Maps

/-- The exclusive or, as Go reckons it. -/
def xorI (z c : Int) : Int := bits .xor .i64 z c
/-- The first k entities of TableMoves. -/
def idsN (k : Nat) : List (Int × Int) := (List.range k).map (fun (i : Nat) => ((i : Int), 1))
/-- The columns behind its first k rows. -/
def cfN (m : Int) (zs : List Int) (k : Nat) : Nat → List Int := fun c => if c < 16 ∧ bitB m c = true then (List.range k).map (fun i => xorI (zs.getD i 0) c) else []
/-- The first j cells of a row. -/
def cellsN (z : Int) (j : Nat) : List (Int × Int) := (List.range j).map (fun (c : Nat) => ((c : Int), xorI z c))

theorem idsN_succ (k : Nat) : idsN (k + 1) = idsN k ++ [((k : Int), 1)] := by simp [idsN, List.range_succ]
theorem idsN_length (k : Nat) : (idsN k).length = k := by simp [idsN]
theorem idsN_at {k j : Nat} (h : j < k) : (idsN k)[j]? = some ((j : Int), 1) := by simp [idsN, h]
theorem idsN_some {k j : Nat} {p : Int × Int} (h : (idsN k)[j]? = some p) : j < k ∧ p = ((j : Int), 1) := by
  have hj := (List.getElem?_eq_some_iff.1 h).1
  rw [idsN_length] at hj
  rw [idsN_at hj] at h
  injection h with h
  exact ⟨hj, h.symm⟩
theorem idsN_none (k : Nat) : rowOf (idsN k) ((k : Int), 1) = none := by
  refine rowOf_none_of (fun j h => ?_)
  obtain ⟨hj, e⟩ := idsN_some h
  injection e with e
  omega
theorem cellsN_succ (z : Int) (j : Nat) : cellsN z (j + 1) = cellsN z j ++ [((j : Int), xorI z j)] := by simp [cellsN, List.range_succ]
theorem cellsN_length (z : Int) (j : Nat) : (cellsN z j).length = j := by simp [cellsN]
theorem last_cells (z : Int) {c j : Nat} (h : c < j) : lastI (cellsN z j) c = xorI z c := by
  induction j with
  | zero => omega
  | succ j ih =>
    rw [cellsN_succ, lastI_snoc]
    by_cases e : c = j
    · subst e
      rw [if_pos rfl]
    · rw [if_neg (by simp; omega)]
      exact ih (by omega)
theorem cfN_succ {m : Int} {zs : List Int} {k : Nat} {z : Int} (h : zs[k]? = some z) : newCol m (cfN m zs k) (cellsN z 16) = cfN m zs (k + 1) := by
  funext c
  unfold newCol
  by_cases hc : c < 16 ∧ bitB m c = true
  · rw [if_pos hc, last_cells z hc.1]
    unfold cfN
    rw [if_pos hc, if_pos hc, List.range_succ, List.map_append]
    simp [List.getD_eq_getElem?_getD, h]
  · rw [if_neg hc]
    unfold cfN
    rw [if_neg hc, if_neg hc]
theorem cfN_zero (m : Int) (zs : List Int) : cfN m zs 0 = fun _ => [] := by funext c; simp [cfN]
theorem cfN_length {m : Int} {zs : List Int} {k c : Nat} (hc : c < 16) (hb : bitB m c = true) : (cfN m zs k c).length = k := by
  unfold cfN
  rw [if_pos ⟨hc, hb⟩]
  simp
theorem cfN_at {m : Int} {zs : List Int} {k c j : Nat} {z : Int} (hc : c < 16) (hb : bitB m c = true) (hj : j < k) (hz : zs[j]? = some z) : (cfN m zs k c)[j]? = some (xorI z c) := by
  unfold cfN
  rw [if_pos ⟨hc, hb⟩]
  simp [hj, List.getD_eq_getElem?_getD, hz]

theorem idsN_ok {k : Nat} (h : k ≤ 1000) : IdsOk (idsN k) := by
  constructor
  · intro r i x hr
    obtain ⟨hj, e⟩ := idsN_some hr
    injection e with e1 e2
    subst e1 e2
    exact ⟨nat_i64 (by omega), i64_one⟩
  · intro a b p ha hb
    obtain ⟨_, e1⟩ := idsN_some ha
    obtain ⟨_, e2⟩ := idsN_some hb
    rw [e1] at e2
    injection e2 with e2
    omega

/-- A row of cells, as an argument of Add. -/
theorem cells_row {w : World} {B : Nat} {A : Option Addr} {cap : Nat} {F : Nat → Prop} {cl : List (Int × Int)} (h : w.ownsRow B 66 2 (.slice A cl.length cap) cl.length (idc cl)) (hF : ∀ b, F b → b < B) : CellsAt w F A cl := by
  intro j c v hj
  have hjl := (List.getElem?_eq_some_iff.1 hj).1
  obtain ⟨g, cp, hv, _, _, hob⟩ := row_form h (by omega)
  injection hv with hv1 hv2 hv3
  subst hv1
  refine ⟨g, 0, rfl, row_lt h hob, fun e => ?_, ?_, ?_⟩
  · have h1 := (h.lt g hob).1
    have h2 := hF g e
    omega
  · rw [Nat.zero_add, h.cellAt (j * 2) (by omega), idc_at0, hj]
    rfl
  · rw [Nat.zero_add, h.cellAt (j * 2 + 1) (by omega), idc_at1, hj]
    rfl

/-- What holds at the head of TableMoves' first loop. -/
def MovRel1 (w : World) (B g N : Nat) (m : Int) (zs : List Int) (i : Value) (wr : World) : Prop :=
  ∃ k : Nat, k ≤ N ∧ i = .int .i64 k ∧ ∃ F D, TO wr F g m (idsN k) (cfN m zs k) D k ∧ MapIs D (idsN k) ∧ InW wr B F ∧ Touch NoB w wr
/-- .. of the loop over the cells of a row. -/
def MovRel2 (wb : World) (z : Int) (v c : Value) (wr : World) : Prop :=
  ∃ j : Nat, j ≤ 16 ∧ c = .int .i64 j ∧ wr.ownsRow wb.heap.size 66 2 v j (idc (cellsN z j)) ∧ Touch NoB wb wr

theorem tn_fresh {wb wr : World} {B : Nat} {F : Nat → Prop} (h : InW wb B F) (t : Touch NoB wb wr) : InW wr 0 F := fun b hb => by have := (h b hb).2; have := t.size; omega

/-- The values of the list, in memory. -/
def IntsAt (w : World) (A : Option Addr) (zs : List Int) : Prop :=
  ∀ (j : Nat) (z : Int), zs[j]? = some z → ∃ b off, A = some ⟨b, off, none⟩ ∧ b < w.heap.size ∧ w.cell? ⟨b, off + j, none⟩ = some (.int .i64 z)
theorem IntsAt.touch {w w' : World} {A : Option Addr} {zs : List Int} (h : IntsAt w A zs) (t : Touch NoB w w') : IntsAt w' A zs := by
  intro j z hj
  obtain ⟨b, off, rfl, hb, hc⟩ := h j z hj
  exact ⟨b, off, rfl, Nat.lt_of_lt_of_le hb t.size, (t.cell (p := ⟨b, off + j, none⟩) hb (fun e => e)).trans hc⟩

theorem rem_at {m : Int} {zs : List Int} {M row k fr c : Nat} {z : Int} (hrow : row < M + 1) (hk : k < M) (hf : (k = row ∧ fr = M) ∨ (k ≠ row ∧ fr = k)) (hz : zs[fr]? = some z) (hc : c < 16) (hb : bitB m c = true) :
    (remCol m (cfN m zs (M + 1)) row 16 c)[k]? = some (xorI z c) := by
  unfold remCol
  rw [if_pos ⟨hc, hb⟩]
  have hl : (cfN m zs (M + 1) c).length = M + 1 := cfN_length hc hb
  rw [cut_get 0 _ (by omega) (by omega), hl]
  rcases hf with ⟨e1, e2⟩ | ⟨e1, e2⟩
  · subst e2
    rw [if_pos e1]
    exact cfN_at hc hb (by omega) hz
  · subst e2
    rw [if_neg e1]
    exact cfN_at hc hb (by omega) hz
theorem ids_at {M row k fr : Nat} (hrow : row < M + 1) (hk : k < M) (hf : (k = row ∧ fr = M) ∨ (k ≠ row ∧ fr = k)) : (cutAt (0, 0) (idsN (M + 1)) row)[k]? = some ((fr : Int), 1) := by
  have hl := idsN_length (M + 1)
  rw [cut_get _ _ (by omega) (by omega), hl]
  rcases hf with ⟨e1, e2⟩ | ⟨e1, e2⟩
  · subst e2
    rw [if_pos e1]
    exact idsN_at (by omega)
  · subst e2
    rw [if_neg e1]
    exact idsN_at (by omega)
theorem ids_gone {M row : Nat} (hrow : row < M + 1) : rowOf (cutAt (0, 0) (idsN (M + 1)) row) ((row : Int), 1) = none := by
  refine rowOf_none_of (fun j h => ?_)
  have hl := idsN_length (M + 1)
  obtain ⟨hj, x⟩ := cut_some (by omega) h
  rw [hl] at hj x
  rcases x with ⟨e, f⟩ | ⟨e, f⟩
  · obtain ⟨_, e2⟩ := idsN_some f
    injection e2 with e2
    omega
  · obtain ⟨_, e2⟩ := idsN_some f
    injection e2 with e2
    omega

/-- What holds at the head of the loops behind Remove. -/
def MovRel3 (wb : World) (M : Nat) (i : Value) (wr : World) : Prop := ∃ k : Nat, k ≤ M ∧ i = .int .i64 k ∧ Touch NoB wb wr

set_option maxHeartbeats 4000000 in
set_option maxRecDepth 100000 in
theorem tableMoves_in (m : Int) (N row : Nat) (A : Option Addr) (len cap : Nat) (zs : List Int) (w : World) (hm : 0 ≤ m) (hm2 : m < 65536) (hN1 : 1 ≤ N) (hN : N ≤ 30) (hrow : row < N) (hlen : N ≤ len) (hcap : len ≤ 9223372036854775807) (hl : zs.length = len) (hZ : IntsAt w A zs) :
    Calls Try.prog 5 #[.int .u16 m, .int .i64 N, .int .i64 row, .slice A len cap] w fun e w' => e = .returned (.bool true) ∧ Touch NoB w w' := by
  have HZ := Lib.hid hZ
  have HL := Lib.hid hl
  clear hZ hl
  have d1 : decide ((N : Int) < 1) = false := by simp; omega
  have d2 : decide (30 < (N : Int)) = false := by simp; omega
  have d3 : decide ((row : Int) < 0) = false := by simp
  have d4 : decide (N ≤ row) = false := by simp; omega
  have d5 : decide (len < N) = false := by simp; omega
  obtain ⟨j0, hj, hy0, hy1, hy2⟩ := info_parts info_cell
  go_enter Try.func5, Try.ntmps5
  go_wp2_with fail
  refine (talive_any w).mono ?_
  rintro e w1 ⟨rfl, hT⟩
  have HT := Lib.hid hT
  have hs1 := hT.size
  clear hT
  go_wp2_with fail
  refine (tnew_any m w1).mono ?_
  rintro e w2 ⟨rfl, hO, hT⟩
  have hg1 : w1.heap.size < w2.heap.size := by
    obtain ⟨_, _, _, _, h⟩ := hO
    exact h.lt
  have HS : Hid (MovRel1 w w1.heap.size w1.heap.size N m zs (.int .i64 0) w2) := ⟨0, Nat.zero_le _, rfl, _, _, by rw [cfN_zero]; exact hO, mapis_nil, fun b hb => by omega, HT.out.same hT⟩
  clear hO hT
  go_wp2
  go_loopw [11] (fun i wr => MovRel1 w w1.heap.size w1.heap.size N m zs i wr) (fun i _ => N - (intOf i).toNat)
  case atStart => exact HS.out
  case round =>
    clear HS
    obtain ⟨k, hk, rfl, F, D, hO, hD, hF, hTr⟩ := hrel
    have hsr := hTr.size
    have HO := Lib.hid hO
    have HD := Lib.hid hD
    have HF := Lib.hid hF
    have HTr := Lib.hid hTr
    clear hO hD hF hTr
    by_cases hlt : k < N
    · obtain ⟨z, hz⟩ : ∃ z, zs[k]? = some z := ⟨_, List.getElem?_eq_getElem (by have := HL.out; omega)⟩
      obtain ⟨b, off, rfl, hb, hcz⟩ := HZ.out.touch HTr.out k z hz
      have HZK := Lib.hid hz
      clear hz
      obtain ⟨wb, hwb⟩ : ∃ wb, wr = wb := ⟨_, rfl⟩
      rw [hwb] at HO HF HTr hb hcz hsr
      rw [hwb]
      clear hwb
      have hgb : w1.heap.size < wb.heap.size := by
        obtain ⟨_, _, _, _, h⟩ := HO.out
        exact h.lt
      go_wp2_with fail
      go_loopw [12, 13] (fun v c wr => MovRel2 wb z v c wr) (fun _ c _ => 16 - (intOf c).toNat)
      case atStart => exact ⟨0, by omega, rfl, World.ownsRow_nil _ _ _ _, Touch.refl _ _⟩
      case round =>
        obtain ⟨j, hj16, rfl, ho, hTj⟩ := hrel
        obtain ⟨A5, cap5, rfl, hc5, hc6⟩ := row_any ho
        unfold maxLen at hc6
        have hsj := hTj.size
        by_cases hjl : j < 16
        · have hcj := (hTj.cell (p := ⟨b, off + k, none⟩) hb (fun e => e)).trans hcz
          have HOj := Lib.hid ho
          have HTj := Lib.hid hTj
          clear ho hTj
          go_wp2_with (at_builtin; refine wpList_append_own_at _ rfl (.tmp 59) (.tmp 68) 51 rfl wb.heap.size 66 j0 _ 2 16 Try.underlying51 hj hy0 hy1 hy2 rfl (by decide) (.slice A5 j cap5) j (idc (cellsN z j)) rfl ?o1 ⟨wr.heap.size, 0, none⟩ 1 1 [.int .i64 j, .int .i64 (bits .xor .i64 z j)] rfl rfl ?c1 ?c2 ?c3 ?c4 ?c5 ?go)
          case o1 => exact HOj.out.alloc _
          case c1 => exact World.news_of_block (cs := #[.int .i64 j, .int .i64 (bits .xor .i64 z j)]) (alloc_blk wr _ 66 rfl)
          case c2 => intro u hu; simp at hu; rcases hu with rfl | rfl <;> rfl
          case c3 => unfold maxLen; omega
          case c4 => omega
          case c5 => simp; omega
          case go =>
          intro v5 wx hown hgrow _ _
          have hTx : Touch NoB wb wx := (HTj.out.alloc _).grown hgrow (fun q e => .inr (HOj.out.lt q e).1)
          have HN : Hid (MovRel2 wb z v5 (.int .i64 ((j + 1 : Nat) : Int)) wx) := ⟨j + 1, by omega, rfl, by rw [cellsN_succ, idc_snoc]; exact hown, hTx⟩
          clear hown hgrow hTx HOj HTj hcj
          go_wp2
          go_roundw
          case rel => exact HN.out
          case measure => simp [intOf]; omega
        · obtain rfl : j = 16 := by omega
          have hF0 := tn_fresh HF.out hTj
          have hC : CellsAt wr F A5 (cellsN z 16) := cells_row (cap := cap5) (B := wb.heap.size) (by rw [cellsN_length]; exact ho) (fun q hq => (HF.out q hq).2)
          have HA := Lib.hid (tadd_yes w1.heap.size m k 1 A5 16 cap5 (cellsN z 16) (idsN k) _ D k F wr (HO.out.quiet hTj) HD.out hF0 (nat_i64 (by omega)) i64_one (idsN_none k) hm hm2 (by omega) (by rw [idsN_length]; omega) (fun c hc hb => by rw [idsN_length, cfN_length hc hb]) (cellsN_length z 16) (by omega) hC)
          rw [idsN_length, cfN_succ HZK.out, ← idsN_succ] at HA
          have HTj := Lib.hid hTj
          clear ho hTj hF0 hC
          rw [show ((16 : Nat) : Int) = 16 from rfl]
          go_wp2_with fail
          refine HA.out.mono ?_
          rintro e w5 ⟨rfl, hO5, hT5⟩
          have hD5 : MapIs (D.put (klI k 1) (.lit (.int .i64 k))) (idsN (k + 1)) := by
            have := HD.out.snoc (idsN_ok (by omega)) HO.out.isMap (nat_i64 (k := k) (by omega)) i64_one (idsN_none k)
            rw [idsN_length, ← idsN_succ] at this
            exact this
          have HN : Hid (MovRel1 w w1.heap.size w1.heap.size N m zs (.int .i64 ((k + 1 : Nat) : Int)) w5) :=
            ⟨k + 1, by omega, rfl, _, _, hO5, hD5, (HF.out.more HTj.out.size).ext hT5.size (by have := HTj.out.size; omega), (HTr.out.same HTj.out).trans hT5 (fun q hq => .inr (by have := (HF.out q hq).1; omega))⟩
          have dk : ((k : Int) != (k : Int)) = false := by simp
          clear hO5 hT5 hD5
          go_wp2
          go_roundw
          case rel => exact HN.out
          case measure => simp [intOf]; omega
    · obtain rfl : k = N := by omega
      obtain ⟨M, hM⟩ : ∃ M, k = M + 1 := ⟨k - 1, by omega⟩
      subst hM
      have hM1 : (((M + 1 : Nat)) : Int) - 1 = (M : Int) := by omega
      have hlk := idsN_length (M + 1)
      have HRM := Lib.hid (tremove_yes w1.heap.size row m row 1 M 1 (idsN (M + 1)) _ D (M + 1) F wr HO.out (fun b hb => ⟨Nat.zero_le _, (HF.out b hb).2⟩) hm hm2 (by omega) (by omega) (by omega) (fun c hc hb => by rw [hlk, cfN_length hc hb]) (idsN_at hrow) (by rw [hlk]; exact idsN_at (by omega)) ⟨nat_i64 (by omega), i64_one⟩ ⟨nat_i64 (by omega), i64_one⟩)
      clear hlk
      go_wp2_with fail
      refine HRM.out.mono ?_
      rintro e w5 ⟨v5, rfl, _, hO5, hT5⟩
      have hD5 := HD.out.cut (idsN_ok (by omega)) HO.out.isMap (r := row) (by rw [idsN_length]; exact hrow) (idsN_at hrow) (by rw [idsN_length]; exact idsN_at (by omega))
      have hok := (idsN_ok (k := M + 1) (by omega)).cut (r := row) (by rw [idsN_length]; exact hrow)
      have hT5' : Touch NoB w w5 := HTr.out.trans hT5 (fun q hq => .inr (by have := (HF.out q hq).1; omega))
      have hcl : (cutAt (0, 0) (idsN (M + 1)) row).length = M := by rw [cutAt_length, idsN_length]; rfl
      have HI := Lib.hid (tids_any w1.heap.size m _ _ _ _ _ w5 hO5 (by rw [hcl]; omega))
      rw [hcl] at HI
      have HO5 := Lib.hid hO5
      have HD6 := Lib.hid hD5
      have HOK := Lib.hid hok
      have HT5 := Lib.hid hT5'
      clear hO5 hT5 hD5 hok hT5' hcl HRM HD HO
      go_wp2_with fail
      refine HI.out.mono ?_
      rintro e w6 ⟨v6, rfl, hown6, hT6⟩
      obtain ⟨A6, cap6, rfl, hc6, hc7⟩ := row_any hown6
      unfold maxLen at hc7
      have HO6 := Lib.hid (HO5.out.quiet hT6)
      have HT6 := Lib.hid (HT5.out.same hT6)
      have dM : ((M : Int) != (M : Int)) = false := by simp
      clear hown6 hT6 HO5 HT5 HI
      go_wp2
      go_loopw [16] (fun i wr => MovRel3 w6 M i wr) (fun i _ => M - (intOf i).toNat)
      case atStart => exact ⟨0, Nat.zero_le _, rfl, Touch.refl _ _⟩
      case round =>
        obtain ⟨q, hq, rfl, hTq⟩ := hrel
        have HTq := Lib.hid hTq
        have HZ6 := Lib.hid (HZ.out.touch HT6.out)
        clear hTq
        by_cases hql : q < M
        · by_cases hqr : q = row
          · subst hqr
            obtain ⟨z, hz⟩ : ∃ z, zs[M]? = some z := ⟨_, List.getElem?_eq_getElem (by have := HL.out; omega)⟩
            obtain ⟨b, off, rfl, hb, hcz⟩ := HZ6.out.touch HTq.out M z hz
            have hvals : ∀ c, c < 16 → bitB m c = true → (remCol m (cfN m zs (M + 1)) q 16 c)[q]? = some (bits .xor .i64 z c) := fun c hc hb => rem_at hrow hql (.inl ⟨rfl, rfl⟩) hz hc hb
            have HVAL := Lib.hid hvals
            have HRW := Lib.hid (trow_any w1.heap.size m M 1 _ _ _ _ _ wr (HO6.out.quiet HTq.out) HD6.out (nat_i64 (by omega)) i64_one)
            rw [rowV_some (rowOf_at HOK.out.once (ids_at hrow hql (.inl ⟨rfl, rfl⟩)))] at HRW
            clear hz hvals
            go_wp2_with fail
            refine HRW.out.mono ?_
            rintro e w7 ⟨rfl, hT7⟩
            have hcz7 := (hT7.cell (p := ⟨b, off + M, none⟩) hb (fun e => e)).trans hcz
            have HT7 := Lib.hid hT7
            have hb7 : b < w7.heap.size := by have := hT7.size; omega
            have dq : ((q : Int) != (q : Int)) = false := by simp
            clear hT7 HRW
            go_wp2_with fail
            go_loop [18] (fun c => ∃ s : Nat, s ≤ 16 ∧ c = .int .i64 s) (fun c => 16 - (intOf c).toNat)
            case atStart => exact ⟨0, by omega, rfl⟩
            case round =>
              obtain ⟨s, hs, rfl⟩ := hrel
              by_cases hsl : s < 16
              · have hdv := div_range hm hm2 s
                have b1 : (bits .and .u16 (m / 2 ^ s) 1 == 1) = bitB m s := by rw [and_one hdv.1 hdv.2]; rfl
                cases hbit : bitB m s
                · rw [hbit] at b1
                  have hcol : colB m (s : Int) = false := by unfold colB; simp [hbit]
                  have HG := Lib.hid (tget_no w1.heap.size m q s _ _ _ _ _ w7 (HO6.out.quiet (HTq.out.same HT7.out)) hm hm2 (by rw [hcol, Bool.and_false]))
                  clear hbit hcol hdv
                  go_wp2_with fail
                  refine HG.out.mono ?_
                  rintro e w8 ⟨rfl, rfl⟩
                  go_wp2
                  go_round
                  case rel => exact ⟨s + 1, by omega, by go_num⟩
                  case measure => simp [intOf]; omega
                · rw [hbit] at b1
                  have HG := Lib.hid (tget_yes w1.heap.size q s m (bits .xor .i64 z s) _ _ _ _ _ w7 (HO6.out.quiet (HTq.out.same HT7.out)) hm hm2 (by rw [cutAt_length, idsN_length]; omega) hsl hbit (HVAL.out s hsl hbit))
                  clear hbit hdv
                  go_wp2_with fail
                  refine HG.out.mono ?_
                  rintro e w8 ⟨rfl, rfl⟩
                  go_wp2
                  go_round
                  case rel => exact ⟨s + 1, by omega, by go_num⟩
                  case measure => simp [intOf]; omega
              · obtain rfl : s = 16 := by omega
                go_wp2
                go_roundw
                case rel => exact ⟨q + 1, by omega, by go_num, HTq.out.same HT7.out⟩
                case measure => simp [intOf]; omega
          · have f1 : ((q : Int) == (row : Int)) = false := by simp; omega
            have f2 : (q == row) = false := by simpa using hqr
            obtain ⟨z, hz⟩ : ∃ z, zs[q]? = some z := ⟨_, List.getElem?_eq_getElem (by have := HL.out; omega)⟩
            obtain ⟨b, off, rfl, hb, hcz⟩ := HZ6.out.touch HTq.out q z hz
            have hvals : ∀ c, c < 16 → bitB m c = true → (remCol m (cfN m zs (M + 1)) row 16 c)[q]? = some (bits .xor .i64 z c) := fun c hc hb => rem_at hrow hql (.inr ⟨hqr, rfl⟩) hz hc hb
            have HVAL := Lib.hid hvals
            have HRW := Lib.hid (trow_any w1.heap.size m q 1 _ _ _ _ _ wr (HO6.out.quiet HTq.out) HD6.out (nat_i64 (by omega)) i64_one)
            rw [rowV_some (rowOf_at HOK.out.once (ids_at hrow hql (.inr ⟨hqr, rfl⟩)))] at HRW
            clear hz hvals
            go_wp2_with fail
            refine HRW.out.mono ?_
            rintro e w7 ⟨rfl, hT7⟩
            have hcz7 := (hT7.cell (p := ⟨b, off + q, none⟩) hb (fun e => e)).trans hcz
            have HT7 := Lib.hid hT7
            have hb7 : b < w7.heap.size := by have := hT7.size; omega
            have dq : ((q : Int) != (q : Int)) = false := by simp
            clear hT7 HRW
            go_wp2_with fail
            go_loop [18] (fun c => ∃ s : Nat, s ≤ 16 ∧ c = .int .i64 s) (fun c => 16 - (intOf c).toNat)
            case atStart => exact ⟨0, by omega, rfl⟩
            case round =>
              obtain ⟨s, hs, rfl⟩ := hrel
              by_cases hsl : s < 16
              · have hdv := div_range hm hm2 s
                have b1 : (bits .and .u16 (m / 2 ^ s) 1 == 1) = bitB m s := by rw [and_one hdv.1 hdv.2]; rfl
                cases hbit : bitB m s
                · rw [hbit] at b1
                  have hcol : colB m (s : Int) = false := by unfold colB; simp [hbit]
                  have HG := Lib.hid (tget_no w1.heap.size m q s _ _ _ _ _ w7 (HO6.out.quiet (HTq.out.same HT7.out)) hm hm2 (by rw [hcol, Bool.and_false]))
                  clear hbit hcol hdv
                  go_wp2_with fail
                  refine HG.out.mono ?_
                  rintro e w8 ⟨rfl, rfl⟩
                  go_wp2
                  go_round
                  case rel => exact ⟨s + 1, by omega, by go_num⟩
                  case measure => simp [intOf]; omega
                · rw [hbit] at b1
                  have HG := Lib.hid (tget_yes w1.heap.size q s m (bits .xor .i64 z s) _ _ _ _ _ w7 (HO6.out.quiet (HTq.out.same HT7.out)) hm hm2 (by rw [cutAt_length, idsN_length]; omega) hsl hbit (HVAL.out s hsl hbit))
                  clear hbit hdv
                  go_wp2_with fail
                  refine HG.out.mono ?_
                  rintro e w8 ⟨rfl, rfl⟩
                  go_wp2
                  go_round
                  case rel => exact ⟨s + 1, by omega, by go_num⟩
                  case measure => simp [intOf]; omega
              · obtain rfl : s = 16 := by omega
                go_wp2
                go_roundw
                case rel => exact ⟨q + 1, by omega, by go_num, HTq.out.same HT7.out⟩
                case measure => simp [intOf]; omega
        · obtain rfl : q = M := by omega
          have HRW := Lib.hid (trow_any w1.heap.size m row 1 _ _ _ _ _ wr (HO6.out.quiet HTq.out) HD6.out (nat_i64 (by omega)) i64_one)
          rw [rowV_none (ids_gone hrow)] at HRW
          go_wp2_with fail
          refine HRW.out.mono ?_
          rintro e w7 ⟨rfl, hT7⟩
          have HT7 := Lib.hid hT7
          clear hT7
          go_wp2
          go_ret
          exact ⟨rfl, (HT6.out.same HTq.out).same HT7.out⟩

set_option maxHeartbeats 1000000 in
set_option maxRecDepth 100000 in
theorem tableMoves_out (m n row : Int) (A : Option Addr) (len cap : Nat) (w : World) (h : n < 1 ∨ 30 < n ∨ row < 0 ∨ n ≤ row ∨ (len : Int) < n) :
    Calls Try.prog 5 #[.int .u16 m, .int .i64 n, .int .i64 row, .slice A len cap] w fun e w' => e = .returned (.bool true) ∧ Touch NoB w w' := by
  by_cases h1 : n < 1
  · clear h
    go_enter Try.func5, Try.ntmps5
    go_wp2_with fail
    refine (talive_any w).mono ?_
    rintro e w1 ⟨rfl, hT⟩
    have HT := Lib.hid hT
    clear hT
    go_wp2
    go_ret
    exact ⟨rfl, HT.out⟩
  by_cases h2 : 30 < n
  · clear h
    go_enter Try.func5, Try.ntmps5
    go_wp2_with fail
    refine (talive_any w).mono ?_
    rintro e w1 ⟨rfl, hT⟩
    have HT := Lib.hid hT
    clear hT
    go_wp2
    go_ret
    exact ⟨rfl, HT.out⟩
  by_cases h3 : row < 0
  · clear h
    go_enter Try.func5, Try.ntmps5
    go_wp2_with fail
    refine (talive_any w).mono ?_
    rintro e w1 ⟨rfl, hT⟩
    have HT := Lib.hid hT
    clear hT
    go_wp2
    go_ret
    exact ⟨rfl, HT.out⟩
  by_cases h4 : n ≤ row
  · clear h
    go_enter Try.func5, Try.ntmps5
    go_wp2_with fail
    refine (talive_any w).mono ?_
    rintro e w1 ⟨rfl, hT⟩
    have HT := Lib.hid hT
    clear hT
    go_wp2
    go_ret
    exact ⟨rfl, HT.out⟩
  have h5 : (len : Int) < n := by omega
  clear h
  go_enter Try.func5, Try.ntmps5
  go_wp2_with fail
  refine (talive_any w).mono ?_
  rintro e w1 ⟨rfl, hT⟩
  have HT := Lib.hid hT
  clear hT
  go_wp2
  go_ret
  exact ⟨rfl, HT.out⟩
end Go.Proofs.Ytmafhcfdamhejaa
