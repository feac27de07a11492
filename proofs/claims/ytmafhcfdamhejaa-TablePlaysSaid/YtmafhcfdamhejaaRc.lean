/-
  The document's own Table: what Ids and Column return; SameCells and SameInts.
-/
import Derived.Test.YtmafhcfdamhejaaRb
namespace Go.Proofs.Ytmafhcfdamhejaa
open Go.ChangeShapes Go.WideShapes Go.ChangeAt Go.RowKit Go.Maps

/-- Two rows of cells that hold the same. -/
theorem same_cells (A1 A2 : Option Addr) (c1 c2 : Nat) (B1 B2 : Nat) (l : List (Int × Int)) (w : World) (h1 : w.ownsRow B1 66 2 (.slice A1 l.length c1) l.length (idc l)) (h2 : w.ownsRow B2 66 2 (.slice A2 l.length c2) l.length (idc l)) (hl : l.length ≤ 100000) :
    Calls Try.prog 27 #[.slice A1 l.length c1, .slice A2 l.length c2] w fun e w' => e = .returned (.bool true) ∧ Touch NoB w w' := by
  have H1 := Lib.hid h1
  have H2 := Lib.hid h2
  clear h1 h2
  obtain ⟨L, hL⟩ : ∃ L, l.length = L := ⟨_, rfl⟩
  rw [hL] at hl H1 H2
  rw [hL]
  have HL := Lib.hid hL
  clear hL
  have d0 : ((L : Int) != (L : Int)) = false := by simp
  go_enter Try.func27, Try.ntmps27
  go_wp2
  go_loopw [5] (fun j wq => DrawRel w L j wq) (fun j _ => L - (intOf j).toNat)
  case atStart => exact ⟨0, 0, Nat.zero_le _, rfl, rfl⟩
  case round =>
    obtain ⟨q, c, hc, rfl, rfl⟩ := hrel
    by_cases hcl : c < L
    · obtain ⟨g1, cp, hv, _, _, hob⟩ := row_form H1.out (by omega)
      injection hv with hv1 hv2 hv3
      subst hv1
      clear hv2 hv3
      obtain ⟨g2, cp2, hv, _, _, hob2⟩ := row_form H2.out (by omega)
      injection hv with hv1 hv2 hv3
      subst hv1
      clear hv2 hv3
      obtain ⟨i2, x2, hix⟩ : ∃ i2 x2, l[c]? = some (i2, x2) := ⟨_, _, List.getElem?_eq_getElem (by have := HL.out; omega)⟩
      have b0 : w.cell? ⟨g1, c * 2, none⟩ = some (.int .i64 i2) := by rw [H1.out.cellAt (c * 2) (by omega), idc_at0, hix]; rfl
      have b1 : w.cell? ⟨g1, c * 2 + 1, none⟩ = some (.int .i64 x2) := by rw [H1.out.cellAt (c * 2 + 1) (by omega), idc_at1, hix]; rfl
      have b2 : w.cell? ⟨g2, c * 2, none⟩ = some (.int .i64 i2) := by rw [H2.out.cellAt (c * 2) (by omega), idc_at0, hix]; rfl
      have b3 : w.cell? ⟨g2, c * 2 + 1, none⟩ = some (.int .i64 x2) := by rw [H2.out.cellAt (c * 2 + 1) (by omega), idc_at1, hix]; rfl
      clear hob hob2 hix
      go_wp2
      go_quiet (fail)
      go_wp2
      go_roundw
      case rel => exact ⟨_, c + 1, by omega, by go_num, rfl⟩
      case measure => simp [intOf]; omega
    · obtain rfl : c = L := by omega
      go_wp2
      go_ret
      exact ⟨rfl, (Touch.refl _ _).drewN _⟩

/-- Two rows of ints that hold the same. -/
theorem same_ints (A1 A2 : Option Addr) (c1 c2 : Nat) (B1 B2 : Nat) (l : List Int) (w : World) (h1 : w.ownsRow B1 3 1 (.slice A1 l.length c1) l.length (ic l)) (h2 : w.ownsRow B2 3 1 (.slice A2 l.length c2) l.length (ic l)) (hl : l.length ≤ 100000) :
    Calls Try.prog 34 #[.slice A1 l.length c1, .slice A2 l.length c2] w fun e w' => e = .returned (.bool true) ∧ Touch NoB w w' := by
  have H1 := Lib.hid h1
  have H2 := Lib.hid h2
  clear h1 h2
  obtain ⟨L, hL⟩ : ∃ L, l.length = L := ⟨_, rfl⟩
  rw [hL] at hl H1 H2
  rw [hL]
  have HL := Lib.hid hL
  clear hL
  have d0 : ((L : Int) != (L : Int)) = false := by simp
  go_enter Try.func34, Try.ntmps34
  go_wp2
  go_loopw [5] (fun j wq => DrawRel w L j wq) (fun j _ => L - (intOf j).toNat)
  case atStart => exact ⟨0, 0, Nat.zero_le _, rfl, rfl⟩
  case round =>
    obtain ⟨q, c, hc, rfl, rfl⟩ := hrel
    by_cases hcl : c < L
    · obtain ⟨g1, cp, hv, _, _, hob⟩ := row_form H1.out (by omega)
      injection hv with hv1 hv2 hv3
      subst hv1
      clear hv2 hv3
      obtain ⟨g2, cp2, hv, _, _, hob2⟩ := row_form H2.out (by omega)
      injection hv with hv1 hv2 hv3
      subst hv1
      clear hv2 hv3
      obtain ⟨i2, hix⟩ : ∃ i2, l[c]? = some i2 := ⟨_, List.getElem?_eq_getElem (by have := HL.out; omega)⟩
      have b0 : w.cell? ⟨g1, c, none⟩ = some (.int .i64 i2) := by rw [H1.out.cellAt c (by omega), ic_at, hix]; rfl
      have b2 : w.cell? ⟨g2, c, none⟩ = some (.int .i64 i2) := by rw [H2.out.cellAt c (by omega), ic_at, hix]; rfl
      have f1 : (i2 != i2) = false := by simp
      clear hob hob2 hix
      go_wp2
      go_quiet (fail)
      go_wp2
      go_roundw
      case rel => exact ⟨_, c + 1, by omega, by go_num, rfl⟩
      case measure => simp [intOf]; omega
    · obtain rfl : c = L := by omega
      go_wp2
      go_ret
      exact ⟨rfl, (Touch.refl _ _).drewN _⟩

/-- What holds at the head of the loop of Ids. -/
def RIdsRel (w : World) (l : List Rw) (v i : Value) (wr : World) : Prop :=
  ∃ k : Nat, k ≤ l.length ∧ i = .int .i64 k ∧ wr.ownsRow w.heap.size 30 2 v k (idc ((l.take k).map Prod.fst)) ∧ Touch NoB w wr
/-- .. of Column. -/
def RColRel (w : World) (l : List Rw) (c : Nat) (v i : Value) (wr : World) : Prop :=
  ∃ k : Nat, k ≤ l.length ∧ i = .int .i64 k ∧ wr.ownsRow w.heap.size 3 1 v k (ic ((l.take k).map (fun p => p.2 c))) ∧ Touch NoB w wr

theorem take_map {β : Type} (f : Rw → β) {l : List Rw} {k : Nat} {p : Rw} (h : l[k]? = some p) : (l.take (k + 1)).map f = (l.take k).map f ++ [f p] := by
  rw [List.take_succ_eq_append_getElem (List.getElem?_eq_some_iff.1 h).1, List.map_append, (List.getElem?_eq_some_iff.1 h).2]
  rfl

set_option maxHeartbeats 2000000 in
theorem rtids_any (g : Nat) (m : Int) (l : List Rw) (F : Nat → Prop) (w : World) (h : RT w F g m l) (hl : l.length ≤ 1000000) :
    Calls Try.prog 33 #[.pointer (some ⟨g, 0, none⟩)] w (NewRow w 30 2 l.length (idc (l.map Prod.fst))) := by
  obtain ⟨v, hg, hr, _, _⟩ := h
  obtain ⟨A, cap, rfl, h1, h2⟩ := row_any hr
  unfold maxLen at h2
  have HG := Lib.hid hg
  have HR := Lib.hid hr
  clear hg hr
  obtain ⟨i0, hi, hz0, hz1, hz2⟩ := info_parts info_id
  obtain ⟨L, hL⟩ : ∃ L, l.length = L := ⟨_, rfl⟩
  rw [hL] at h1 HR HG hl
  rw [hL]
  have HL := Lib.hid hL
  clear hL
  go_enter Try.func33, Try.ntmps33
  go_wp2
  go_loopw [3, 4] (fun v i wr => RIdsRel w l v i wr) (fun _ i _ => L - (intOf i).toNat)
  case atStart => exact ⟨0, Nat.zero_le _, rfl, World.ownsRow_nil _ _ _ _, Touch.refl _ _⟩
  case round =>
    obtain ⟨k, hk, rfl, ho, hT⟩ := hrel
    rw [HL.out] at hk
    have hg1 := (hT.block g (blk_lt HG.out) (fun e => e)).trans HG.out
    have k1 : wr.cell? ⟨g, 1, none⟩ = some (.slice A L cap) := cell_blk hg1 1
    have hgl := blk_lt hg1
    have hs := hT.size
    clear hg1
    by_cases hlt : k < L
    · obtain ⟨gl, cp, hv, _, _, hob⟩ := row_form HR.out (by omega)
      injection hv with hv1 hv2 hv3
      subst hv1
      clear hv2 hv3
      obtain ⟨p, hp⟩ : ∃ p, l[k]? = some p := ⟨_, List.getElem?_eq_getElem (by have := HL.out; omega)⟩
      obtain ⟨⟨i2, x2⟩, f⟩ := p
      have hr2 := row_touch HR.out hT (fun _ _ e => e)
      have e0 : wr.cell? ⟨gl, k * 18, none⟩ = some (.int .i64 i2) := by rw [hr2.cellAt (k * 18) (by omega), rowc_0 hp]
      have e1 : wr.cell? ⟨gl, k * 18 + 1, none⟩ = some (.int .i64 x2) := by rw [hr2.cellAt (k * 18 + 1) (by omega), rowc_1 hp]
      have htk := take_map Prod.fst hp
      obtain ⟨lk, hlk⟩ : ∃ lk, (l.take k).map Prod.fst = lk := ⟨_, rfl⟩
      rw [hlk] at htk ho
      have HTK := Lib.hid htk
      have hgll := row_lt hr2 hob
      obtain ⟨A5, cap5, rfl, hc5, hc6⟩ := row_any ho
      unfold maxLen at hc6
      have HO := Lib.hid ho
      have HT := Lib.hid hT
      clear hob hp htk hr2 ho hT hlk
      go_wp2_with (at_builtin; refine wpList_append_own_at _ rfl (.tmp 14) (.tmp 23) 28 rfl w.heap.size 30 i0 _ 2 16 Try.underlying28 hi hz0 hz1 hz2 rfl (by decide) (.slice A5 k cap5) k (idc lk) rfl ?o1 ⟨wr.heap.size, 0, none⟩ 1 1 [.int .i64 i2, .int .i64 x2] rfl rfl ?c1 ?c2 ?c3 ?c4 ?c5 ?go)
      case o1 => exact HO.out.alloc _
      case c2 => exact ⟨rfl, rfl⟩
      case c3 => unfold maxLen; omega
      case c4 => omega
      case c5 => omega
      case go =>
      intro v5 wx hown hgrow _ _
      have hTx : Touch NoB w wx := (HT.out.alloc _).grown hgrow (fun q e => .inr (HO.out.lt q e).1)
      have HN : Hid (RIdsRel w l v5 (.int .i64 ((k + 1 : Nat) : Int)) wx) := ⟨k + 1, by rw [HL.out]; omega, rfl, by rw [HTK.out, idc_snoc]; exact hown, hTx⟩
      clear hown hgrow hTx HO HT
      go_wp2
      go_roundw
      case rel => exact HN.out
      case measure => simp [intOf]; omega
    · obtain rfl : k = L := by omega
      rw [List.take_of_length_le (by have := HL.out; omega)] at ho
      have HP : Hid (NewRow w 30 2 k (idc (l.map Prod.fst)) (.returned u3) wr) := ⟨_, rfl, ho, hT⟩
      clear ho hT
      go_wp2
      go_ret
      exact HP.out

/-- The values of component c in the rows. -/
def colR (m : Int) (l : List Rw) (c : Int) : List Int := if colB m c = true then l.map (fun p => p.2 c.toNat) else []

set_option maxHeartbeats 2000000 in
theorem rtcol_any (g : Nat) (m c : Int) (l : List Rw) (F : Nat → Prop) (w : World) (h : RT w F g m l) (hl : l.length ≤ 1000000) (hm : 0 ≤ m) (hm2 : m < 65536) :
    Calls Try.prog 36 #[.pointer (some ⟨g, 0, none⟩), .int .i64 c] w (NewRow w 3 1 (colR m l c).length (ic (colR m l c))) := by
  obtain ⟨v, hg, hr, _, _⟩ := h
  obtain ⟨A, cap, rfl, h1, h2⟩ := row_any hr
  unfold maxLen at h2
  have HG := Lib.hid hg
  have HR := Lib.hid hr
  have k0 : w.cell? ⟨g, 0, none⟩ = some (.int .u16 m) := cell_blk hg 0
  have k1 : w.cell? ⟨g, 1, none⟩ = some (.slice A l.length cap) := cell_blk hg 1
  have hgl0 := blk_lt hg
  clear hg hr
  obtain ⟨i0, hi, hz0, hz1, hz2⟩ := info_parts info_int
  obtain ⟨L, hL⟩ : ∃ L, l.length = L := ⟨_, rfl⟩
  rw [hL] at h1 HR HG hl k1
  have HL := Lib.hid hL
  clear hL
  cases hcol : colB m c
  · have e1 : colR m l c = [] := by unfold colR; rw [hcol]; rfl
    rw [e1]
    have HC := Lib.hid (rthas_any g m c w hm hm2 k0)
    rw [hcol] at HC
    clear e1 hcol HG k0
    by_cases h0 : 0 < L
    · go_enter Try.func36, Try.ntmps36
      go_wp2
      go_loopw [5, 6] (fun v i wr => v = .slice none 0 0 ∧ i = .int .i64 0 ∧ wr = w) (fun _ _ _ => 0)
      case atStart => exact ⟨rfl, rfl, rfl⟩
      case round =>
        obtain ⟨rfl, rfl, rfl⟩ := hrel
        go_wp2_with fail
        refine HC.out.mono ?_
        rintro e w' ⟨rfl, rfl⟩
        go_wp2
        go_ret
        exact ⟨_, rfl, World.ownsRow_nil _ _ _ _, Touch.refl _ _⟩
    · obtain rfl : L = 0 := by omega
      go_enter Try.func36, Try.ntmps36
      go_wp2
      go_loopw [5, 6] (fun v i wr => v = .slice none 0 0 ∧ i = .int .i64 0 ∧ wr = w) (fun _ _ _ => 0)
      case atStart => exact ⟨rfl, rfl, rfl⟩
      case round =>
        obtain ⟨rfl, rfl, rfl⟩ := hrel
        go_wp2
        go_ret
        exact ⟨_, rfl, World.ownsRow_nil _ _ _ _, Touch.refl _ _⟩
  · obtain ⟨n, rfl, hn, hb⟩ := colB_true hcol
    have e1 : colR m l (n : Int) = l.map (fun p => p.2 n) := by unfold colR; rw [hcol]; rfl
    rw [e1, List.length_map, HL.out]
    have HCOL := Lib.hid hcol
    clear e1 hcol hb k1 k0
    go_enter Try.func36, Try.ntmps36
    go_wp2
    go_loopw [5, 6] (fun v i wr => RColRel w l n v i wr) (fun _ i _ => L - (intOf i).toNat)
    case atStart => exact ⟨0, Nat.zero_le _, rfl, World.ownsRow_nil _ _ _ _, Touch.refl _ _⟩
    case round =>
      obtain ⟨k, hk, rfl, ho, hT⟩ := hrel
      rw [HL.out] at hk
      have hg1 := (hT.block g hgl0 (fun e => e)).trans HG.out
      have k0 : wr.cell? ⟨g, 0, none⟩ = some (.int .u16 m) := cell_blk hg1 0
      have k1 : wr.cell? ⟨g, 1, none⟩ = some (.slice A L cap) := cell_blk hg1 1
      have HC := Lib.hid (rthas_any g m n wr hm hm2 k0)
      rw [HCOL.out] at HC
      have hgl := blk_lt hg1
      have hs := hT.size
      clear hg1 k0
      by_cases hlt : k < L
      · obtain ⟨gl, cp, hv, _, _, hob⟩ := row_form HR.out (by omega)
        injection hv with hv1 hv2 hv3
        subst hv1
        clear hv2 hv3
        obtain ⟨p, hp⟩ : ∃ p, l[k]? = some p := ⟨_, List.getElem?_eq_getElem (by have := HL.out; omega)⟩
        have hr2 := row_touch HR.out hT (fun _ _ e => e)
        have e0 : wr.cell? ⟨gl, k * 18 + 2 + n, none⟩ = some (.int .i64 (p.2 n)) := by rw [hr2.cellAt (k * 18 + 2 + n) (by omega), rowc_val hp hn]
        have htk := take_map (fun p => p.2 n) hp
        obtain ⟨lk, hlk⟩ : ∃ lk, (l.take k).map (fun p => p.2 n) = lk := ⟨_, rfl⟩
        rw [hlk] at htk ho
        have HTK := Lib.hid htk
        have hgll := row_lt hr2 hob
        obtain ⟨z, hz⟩ : ∃ z, p.2 n = z := ⟨_, rfl⟩
        rw [hz] at e0
        have HZ := Lib.hid hz
        obtain ⟨A5, cap5, rfl, hc5, hc6⟩ := row_any ho
        unfold maxLen at hc6
        have HO := Lib.hid ho
        have HT := Lib.hid hT
        clear hob hp htk hr2 ho hT hz hlk
        go_wp2_with fail
        refine HC.out.mono ?_
        rintro e w' ⟨rfl, rfl⟩
        go_wp2_with (at_builtin; refine wpList_append_own_at _ rfl (.tmp 21) (.tmp 32) 62 rfl w.heap.size 3 i0 _ 1 8 Try.underlying62 hi hz0 hz1 hz2 rfl (by decide) (.slice A5 k cap5) k (ic lk) rfl ?o1 ⟨wr.heap.size, 0, none⟩ 1 1 [.int .i64 z] rfl rfl ?c1 ?c2 ?c3 ?c4 ?c5 ?go)
        case o1 => exact HO.out.alloc _
        case c1 => exact World.news_of_block (cs := #[.int .i64 z]) (alloc_blk wr _ 3 rfl)
        case c2 => intro u hu; simp at hu; subst hu; rfl
        case c3 => unfold maxLen; omega
        case c4 => omega
        case c5 => simp; omega
        case go =>
        intro v5 wx hown hgrow _ _
        have hTx : Touch NoB w wx := (HT.out.alloc _).grown hgrow (fun q e => .inr (HO.out.lt q e).1)
        have HN : Hid (RColRel w l n v5 (.int .i64 ((k + 1 : Nat) : Int)) wx) := ⟨k + 1, by rw [HL.out]; omega, rfl, by rw [HTK.out, HZ.out]; simpa [ic] using hown, hTx⟩
        clear hown hgrow hTx HO HT
        go_wp2
        go_roundw
        case rel => exact HN.out
        case measure => simp [intOf]; omega
      · obtain rfl : k = L := by omega
        rw [List.take_of_length_le (by have := HL.out; omega)] at ho
        have HP : Hid (NewRow w 3 1 k (ic (l.map (fun p => p.2 n))) (.returned u5) wr) := ⟨_, rfl, ho, hT⟩
        clear ho hT
        go_wp2
        go_ret
        exact HP.out
end Go.Proofs.Ytmafhcfdamhejaa
