/-
  The document's own Table: what Ids and Column return; SameCells and SameInts.
-/
import Derived.Test.YticekldgjlihmaaRb
namespace Go.Proofs.Yticekldgjlihmaa
open Go.ChangeShapes Go.WideShapes Go.ChangeAt Go.RowKit Go.Maps

/-- What holds at the head of the loop of Ids. -/
def RIdsRel (w : World) (l : List Rw) (v i : Value) (wr : World) : Prop :=
  ∃ k : Nat, k ≤ l.length ∧ i = .int .i64 k ∧ wr.ownsRow w.heap.size 30 2 v k (idc ((l.take k).map Prod.fst)) ∧ Touch NoB w wr
/-- .. of Column. -/
def RColRel (w : World) (l : List Rw) (c : Nat) (v i : Value) (wr : World) : Prop :=
  ∃ k : Nat, k ≤ l.length ∧ i = .int .i64 k ∧ wr.ownsRow w.heap.size 3 1 v k (ic ((l.take k).map (fun p => p.2 c))) ∧ Touch NoB w wr

theorem take_map {β : Type} (f : Rw → β) {l : List Rw} {k : Nat} {p : Rw} (h : l[k]? = some p) : (l.take (k + 1)).map f = (l.take k).map f ++ [f p] := by
  rw [List.take_succ_eq_append_getElem (List.getElem?_eq_some_iff.1 h).1, List.map_append, (List.getElem?_eq_some_iff.1 h).2]
  rfl

set_option maxHeartbeats 2000000 in
theorem rtids_any (g : Nat) (m : Int) (l : List Rw) (F : Nat → Prop) (w : World) (h : RT w F g m l) (hl : l.length ≤ 1000000) :
    Calls Try.prog 67 #[.pointer (some ⟨g, 0, none⟩)] w (NewRow w 30 2 l.length (idc (l.map Prod.fst))) := by
  obtain ⟨v, hg, hr, _, _⟩ := h
  obtain ⟨A, cap, rfl, h1, h2⟩ := row_any hr
  unfold maxLen at h2
  have HG := Lib.hid hg
  have HR := Lib.hid hr
  clear hg hr
  obtain ⟨i0, hi, hz0, hz1, hz2⟩ := info_parts info_id
  obtain ⟨L, hL⟩ : ∃ L, l.length = L := ⟨_, rfl⟩
  rw [hL] at h1 HR HG hl
  rw [hL]
  have HL := Lib.hid hL
  clear hL
  go_enter Try.func67, Try.ntmps67
  go_wp2
  go_loopw [3, 4] (fun v i wr => RIdsRel w l v i wr) (fun _ i _ => L - (intOf i).toNat)
  case atStart => exact ⟨0, Nat.zero_le _, rfl, World.ownsRow_nil _ _ _ _, Touch.refl _ _⟩
  case round =>
    obtain ⟨k, hk, rfl, ho, hT⟩ := hrel
    rw [HL.out] at hk
    have hg1 := (hT.block g (blk_lt HG.out) (fun e => e)).trans HG.out
    have k1 : wr.cell? ⟨g, 1, none⟩ = some (.slice A L cap) := cell_blk hg1 1
    have hgl := blk_lt hg1
    have hs := hT.size
    clear hg1
    by_cases hlt : k < L
    · obtain ⟨gl, cp, hv, _, _, hob⟩ := row_form HR.out (by omega)
      injection hv with hv1 hv2 hv3
      subst hv1
      clear hv2 hv3
      obtain ⟨p, hp⟩ : ∃ p, l[k]? = some p := ⟨_, List.getElem?_eq_getElem (by have := HL.out; omega)⟩
      obtain ⟨⟨i2, x2⟩, f⟩ := p
      have hr2 := row_touch HR.out hT (fun _ _ e => e)
      have e0 : wr.cell? ⟨gl, k * 18, none⟩ = some (.int .i64 i2) := by rw [hr2.cellAt (k * 18) (by omega), rowc_0 hp]
      have e1 : wr.cell? ⟨gl, k * 18 + 1, none⟩ = some (.int .i64 x2) := by rw [hr2.cellAt (k * 18 + 1) (by omega), rowc_1 hp]
      have htk := take_map Prod.fst hp
      obtain ⟨lk, hlk⟩ : ∃ lk, (l.take k).map Prod.fst = lk := ⟨_, rfl⟩
      rw [hlk] at htk ho
      have HTK := Lib.hid htk
      have hgll := row_lt hr2 hob
      obtain ⟨A5, cap5, rfl, hc5, hc6⟩ := row_any ho
      unfold maxLen at hc6
      have HO := Lib.hid ho
      have HT := Lib.hid hT
      clear hob hp htk hr2 ho hT hlk
      go_wp2_with (at_builtin; refine wpList_append_own_at _ rfl (.tmp 14) (.tmp 23) 28 rfl w.heap.size 30 i0 _ 2 16 Try.underlying28 hi hz0 hz1 hz2 rfl (by decide) (.slice A5 k cap5) k (idc lk) rfl ?o1 ⟨wr.heap.size, 0, none⟩ 1 1 [.int .i64 i2, .int .i64 x2] rfl rfl ?c1 ?c2 ?c3 ?c4 ?c5 ?go)
      case o1 => exact HO.out.alloc _
      case c2 => exact ⟨rfl, rfl⟩
      case c3 => unfold maxLen; omega
      case c4 => omega
      case c5 => omega
      case go =>
      intro v5 wx hown hgrow _ _
      have hTx : Touch NoB w wx := (HT.out.alloc _).grown hgrow (fun q e => .inr (HO.out.lt q e).1)
      have HN : Hid (RIdsRel w l v5 (.int .i64 ((k + 1 : Nat) : Int)) wx) := ⟨k + 1, by rw [HL.out]; omega, rfl, by rw [HTK.out, idc_snoc]; exact hown, hTx⟩
      clear hown hgrow hTx HO HT
      go_wp2
      go_roundw
      case rel => exact HN.out
      case measure => simp [intOf]; omega
    · obtain rfl : k = L := by omega
      rw [List.take_of_length_le (by have := HL.out; omega)] at ho
      have HP : Hid (NewRow w 30 2 k (idc (l.map Prod.fst)) (.returned u3) wr) := ⟨_, rfl, ho, hT⟩
      clear ho hT
      go_wp2
      go_ret
      exact HP.out

/-- The values of component c in the rows. -/
def colR (m : Int) (l : List Rw) (c : Int) : List Int := if colB m c = true then l.map (fun p => p.2 c.toNat) else []

end Go.Proofs.Yticekldgjlihmaa
