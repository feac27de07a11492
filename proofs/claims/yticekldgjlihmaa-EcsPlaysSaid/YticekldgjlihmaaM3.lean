/-
  What slices.Clone, table.Ids and table.Column return.
-/
import Derived.Test.YticekldgjlihmaaTd
import Derived.Test.YticekldgjlihmaaM2
namespace Go.Proofs.Yticekldgjlihmaa
open Go.ChangeShapes Go.WideShapes Go.ChangeAt Go.RowKit Go.Maps

/-- A new row of n elements. -/
def NewRow (w : World) (t : TypeId) (size n : Nat) (xs : List Value) (e : Ending) (w' : World) : Prop :=
  ∃ v, e = .returned v ∧ w'.ownsRow w.heap.size t size v n xs ∧ Touch NoB w w'

theorem eqlInts (a : Addr) (n c : Nat) (w : World) : (binOp .eql 55 (.slice (some a) n c) (.slice none 0 0)).run Try.prog w = .ok (.bool false) w := by kernel_rfl
theorem eqlIntsNil (w : World) : (binOp .eql 55 (.slice none 0 0) (.slice none 0 0)).run Try.prog w = .ok (.bool true) w := by kernel_rfl
theorem eqlIds (a : Addr) (n c : Nat) (w : World) : (binOp .eql 28 (.slice (some a) n c) (.slice none 0 0)).run Try.prog w = .ok (.bool false) w := by kernel_rfl
theorem eqlIdsNil (w : World) : (binOp .eql 28 (.slice none 0 0) (.slice none 0 0)).run Try.prog w = .ok (.bool true) w := by kernel_rfl

/-- The slice of no elements that Clone begins with. -/
theorem own_empty (w : World) (t : TypeId) (size : Nat) : (w.alloc (.cells #[] t)).ownsRow w.heap.size t size (.slice (some ⟨w.heap.size, 0, none⟩) 0 0) 0 [] :=
  ⟨by simp, .inr ⟨w.heap.size, 0, #[], rfl, Nat.le_refl _, alloc_blk w _ _ rfl, Nat.le_refl _, by unfold maxLen; omega, by simp, by simp⟩⟩
theorem row_oneCell {t : TypeId} {size n : Nat} {v : Value} {w : World} {base : Nat} {xs : List Value} (h : w.ownsRow base t size v n xs) {g cap : Nat} (hv : v = .slice (some ⟨g, 0, none⟩) n cap) : ∀ j u, xs[j]? = some u → w.cell? ((⟨g, 0, none⟩ : Addr).add j) = some u := by
  intro j u hj
  subst hv
  have hjl := (List.getElem?_eq_some_iff.1 hj).1
  have hl := h.1
  rw [add_plain]
  rw [Nat.zero_add, h.cellAt j (by omega), hj]

set_option maxHeartbeats 1000000 in
theorem clone_ids (v : Value) (base : Nat) (l : List (Int × Int)) (w : World) (h : w.ownsRow base 30 2 v l.length (idc l)) (hl : l.length ≤ 1000000) :
    Calls Try.prog 68 #[v] w (NewRow w 30 2 l.length (idc l)) := by
  obtain ⟨i0, hi, hz0, hz1, hz2⟩ := info_parts info_id
  rcases h.2 with ⟨rfl, h0⟩ | ⟨g, cap, cur, hv, hb, hg, hc1, hc2, _, _⟩
  · have e : l = [] := List.eq_nil_of_length_eq_zero h0
    subst e
    have heq := eqlIdsNil
    clear h h0 hl
    go_enter Try.func68, Try.ntmps68
    go_wp2
    go_ret
    exact ⟨_, rfl, World.ownsRow_nil _ _ _ _, Touch.refl _ _⟩
  · have hnews := row_oneCell h hv
    have hgl := blk_lt hg
    subst hv
    have heq := eqlIds ⟨g, 0, none⟩ l.length cap
    have hone : ∀ u ∈ idc l, u.oneCell' = true := by
      intro u hu
      simp only [idc, List.mem_flatMap] at hu
      obtain ⟨a, _, hu⟩ := hu
      simp at hu
      rcases hu with rfl | rfl <;> rfl
    have HNW := Lib.hid hnews
    have HON := Lib.hid hone
    have hlen : (idc l).length = l.length * 2 := idc_length l
    have HLN := Lib.hid hlen
    unfold maxLen at hc2
    clear h hnews hone hlen hg
    obtain ⟨N, hN⟩ : ∃ N, l.length = N := ⟨_, rfl⟩
    rw [hN] at hl heq hc1 HLN
    rw [hN]
    have HN := Lib.hid hN
    clear hN
    by_cases h0 : 0 < N
    · go_enter Try.func68, Try.ntmps68
      go_wp2_with (at_builtin; refine wpList_append_own_at _ rfl (.tmp 5) (.tmp 6) 28 rfl w.heap.size 30 i0 _ 2 16 Try.underlying28 hi hz0 hz1 hz2 rfl (by decide) (.slice (some ⟨w.heap.size, 0, none⟩) 0 0) 0 [] rfl ?o1 ⟨g, 0, none⟩ N cap (idc l) rfl HLN.out ?c1 HON.out ?c3 ?c4 ?c5 ?go)
      case o1 => exact own_empty w _ _
      case c1 =>
        intro j u hj
        rw [add_plain]
        have := HNW.out j u hj
        rw [add_plain] at this
        exact (((Touch.refl NoB w).alloc _).cell (p := ⟨g, 0 + j, none⟩) hgl (fun e => e)).trans this
      case c3 => unfold maxLen; omega
      case c4 => omega
      case c5 => simp
      case go =>
      intro v1 w1 hown hgrow _ hat
      have hob : ∀ k, (Value.slice (some ⟨w.heap.size, 0, none⟩) 0 0).ownBlock = some k → w.heap.size ≤ k := by
        intro k e
        have e2 : w.heap.size = k := by simpa [Value.ownBlock] using e
        omega
      have hT : Touch NoB w w1 := ((Touch.refl NoB w).alloc _).grown hgrow (fun k e => .inr (hob k e))
      have HP : Hid (NewRow w 30 2 N (idc l) (.returned v1) w1) := ⟨_, rfl, hown, hT⟩
      clear hown hgrow hat hT hob
      go_wp2
      go_ret
      exact HP.out
    · obtain rfl : N = 0 := by omega
      have e : l = [] := List.eq_nil_of_length_eq_zero HN.out
      subst e
      go_enter Try.func68, Try.ntmps68
      go_wp2
      go_ret
      exact ⟨_, rfl, own_empty w _ _, (Touch.refl _ _).alloc _⟩

set_option maxHeartbeats 1000000 in
theorem tids_any (g : Nat) (m : Int) (ids : List (Int × Int)) (cf : Nat → List Int) (D : DataW Unit) (n : Nat) (F : Nat → Prop) (w : World) (h : TO w F g m ids cf D n) (hl : ids.length ≤ 1000000) :
    Calls Try.prog 55 #[.pointer (some ⟨g, 0, none⟩)] w (NewRow w 30 2 ids.length (idc ids)) := by
  obtain ⟨vi, vm, vc, cs, hT⟩ := h
  have HC := Lib.hid (clone_ids vi 0 ids w hT.ri hl)
  have k1 := hT.at1
  clear hT
  go_enter Try.func55, Try.ntmps55
  go_wp2_with fail
  refine HC.out.mono ?_
  rintro e w1 ⟨v, rfl, hown, hT⟩
  have HP : Hid (NewRow w 30 2 ids.length (idc ids) (.returned v) w1) := ⟨_, rfl, hown, hT⟩
  clear hown hT
  go_wp2
  go_ret
  exact HP.out

/-- The values of column c, or none. -/
def columnI (m : Int) (cf : Nat → List Int) (c : Int) : List Int := if colB m c = true then cf c.toNat else []

end Go.Proofs.Yticekldgjlihmaa

/-
  Plain words for a row that goes: the last takes its place. No program is named here.
-/
namespace Go.Proofs.Yticekldgjlihmaa

/-- The last takes the place of the r-th. -/
def cutAt {α : Type} (d : α) (l : List α) (r : Nat) : List α := (l.set r (l.getD (l.length - 1) d)).take (l.length - 1)
theorem cutAt_length {α : Type} (d : α) (l : List α) (r : Nat) : (cutAt d l r).length = l.length - 1 := by simp [cutAt]
/-- The first k columns have lost row r. -/
def remCol (m : Int) (cf : Nat → List Int) (r k : Nat) : Nat → List Int := fun c => if c < k ∧ bitB m c = true then cutAt 0 (cf c) r else cf c
theorem remCol_zero (m : Int) (cf : Nat → List Int) (r : Nat) : remCol m cf r 0 = cf := by funext c; simp [remCol]
theorem remCol_at {m : Int} {cf : Nat → List Int} {r : Nat} (k : Nat) : remCol m cf r k k = cf k := by simp [remCol]
theorem remCol_yes {m : Int} {cf : Nat → List Int} {r k : Nat} (h : bitB m k = true) : colSet (remCol m cf r k) k (cutAt 0 (cf k) r) = remCol m cf r (k + 1) := by
  funext c
  by_cases e : c = k
  · subst e
    rw [colSet_same]
    simp [remCol, h]
  · rw [colSet_other _ e]
    unfold remCol
    have : (c < k ∧ bitB m c = true) ↔ (c < k + 1 ∧ bitB m c = true) := by
      constructor
      · rintro ⟨a, b⟩; exact ⟨by omega, b⟩
      · rintro ⟨a, b⟩; exact ⟨by omega, b⟩
    simp only [this]
theorem remCol_no {m : Int} {cf : Nat → List Int} {r k : Nat} (h : bitB m k = false) : remCol m cf r (k + 1) = remCol m cf r k := by
  funext c
  unfold remCol
  by_cases e : c = k
  · subst e
    simp [h]
  · have : (c < k + 1 ∧ bitB m c = true) ↔ (c < k ∧ bitB m c = true) := by
      constructor
      · rintro ⟨a, b⟩; exact ⟨by omega, b⟩
      · rintro ⟨a, b⟩; exact ⟨by omega, b⟩
    simp only [this]
/-- The cells of row r, of the first k columns. -/
def outI (m : Int) (cf : Nat → List Int) (r k : Nat) : List (Int × Int) := ((List.range k).filter (bitB m)).map (fun (c : Nat) => ((c : Int), (cf c).getD r 0))
theorem outI_yes {m : Int} {cf : Nat → List Int} {r k : Nat} (h : bitB m k = true) : outI m cf r (k + 1) = outI m cf r k ++ [((k : Int), (cf k).getD r 0)] := by
  simp [outI, List.range_succ, List.filter_append, h]
theorem outI_no {m : Int} {cf : Nat → List Int} {r k : Nat} (h : bitB m k = false) : outI m cf r (k + 1) = outI m cf r k := by
  simp [outI, List.range_succ, List.filter_append, h]
theorem outI_length (m : Int) (cf : Nat → List Int) (r k : Nat) : (outI m cf r k).length ≤ k := by
  unfold outI
  rw [List.length_map]
  have := List.length_filter_le (bitB m) (List.range k)
  simpa using this
end Go.Proofs.Yticekldgjlihmaa
