/-
  What slices.Clone, table.Ids and table.Column return.
-/
import Derived.Test.YtmafhcfdamhejaaTd
namespace Go.Proofs.Ytmafhcfdamhejaa
open Go.ChangeShapes Go.WideShapes Go.ChangeAt Go.RowKit Go.Maps

/-- A new row of n elements. -/
def NewRow (w : World) (t : TypeId) (size n : Nat) (xs : List Value) (e : Ending) (w' : World) : Prop :=
  ∃ v, e = .returned v ∧ w'.ownsRow w.heap.size t size v n xs ∧ Touch NoB w w'

theorem eqlInts (a : Addr) (n c : Nat) (w : World) : (binOp .eql 62 (.slice (some a) n c) (.slice none 0 0)).run Try.prog w = .ok (.bool false) w := by kernel_rfl
theorem eqlIntsNil (w : World) : (binOp .eql 62 (.slice none 0 0) (.slice none 0 0)).run Try.prog w = .ok (.bool true) w := by kernel_rfl
theorem eqlIds (a : Addr) (n c : Nat) (w : World) : (binOp .eql 28 (.slice (some a) n c) (.slice none 0 0)).run Try.prog w = .ok (.bool false) w := by kernel_rfl
theorem eqlIdsNil (w : World) : (binOp .eql 28 (.slice none 0 0) (.slice none 0 0)).run Try.prog w = .ok (.bool true) w := by kernel_rfl

/-- The slice of no elements that Clone begins with. -/
theorem own_empty (w : World) (t : TypeId) (size : Nat) : (w.alloc (.cells #[] t)).ownsRow w.heap.size t size (.slice (some ⟨w.heap.size, 0, none⟩) 0 0) 0 [] :=
  ⟨by simp, .inr ⟨w.heap.size, 0, #[], rfl, Nat.le_refl _, alloc_blk w _ _ rfl, Nat.le_refl _, by unfold maxLen; omega, by simp, by simp⟩⟩
theorem row_oneCell {t : TypeId} {size n : Nat} {v : Value} {w : World} {base : Nat} {xs : List Value} (h : w.ownsRow base t size v n xs) {g cap : Nat} (hv : v = .slice (some ⟨g, 0, none⟩) n cap) : ∀ j u, xs[j]? = some u → w.cell? ((⟨g, 0, none⟩ : Addr).add j) = some u := by
  intro j u hj
  subst hv
  have hjl := (List.getElem?_eq_some_iff.1 hj).1
  have hl := h.1
  rw [add_plain]
  rw [Nat.zero_add, h.cellAt j (by omega), hj]

set_option maxHeartbeats 1000000 in
theorem clone_ints (v : Value) (base : Nat) (l : List Int) (w : World) (h : w.ownsRow base 3 1 v l.length (ic l)) (hl : l.length ≤ 1000000) :
    Calls Try.prog 47 #[v] w (NewRow w 3 1 l.length (ic l)) := by
  obtain ⟨i0, hi, hz0, hz1, hz2⟩ := info_parts info_int
  rcases h.2 with ⟨rfl, h0⟩ | ⟨g, cap, cur, hv, hb, hg, hc1, hc2, _, _⟩
  · have e : l = [] := List.eq_nil_of_length_eq_zero h0
    subst e
    have heq := eqlIntsNil
    clear h h0 hl
    go_enter Try.func47, Try.ntmps47
    go_wp2
    go_ret
    exact ⟨_, rfl, World.ownsRow_nil _ _ _ _, Touch.refl _ _⟩
  · have hnews := row_oneCell h hv
    have hgl := blk_lt hg
    subst hv
    have heq := eqlInts ⟨g, 0, none⟩ l.length cap
    have hone : ∀ u ∈ ic l, u.oneCell' = true := by
      intro u hu
      simp only [ic, List.mem_map] at hu
      obtain ⟨a, _, rfl⟩ := hu
      rfl
    have HNW := Lib.hid hnews
    have HON := Lib.hid hone
    have hlen : (ic l).length = l.length * 1 := by simp [ic]
    have HLN := Lib.hid hlen
    unfold maxLen at hc2
    clear h hnews hone hlen hg
    obtain ⟨N, hN⟩ : ∃ N, l.length = N := ⟨_, rfl⟩
    rw [hN] at hl heq hc1 HLN
    rw [hN]
    have HN := Lib.hid hN
    clear hN
    by_cases h0 : 0 < N
    · go_enter Try.func47, Try.ntmps47
      go_wp2_with (at_builtin; refine wpList_append_own_at _ rfl (.tmp 5) (.tmp 6) 62 rfl w.heap.size 3 i0 _ 1 8 Try.underlying62 hi hz0 hz1 hz2 rfl (by decide) (.slice (some ⟨w.heap.size, 0, none⟩) 0 0) 0 [] rfl ?o1 ⟨g, 0, none⟩ N cap (ic l) rfl HLN.out ?c1 HON.out ?c3 ?c4 ?c5 ?go)
      case o1 => exact own_empty w _ _
      case c1 =>
        intro j u hj
        rw [add_plain]
        have := HNW.out j u hj
        rw [add_plain] at this
        exact (((Touch.refl NoB w).alloc _).cell (p := ⟨g, 0 + j, none⟩) hgl (fun e => e)).trans this
      case c3 => unfold maxLen; omega
      case c4 => omega
      case c5 => simp
      case go =>
      intro v1 w1 hown hgrow _ hat
      have hob : ∀ k, (Value.slice (some ⟨w.heap.size, 0, none⟩) 0 0).ownBlock = some k → w.heap.size ≤ k := by
        intro k e
        have e2 : w.heap.size = k := by simpa [Value.ownBlock] using e
        omega
      have hT : Touch NoB w w1 := ((Touch.refl NoB w).alloc _).grown hgrow (fun k e => .inr (hob k e))
      have HP : Hid (NewRow w 3 1 N (ic l) (.returned v1) w1) := ⟨_, rfl, hown, hT⟩
      clear hown hgrow hat hT hob
      go_wp2
      go_ret
      exact HP.out
    · obtain rfl : N = 0 := by omega
      have e : l = [] := List.eq_nil_of_length_eq_zero HN.out
      subst e
      go_enter Try.func47, Try.ntmps47
      go_wp2
      go_ret
      exact ⟨_, rfl, own_empty w _ _, (Touch.refl _ _).alloc _⟩

set_option maxHeartbeats 1000000 in
theorem clone_ids (v : Value) (base : Nat) (l : List (Int × Int)) (w : World) (h : w.ownsRow base 30 2 v l.length (idc l)) (hl : l.length ≤ 1000000) :
    Calls Try.prog 46 #[v] w (NewRow w 30 2 l.length (idc l)) := by
  obtain ⟨i0, hi, hz0, hz1, hz2⟩ := info_parts info_id
  rcases h.2 with ⟨rfl, h0⟩ | ⟨g, cap, cur, hv, hb, hg, hc1, hc2, _, _⟩
  · have e : l = [] := List.eq_nil_of_length_eq_zero h0
    subst e
    have heq := eqlIdsNil
    clear h h0 hl
    go_enter Try.func46, Try.ntmps46
    go_wp2
    go_ret
    exact ⟨_, rfl, World.ownsRow_nil _ _ _ _, Touch.refl _ _⟩
  · have hnews := row_oneCell h hv
    have hgl := blk_lt hg
    subst hv
    have heq := eqlIds ⟨g, 0, none⟩ l.length cap
    have hone : ∀ u ∈ idc l, u.oneCell' = true := by
      intro u hu
      simp only [idc, List.mem_flatMap] at hu
      obtain ⟨a, _, hu⟩ := hu
      simp at hu
      rcases hu with rfl | rfl <;> rfl
    have HNW := Lib.hid hnews
    have HON := Lib.hid hone
    have hlen : (idc l).length = l.length * 2 := idc_length l
    have HLN := Lib.hid hlen
    unfold maxLen at hc2
    clear h hnews hone hlen hg
    obtain ⟨N, hN⟩ : ∃ N, l.length = N := ⟨_, rfl⟩
    rw [hN] at hl heq hc1 HLN
    rw [hN]
    have HN := Lib.hid hN
    clear hN
    by_cases h0 : 0 < N
    · go_enter Try.func46, Try.ntmps46
      go_wp2_with (at_builtin; refine wpList_append_own_at _ rfl (.tmp 5) (.tmp 6) 28 rfl w.heap.size 30 i0 _ 2 16 Try.underlying28 hi hz0 hz1 hz2 rfl (by decide) (.slice (some ⟨w.heap.size, 0, none⟩) 0 0) 0 [] rfl ?o1 ⟨g, 0, none⟩ N cap (idc l) rfl HLN.out ?c1 HON.out ?c3 ?c4 ?c5 ?go)
      case o1 => exact own_empty w _ _
      case c1 =>
        intro j u hj
        rw [add_plain]
        have := HNW.out j u hj
        rw [add_plain] at this
        exact (((Touch.refl NoB w).alloc _).cell (p := ⟨g, 0 + j, none⟩) hgl (fun e => e)).trans this
      case c3 => unfold maxLen; omega
      case c4 => omega
      case c5 => simp
      case go =>
      intro v1 w1 hown hgrow _ hat
      have hob : ∀ k, (Value.slice (some ⟨w.heap.size, 0, none⟩) 0 0).ownBlock = some k → w.heap.size ≤ k := by
        intro k e
        have e2 : w.heap.size = k := by simpa [Value.ownBlock] using e
        omega
      have hT : Touch NoB w w1 := ((Touch.refl NoB w).alloc _).grown hgrow (fun k e => .inr (hob k e))
      have HP : Hid (NewRow w 30 2 N (idc l) (.returned v1) w1) := ⟨_, rfl, hown, hT⟩
      clear hown hgrow hat hT hob
      go_wp2
      go_ret
      exact HP.out
    · obtain rfl : N = 0 := by omega
      have e : l = [] := List.eq_nil_of_length_eq_zero HN.out
      subst e
      go_enter Try.func46, Try.ntmps46
      go_wp2
      go_ret
      exact ⟨_, rfl, own_empty w _ _, (Touch.refl _ _).alloc _⟩

set_option maxHeartbeats 1000000 in
theorem tids_any (g : Nat) (m : Int) (ids : List (Int × Int)) (cf : Nat → List Int) (D : DataW Unit) (n : Nat) (F : Nat → Prop) (w : World) (h : TO w F g m ids cf D n) (hl : ids.length ≤ 1000000) :
    Calls Try.prog 32 #[.pointer (some ⟨g, 0, none⟩)] w (NewRow w 30 2 ids.length (idc ids)) := by
  obtain ⟨vi, vm, vc, cs, hT⟩ := h
  have HC := Lib.hid (clone_ids vi 0 ids w hT.ri hl)
  have k1 := hT.at1
  clear hT
  go_enter Try.func32, Try.ntmps32
  go_wp2_with fail
  refine HC.out.mono ?_
  rintro e w1 ⟨v, rfl, hown, hT⟩
  have HP : Hid (NewRow w 30 2 ids.length (idc ids) (.returned v) w1) := ⟨_, rfl, hown, hT⟩
  clear hown hT
  go_wp2
  go_ret
  exact HP.out

/-- The values of column c, or none. -/
def columnI (m : Int) (cf : Nat → List Int) (c : Int) : List Int := if colB m c = true then cf c.toNat else []

set_option maxHeartbeats 1000000 in
theorem tcolumn_any (g : Nat) (m c : Int) (ids : List (Int × Int)) (cf : Nat → List Int) (D : DataW Unit) (n : Nat) (F : Nat → Prop) (w : World) (h : TO w F g m ids cf D n) (hm : 0 ≤ m) (hm2 : m < 65536) (hl : ∀ c, c < 16 → (cf c).length ≤ 1000000) :
    Calls Try.prog 35 #[.pointer (some ⟨g, 0, none⟩), .int .i64 c] w (NewRow w 3 1 (columnI m cf c).length (ic (columnI m cf c))) := by
  obtain ⟨vi, vm, vc, cs, hT⟩ := h
  have HC := Lib.hid (hasCol_any g m c w hm hm2 hT.at0)
  cases hcol : colB m c
  · have e1 : columnI m cf c = [] := by unfold columnI; rw [hcol]; rfl
    rw [e1]
    rw [hcol] at HC
    clear hT e1 hl hcol
    go_enter Try.func35, Try.ntmps35
    go_wp2_with fail
    refine HC.out.mono ?_
    rintro e w1 ⟨rfl, rfl⟩
    go_wp2
    go_ret
    exact ⟨_, rfl, World.ownsRow_nil _ _ _ _, Touch.refl _ _⟩
  · obtain ⟨k, rfl, hk, hb⟩ := colB_true hcol
    have e1 : columnI m cf (k : Int) = cf k := by unfold columnI; rw [hcol]; rfl
    rw [e1]
    rw [hcol] at HC
    have HK := Lib.hid (clone_ints (vc k) 0 (cf k) w (hT.rc k hk) (hl k hk))
    have k3 := hT.atc k hk
    have hlg := hT.lt
    clear hT e1 hl hcol hb
    generalize vc k = vk at *
    go_enter Try.func35, Try.ntmps35
    go_wp2_with fail
    refine HC.out.mono ?_
    rintro e w1 ⟨rfl, rfl⟩
    go_wp2_with fail
    refine HK.out.mono ?_
    rintro e w1 ⟨v, rfl, hown, hT⟩
    have HP : Hid (NewRow w 3 1 (cf k).length (ic (cf k)) (.returned v) w1) := ⟨_, rfl, hown, hT⟩
    clear hown hT
    go_wp2
    go_ret
    exact HP.out
end Go.Proofs.Ytmafhcfdamhejaa
