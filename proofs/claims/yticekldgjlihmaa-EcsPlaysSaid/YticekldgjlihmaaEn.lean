/-
  What Get and Mask return; the document's example, as the statements of chapter 5 ask it first.
-/
import Derived.Test.YticekldgjlihmaaEm
import Derived.Test.YticekldgjlihmaaEk
namespace Go.Proofs.Yticekldgjlihmaa
open Go.ChangeShapes Go.WideShapes Go.ChangeAt Go.RowKit Go.Maps
set_option maxRecDepth 100000
set_option maxHeartbeats 1000000

/-- What Get returns of the k-th entity of a table. -/
def getV (b : Tb) (k : Nat) (c : Int) : Int × Int := if isC c = true then (if bitB b.m c.toNat = true then ((b.cf c.toNat).getD k 0, 0) else (0, 12)) else (0, 1)
def tup2 (p : Int × Int) : Value := .tuple #[.int .i64 p.1, .int .i64 p.2]

section
variable {w : World} {F : Nat → Prop} {cnt g : Nat} {room tables : Int} {ps : List (Int × Bool)} {ds : List Int} {bs : List Tb}

theorem get_stale (h : St w F cnt g room tables ps ds bs) (i x c : Int) (hi : I64 i) (hx : I64 x) (hn : hasI ps i x = false) :
    Calls Try.prog 16 #[.pointer (some ⟨g, 0, none⟩), .agg #[.int .i64 i, .int .i64 x], .int .i64 c] w fun e w' => e = .returned (tup2 (0, 11)) ∧ Touch NoB w w' := by
  obtain ⟨φ, ts, H, nh, va, bh, h1, h2, h3, h4⟩ := h
  have TW : Touch NoB w (w.alloc (.cells #[.int .i64 i, .int .i64 x] 30)) := (Touch.refl NoB w).alloc _
  have hno : ¬ InT ts (i, x) := fun e => by rw [← h2.link, hn] at e; cases e
  have HF := Lib.hid (find_stale (h1.quiet TW) h2.t i x c hi hx hno)
  have HT := Lib.hid TW
  clear h1 h2 h3 h4 hno hn TW
  go_enter Try.func16, Try.ntmps16
  go_wp2_with fail
  refine HF.out.mono ?_
  rintro e w1 ⟨rfl, hT1⟩
  have HT1 := Lib.hid (HT.out.same hT1)
  clear hT1
  go_wp2
  go_ret2
  exact ⟨rfl, HT1.out⟩

theorem get_in (h : St w F cnt g room tables ps ds bs) (i x c : Int) {j k : Nat} {b : Tb} (hb : bs[j]? = some b) (hk : b.ids[k]? = some (i, x)) :
    Calls Try.prog 16 #[.pointer (some ⟨g, 0, none⟩), .agg #[.int .i64 i, .int .i64 x], .int .i64 c] w fun e w' => e = .returned (tup2 (getV b k c)) ∧ Touch NoB w w' := by
  obtain ⟨φ, ts, H, nh, va, bh, h1, h2, h3, h4⟩ := h
  obtain ⟨r, hr, hrb⟩ : ∃ r, ts[j]? = some r ∧ r.b = b := by
    rw [← h3, List.getElem?_map] at hb
    rcases hr : ts[j]? with _ | r
    · rw [hr] at hb; cases hb
    · rw [hr] at hb; injection hb with hb; exact ⟨r, rfl, hb⟩
  subst hrb
  have TW : Touch NoB w (w.alloc (.cells #[.int .i64 i, .int .i64 x] 30)) := (Touch.refl NoB w).alloc _
  obtain ⟨hi, hx⟩ := h2.t.key ⟨j, r, hr, row_mem hk⟩
  have HF := Lib.hid (find_in (h1.quiet TW) h2.t hr i x c (row_mem hk))
  have HT := Lib.hid TW
  cases hc : isC c
  · have hv : getV r.b k c = (0, 1) := by unfold getV; rw [hc, if_neg (by decide)]
    rw [hv]
    rw [hc, if_neg (by decide)] at HF
    clear h1 h2 h3 h4 hr hb hk hv hc TW
    go_enter Try.func16, Try.ntmps16
    go_wp2_with fail
    refine HF.out.mono ?_
    rintro e w1 ⟨rfl, hT1⟩
    have HT1 := Lib.hid (HT.out.same hT1)
    clear hT1
    go_wp2
    go_ret2
    exact ⟨rfl, HT1.out⟩
  · rw [hc, if_pos rfl] at HF
    obtain ⟨d, rfl, hd⟩ := isC_true hc
    obtain ⟨o1, o2, o3, o4, o5⟩ := h2.t.ok j r hr
    have hmr := h1.m0 j r hr
    have hkl := (List.getElem?_eq_some_iff.1 hk).1
    have hrow : rowOf r.b.ids (i, x) = some k := rowOf_at o1.once hk
    have hra := (h1.arch j r hr).1
    have l1 := blk_lt hra
    have HRow : Hid (∀ W : World, Touch NoB w W → Calls Try.prog 40 #[.pointer (some ⟨r.t, 0, none⟩), .agg #[.int .i64 i, .int .i64 x]] W fun e w' => e = .returned (.int .i64 (k : Int)) ∧ Touch NoB W w') := fun W hW => by
      have := trow_any r.t r.b.m i x r.b.ids r.b.cf r.D r.n _ W ((h1.tab j r hr).quiet hW) o2 hi hx
      rwa [rowV_some hrow] at this
    have HGet : Hid (∀ W : World, Touch NoB w W → Calls Try.prog 47 #[.pointer (some ⟨r.t, 0, none⟩), .int .i64 k, .int .i64 d] W fun e w' => e = .returned (.tuple #[.int .i64 (if bitB r.b.m d = true then (r.b.cf d).getD k 0 else 0), .bool (bitB r.b.m d)]) ∧ w' = W) := fun W hW => by
      cases hbt : bitB r.b.m d
      · rw [if_neg (by decide)]
        exact (tget_no r.t r.b.m k d r.b.ids r.b.cf r.D r.n _ W ((h1.tab j r hr).quiet hW) hmr.1 hmr.2 (by rw [show colB r.b.m (d : Int) = false from by unfold colB; simp [hbt], Bool.and_false])).mono fun e w' ⟨a, b⟩ => ⟨a, b.symm⟩
      · rw [if_pos rfl]
        have hlen := o3 d hd hbt
        have hvv : (r.b.cf d)[k]? = some ((r.b.cf d).getD k 0) := by rw [List.getD_eq_getElem?_getD, List.getElem?_eq_getElem (by omega)]; rfl
        exact (tget_yes r.t k d r.b.m ((r.b.cf d).getD k 0) r.b.ids r.b.cf r.D r.n _ W ((h1.tab j r hr).quiet hW) hmr.1 hmr.2 hkl hd hbt hvv).mono fun e w' ⟨a, b⟩ => ⟨a, b.symm⟩
    have hv : getV r.b k (d : Int) = if bitB r.b.m d = true then ((r.b.cf d).getD k 0, 0) else (0, 12) := by unfold getV; rw [hc, if_pos rfl, Int.toNat_natCast]
    rw [hv]
    have hq0 : (w.alloc (.cells #[.int .i64 i, .int .i64 x] 30)).heap[w.heap.size]? = some (.cells #[.int .i64 i, .int .i64 x] 30 (0, 0)) := alloc_blk w _ _ rfl
    have HX := Lib.hid (And.intro hra hq0)
    obtain ⟨z, hz⟩ : ∃ z, (r.b.cf d).getD k 0 = z := ⟨_, rfl⟩
    rw [hz] at HGet
    rw [hz]
    cases hbt : bitB r.b.m d
    all_goals
      rw [hbt] at HGet
      simp only [if_true, if_false, Bool.false_eq_true] at HGet ⊢
      clear h1 h2 h3 h4 hr hb hk hv hc TW o1 o2 o3 o4 o5 hmr hrow hra hq0 hz hbt
      go_enter Try.func16, Try.ntmps16
      go_wp2_with fail
      refine HF.out.mono ?_
      rintro e w1 ⟨rfl, hT1⟩
      have hW1 := HT.out.same hT1
      have k1 : w1.cell? ⟨r.a, 1, none⟩ = some (.pointer (some ⟨r.t, 0, none⟩)) := cell_blk ((hW1.block r.a l1 (fun e => e)).trans HX.out.1) 1
      have hq1 := (hT1.block _ (by simp) (fun e => e)).trans HX.out.2
      have k2 : w1.cell? ⟨w.heap.size, 0, none⟩ = some (.int .i64 i) := cell_blk hq1 0
      have k3 : w1.cell? ⟨w.heap.size, 1, none⟩ = some (.int .i64 x) := cell_blk hq1 1
      have l1' : r.a < w1.heap.size := Nat.lt_of_lt_of_le l1 hW1.size
      have l2' := blk_lt hq1
      have HW1 := Lib.hid hW1
      have HQ1 := Lib.hid hq1
      clear hT1 hW1 hq1
      go_wp2_with fail
      go_region_held3 (fun w' => w'.cell? ⟨r.a, 1, none⟩ = some (.pointer (some ⟨r.t, 0, none⟩)) ∧ w'.cell? ⟨w.heap.size, 0, none⟩ = some (.int .i64 i) ∧ w'.cell? ⟨w.heap.size, 1, none⟩ = some (.int .i64 x)) (first | go_keep | exact ⟨kk1, kk2, kk3⟩)
        (first | (go_at_call 40
                  refine (HRow.out _ (HW1.out.drew)).mono ?_
                  rintro e w3 ⟨rfl, hT3⟩
                  have hW3 := (HW1.out.drew).same hT3
                  have kk1 : w3.cell? ⟨r.a, 1, none⟩ = some (.pointer (some ⟨r.t, 0, none⟩)) := cell_blk ((hW3.block r.a l1 (fun e => e)).trans HX.out.1) 1
                  have hq3 := (hT3.block w.heap.size l2' (fun e => e)).trans HQ1.out
                  have kk2 : w3.cell? ⟨w.heap.size, 0, none⟩ = some (.int .i64 i) := cell_blk hq3 0
                  have kk3 : w3.cell? ⟨w.heap.size, 1, none⟩ = some (.int .i64 x) := cell_blk hq3 1
                  have HW3 := Lib.hid hW3
                  clear hT3 hW3 hq3)
               | (go_at_call 47
                  refine (HGet.out _ HW3.out).mono ?_
                  rintro e w4 ⟨rfl, rfl⟩))
      go_wp2
      go_ret2
      exact ⟨rfl, HW3.out⟩

theorem mask_stale (h : St w F cnt g room tables ps ds bs) (i x : Int) (hi : I64 i) (hx : I64 x) (hn : hasI ps i x = false) :
    Calls Try.prog 49 #[.pointer (some ⟨g, 0, none⟩), .agg #[.int .i64 i, .int .i64 x]] w fun e w' => e = .returned (.tuple #[.int .u16 0, .int .i64 11]) ∧ Touch NoB w w' := by
  obtain ⟨φ, ts, H, nh, va, bh, h1, h2, h3, h4⟩ := h
  have TW : Touch NoB w (w.alloc (.cells #[.int .i64 i, .int .i64 x] 30)).drew := ((Touch.refl NoB w).alloc _).drew
  have hno : ¬ InT ts (i, x) := fun e => by rw [← h2.link, hn] at e; cases e
  obtain ⟨v, hlook⟩ := (h1.quiet TW).lookNo h2.t hi hx hno
  have g5 := h1.at5
  have hgl := h1.lt
  have HT := Lib.hid TW
  clear h1 h2 h3 h4 hno hn TW
  go_enter Try.func49, Try.ntmps49
  go_wp2
  go_region
  go_wp2
  go_ret2
  exact ⟨rfl, HT.out⟩
theorem mask_in (h : St w F cnt g room tables ps ds bs) (i x : Int) {j k : Nat} {b : Tb} (hb : bs[j]? = some b) (hk : b.ids[k]? = some (i, x)) :
    Calls Try.prog 49 #[.pointer (some ⟨g, 0, none⟩), .agg #[.int .i64 i, .int .i64 x]] w fun e w' => e = .returned (.tuple #[.int .u16 b.m, .int .i64 0]) ∧ Touch NoB w w' := by
  obtain ⟨φ, ts, H, nh, va, bh, h1, h2, h3, h4⟩ := h
  obtain ⟨r, hr, hrb⟩ : ∃ r, ts[j]? = some r ∧ r.b = b := by
    rw [← h3, List.getElem?_map] at hb
    rcases hr : ts[j]? with _ | r
    · rw [hr] at hb; cases hb
    · rw [hr] at hb; injection hb with hb; exact ⟨r, rfl, hb⟩
  subst hrb
  have TW : Touch NoB w (w.alloc (.cells #[.int .i64 i, .int .i64 x] 30)).drew := ((Touch.refl NoB w).alloc _).drew
  have hlook := ((h1.quiet TW).look h2.t hr (row_mem hk)).2
  have g5 := h1.at5
  have hgl := h1.lt
  have hra := (h1.arch j r hr).1
  have k1 : w.cell? ⟨r.a, 0, none⟩ = some (.int .u16 r.b.m) := cell_blk hra 0
  have l1 := blk_lt hra
  have HT := Lib.hid TW
  clear h1 h2 h3 h4 hr hb hk TW hra
  go_enter Try.func49, Try.ntmps49
  go_wp2
  go_region
  go_wp2
  go_ret2
  exact ⟨rfl, HT.out⟩
end
end Go.Proofs.Yticekldgjlihmaa
