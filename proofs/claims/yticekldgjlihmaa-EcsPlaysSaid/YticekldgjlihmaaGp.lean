/-
  EcsPlays: Put and Take on both sides, in terms of the same lists.
-/
import Derived.Test.YticekldgjlihmaaM6
import Derived.Test.YticekldgjlihmaaGl
namespace Go.Proofs.Yticekldgjlihmaa
open Go.ChangeShapes Go.WideShapes Go.ChangeAt Go.RowKit Go.Maps
set_option maxRecDepth 100000
set_option maxHeartbeats 1000000

section
variable {w : World} {F : Nat → Prop} {cnt g : Nat} {room tables : Int} {ps : List (Int × Bool)} {ds : List Int} {bs : List Tb}
theorem pair_put (h : St w F cnt g room tables ps ds bs) (hc9 : cnt ≤ 900) (i x c v : Int) (hi : I64 i) (hx : I64 x) : ∃ z bs',
    (∀ W : World, Touch NoB w W → Calls Try.prog 12 #[.pointer (some ⟨g, 0, none⟩), .agg #[.int .i64 i, .int .i64 x], .agg #[.int .i64 c, .int .i64 v]] W fun e w' => e = .returned (.int .i64 z) ∧ St w' (Ext F W w') (cnt + 2) g room tables ps ds bs' ∧ Touch F W w') ∧
    ∀ (w1 : World) (G : Nat → Prop) (r : Nat), RSt w1 G r room tables ps ds bs → Calls Try.prog 13 #[.pointer (some ⟨r, 0, none⟩), .agg #[.int .i64 i, .int .i64 x], .agg #[.int .i64 c, .int .i64 v]] w1 fun e w' => e = .returned (.int .i64 z) ∧ RSt w' (Ext G w1 w') r room tables ps ds bs' ∧ Touch G w1 w' := by
  have hs := h.small
  have hu := h.uniq
  have hll : ∀ b ∈ bs, b.ids.length < 1000000 := fun b hb => by have := hs.2.1 b hb; omega
  cases hh : hasI ps i x
  · refine ⟨11, bs, fun W t => (put_stale (h.quiet t) i x c v hi hx hh).mono ?_, fun w1 G r hr => (rput_stale hr i x c v hh).mono ?_⟩
    · rintro e w' ⟨rfl, hT⟩
      exact ⟨rfl, ((h.quiet t).quiet hT).more ext_self (by omega), hT.mono (fun _ e => e.elim)⟩
    · rintro e w' ⟨rfl, hT⟩
      exact ⟨rfl, (hr.quiet hT).wider (fun b hb => .inl hb), hT.mono (fun _ e => e.elim)⟩
  · obtain ⟨j, k, b, hb, hk⟩ := h.lies hh
    cases hic : isC c
    · refine ⟨1, bs, fun W t => (put_arg (h.quiet t) i x c v hb hk hic).mono ?_, fun w1 G r hr => (rput_arg hr i x c v hh hic).mono ?_⟩
      · rintro e w' ⟨rfl, hT⟩
        exact ⟨rfl, ((h.quiet t).quiet hT).more ext_self (by omega), hT.mono (fun _ e => e.elim)⟩
      · rintro e w' ⟨rfl, hT⟩
        exact ⟨rfl, (hr.quiet hT).wider (fun b hb => .inl hb), hT.mono (fun _ e => e.elim)⟩
    · obtain ⟨c, rfl, hc⟩ := isC_true hic
      cases hbt : bitB b.m c
      · have hA := fun (W : World) (t : Touch NoB w W) => put_more (h.quiet t) hc9 i x v hb hk hc hbt
        have hB := fun (w1 : World) (G : Nat → Prop) (r : Nat) (hr : RSt w1 G r room tables ps ds bs) => rput_more hr hu (by omega) hll i x v hh hb hk hc hbt
        unfold MoveEnd at hA
        unfold RMoveEnd at hB
        cases hf : (hasB bs (orM b.m c) || decide ((bs.length : Int) < tables))
        · simp only [hf, Bool.false_eq_true, if_false] at hA hB
          refine ⟨10, bs, fun W t => (hA W t).mono ?_, fun w1 G r hr => (hB w1 G r hr).mono ?_⟩
          · rintro e w' ⟨z, rfl, rfl, hT⟩
            exact ⟨rfl, ((h.quiet t).quiet hT).more ext_self (by omega), hT.mono (fun _ e => e.elim)⟩
          · rintro e w' ⟨z, rfl, rfl, hT⟩
            exact ⟨rfl, (hr.quiet hT).wider (fun b hb => .inl hb), hT.mono (fun _ e => e.elim)⟩
        · simp only [hf, if_true] at hA hB
          refine ⟨0, moveB bs j k b (orM b.m c) (i, x) [((c : Int), v)], fun W t => (hA W t).mono ?_, fun w1 G r hr => (hB w1 G r hr).mono ?_⟩
          · rintro e w' ⟨z, rfl, rfl, hS, hT⟩
            exact ⟨rfl, hS, hT⟩
          · rintro e w' ⟨z, rfl, rfl, hS, hT⟩
            exact ⟨rfl, hS, hT⟩
      · exact ⟨0, bs.set j (setB b k c v), fun W t => put_set (h.quiet t) i x v hb hk hc hbt, fun w1 G r hr => rput_set hr i x v hu hh hb hk hc hbt⟩
theorem pair_take (h : St w F cnt g room tables ps ds bs) (hc9 : cnt ≤ 900) (i x c : Int) (hi : I64 i) (hx : I64 x) : ∃ y z bs',
    (∀ W : World, Touch NoB w W → Calls Try.prog 14 #[.pointer (some ⟨g, 0, none⟩), .agg #[.int .i64 i, .int .i64 x], .int .i64 c] W fun e w' => e = .returned (tup2 (y, z)) ∧ St w' (Ext F W w') (cnt + 2) g room tables ps ds bs' ∧ Touch F W w') ∧
    ∀ (w1 : World) (G : Nat → Prop) (r : Nat), RSt w1 G r room tables ps ds bs → Calls Try.prog 15 #[.pointer (some ⟨r, 0, none⟩), .agg #[.int .i64 i, .int .i64 x], .int .i64 c] w1 fun e w' => e = .returned (tup2 (y, z)) ∧ RSt w' (Ext G w1 w') r room tables ps ds bs' ∧ Touch G w1 w' := by
  have hs := h.small
  have hu := h.uniq
  have hll : ∀ b ∈ bs, b.ids.length < 1000000 := fun b hb => by have := hs.2.1 b hb; omega
  have hno : ∀ z : Int, z ≠ 0 → (∀ W : World, Touch NoB w W → Calls Try.prog 14 #[.pointer (some ⟨g, 0, none⟩), .agg #[.int .i64 i, .int .i64 x], .int .i64 c] W fun e w' => e = .returned (tup2 (0, z)) ∧ Touch NoB W w') →
      (∀ (w1 : World) (G : Nat → Prop) (r : Nat), RSt w1 G r room tables ps ds bs → Calls Try.prog 17 #[.pointer (some ⟨r, 0, none⟩), .agg #[.int .i64 i, .int .i64 x], .int .i64 c] w1 fun e w' => e = .returned (.tuple #[.int .i64 0, .int .i64 z]) ∧ Touch NoB w1 w') →
      ∃ y z bs', (∀ W : World, Touch NoB w W → Calls Try.prog 14 #[.pointer (some ⟨g, 0, none⟩), .agg #[.int .i64 i, .int .i64 x], .int .i64 c] W fun e w' => e = .returned (tup2 (y, z)) ∧ St w' (Ext F W w') (cnt + 2) g room tables ps ds bs' ∧ Touch F W w') ∧
    ∀ (w1 : World) (G : Nat → Prop) (r : Nat), RSt w1 G r room tables ps ds bs → Calls Try.prog 15 #[.pointer (some ⟨r, 0, none⟩), .agg #[.int .i64 i, .int .i64 x], .int .i64 c] w1 fun e w' => e = .returned (tup2 (y, z)) ∧ RSt w' (Ext G w1 w') r room tables ps ds bs' ∧ Touch G w1 w' := by
    intro z hz h1 h2
    refine ⟨0, z, bs, fun W t => (h1 W t).mono ?_, fun w1 G r hr => (rtake_no i x c hz (fun W hW => h2 W G r (hr.quiet hW))).mono ?_⟩
    · rintro e w' ⟨rfl, hT⟩
      exact ⟨rfl, ((h.quiet t).quiet hT).more ext_self (by omega), hT.mono (fun _ e => e.elim)⟩
    · rintro e w' ⟨rfl, hT⟩
      exact ⟨rfl, (hr.quiet hT).wider (fun b hb => .inl hb), hT.mono (fun _ e => e.elim)⟩
  cases hh : hasI ps i x
  · exact hno 11 (by decide) (fun W t => take_stale (h.quiet t) i x c hi hx hh) fun w1 G r hr => rget_stale hr i x c hh
  · obtain ⟨j, k, b, hb, hk⟩ := h.lies hh
    cases hic : isC c
    · exact hno 1 (by decide) (fun W t => take_no (h.quiet t) i x c hb hk (by unfold getV; rw [if_neg (by rw [hic]; decide)]) (by decide)) fun w1 G r hr => rget_arg hr hu i x c hh hb hk hic
    · cases hbt : bitB b.m c.toNat
      · exact hno 12 (by decide) (fun W t => take_no (h.quiet t) i x c hb hk (by unfold getV; rw [if_pos hic, if_neg (by rw [hbt]; decide)]) (by decide)) fun w1 G r hr => rget_none hr hu i x c hh hb hk hic hbt
      · obtain ⟨c, rfl, hc⟩ := isC_true hic
        rw [Int.toNat_natCast] at hbt
        clear hno
        have hA := fun (W : World) (t : Touch NoB w W) => etake_in (h.quiet t) hc9 i x hb hk hc hbt
        have hB := fun (w1 : World) (G : Nat → Prop) (r : Nat) (hr : RSt w1 G r room tables ps ds bs) => rtake_in hr hu (by omega) hll i x hh hb hk hc hbt
        unfold TakeEnd MoveEnd at hA
        unfold RMoveEnd at hB
        cases hf : (hasB bs (clM b.m c) || decide ((bs.length : Int) < tables))
        · simp only [hf, Bool.false_eq_true, if_false] at hA hB
          refine ⟨0, 10, bs, fun W t => (hA W t).mono ?_, fun w1 G r hr => (hB w1 G r hr).mono ?_⟩
          · rintro e w' ⟨y, z, rfl, ⟨rfl, hT⟩, hy⟩
            rw [if_neg (by decide)] at hy
            subst hy
            exact ⟨rfl, ((h.quiet t).quiet hT).more ext_self (by omega), hT.mono (fun _ e => e.elim)⟩
          · rintro e w' ⟨y, z, rfl, ⟨rfl, hT⟩, hy⟩
            rw [if_neg (by decide)] at hy
            subst hy
            exact ⟨rfl, (hr.quiet hT).wider (fun b hb => .inl hb), hT.mono (fun _ e => e.elim)⟩
        · simp only [hf, if_true] at hA hB
          refine ⟨(b.cf c).getD k 0, 0, moveB bs j k b (clM b.m c) (i, x) [], fun W t => (hA W t).mono ?_, fun w1 G r hr => (hB w1 G r hr).mono ?_⟩
          · rintro e w' ⟨y, z, rfl, ⟨rfl, hS, hT⟩, hy⟩
            rw [if_pos rfl] at hy
            subst hy
            exact ⟨rfl, hS, hT⟩
          · rintro e w' ⟨y, z, rfl, ⟨rfl, hS, hT⟩, hy⟩
            rw [if_pos rfl] at hy
            subst hy
            exact ⟨rfl, hS, hT⟩
end
end Go.Proofs.Yticekldgjlihmaa
