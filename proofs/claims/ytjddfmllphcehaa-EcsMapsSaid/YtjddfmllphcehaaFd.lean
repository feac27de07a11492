/-
  EcsMaps: one contract for each call, in terms of the Store in memory and of the lists.
-/
import Derived.Test.YtjddfmllphcehaaFc
namespace Go.Proofs.Ytjddfmllphcehaa
open Go.ChangeShapes Go.WideShapes Go.ChangeAt Go.RowKit Go.Maps
set_option maxRecDepth 100000
set_option maxHeartbeats 400000

theorem clM_same {m : Int} (h0 : 0 ≤ m) (h1 : m < 65536) {k : Nat} (hk : k < 16) (hb : bitB m k = false) : clM m k = m := by
  have hr := clM_range m k
  refine bit_ext hr.1 hr.2 h0 h1 fun c hc => ?_
  rw [clM_bit h0 hk hc]
  by_cases e : c = k
  · subst e; simp [hb]
  · simp [e]

section
variable {w : World} {F : Nat → Prop} {cnt g : Nat} {ps : List (Int × Bool)} {ds : List Int} {bs : List Tb} {md : List (Int × Int)} {th : List Bool} {ms : List Int} {vs : List (List Int)}

theorem St.pinv {room tables : Int} (h : St w F cnt g room tables ps ds bs) : PInv cnt room ps ds := by
  obtain ⟨φ, ts, H, nh, va, bh, h1, h2, h3, h4⟩ := h
  exact h2.p
theorem St.few {room tables : Int} (h : St w F cnt g room tables ps ds bs) : bs.length ≤ cnt := by
  obtain ⟨φ, ts, H, nh, va, bh, h1, h2, h3, h4⟩ := h
  rw [← h3, List.length_map]
  exact h2.len
theorem MInv.i64 {room tables : Int} (M : MInv room ps ds bs md th ms vs) (h : St w F cnt g room tables ps ds bs) (hc : cnt ≤ 1000) {a : Nat} {i x : Int} (ha : md[a]? = some (i, x)) : I64 i ∧ I64 x := by
  obtain ⟨k, y, u, rfl, hp, hx, _⟩ := M.once.at_ a i x ha
  have hg := h.pinv.gen k y u hp
  have hl := M.lo a _ x ha
  have hk := (List.getElem?_eq_some_iff.1 hp).1
  have hn := h.pinv.len
  exact ⟨i64_mk (by omega) (by omega), i64_mk (by omega) (by omega)⟩

theorem despawn_maps (h : St w F cnt g 100 1000 ps ds bs) (M : MInv 100 ps ds bs md th ms vs) (hc : cnt ≤ 900) {a : Nat} {i x : Int} {u : Bool} (ha : md[a]? = some (i, x)) (ht : th[a]? = some u) :
    Calls Try.prog 11 #[.pointer (some ⟨g, 0, none⟩), .agg #[.int .i64 i, .int .i64 x]] w fun e w' => ∃ z ps' ds' bs', e = .returned (.int .i64 z) ∧ (z = 0 ↔ u = true) ∧ St w' (Ext F w w') (cnt + 2) g 100 1000 ps' ds' bs' ∧ MInv 100 ps' ds' bs' md (th.set a false) ms vs ∧ Touch F w w' := by
  obtain ⟨u', hu', hh⟩ := M.once.has ha
  rw [ht] at hu'
  injection hu' with hu'
  subst hu'
  obtain ⟨hi, hx⟩ := M.i64 h (by omega) ha
  cases u
  · refine (despawn_stale h i x hi hx hh).mono ?_
    rintro e w' ⟨rfl, hT⟩
    exact ⟨11, ps, ds, bs, rfl, by decide, (h.quiet hT).more ext_self (by omega), by rw [set_same ht]; exact M, hT.mono (fun _ e => e.elim)⟩
  · obtain ⟨m, hm⟩ : ∃ m, ms[a]? = some m := ⟨_, List.getElem?_eq_getElem (by have := M.ml; have := (List.getElem?_eq_some_iff.1 ha).1; omega)⟩
    obtain ⟨l, hl⟩ : ∃ l, vs[a]? = some l := ⟨_, List.getElem?_eq_getElem (by have := M.vl; have := (List.getElem?_eq_some_iff.1 ha).1; omega)⟩
    obtain ⟨j, k, b, hb, hk, _, _⟩ := M.each a _ m l ha ht hm hl
    refine (despawn_in h hc i x hb hk).mono ?_
    rintro e w' ⟨rfl, hS, hT⟩
    exact ⟨0, _, _, _, rfl, by decide, hS, M.despawn h.lens ha ht hb hk, hT⟩

theorem get_maps (h : St w F cnt g 100 1000 ps ds bs) (M : MInv 100 ps ds bs md th ms vs) (hc : cnt ≤ 900) {a c : Nat} {i x m : Int} {l : List Int} {u : Bool} (ha : md[a]? = some (i, x)) (ht : th[a]? = some u) (hm : ms[a]? = some m) (hl : vs[a]? = some l) (hc16 : c < 16) :
    Calls Try.prog 17 #[.pointer (some ⟨g, 0, none⟩), .agg #[.int .i64 i, .int .i64 x], .int .i64 c] w fun e w' => ∃ y z, e = .returned (tup2 (y, z)) ∧ (z = 0 ↔ (u && bitB m c) = true) ∧ (z = 0 → y = l.getD c 0) ∧ Touch NoB w w' := by
  obtain ⟨u', hu', hh⟩ := M.once.has ha
  rw [ht] at hu'
  injection hu' with hu'
  subst hu'
  obtain ⟨hi, hx⟩ := M.i64 h (by omega) ha
  cases u
  · refine (get_stale h i x c hi hx hh).mono ?_
    rintro e w' ⟨rfl, hT⟩
    exact ⟨0, 11, rfl, by simp, fun e => by omega, hT⟩
  · obtain ⟨j, k, b, hb, hr⟩ := M.each a _ m l ha ht hm hl
    refine (get_in h i x c hb hr.1).mono ?_
    rintro e w' ⟨rfl, hT⟩
    rw [hr.get hc16]
    cases hbt : bitB m c
    · exact ⟨0, 12, rfl, by simp, fun e => by omega, hT⟩
    · exact ⟨l.getD c 0, 0, rfl, by simp, fun _ => rfl, hT⟩

theorem put_maps (h : St w F cnt g 100 1000 ps ds bs) (M : MInv 100 ps ds bs md th ms vs) (hc : cnt ≤ 900) {a c : Nat} {i x m v : Int} {l : List Int} {u : Bool} (ha : md[a]? = some (i, x)) (ht : th[a]? = some u) (hm : ms[a]? = some m) (hl : vs[a]? = some l) (hc16 : c < 16) :
    Calls Try.prog 13 #[.pointer (some ⟨g, 0, none⟩), .agg #[.int .i64 i, .int .i64 x], .agg #[.int .i64 c, .int .i64 v]] w fun e w' => ∃ z bs', e = .returned (.int .i64 z) ∧ (z = 0 ↔ u = true) ∧ St w' (Ext F w w') (cnt + 2) g 100 1000 ps ds bs' ∧ MInv 100 ps ds bs' md th (if u = true then ms.set a (orM m c) else ms) (if u = true then vs.set a (l.set c v) else vs) ∧ Touch F w w' := by
  obtain ⟨u', hu', hh⟩ := M.once.has ha
  rw [ht] at hu'
  injection hu' with hu'
  subst hu'
  obtain ⟨hi, hx⟩ := M.i64 h (by omega) ha
  cases u
  · refine (put_stale h i x c v hi hx hh).mono ?_
    rintro e w' ⟨rfl, hT⟩
    exact ⟨11, bs, rfl, by decide, (h.quiet hT).more ext_self (by omega), M, hT.mono (fun _ e => e.elim)⟩
  · obtain ⟨j, k, b, hb, hr⟩ := M.each a _ m l ha ht hm hl
    obtain rfl : b.m = m := hr.2.1
    have hmr := M.rng a _ hm
    cases hbt : bitB b.m c
    · refine (put_more h hc i x v hb hr.1 hc16 hbt).mono ?_
      rintro e w' ⟨z, rfl, hM⟩
      unfold MoveEnd at hM
      rw [if_pos (by have := h.few; simp; right; omega)] at hM
      obtain ⟨rfl, hS, hT⟩ := hM
      exact ⟨0, _, rfl, by decide, hS, M.more h.lens ha hl hb hr hm hc16 v, hT⟩
    · refine (put_set h i x v hb hr.1 hc16 hbt).mono ?_
      rintro e w' ⟨rfl, hS, hT⟩
      refine ⟨0, _, rfl, by decide, hS, ?_, hT⟩
      rw [if_pos rfl, if_pos rfl, orM_has hmr.1 hmr.2 hc16 hbt]
      exact M.set h.lens ha hl hb hr hm hc16 hbt v

theorem take_maps (h : St w F cnt g 100 1000 ps ds bs) (M : MInv 100 ps ds bs md th ms vs) (hc : cnt ≤ 900) {a c : Nat} {i x m : Int} {l : List Int} {u : Bool} (ha : md[a]? = some (i, x)) (ht : th[a]? = some u) (hm : ms[a]? = some m) (hl : vs[a]? = some l) (hc16 : c < 16) :
    Calls Try.prog 15 #[.pointer (some ⟨g, 0, none⟩), .agg #[.int .i64 i, .int .i64 x], .int .i64 c] w fun e w' => ∃ y z bs', e = .returned (tup2 (y, z)) ∧ (z = 0 ↔ (u && bitB m c) = true) ∧ St w' (Ext F w w') (cnt + 2) g 100 1000 ps ds bs' ∧ MInv 100 ps ds bs' md th (if u = true then ms.set a (clM m c) else ms) vs ∧ Touch F w w' := by
  obtain ⟨u', hu', hh⟩ := M.once.has ha
  rw [ht] at hu'
  injection hu' with hu'
  subst hu'
  obtain ⟨hi, hx⟩ := M.i64 h (by omega) ha
  cases u
  · refine (take_stale h i x c hi hx hh).mono ?_
    rintro e w' ⟨rfl, hT⟩
    exact ⟨0, 11, bs, rfl, by simp, (h.quiet hT).more ext_self (by omega), M, hT.mono (fun _ e => e.elim)⟩
  · obtain ⟨j, k, b, hb, hr⟩ := M.each a _ m l ha ht hm hl
    obtain rfl : b.m = m := hr.2.1
    have hmr := M.rng a _ hm
    cases hbt : bitB b.m c
    · refine (take_no h i x c hb hr.1 (z := 12) (by rw [hr.get hc16, hbt]; rfl) (by decide)).mono ?_
      rintro e w' ⟨rfl, hT⟩
      refine ⟨0, 12, bs, rfl, by simp, (h.quiet hT).more ext_self (by omega), ?_, hT.mono (fun _ e => e.elim)⟩
      rw [if_pos rfl, clM_same hmr.1 hmr.2 hc16 hbt, set_same hm]
      exact M
    · refine (etake_in h hc i x hb hr.1 hc16 hbt).mono ?_
      rintro e w' ⟨y, z, rfl, hM, _⟩
      unfold MoveEnd at hM
      rw [if_pos (by have := h.few; simp; right; omega)] at hM
      obtain ⟨rfl, hS, hT⟩ := hM
      refine ⟨y, 0, _, rfl, by simp, hS, ?_, hT⟩
      have := M.less h.lens ha hl hb hr hm hc16
      rwa [set_same hl] at this

theorem spawn_maps (h : St w F cnt g 100 1000 ps ds bs) (M : MInv 100 ps ds bs md th ms vs) (hc : cnt ≤ 900) (hr : md.length < 100) :
    Calls Try.prog 8 #[.pointer (some ⟨g, 0, none⟩), .slice none 0 0] w fun e w' => ∃ id ps' ds' bs', e = .returned (.tuple #[.agg #[.int .i64 (Prod.fst id), .int .i64 (Prod.snd id)], .int .i64 0]) ∧ St w' (Ext F w w') (cnt + 1) g 100 1000 ps' ds' bs' ∧ MInv 100 ps' ds' bs' (md ++ [id]) (th ++ [true]) (ms ++ [0]) (vs ++ [List.replicate 16 0]) ∧ Touch F w w' := by
  obtain ⟨id, ps', ds', hk⟩ := M.can h.pinv (by omega)
  refine (spawn_ok h none 0 0 [] rfl (by decide) (fun j c v e => by simp at e) (m := 0) rfl (by have := h.few; simp; right; omega) hk (by omega)).mono ?_
  rintro e w' ⟨rfl, hS, hT⟩
  exact ⟨id, ps', ds', _, rfl, hS, M.spawn h.pinv h.lens hk, hT⟩
end
end Go.Proofs.Ytjddfmllphcehaa
