/-
  What Put, Take and Despawn return, and what they leave in memory.
-/
import Derived.Test.YticekldgjlihmaaEv
import Derived.Test.YticekldgjlihmaaEn
namespace Go.Proofs.Yticekldgjlihmaa
open Go.ChangeShapes Go.WideShapes Go.ChangeAt Go.RowKit Go.Maps
set_option maxRecDepth 100000
set_option maxHeartbeats 1000000

def cutB (b : Tb) (k : Nat) : Tb := ⟨b.m, cutAt (0, 0) b.ids k, remCol b.m b.cf k 16⟩
/-- The k-th entity p of table j moves to the table of m, with its values and more. -/
def moveB (bs : List Tb) (j k : Nat) (b : Tb) (m : Int) (p : Int × Int) (more : List (Int × Int)) : List Tb := enterB (bs.set j (cutB b k)) m p (outI b.m b.cf k 16 ++ more)
def setB (b : Tb) (k c : Nat) (v : Int) : Tb := ⟨b.m, b.ids, colSet b.cf c ((b.cf c).set k v)⟩

theorem at_ts {bs : List Tb} {ts : List Ar} (h3 : ts.map Ar.b = bs) {j : Nat} {b : Tb} (hb : bs[j]? = some b) : ∃ r, ts[j]? = some r ∧ r.b = b := by
  rw [← h3, List.getElem?_map] at hb
  rcases hr : ts[j]? with _ | r
  · rw [hr] at hb; cases hb
  · rw [hr] at hb; injection hb with hb; exact ⟨r, rfl, hb⟩

section
variable {w : World} {φ : Nat → Int} {g : Nat} {room tables : Int} {ps : List (Int × Bool)} {ds : List Int} {ts : List Ar} {H : DataW Unit} {nh : Nat} {va : Value} {bh : Nat}

theorem moved_in {cnt : Nat} (I : TInv cnt ts H nh) {j k : Nat} {r : Ar} (hr : ts[j]? = some r) {i x : Int} (hk : r.b.ids[k]? = some (i, x)) {D' : DataW Unit} {n' : Nat} {m : Int} {cl : List (Int × Int)} {ts' : List Ar} (hE : EntT (leftT ts j k r D' n') m (i, x) cl ts') (p : Int × Int) : InT ts' p ↔ InT ts p := by
  obtain ⟨tm, j2, r2, D2, n2, hO, hr2, rfl⟩ := hE
  rw [entered_in hr2 rfl, open_in hO]
  have hl := left_in I hr hk (r' := ⟨r.a, r.t, D', n', ⟨r.b.m, cutAt (0, 0) r.b.ids k, remCol r.b.m r.b.cf k 16⟩⟩) rfl p
  constructor
  · rintro (a | rfl)
    · exact (hl.1 a).1
    · exact ⟨j, r, hr, row_mem hk⟩
  · intro a
    by_cases e : p = (i, x)
    · exact .inr e
    · exact .inl (hl.2 ⟨a, e⟩)
theorem moved_len {j k : Nat} {r : Ar} {D' : DataW Unit} {n' : Nat} {m i x : Int} {cl : List (Int × Int)} {ts' : List Ar} (hr : ts[j]? = some r) (hE : EntT (leftT ts j k r D' n') m (i, x) cl ts') : ts'.length = if hasL (am ts) m = true then ts.length else ts.length + 1 := by
  obtain ⟨tm, j2, r2, D2, n2, hO, hr2, rfl⟩ := hE
  rw [List.length_set, open_len hO, left_am hr]
  unfold leftT
  rw [List.length_set]
theorem moved_map {j k : Nat} {r : Ar} {D' : DataW Unit} {n' : Nat} {m i x : Int} {more : List (Int × Int)} {ts' : List Ar} (hE : EntT (leftT ts j k r D' n') m (i, x) (outI r.b.m r.b.cf k 16 ++ more) ts') : ts'.map Ar.b = moveB (ts.map Ar.b) j k r.b m (i, x) more := by
  rw [ent_map hE]
  unfold moveB leftT
  rw [List.map_set]
  rfl

/-- The Store behind a move. -/
theorem moved_st {F : Nat → Prop} {cnt : Nat} {bs : List Tb} (h2 : SInv cnt room tables ps ds ts H nh) (h3 : ts.map Ar.b = bs) (h4 : ∀ b, φ b ≠ 0 → F b) {j k : Nat} {r : Ar} (hr : ts[j]? = some r) {i x : Int} (hk : r.b.ids[k]? = some (i, x)) {m : Int} {more : List (Int × Int)} {w' : World} (hf : (hasL (am ts) m || decide ((ts.length : Int) < tables)) = true)
    (hP : MovePost w φ g room tables ps ds ts j k r bh m i x more cnt (.returned (.int .i64 0)) w') : St w' (Ext F w w') (cnt + 2) g room tables ps ds (moveB bs j k r.b m (i, x) more) ∧ Touch F w w' := by
  obtain ⟨φ', ts', H', nh', va', D', n', _, hS, hI, hE, hT, hg⟩ := hP
  have hl := moved_len hr hE
  have hlim := h2.lim
  have hlen := h2.len
  refine ⟨⟨φ', ts', H', nh', va', bh, hS, ⟨hI, h2.p.more (by omega), fun a b => by rw [h2.link, moved_in h2.t hr hk hE], by rw [hl]; split <;> omega, ?_⟩, by rw [← h3]; exact moved_map hE, fun b hb => ?_⟩, hT.mono h4⟩
  · rw [hl]
    refine ⟨?_, hlim.2⟩
    cases hh : hasL (am ts) m
    · rw [hh] at hf
      simp at hf
      rw [if_neg (by decide)]
      omega
    · rw [if_pos rfl]; exact hlim.1
  · have := hS.wf b hb
    rcases hg b hb with e | e
    · exact .inl (h4 b e)
    · exact .inr ⟨e, this⟩
theorem colSet_len {cf : Nat → List Int} {c k : Nat} {v : Int} (d : Nat) : (colSet cf c ((cf c).set k v) d).length = (cf d).length := by
  by_cases e : d = c
  · subst e; rw [colSet_same, List.length_set]
  · rw [colSet_other _ e]
theorem TInv.setv {cnt : Nat} (h : TInv cnt ts H nh) {j : Nat} {r : Ar} (hr : ts[j]? = some r) (c k : Nat) (v : Int) : TInv cnt (ts.set j ⟨r.a, r.t, r.D, r.n, ⟨r.b.m, r.b.ids, colSet r.b.cf c ((r.b.cf c).set k v)⟩⟩) H nh := by
  obtain ⟨o1, o2, o3, o4, o5⟩ := h.ok j r hr
  have hin : ∀ p, InT (ts.set j ⟨r.a, r.t, r.D, r.n, ⟨r.b.m, r.b.ids, colSet r.b.cf c ((r.b.cf c).set k v)⟩⟩) p → InT ts p := by
    rintro p ⟨l, q, hq, hp⟩
    rcases set_get hq with ⟨_, rfl, _⟩ | ⟨_, hq⟩
    · exact ⟨j, r, hr, hp⟩
    · exact ⟨l, q, hq, hp⟩
  have hin' : ∀ p, InT ts p → InT (ts.set j ⟨r.a, r.t, r.D, r.n, ⟨r.b.m, r.b.ids, colSet r.b.cf c ((r.b.cf c).set k v)⟩⟩) p := by
    rintro p ⟨l, q, hq, hp⟩
    have hjl := (List.getElem?_eq_some_iff.1 hr).1
    by_cases e : l = j
    · subst e
      rw [hr] at hq
      injection hq with hq
      subst hq
      exact ⟨l, _, List.getElem?_set_self hjl, hp⟩
    · exact ⟨l, q, by rw [List.getElem?_set_ne (fun x => e x.symm)]; exact hq, hp⟩
  refine ⟨fun l q hq => ?_, fun l q i x hq hp => ?_, fun i x hi hx hn => h.no i x hi hx (fun e => hn (hin' _ e)), fun a b q s p hq hs hp hp2 => ?_, h.nhc⟩
  · rcases set_get hq with ⟨_, rfl, _⟩ | ⟨_, hq⟩
    · exact ⟨o1, o2, fun d hd hb => by rw [colSet_len]; exact o3 d hd hb, o4, o5⟩
    · exact h.ok l q hq
  · rcases set_get hq with ⟨_, rfl, _⟩ | ⟨_, hq⟩
    · exact h.yes j r i x hr hp
    · exact h.yes l q i x hq hp
  · rcases set_get hq with ⟨e1, rfl, _⟩ | ⟨e1, hq⟩ <;> rcases set_get hs with ⟨e2, rfl, _⟩ | ⟨e2, hs⟩
    · omega
    · have := h.one j b r s p hr hs hp hp2; omega
    · have := h.one a j q r p hq hr hp hp2; omega
    · exact h.one a b q s p hq hs hp hp2
end

section
variable {w : World} {F : Nat → Prop} {cnt g : Nat} {room tables : Int} {ps : List (Int × Bool)} {ds : List Int} {bs : List Tb}

theorem put_stale (h : St w F cnt g room tables ps ds bs) (i x c v : Int) (hi : I64 i) (hx : I64 x) (hn : hasI ps i x = false) :
    Calls Try.prog 12 #[.pointer (some ⟨g, 0, none⟩), .agg #[.int .i64 i, .int .i64 x], .agg #[.int .i64 c, .int .i64 v]] w fun e w' => e = .returned (.int .i64 11) ∧ Touch NoB w w' := by
  obtain ⟨φ, ts, H, nh, va, bh, h1, h2, h3, h4⟩ := h
  have TW : Touch NoB w ((w.alloc (.cells #[.int .i64 i, .int .i64 x] 30)).alloc (.cells #[.int .i64 c, .int .i64 v] 32)) := ((Touch.refl NoB w).alloc _).alloc _
  have hno : ¬ InT ts (i, x) := fun e => by rw [← h2.link, hn] at e; cases e
  have HF := Lib.hid (find_stale (h1.quiet TW) h2.t i x c hi hx hno)
  have HT := Lib.hid TW
  clear h1 h2 h3 h4 hno hn TW
  go_enter Try.func12, Try.ntmps12
  go_wp2_with fail
  refine HF.out.mono ?_
  rintro e w1 ⟨rfl, hT1⟩
  have HT1 := Lib.hid (HT.out.same hT1)
  clear hT1
  go_wp2
  go_ret
  exact ⟨rfl, HT1.out⟩

theorem put_arg (h : St w F cnt g room tables ps ds bs) (i x c v : Int) {j k : Nat} {b : Tb} (hb : bs[j]? = some b) (hk : b.ids[k]? = some (i, x)) (hc : isC c = false) :
    Calls Try.prog 12 #[.pointer (some ⟨g, 0, none⟩), .agg #[.int .i64 i, .int .i64 x], .agg #[.int .i64 c, .int .i64 v]] w fun e w' => e = .returned (.int .i64 1) ∧ Touch NoB w w' := by
  obtain ⟨φ, ts, H, nh, va, bh, h1, h2, h3, h4⟩ := h
  obtain ⟨r, hr, rfl⟩ := at_ts h3 hb
  have TW : Touch NoB w ((w.alloc (.cells #[.int .i64 i, .int .i64 x] 30)).alloc (.cells #[.int .i64 c, .int .i64 v] 32)) := ((Touch.refl NoB w).alloc _).alloc _
  have HF := Lib.hid (find_in (h1.quiet TW) h2.t hr i x c (row_mem hk))
  rw [hc, if_neg (by decide)] at HF
  have HT := Lib.hid TW
  clear h1 h2 h3 h4 hr hb hk hc TW
  go_enter Try.func12, Try.ntmps12
  go_wp2_with fail
  refine HF.out.mono ?_
  rintro e w1 ⟨rfl, hT1⟩
  have HT1 := Lib.hid (HT.out.same hT1)
  clear hT1
  go_wp2
  go_ret
  exact ⟨rfl, HT1.out⟩

theorem put_set (h : St w F cnt g room tables ps ds bs) (i x v : Int) {j k c : Nat} {b : Tb} (hb : bs[j]? = some b) (hk : b.ids[k]? = some (i, x)) (hc : c < 16) (hbt : bitB b.m c = true) :
    Calls Try.prog 12 #[.pointer (some ⟨g, 0, none⟩), .agg #[.int .i64 i, .int .i64 x], .agg #[.int .i64 c, .int .i64 v]] w fun e w' => e = .returned (.int .i64 0) ∧ St w' (Ext F w w') (cnt + 2) g room tables ps ds (bs.set j (setB b k c v)) ∧ Touch F w w' := by
  obtain ⟨φ, ts, H, nh, va, bh, h1, h2, h3, h4⟩ := h
  obtain ⟨r, hr, rfl⟩ := at_ts h3 hb
  have TW : Touch NoB w ((w.alloc (.cells #[.int .i64 i, .int .i64 x] 30)).alloc (.cells #[.int .i64 c, .int .i64 v] 32)) := ((Touch.refl NoB w).alloc _).alloc _
  have HF := Lib.hid (find_in (h1.quiet TW) h2.t hr i x c (row_mem hk))
  rw [isC_nat hc, if_pos rfl] at HF
  obtain ⟨hi, hx⟩ := h2.t.key ⟨j, r, hr, row_mem hk⟩
  obtain ⟨o1, o2, o3, o4, o5⟩ := h2.t.ok j r hr
  have hmr := h1.m0 j r hr
  have hkl := (List.getElem?_eq_some_iff.1 hk).1
  have hrow : rowOf r.b.ids (i, x) = some k := rowOf_at o1.once hk
  have hra := (h1.arch j r hr).1
  have l1 := blk_lt hra
  have hra4 := (h1.arch j r hr).2
  have hn0 := two_new w (.cells #[.int .i64 i, .int .i64 x] 30) (.cells #[.int .i64 c, .int .i64 v] 32)
  have HRow : Hid (∀ W : World, Touch NoB w W → Calls Try.prog 40 #[.pointer (some ⟨r.t, 0, none⟩), .agg #[.int .i64 i, .int .i64 x]] W fun e w' => e = .returned (.int .i64 (k : Int)) ∧ Touch NoB W w') := fun W hW => by
    have := trow_any r.t r.b.m i x r.b.ids r.b.cf r.D r.n _ W ((h1.tab j r hr).quiet hW) o2 hi hx
    rwa [rowV_some hrow] at this
  have HSet : Hid (∀ W : World, Touch NoB w W → Calls Try.prog 39 #[.pointer (some ⟨r.t, 0, none⟩), .int .i64 k, .int .i64 c, .int .i64 v] W fun e w' => e = .returned (.bool true) ∧ (St w' (Ext F w w') (cnt + 2) g room tables ps ds (bs.set j (setB r.b k c v)) ∧ Touch F w w') ∧ Touch (fun b => φ b = 5 + 2 * r.b.m) W w') := fun W hW => by
    refine (tset_yes r.t k c r.b.m v r.b.ids r.b.cf r.D r.n _ W ((h1.tab j r hr).quiet hW) hmr.1 hmr.2 hkl hc hbt (by rw [o3 c hc hbt]; exact hkl)).mono ?_
    rintro e w' ⟨rfl, hTO, hT⟩
    have hS := (h1.quiet hW).putTab hr hT (hTO.more ext_self)
    have hT' : Touch F w w' := (hW.mono (fun _ e => e.elim)).same (hT.mono (fun b e => h4 b (by rw [e]; omega)))
    refine ⟨rfl, ⟨⟨_, _, H, nh, va, bh, hS, ⟨(h2.t.setv hr c k v).more (by omega), h2.p.more (by omega), fun a b => ?_, by rw [List.length_set]; have := h2.len; omega, by rw [List.length_set]; exact h2.lim⟩, by rw [List.map_set, h3]; rfl, fun b hb => ?_⟩, hT'⟩, hT⟩
    · rw [h2.link]
      constructor
      · rintro ⟨l, q, hq, hp⟩
        have hjl := (List.getElem?_eq_some_iff.1 hr).1
        by_cases e : l = j
        · subst e
          rw [hr] at hq
          injection hq with hq
          subst hq
          exact ⟨l, _, List.getElem?_set_self hjl, hp⟩
        · exact ⟨l, q, by rw [List.getElem?_set_ne (fun x => e x.symm)]; exact hq, hp⟩
      · rintro ⟨l, q, hq, hp⟩
        rcases set_get hq with ⟨_, rfl, _⟩ | ⟨_, hq⟩
        · exact ⟨j, r, hr, hp⟩
        · exact ⟨l, q, hq, hp⟩
    · have hl := hS.wf b hb
      unfold relab at hb
      split at hb
      · right; have := hW.size; omega
      · exact .inl (h4 b hb)
  have hmm := hmr.1
  have HX := Lib.hid (And.intro hra (And.intro hn0.1 hn0.2))
  have Hφ0 : Hid (φ w.heap.size ≠ 5 + 2 * r.b.m ∧ φ (w.heap.size + 1) ≠ 5 + 2 * r.b.m ∧ φ r.a ≠ 5 + 2 * r.b.m) := ⟨fun e => by have := h1.wf _ (by rw [e]; omega); omega, fun e => by have := h1.wf _ (by rw [e]; omega); omega, fun e => by omega⟩
  have HT := Lib.hid TW
  clear h1 h2 h3 h4 hr hb hk hbt TW o1 o2 o3 o4 o5 hrow hra hn0 hra4 hmr
  go_enter Try.func12, Try.ntmps12
  go_wp2_with fail
  refine HF.out.mono ?_
  rintro e w1 ⟨rfl, hT1⟩
  have hW1 := HT.out.same hT1
  have hz := hT1.size
  simp only [World.size_alloc] at hz
  have hA := (hW1.block r.a l1 (fun e => e)).trans HX.out.1
  have hB := (hT1.block w.heap.size (by simp; omega) (fun e => e)).trans HX.out.2.1
  have hC := (hT1.block (w.heap.size + 1) (by simp) (fun e => e)).trans HX.out.2.2
  have k1 : w1.cell? ⟨r.a, 1, none⟩ = some (.pointer (some ⟨r.t, 0, none⟩)) := cell_blk hA 1
  have k2 : w1.cell? ⟨w.heap.size, 0, none⟩ = some (.int .i64 i) := cell_blk hB 0
  have k3 : w1.cell? ⟨w.heap.size, 1, none⟩ = some (.int .i64 x) := cell_blk hB 1
  have k4 : w1.cell? ⟨w.heap.size + 1, 0, none⟩ = some (.int .i64 c) := cell_blk hC 0
  have k5 : w1.cell? ⟨w.heap.size + 1, 1, none⟩ = some (.int .i64 v) := cell_blk hC 1
  have l1' := blk_lt hA
  have l2' := blk_lt hB
  have l3' := blk_lt hC
  have HW1 := Lib.hid hW1
  have HB := Lib.hid (And.intro hA (And.intro hB hC))
  clear hT1 hW1 hA hB hC
  go_wp2_with fail
  go_region_held3 (fun w' => w'.cell? ⟨r.a, 1, none⟩ = some (.pointer (some ⟨r.t, 0, none⟩)) ∧ w'.cell? ⟨w.heap.size, 0, none⟩ = some (.int .i64 i) ∧ w'.cell? ⟨w.heap.size, 1, none⟩ = some (.int .i64 x) ∧ w'.cell? ⟨w.heap.size + 1, 0, none⟩ = some (.int .i64 c) ∧ w'.cell? ⟨w.heap.size + 1, 1, none⟩ = some (.int .i64 v)) (first | go_keep | exact ⟨kk1, kk2, kk3, kk4, kk5⟩)
    (first | (go_at_call 40
              refine (HRow.out _ (HW1.out.drew)).mono ?_
              rintro e w3 ⟨rfl, hT3⟩
              have hW3 := (HW1.out.drew).same hT3
              have hA := (hT3.block r.a l1' (fun e => e)).trans HB.out.1
              have hB := (hT3.block w.heap.size l2' (fun e => e)).trans HB.out.2.1
              have hC := (hT3.block (w.heap.size + 1) l3' (fun e => e)).trans HB.out.2.2
              have kk1 : w3.cell? ⟨r.a, 1, none⟩ = some (.pointer (some ⟨r.t, 0, none⟩)) := cell_blk hA 1
              have kk2 : w3.cell? ⟨w.heap.size, 0, none⟩ = some (.int .i64 i) := cell_blk hB 0
              have kk3 : w3.cell? ⟨w.heap.size, 1, none⟩ = some (.int .i64 x) := cell_blk hB 1
              have kk4 : w3.cell? ⟨w.heap.size + 1, 0, none⟩ = some (.int .i64 c) := cell_blk hC 0
              have kk5 : w3.cell? ⟨w.heap.size + 1, 1, none⟩ = some (.int .i64 v) := cell_blk hC 1
              have HW3 := Lib.hid hW3
              have HB3 := Lib.hid (And.intro hA (And.intro hB hC))
              clear hT3 hW3 hA hB hC)
           | (go_at_call 39
              refine (HSet.out _ HW3.out).mono ?_
              rintro e w4 ⟨rfl, hP, hT4⟩
              have hA := (hT4.block r.a (blk_lt HB3.out.1) Hφ0.out.2.2).trans HB3.out.1
              have hB := (hT4.block w.heap.size (blk_lt HB3.out.2.1) Hφ0.out.1).trans HB3.out.2.1
              have hC := (hT4.block (w.heap.size + 1) (blk_lt HB3.out.2.2) Hφ0.out.2.1).trans HB3.out.2.2
              have kk1 : w4.cell? ⟨r.a, 1, none⟩ = some (.pointer (some ⟨r.t, 0, none⟩)) := cell_blk hA 1
              have kk2 : w4.cell? ⟨w.heap.size, 0, none⟩ = some (.int .i64 i) := cell_blk hB 0
              have kk3 : w4.cell? ⟨w.heap.size, 1, none⟩ = some (.int .i64 x) := cell_blk hB 1
              have kk4 : w4.cell? ⟨w.heap.size + 1, 0, none⟩ = some (.int .i64 c) := cell_blk hC 0
              have kk5 : w4.cell? ⟨w.heap.size + 1, 1, none⟩ = some (.int .i64 v) := cell_blk hC 1
              have HP := Lib.hid hP
              clear hT4 hP hA hB hC))
  go_wp2
  go_ret
  exact ⟨rfl, HP.out⟩
end
end Go.Proofs.Yticekldgjlihmaa
