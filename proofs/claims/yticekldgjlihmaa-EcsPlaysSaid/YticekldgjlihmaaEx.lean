/-
  Put of a component more; Take; Despawn.
-/
import Derived.Test.YticekldgjlihmaaEw
namespace Go.Proofs.Yticekldgjlihmaa
open Go.ChangeShapes Go.WideShapes Go.ChangeAt Go.RowKit Go.Maps
set_option maxRecDepth 100000
set_option maxHeartbeats 1000000

section
variable {w : World} {F : Nat → Prop} {cnt g : Nat} {room tables : Int} {ps : List (Int × Bool)} {ds : List Int} {bs : List Tb}

/-- What a move comes to: there is room for the table, or there is none. -/
def MoveEnd (w : World) (F : Nat → Prop) (cnt g : Nat) (room tables : Int) (ps : List (Int × Bool)) (ds : List Int) (bs : List Tb) (j k : Nat) (b : Tb) (m : Int) (p : Int × Int) (more : List (Int × Int)) (z : Int) (w' : World) : Prop :=
  if (hasB bs m || decide ((bs.length : Int) < tables)) = true then z = 0 ∧ St w' (Ext F w w') (cnt + 2) g room tables ps ds (moveB bs j k b m p more) ∧ Touch F w w' else z = 10 ∧ Touch NoB w w'

theorem ent_arch {ts ts' : List Ar} {m : Int} {p : Int × Int} {cl : List (Int × Int)} (h : EntT ts m p cl ts') {j : Nat} {r : Ar} (hr : ts[j]? = some r) : ∃ (l : Nat) (q : Ar), ts'[l]? = some q ∧ q.a = r.a ∧ q.t = r.t ∧ q.b.m = r.b.m := by
  obtain ⟨tm, j2, r2, D2, n2, hO, hr2, rfl⟩ := h
  obtain ⟨l, hl⟩ := open_has hO hr
  by_cases e : l = j2
  · subst e
    rw [hr2] at hl
    injection hl with hl
    subst hl
    exact ⟨l, _, List.getElem?_set_self (List.getElem?_eq_some_iff.1 hr2).1, rfl, rfl, rfl⟩
  · exact ⟨l, r, by rw [List.getElem?_set_ne (fun x => e x.symm)]; exact hl, rfl, rfl, rfl⟩

theorem move_end {φ : Nat → Int} {ts : List Ar} {H : DataW Unit} {nh : Nat} {va : Value} {bh : Nat} (h1 : SG w φ g room tables ps ds ts H nh va bh) (h2 : SInv cnt room tables ps ds ts H nh) (h3 : ts.map Ar.b = bs) (h4 : ∀ b, φ b ≠ 0 → F b) (hc : cnt ≤ 900) {j k : Nat} {r : Ar} (hr : ts[j]? = some r) {i x : Int} (hk : r.b.ids[k]? = some (i, x)) {m : Int} (hm : 0 ≤ m ∧ m < 65536) (more : List (Int × Int)) (vm : Value) (W : World) (hW : Touch NoB w W) (hM : MoreAt W φ vm more) :
    Calls Try.prog 41 #[.pointer (some ⟨g, 0, none⟩), .agg #[.int .i64 i, .int .i64 x], .int .u16 m, vm] W fun e w' => ∃ z, e = .returned (.int .i64 z) ∧ MoveEnd w F cnt g room tables ps ds bs j k r.b m (i, x) more z w' ∧ w'.heap[r.a]? = some (.cells #[.int .u16 r.b.m, .pointer (some ⟨r.t, 0, none⟩)] 93 (0, 0)) ∧ ∀ b, φ b = 0 → b < W.heap.size → w'.heap[b]? = W.heap[b]? := by
  have hl := h2.len
  have hra := (h1.arch j r hr).1
  have hfe : (hasB bs m || decide ((bs.length : Int) < tables)) = (hasL (am ts) m || decide ((ts.length : Int) < tables)) := by rw [← h3, hasB_map, List.length_map]
  unfold MoveEnd
  rw [hfe]
  cases hf : (hasL (am ts) m || decide ((ts.length : Int) < tables))
  · refine (move_full (h1.quiet hW) m _ vm (by omega) ⟨i, x, rfl⟩ (by rcases hM with ⟨e, _⟩ | ⟨_, _, _, e, _⟩ <;> exact ⟨_, _, _, e⟩) hf).mono ?_
    rintro e w' ⟨rfl, hT⟩
    exact ⟨10, rfl, by rw [if_neg (by decide)]; exact ⟨rfl, hW.same hT⟩, ((hW.same hT).block _ (blk_lt hra) (fun e => e)).trans hra, fun b _ hb => hT.block b hb (fun e => e)⟩
  · refine (move_ok (h1.quiet hW) h2.t hr hk m vm more hm hc (by omega) hM hf).mono ?_
    intro e w' hP
    obtain ⟨φ', ts', H', nh', va', D', n', he, hS, hI, hE, hT, hg⟩ := id hP
    subst he
    obtain ⟨a, b⟩ := moved_st h2 h3 h4 hr hk hf hP
    have hs := hW.size
    have a' : St w' (Ext F w w') (cnt + 2) g room tables ps ds (moveB bs j k r.b m (i, x) more) := a.more (fun q hq => hq.elim .inl (fun e => .inr ⟨by omega, e.2⟩)) (Nat.le_refl _)
    obtain ⟨l, q, hq, q1, q2, q3⟩ := ent_arch hE (j := j) (r := ⟨r.a, r.t, D', n', ⟨r.b.m, cutAt (0, 0) r.b.ids k, remCol r.b.m r.b.cf k 16⟩⟩) (List.getElem?_set_self (List.getElem?_eq_some_iff.1 hr).1)
    have harch := (hS.arch l q hq).1
    rw [q1, q2, q3] at harch
    refine ⟨0, rfl, ?_, harch, fun b hb hbl => hT.block b hbl (fun e => e hb)⟩
    rw [if_pos rfl]
    exact ⟨rfl, a', (hW.mono (fun _ e => e.elim)).same b⟩

theorem put_more (h : St w F cnt g room tables ps ds bs) (hc9 : cnt ≤ 900) (i x v : Int) {j k c : Nat} {b : Tb} (hb : bs[j]? = some b) (hk : b.ids[k]? = some (i, x)) (hc : c < 16) (hbt : bitB b.m c = false) :
    Calls Try.prog 12 #[.pointer (some ⟨g, 0, none⟩), .agg #[.int .i64 i, .int .i64 x], .agg #[.int .i64 c, .int .i64 v]] w fun e w' => ∃ z, e = .returned (.int .i64 z) ∧ MoveEnd w F cnt g room tables ps ds bs j k b (orM b.m c) (i, x) [((c : Int), v)] z w' := by
  obtain ⟨φ, ts, H, nh, va, bh, h1, h2, h3, h4⟩ := h
  obtain ⟨r, hr, rfl⟩ := at_ts h3 hb
  have TW : Touch NoB w ((w.alloc (.cells #[.int .i64 i, .int .i64 x] 30)).alloc (.cells #[.int .i64 c, .int .i64 v] 32)) := ((Touch.refl NoB w).alloc _).alloc _
  have HF := Lib.hid (find_in (h1.quiet TW) h2.t hr i x c (row_mem hk))
  rw [isC_nat hc, if_pos rfl] at HF
  obtain ⟨hi, hx⟩ := h2.t.key ⟨j, r, hr, row_mem hk⟩
  obtain ⟨o1, o2, o3, o4, o5⟩ := h2.t.ok j r hr
  have hmr := h1.m0 j r hr
  have hrow : rowOf r.b.ids (i, x) = some k := rowOf_at o1.once hk
  have hra := (h1.arch j r hr).1
  have l1 := blk_lt hra
  have hn0 := two_new w (.cells #[.int .i64 i, .int .i64 x] 30) (.cells #[.int .i64 c, .int .i64 v] 32)
  have HRow : Hid (∀ W : World, Touch NoB w W → Calls Try.prog 40 #[.pointer (some ⟨r.t, 0, none⟩), .agg #[.int .i64 i, .int .i64 x]] W fun e w' => e = .returned (.int .i64 (k : Int)) ∧ Touch NoB W w') := fun W hW => by
    have := trow_any r.t r.b.m i x r.b.ids r.b.cf r.D r.n _ W ((h1.tab j r hr).quiet hW) o2 hi hx
    rwa [rowV_some hrow] at this
  have HSet : Hid (∀ W : World, Touch NoB w W → Calls Try.prog 39 #[.pointer (some ⟨r.t, 0, none⟩), .int .i64 k, .int .i64 c, .int .i64 v] W fun e w' => e = .returned (.bool false) ∧ w' = W) := fun W hW =>
    (tset_no r.t r.b.m k c v r.b.ids r.b.cf r.D r.n _ W ((h1.tab j r hr).quiet hW) hmr.1 hmr.2 (by rw [show colB r.b.m (c : Int) = false from by unfold colB; simp [hbt], Bool.and_false])).mono fun e w' ⟨a, b⟩ => ⟨a, b.symm⟩
  have hor := orM_range hmr.2 hc
  have HMove : Hid (∀ (W : World) (mb : Nat), Touch NoB w W → W.heap[mb]? = some (.cells #[.int .i64 c, .int .i64 v] 32 (0, 0)) → w.heap.size ≤ mb → Calls Try.prog 41 #[.pointer (some ⟨g, 0, none⟩), .agg #[.int .i64 i, .int .i64 x], .int .u16 (orM r.b.m c), .slice (some ⟨mb, 0, none⟩) 1 1] W fun e w' => ∃ z, e = .returned (.int .i64 z) ∧ MoveEnd w F cnt g room tables ps ds bs j k r.b (orM r.b.m c) (i, x) [((c : Int), v)] z w' ∧ w'.heap[r.a]? = some (.cells #[.int .u16 r.b.m, .pointer (some ⟨r.t, 0, none⟩)] 93 (0, 0)) ∧ ∀ b, w.heap.size ≤ b → b < W.heap.size → w'.heap[b]? = W.heap[b]?) := fun W mb hW hmb hge =>
    (move_end h1 h2 h3 h4 hc9 hr hk hor [((c : Int), v)] _ W hW (.inr ⟨mb, c, v, rfl, rfl, hmb, Classical.byContradiction fun e => by have := h1.wf _ e; omega⟩)).mono fun e w' ⟨z, a, b, c, d⟩ => ⟨z, a, b, c, fun q hq => d q (Classical.byContradiction fun e => by have := h1.wf _ e; omega)⟩
  have ho := or_bw hmr.1 hmr.2 hc
  have HX := Lib.hid (And.intro hra (And.intro hn0.1 hn0.2))
  have HT := Lib.hid TW
  obtain ⟨R, hR⟩ : ∃ R : Int → World → Prop, R = fun z w' => MoveEnd w F cnt g room tables ps ds bs j k r.b (orM r.b.m c) (i, x) [((c : Int), v)] z w' := ⟨_, rfl⟩
  have e1 : ∀ z w', MoveEnd w F cnt g room tables ps ds bs j k r.b (orM r.b.m c) (i, x) [((c : Int), v)] z w' = R z w' := fun z w' => by rw [hR]
  simp only [e1] at HMove
  simp only [e1]
  clear h1 h2 h3 h4 hr hb hk hbt TW o1 o2 o3 o4 o5 hrow hra hn0 hor hR e1
  obtain ⟨bm, hbm⟩ : ∃ bm, r.b.m = bm := ⟨_, rfl⟩
  rw [hbm] at HX ho HMove
  clear hmr hbm
  go_enter Try.func12, Try.ntmps12
  go_wp2_with fail
  refine HF.out.mono ?_
  rintro e w1 ⟨rfl, hT1⟩
  have hW1 := HT.out.same hT1
  have hz := hT1.size
  simp only [World.size_alloc] at hz
  have hA := (hW1.block r.a l1 (fun e => e)).trans HX.out.1
  have hB := (hT1.block w.heap.size (by simp; omega) (fun e => e)).trans HX.out.2.1
  have hC := (hT1.block (w.heap.size + 1) (by simp) (fun e => e)).trans HX.out.2.2
  have k1 : w1.cell? ⟨r.a, 1, none⟩ = some (.pointer (some ⟨r.t, 0, none⟩)) := cell_blk hA 1
  have k2 : w1.cell? ⟨w.heap.size, 0, none⟩ = some (.int .i64 i) := cell_blk hB 0
  have k3 : w1.cell? ⟨w.heap.size, 1, none⟩ = some (.int .i64 x) := cell_blk hB 1
  have k4 : w1.cell? ⟨w.heap.size + 1, 0, none⟩ = some (.int .i64 c) := cell_blk hC 0
  have k5 : w1.cell? ⟨w.heap.size + 1, 1, none⟩ = some (.int .i64 v) := cell_blk hC 1
  have l1' := blk_lt hA
  have l2' := blk_lt hB
  have l3' := blk_lt hC
  have HW1 := Lib.hid hW1
  have HB := Lib.hid (And.intro hA (And.intro hB hC))
  clear hT1 hW1 hA hB hC
  go_wp2_with fail
  go_region_held3 (fun w' => w'.cell? ⟨r.a, 1, none⟩ = some (.pointer (some ⟨r.t, 0, none⟩)) ∧ w'.cell? ⟨w.heap.size, 0, none⟩ = some (.int .i64 i) ∧ w'.cell? ⟨w.heap.size, 1, none⟩ = some (.int .i64 x) ∧ w'.cell? ⟨w.heap.size + 1, 0, none⟩ = some (.int .i64 c) ∧ w'.cell? ⟨w.heap.size + 1, 1, none⟩ = some (.int .i64 v)) (first | go_keep | exact ⟨kk1, kk2, kk3, kk4, kk5⟩)
    (first | (go_at_call 40
              refine (HRow.out _ (HW1.out.drew)).mono ?_
              rintro e w3 ⟨rfl, hT3⟩
              have hW3 := (HW1.out.drew).same hT3
              have hA := (hT3.block r.a l1' (fun e => e)).trans HB.out.1
              have hB := (hT3.block w.heap.size l2' (fun e => e)).trans HB.out.2.1
              have hC := (hT3.block (w.heap.size + 1) l3' (fun e => e)).trans HB.out.2.2
              have kk0 : w3.cell? ⟨r.a, 0, none⟩ = some (.int .u16 bm) := cell_blk hA 0
              have kk1 : w3.cell? ⟨r.a, 1, none⟩ = some (.pointer (some ⟨r.t, 0, none⟩)) := cell_blk hA 1
              have kk2 : w3.cell? ⟨w.heap.size, 0, none⟩ = some (.int .i64 i) := cell_blk hB 0
              have kk3 : w3.cell? ⟨w.heap.size, 1, none⟩ = some (.int .i64 x) := cell_blk hB 1
              have kk4 : w3.cell? ⟨w.heap.size + 1, 0, none⟩ = some (.int .i64 c) := cell_blk hC 0
              have kk5 : w3.cell? ⟨w.heap.size + 1, 1, none⟩ = some (.int .i64 v) := cell_blk hC 1
              have l13 := blk_lt hA
              have l23 := blk_lt hB
              have l33 := blk_lt hC
              have HW3 := Lib.hid hW3
              have HB3 := Lib.hid (And.intro hB hC)
              clear hT3 hW3 hA hB hC)
           | (go_at_call 39
              refine (HSet.out _ HW3.out).mono ?_
              rintro e w4 ⟨rfl, rfl⟩))
  go_wp2_with fail
  go_region_held3 (fun w' => w'.cell? ⟨r.a, 0, none⟩ = some (.int .u16 bm) ∧ w'.cell? ⟨w.heap.size, 0, none⟩ = some (.int .i64 i) ∧ w'.cell? ⟨w.heap.size, 1, none⟩ = some (.int .i64 x) ∧ w'.cell? ⟨w.heap.size + 1, 0, none⟩ = some (.int .i64 c) ∧ w'.cell? ⟨w.heap.size + 1, 1, none⟩ = some (.int .i64 v)) (first | go_keep | exact ⟨jj0, jj2, jj3, jj4, jj5⟩)
    (first | (go_at_call 42; refine (bit_any c _ hc).mono ?_; rintro e w' ⟨rfl, rfl⟩)
           | (go_at_call 41
              refine (HMove.out _ _ ((HW3.out.drew).alloc _) (alloc_blk _ _ _ rfl) (by have := HW3.out.size; simpa using this)).mono ?_
              rintro e w5 ⟨z, rfl, hR, hA, hBs⟩
              have hB := (hBs w.heap.size (Nat.le_refl _) (by simp; have := blk_lt HB3.out.1; omega)).trans (((Touch.refl NoB _).alloc _).block _ (by have := blk_lt HB3.out.1; simpa using this) (fun e => e) |>.trans HB3.out.1)
              have hC := (hBs (w.heap.size + 1) (by omega) (by simp; have := blk_lt HB3.out.2; omega)).trans (((Touch.refl NoB _).alloc _).block _ (by have := blk_lt HB3.out.2; simpa using this) (fun e => e) |>.trans HB3.out.2)
              have jj0 : w5.cell? ⟨r.a, 0, none⟩ = some (.int .u16 bm) := cell_blk hA 0
              have jj2 : w5.cell? ⟨w.heap.size, 0, none⟩ = some (.int .i64 i) := cell_blk hB 0
              have jj3 : w5.cell? ⟨w.heap.size, 1, none⟩ = some (.int .i64 x) := cell_blk hB 1
              have jj4 : w5.cell? ⟨w.heap.size + 1, 0, none⟩ = some (.int .i64 c) := cell_blk hC 0
              have jj5 : w5.cell? ⟨w.heap.size + 1, 1, none⟩ = some (.int .i64 v) := cell_blk hC 1
              have HR := Lib.hid hR
              clear hR hA hBs hB hC))
  all_goals
    go_wp2
    go_ret
    exact ⟨_, rfl, HR.out⟩

/-- What Take comes to, its own tables aside. -/
def TakeEnd (w : World) (F : Nat → Prop) (cnt g : Nat) (room tables : Int) (ps : List (Int × Bool)) (ds : List Int) (bs : List Tb) (j k c : Nat) (b : Tb) (p : Int × Int) (y z : Int) (w' : World) : Prop :=
  MoveEnd w F cnt g room tables ps ds bs j k b (clM b.m c) p [] z w' ∧ y = if z = 0 then (b.cf c).getD k 0 else 0

theorem take_stale (h : St w F cnt g room tables ps ds bs) (i x c : Int) (hi : I64 i) (hx : I64 x) (hn : hasI ps i x = false) :
    Calls Try.prog 14 #[.pointer (some ⟨g, 0, none⟩), .agg #[.int .i64 i, .int .i64 x], .int .i64 c] w fun e w' => e = .returned (tup2 (0, 11)) ∧ Touch NoB w w' := by
  have TW : Touch NoB w (w.alloc (.cells #[.int .i64 i, .int .i64 x] 30)) := (Touch.refl NoB w).alloc _
  have HG := Lib.hid (get_stale (h.quiet TW) i x c hi hx hn)
  have HT := Lib.hid TW
  unfold tup2 at HG
  clear h hn TW
  go_enter Try.func14, Try.ntmps14
  go_wp2_with fail
  refine HG.out.mono ?_
  rintro e w1 ⟨rfl, hT1⟩
  have HT1 := Lib.hid (HT.out.same hT1)
  clear hT1
  go_wp2
  go_ret2
  exact ⟨rfl, HT1.out⟩
theorem take_no (h : St w F cnt g room tables ps ds bs) (i x c : Int) {j k : Nat} {b : Tb} (hb : bs[j]? = some b) (hk : b.ids[k]? = some (i, x)) {z : Int} (hv : getV b k c = (0, z)) (hz : z ≠ 0) :
    Calls Try.prog 14 #[.pointer (some ⟨g, 0, none⟩), .agg #[.int .i64 i, .int .i64 x], .int .i64 c] w fun e w' => e = .returned (tup2 (0, z)) ∧ Touch NoB w w' := by
  have TW : Touch NoB w (w.alloc (.cells #[.int .i64 i, .int .i64 x] 30)) := (Touch.refl NoB w).alloc _
  have HG := Lib.hid (get_in (h.quiet TW) i x c hb hk)
  have HT := Lib.hid TW
  rw [hv] at HG
  unfold tup2 at HG ⊢
  have dz : (z != 0) = true := by simpa using hz
  clear h hb hk hv TW hz
  go_enter Try.func14, Try.ntmps14
  go_wp2_with fail
  refine HG.out.mono ?_
  rintro e w1 ⟨rfl, hT1⟩
  have HT1 := Lib.hid (HT.out.same hT1)
  clear hT1
  go_wp2
  go_ret2
  exact ⟨rfl, HT1.out⟩
end
end Go.Proofs.Yticekldgjlihmaa
