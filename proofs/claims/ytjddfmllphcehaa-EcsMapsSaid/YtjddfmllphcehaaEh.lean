/-
  What leave returns, and what it leaves in memory.
-/
import Derived.Test.YtjddfmllphcehaaEg
namespace Go.Proofs.Ytjddfmllphcehaa
open Go.ChangeShapes Go.WideShapes Go.ChangeAt Go.RowKit Go.Maps
set_option maxRecDepth 100000
set_option maxHeartbeats 1000000

theorem zeroPtr (w : World) : (zeroValue 86).run Try.prog w = .ok (.pointer none) w := by kernel_rfl

/-- A block of cells of another kind is not the Ids's. -/
theorem Own.less {tl : List Value} {w : World} {F : Nat → Prop} {g : Nat} {room : Int} {ps : List (Int × Bool)} {ds : List Int} (h : Own tl w F g room ps ds) {b : Nat} {cs : Array Value} (hb : w.heap[b]? = some (.cells cs 32 (0, 0))) : Own tl w (fun k => F k ∧ k ≠ b) g room ps ds := by
  obtain ⟨vp, vd, hg, hp, hd, f0, f1, f2⟩ := h
  refine ⟨vp, vd, hg, hp, hd, ⟨f0, fun e => ?_⟩, fun k hk => ⟨f1 k hk, fun e => row_ne hp hb (by decide) (e ▸ hk)⟩, fun k hk => ⟨f2 k hk, fun e => row_ne hd hb (by decide) (e ▸ hk)⟩⟩
  subst e
  rw [hg] at hb
  simp at hb
theorem TO.less {w : World} {F : Nat → Prop} {g : Nat} {m : Int} {ids : List (Int × Int)} {cf : Nat → List Int} {D : DataW Unit} {n : Nat} (h : TO w F g m ids cf D n) {b : Nat} {cs : Array Value} (hb : w.heap[b]? = some (.cells cs 32 (0, 0))) : TO w (fun k => F k ∧ k ≠ b) g m ids cf D n := by
  obtain ⟨vi, vm, vc, cs', h⟩ := h
  refine ⟨vi, vm, vc, cs', h.blk, h.size, h.c0, h.c1, h.c2, h.cc, h.ri, h.rc, h.mp, h.ap, ⟨h.fg, fun e => ?_⟩, fun k hk => ⟨h.fi k hk, fun e => row_ne h.ri hb (by decide) (e ▸ hk)⟩, fun c hc k hk => ⟨h.fc c hc k hk, fun e => row_ne (h.rc c hc) hb (by decide) (e ▸ hk)⟩, fun k hk => ⟨h.fm k hk, fun e => blk_ne_map hb h.mp hk e⟩⟩
  have := h.blk
  subst e
  rw [this] at hb
  simp at hb

section
variable {w : World} {φ : Nat → Int} {g : Nat} {room tables : Int} {ps : List (Int × Bool)} {ds : List Int} {ts : List Ar} {H : DataW Unit} {nh : Nat} {va : Value} {bh : Nat}

/-- The label of one block is struck. -/
def nolab (φ : Nat → Int) (b : Nat) : Nat → Int := fun k => if k = b then 0 else φ k
theorem nolab_other {φ : Nat → Int} {b k : Nat} (h : k ≠ b) : nolab φ b k = φ k := by unfold nolab; rw [if_neg h]
theorem nolab_some {φ : Nat → Int} {b k : Nat} (h : nolab φ b k ≠ 0) : φ k ≠ 0 := by
  unfold nolab at h
  split at h
  · exact absurd rfl h
  · exact h
theorem SG.less (h : SG w φ g room tables ps ds ts H nh va bh) {b : Nat} {cs : Array Value} (hb : w.heap[b]? = some (.cells cs 32 (0, 0))) : SG w (nolab φ b) g room tables ps ds ts H nh va bh := by
  refine ⟨(h.own.less hb).more (fun k hk => (nolab_other hk.2).trans hk.1), h.row, fun k hk => (nolab_other (fun e => row_ne h.row hb (by decide) (hk.trans (congrArg some e)))).trans (h.rowL k hk), h.map, (nolab_other (fun e => ?_)).trans h.mapL, fun j r hr => ⟨(h.arch j r hr).1, (nolab_other (fun e => ?_)).trans (h.arch j r hr).2⟩, fun j r hr => ((h.tab j r hr).less hb).more (fun k hk => (nolab_other hk.2).trans hk.1), fun k hk => h.wf k (nolab_some hk), h.m0, h.asc⟩
  · obtain ⟨es, clock, hm, _⟩ := h.map
    rw [e, hb] at hm
    cases hm
  · have := (h.arch j r hr).1
    rw [e, hb] at this
    simp at this

/-- What a look-up gives. -/
theorem SG.look (h : SG w φ g room tables ps ds ts H nh va bh) {cnt : Nat} (I : TInv cnt ts H nh) {j : Nat} {r : Ar} (hr : ts[j]? = some r) {i x : Int} (hp : (i, x) ∈ r.b.ids) :
    (Instr.lookup 67 (.map (some bh)) (.agg #[.int .i64 i, .int .i64 x]) false).run Try.prog w = .ok (.pointer (some ⟨r.a, 0, none⟩)) w ∧ (Instr.lookup 67 (.map (some bh)) (.agg #[.int .i64 i, .int .i64 x]) true).run Try.prog w = .ok (.tuple #[.pointer (some ⟨r.a, 0, none⟩), .bool true]) w := by
  obtain ⟨hi, hx⟩ := I.key ⟨j, r, hr, hp⟩
  obtain ⟨y1, y2⟩ := I.yes j r i x hr hp
  obtain ⟨v, ps1, hrun, hv⟩ := h.map.lookup lawId Try.underlying67 (zeroPtr w) ptr_none (key_id hi hx)
  obtain ⟨v2, ps2, hrun2, hv2⟩ := h.map.look_ok lawId Try.underlying67 (zeroPtr w) ptr_none (key_id hi hx)
  rw [y2] at hv hv2
  rw [y1] at hrun2
  obtain rfl := ptr_inv hv
  obtain rfl := ptr_inv hv2
  exact ⟨hrun, hrun2⟩
theorem SG.lookNo (h : SG w φ g room tables ps ds ts H nh va bh) {cnt : Nat} (I : TInv cnt ts H nh) {i x : Int} (hi : I64 i) (hx : I64 x) (hn : ¬ InT ts (i, x)) :
    ∃ v, (Instr.lookup 67 (.map (some bh)) (.agg #[.int .i64 i, .int .i64 x]) true).run Try.prog w = .ok (.tuple #[v, .bool false]) w := by
  obtain ⟨v2, ps2, hrun2, _⟩ := h.map.look_ok lawId Try.underlying67 (zeroPtr w) ptr_none (key_id hi hx)
  rw [I.no i x hi hx hn] at hrun2
  exact ⟨v2, hrun2⟩

/-- ts' is ts without the k-th entity of table j. -/
def leftT (ts : List Ar) (j k : Nat) (r : Ar) (D' : DataW Unit) (n' : Nat) : List Ar := ts.set j ⟨r.a, r.t, D', n', ⟨r.b.m, cutAt (0, 0) r.b.ids k, remCol r.b.m r.b.cf k 16⟩⟩
def LeavePost (w : World) (φ : Nat → Int) (g : Nat) (room tables : Int) (ps : List (Int × Bool)) (ds : List Int) (ts : List Ar) (bh : Nat) (j k : Nat) (r : Ar) (cnt : Nat) (e : Ending) (w' : World) : Prop :=
  ∃ φ' H' nh' va' D' n' A N cap, e = .returned (.slice A N cap) ∧ SG w' φ' g room tables ps ds (leftT ts j k r D' n') H' nh' va' bh ∧ TInv (cnt + 1) (leftT ts j k r D' n') H' nh' ∧ N = (outI r.b.m r.b.cf k 16).length ∧ w'.ownsRow w.heap.size 32 2 (.slice A N cap) N (idc (outI r.b.m r.b.cf k 16)) ∧ (∀ b, (Value.slice A N cap).ownBlock = some b → φ' b = 0) ∧
    Touch (fun b => φ b ≠ 0) w w' ∧ ∀ b, φ' b ≠ 0 → φ b ≠ 0 ∨ w.heap.size ≤ b

theorem leave_any {cnt : Nat} (h : SG w φ g room tables ps ds ts H nh va bh) (I : TInv cnt ts H nh) {j k : Nat} {r : Ar} (hr : ts[j]? = some r) {i x : Int} (hk : r.b.ids[k]? = some (i, x)) (hc : cnt ≤ 1000) :
    Calls Try.prog 34 #[.pointer (some ⟨g, 0, none⟩), .agg #[.int .i64 i, .int .i64 x]] w (LeavePost w φ g room tables ps ds ts bh j k r cnt) := by
  have hp := row_mem hk
  obtain ⟨hi, hx⟩ := I.key ⟨j, r, hr, hp⟩
  obtain ⟨o1, o2, o3, o4, o5⟩ := I.ok j r hr
  have hkl := (List.getElem?_eq_some_iff.1 hk).1
  obtain ⟨⟨i1, x1⟩, h9⟩ : ∃ p, r.b.ids[r.b.ids.length - 1]? = some p := ⟨_, List.getElem?_eq_getElem (by omega)⟩
  obtain ⟨hi1, hx1⟩ := o1.wf _ _ _ h9
  have TW : Touch NoB w (w.alloc (.cells #[.int .i64 i, .int .i64 x] 30)).drew := ((Touch.refl NoB w).alloc _).drew
  have h0 := h.quiet TW
  have hlook := (h0.look I hr hp).1
  have hq0 : φ w.heap.size = 0 := Classical.byContradiction fun e => by have := h.wf _ e; omega
  have hqb : (w.alloc (.cells #[.int .i64 i, .int .i64 x] 30)).heap[w.heap.size]? = some (.cells #[.int .i64 i, .int .i64 x] 30 (0, 0)) := alloc_blk w _ _ rfl
  have h00 := h0.quiet ((Touch.refl NoB _).drew)
  obtain ⟨w2, hdel, ho2, ht2⟩ := World.ownsMap.drop h00.map lawId Try.underlying67 (key_id hi hx) 0
  have h2 := h00.putMap ht2.grown ho2
  have hs2 := ht2.grown.size
  have hs2' : w.heap.size + 1 ≤ w2.heap.size := by have e : ((w.alloc (.cells #[.int .i64 i, .int .i64 x] 30)).drew.drew).heap.size = w.heap.size + 1 := World.size_alloc _ _
                                                   omega
  have hT2 : Touch (fun b => φ b = 3) w w2 := ((TW.drew).mono (fun _ e => e.elim)).grown ht2.grown (fun q e => by injection e with e; subst e; exact .inl h.mapL)
  have hT2' : Touch (fun b => φ b = 3) (w.alloc (.cells #[.int .i64 i, .int .i64 x] 30)) w2 := (((Touch.refl (fun b => φ b = 3) (w.alloc (.cells #[.int .i64 i, .int .i64 x] 30))).drew).drew).grown ht2.grown (fun q e => by injection e with e; subst e; exact .inl h.mapL)
  have hq2 : w2.heap[w.heap.size]? = some (.cells #[.int .i64 i, .int .i64 x] 30 (0, 0)) := (hT2'.block _ (by simp) (fun e => by omega)).trans hqb
  obtain ⟨φ2, hφ2⟩ : ∃ φ2, φ2 = relab φ ((w.alloc (.cells #[.int .i64 i, .int .i64 x] 30)).drew.drew) w2 3 := ⟨_, rfl⟩
  rw [← hφ2] at h2
  have hφ2g : ∀ b, φ2 b ≠ 0 → φ b ≠ 0 ∨ w.heap.size ≤ b := by
    intro b hb
    rw [hφ2] at hb
    unfold relab at hb
    split at hb
    · rename_i hb2
      right
      have e : ((w.alloc (.cells #[.int .i64 i, .int .i64 x] 30)).drew.drew).heap.size = w.heap.size + 1 := World.size_alloc _ _
      omega
    · exact .inl hb
  have hqφ : φ2 w.heap.size = 0 := by
    rw [hφ2]
    unfold relab
    rw [if_neg (fun e => by have := e.1; have e2 : ((w.alloc (.cells #[.int .i64 i, .int .i64 x] 30)).drew.drew).heap.size = w.heap.size + 1 := World.size_alloc _ _; omega)]
    exact hq0
  have hra := (h2.arch j r hr).1
  have hrφ := (h2.arch j r hr).2
  have hmr := h2.m0 j r hr
  have k1 : w2.cell? ⟨r.a, 1, none⟩ = some (.pointer (some ⟨r.t, 0, none⟩)) := cell_blk hra 1
  have k2 : w2.cell? ⟨w.heap.size, 0, none⟩ = some (.int .i64 i) := cell_blk hq2 0
  have k3 : w2.cell? ⟨w.heap.size, 1, none⟩ = some (.int .i64 x) := cell_blk hq2 1
  have l1 := blk_lt hra
  have l2 := blk_lt hq2
  have g5 := h.at5
  have hgl := h.lt
  have hrow : rowOf r.b.ids (i, x) = some k := rowOf_at o1.once hk
  have HRow : Hid (∀ W : World, Touch NoB w2 W → Calls Try.prog 41 #[.pointer (some ⟨r.t, 0, none⟩), .agg #[.int .i64 i, .int .i64 x]] W fun e w' => e = .returned (.int .i64 (k : Int)) ∧ Touch NoB W w') := fun W hW => by
    have := trow_any r.t r.b.m i x r.b.ids r.b.cf r.D r.n _ W ((h2.tab j r hr).quiet hW) o2 hi hx
    rwa [rowV_some hrow] at this
  have HRem : Hid (∀ W : World, Touch NoB w2 W → Calls Try.prog 64 #[.pointer (some ⟨r.t, 0, none⟩), .int .i64 k] W (RemPost W (fun b => φ2 b = 5 + 2 * r.b.m) r.t r.b.m r.b.ids r.b.cf ((r.D.put (klI i1 x1) (.lit (.int .i64 k))).del (klI i x)) (r.n + 1) k)) := fun W hW =>
    tremove_yes r.t k r.b.m i x i1 x1 r.b.ids r.b.cf r.D r.n _ W ((h2.tab j r hr).quiet hW) (fun b hb => ⟨Nat.zero_le _, Nat.lt_of_lt_of_le (h2.wf b (by rw [hb]; omega)) hW.size⟩) hmr.1 hmr.2 (by omega) (by omega) hkl o3 hk h9 ⟨hi, hx⟩ ⟨hi1, hx1⟩
  have HEnd : Hid (∀ (W w4 : World) (v : Value), Touch NoB w2 W → RemPost W (fun b => φ2 b = 5 + 2 * r.b.m) r.t r.b.m r.b.ids r.b.cf ((r.D.put (klI i1 x1) (.lit (.int .i64 k))).del (klI i x)) (r.n + 1) k (.returned (.tuple #[v, .bool true])) w4 →
      LeavePost w φ g room tables ps ds ts bh j k r cnt (.returned v) w4 ∧ w4.heap[r.a]? = some (.cells #[.int .u16 r.b.m, .pointer (some ⟨r.t, 0, none⟩)] 98 (0, 0)) ∧ w4.heap[w.heap.size]? = some (.cells #[.int .i64 i, .int .i64 x] 30 (0, 0))) := by
    rintro W w4 v hW ⟨v', e, hown, hTO, hT4⟩
    injection e with e
    injection e with e
    have e2 : v' = v := by simpa using e.symm
    subst e2
    have hWs := hW.size
    have h3 := h2.quiet hW
    have h4 := h3.putTab hr hT4 hTO
    have T24 : Touch (fun b => φ2 b = 5 + 2 * r.b.m) w2 w4 := (hW.mono (fun _ e => e.elim)).same hT4
    have hT04 : Touch (fun b => φ b ≠ 0) w w4 := (hT2.mono (fun b e => by rw [e]; decide)).trans T24 (fun b e => hφ2g b (by rw [e]; omega))
    refine ⟨?_, (T24.block r.a l1 (fun e => by omega)).trans hra, (T24.block _ l2 (fun e => by omega)).trans hq2⟩
    have I4 := I.left hr hk h9 (h2.tab j r hr).isMap
    have hgr : ∀ b, relab φ2 W w4 (5 + 2 * r.b.m) b ≠ 0 → φ b ≠ 0 ∨ w.heap.size ≤ b := by
      intro b hb
      unfold relab at hb
      split at hb
      · right; omega
      · exact hφ2g b hb
    obtain ⟨A, cap, rfl, _, _⟩ := row_any hown
    have hown' : w4.ownsRow w.heap.size 32 2 (.slice A (outI r.b.m r.b.cf k 16).length cap) (outI r.b.m r.b.cf k 16).length (idc (outI r.b.m r.b.cf k 16)) := by
      refine ⟨hown.1, ?_⟩
      rcases hown.2 with e | ⟨g', cap', cur, a, b, c⟩
      · exact .inl e
      · exact .inr ⟨g', cap', cur, a, by omega, c⟩
    rcases hown.2 with ⟨e, _⟩ | ⟨g', cap', cur, e, hb1, hb2, _⟩
    · refine ⟨_, _, _, _, _, _, A, _, cap, rfl, h4, I4, rfl, hown', fun b hb => ?_, hT04, hgr⟩
      rw [e] at hb
      simp [Value.ownBlock] at hb
    · refine ⟨nolab (relab φ2 W w4 (5 + 2 * r.b.m)) g', _, _, _, _, _, A, _, cap, rfl, h4.less hb2, I4, rfl, hown', fun b hb => ?_, hT04, fun b hb => hgr b (nolab_some hb)⟩
      rw [e] at hb
      have : g' = b := by simpa [Value.ownBlock] using hb
      unfold nolab
      rw [if_pos this.symm]
  have HX := Lib.hid (And.intro hra hq2)
  clear h I hr hk hp o1 o2 o3 o4 o5 hkl h9 TW h0 hqb h00 ho2 ht2 h2 hT2 hT2' hq2 hφ2 hφ2g hqφ hra hrφ hmr hrow hs2 hs2' hq0
  go_enter Try.func34, Try.ntmps34
  go_wp2
  go_region
  go_wp2
  go_region
  go_wp2_with fail
  go_region_held3 (fun w' => w'.cell? ⟨r.a, 1, none⟩ = some (.pointer (some ⟨r.t, 0, none⟩)) ∧ w'.cell? ⟨w.heap.size, 0, none⟩ = some (.int .i64 i) ∧ w'.cell? ⟨w.heap.size, 1, none⟩ = some (.int .i64 x)) (first | go_keep | exact ⟨kk1, kk2, kk3⟩)
    (first | (go_at_call 41
              refine (HRow.out _ ((Touch.refl NoB w2).drew)).mono ?_
              rintro e w3 ⟨rfl, hT3⟩
              have hW3 := ((Touch.refl NoB w2).drew).same hT3
              have kk1 : w3.cell? ⟨r.a, 1, none⟩ = some (.pointer (some ⟨r.t, 0, none⟩)) := cell_blk ((hW3.block r.a l1 (fun e => e)).trans HX.out.1) 1
              have kk2 : w3.cell? ⟨w.heap.size, 0, none⟩ = some (.int .i64 i) := cell_blk ((hW3.block _ l2 (fun e => e)).trans HX.out.2) 0
              have kk3 : w3.cell? ⟨w.heap.size, 1, none⟩ = some (.int .i64 x) := cell_blk ((hW3.block _ l2 (fun e => e)).trans HX.out.2) 1
              have HW3 := Lib.hid hW3
              clear hT3 hW3)
           | (go_at_call 64
              refine (HRem.out _ HW3.out).mono ?_
              rintro e w4 hR
              obtain ⟨v, he, _⟩ := id hR
              subst he
              obtain ⟨hE, ha4, hq4⟩ := HEnd.out _ w4 v HW3.out hR
              have kk1 : w4.cell? ⟨r.a, 1, none⟩ = some (.pointer (some ⟨r.t, 0, none⟩)) := cell_blk ha4 1
              have kk2 : w4.cell? ⟨w.heap.size, 0, none⟩ = some (.int .i64 i) := cell_blk hq4 0
              have kk3 : w4.cell? ⟨w.heap.size, 1, none⟩ = some (.int .i64 x) := cell_blk hq4 1
              have HE := Lib.hid hE
              clear hR hE ha4 hq4))
  go_wp2
  go_ret
  exact HE.out
end
end Go.Proofs.Ytjddfmllphcehaa
