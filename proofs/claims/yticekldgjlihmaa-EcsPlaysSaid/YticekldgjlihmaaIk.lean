/-
  The document's own Ids (puppeteerref1): what Make, Drop and All return, and what they leave in memory.
-/
import Derived.Test.YticekldgjlihmaaIj
namespace Go.Proofs.Yticekldgjlihmaa
open Go.ChangeShapes Go.WideShapes Go.ChangeAt Go.RowKit

theorem row_set {w : World} {base : Nat} {e : TypeId} {size n : Nat} {v : Value} {xs : List Value} (h : w.ownsRow base e size v n xs) {p : Addr} (hp : v.ownBlock ≠ some p.block) (u : Value) : (w.setCell p u).ownsRow base e size v n xs :=
  row_touch h (Touch.setCell (F := fun b => b = p.block) (Touch.refl _ w) (.inl rfl) u) (fun k hk (e : k = p.block) => hp (e ▸ hk))
theorem set_last {α : Type} (l : List α) (a b : α) {n : Nat} (h : l.length = n) : (l ++ [a]).set n b = l ++ [b] := by
  rw [List.set_append_right _ _ (by omega), show n - l.length = 0 from by omega]; rfl
theorem blk_set {w : World} {g : Nat} {o : Obj} (hg : w.heap[g]? = some o) {p : Addr} (hp : g ≠ p.block) (u : Value) : (w.setCell p u).heap[g]? = some o := (Below.heap_setCell _ _ _ _ hp).trans hg

set_option maxHeartbeats 1000000 in
theorem rmake_full (g : Nat) (room : Int) (ps : List (Int × Bool)) (F : Nat → Prop) (w : World) (h : ROwn w F g room ps []) (hr : room ≤ ps.length) :
    Calls Try.prog 30 #[.pointer (some ⟨g, 0, none⟩)] w fun e w' => e = .returned (.tuple #[.agg #[.int .i64 0, .int .i64 0], .int .i64 10]) ∧ Touch NoB w w' := by
  obtain ⟨vg, vl, vf, hg, hp, _, hf, _⟩ := h
  obtain ⟨A, cap, rfl, hc1, hc2⟩ := row_any hp
  obtain ⟨A2, cap2, rfl, hc3, hc4⟩ := row_any hf
  unfold maxLen at hc2 hc4
  have hl := blk_lt hg
  have k0 : w.cell? ⟨g, 0, none⟩ = some (.int .i64 room) := cell_blk hg 0
  have k1 : w.cell? ⟨g, 1, none⟩ = some (.slice A ps.length cap) := cell_blk hg 1
  have k3 : w.cell? ⟨g, 3, none⟩ = some (.slice A2 0 cap2) := cell_blk hg 3
  clear hp hf hg hc3 hc4
  generalize ps.length = n at *
  have d1 : decide (room ≤ (n : Int)) = true := by simpa using hr
  go_enter Try.func30, Try.ntmps30
  go_wp2
  exact bodyPost_ret (v := .tuple #[.agg #[.int .i64 0, .int .i64 0], .int .i64 10]) (by simp [results, Try.results30, go_sem]) rfl ⟨rfl, by repeat (first | with_reducible exact Touch.refl _ _ | with_reducible refine Touch.alloc ?_ _ | with_reducible refine Touch.drewN ?_ _ | with_reducible refine Touch.drew ?_ | with_reducible refine Touch.setCell ?_ (.inr (by simp)) _)⟩

set_option maxHeartbeats 2000000 in
theorem rmake_pop (g k : Nat) (room y : Int) (u : Bool) (ps : List (Int × Bool)) (ds : List Int) (F : Nat → Prop) (w : World) (h : ROwn w F g room ps (ds ++ [(k : Int)])) (hF : InW w 0 F) (hj : ps[k]? = some (y, u)) (hy0 : 0 ≤ y) (hy : y < 1000000000) :
    Calls Try.prog 30 #[.pointer (some ⟨g, 0, none⟩)] w fun e w' => e = .returned (.tuple #[.agg #[.int .i64 k, .int .i64 (y + 1)], .int .i64 0]) ∧ ROwn w' F g room (ps.set k (y + 1, true)) ds ∧ Touch F w w' := by
  obtain ⟨vg, vl, vf, hg, hp, hq, hd, hne, f0, f1, f2, f3⟩ := h
  have hkl : k < ps.length := (List.getElem?_eq_some_iff.1 hj).1
  rw [List.length_append, List.length_singleton] at hd
  obtain ⟨gd, cap, rfl, hc1, hc2, hob⟩ := row_form hd (by omega)
  obtain ⟨gg, capg, rfl, hg1, hg2, hobg⟩ := row_form hp (by omega)
  obtain ⟨gl, capl, rfl, hl1, hl2, hobl⟩ := row_form hq (by omega)
  unfold maxLen at hc2 hg2 hl2
  have hl := blk_lt hg
  have hld := row_lt hd hob
  have hlg := row_lt hp hobg
  have hll := row_lt hq hobl
  have n1 : gd ≠ g := fun e => row_ne hd hg (by decide) (e ▸ rfl)
  have n2 : gg ≠ g := fun e => row_ne hp hg (by decide) (e ▸ rfl)
  have n3 : gl ≠ g := fun e => row_ne hq hg (by decide) (e ▸ rfl)
  have n4 : gg ≠ gd := fun e => hne gg rfl (e ▸ rfl)
  have n5 : gg ≠ gl := fun e => row_row_ne hp hq (by decide) (k := gg) rfl (e ▸ rfl)
  have n6 : gd ≠ gl := fun e => row_row_ne hd hq (by decide) (k := gd) rfl (e ▸ rfl)
  have hcut := row_cut hd (m := ds.length) (by omega)
  have ecut : (ic (ds ++ [(k : Int)])).take (ds.length * 1) = ic ds := by
    simp only [ic, List.map_append, Nat.mul_one]
    rw [List.take_left' (by simp)]
  rw [ecut] at hcut
  have k1 : w.cell? ⟨g, 1, none⟩ = some (.slice (some ⟨gg, 0, none⟩) ps.length capg) := cell_blk hg 1
  have k2 : w.cell? ⟨g, 2, none⟩ = some (.slice (some ⟨gl, 0, none⟩) ps.length capl) := cell_blk hg 2
  have k3 : w.cell? ⟨g, 3, none⟩ = some (.slice (some ⟨gd, 0, none⟩) (ds.length + 1) cap) := cell_blk hg 3
  have z3 : w.frozen? ⟨g, 3, none⟩ = false := free_blk hg 3
  have c1 : w.cell? ⟨gd, ds.length, none⟩ = some (.int .i64 k) := by rw [hd.cellAt ds.length (by omega)]; simp [ic]
  have c2 : w.cell? ⟨gg, k, none⟩ = some (.int .i64 y) := by rw [hp.cellAt k (by omega), ic_at, List.getElem?_map, hj]; rfl
  have c3 : w.cell? ⟨gl, k, none⟩ = some (.bool u) := by rw [hq.cellAt k (by omega), bc_at, List.getElem?_map, hj]; rfl
  have z1 : w.frozen? ⟨gg, k, none⟩ = false := hp.frozenAt _
  have z2 : w.frozen? ⟨gl, k, none⟩ = false := hq.frozenAt _
  have hfin : ∀ W : World, Touch NoB w W → ROwn (((W.setCell ⟨g, 3, none⟩ (.slice (some ⟨gd, 0, none⟩) ds.length cap)).setCell ⟨gg, k, none⟩ (.int .i64 (y + 1))).setCell ⟨gl, k, none⟩ (.bool true)) F g room (ps.set k (y + 1, true)) ds := by
    intro W hT
    have hg := (hT.block g hl (fun x => x)).trans hg
    have hp := row_touch hp hT (fun _ _ x => x)
    have hq := row_touch hq hT (fun _ _ x => x)
    have hd := row_touch hd hT (fun _ _ x => x)
    have hcut := row_touch hcut hT (fun _ _ x => x)
    have a0 := set_blk hg 3 (.slice (some ⟨gd, 0, none⟩) ds.length cap)
    have a1 := row_set hp (p := ⟨g, 3, none⟩) (fun e => row_ne hp hg (by decide) e) (.slice (some ⟨gd, 0, none⟩) ds.length cap)
    have a2 := row_set hq (p := ⟨g, 3, none⟩) (fun e => row_ne hq hg (by decide) e) (.slice (some ⟨gd, 0, none⟩) ds.length cap)
    have a3 := row_set hcut (p := ⟨g, 3, none⟩) (fun e => row_ne hd hg (by decide) e) (.slice (some ⟨gd, 0, none⟩) ds.length cap)
    have b0 := blk_set a0 (p := ⟨gg, k, none⟩) (Ne.symm n2) (.int .i64 (y + 1))
    have b1 := (a1.stored k (.int .i64 (y + 1))).1
    have b2 := row_set a2 (p := ⟨gg, k, none⟩) (fun e => n5 (by simpa [Value.ownBlock] using e.symm)) (.int .i64 (y + 1))
    have b3 := row_set a3 (p := ⟨gg, k, none⟩) (fun e => n4 (by simpa [Value.ownBlock] using e.symm)) (.int .i64 (y + 1))
    have d0 := blk_set b0 (p := ⟨gl, k, none⟩) (Ne.symm n3) (.bool true)
    have d1 := row_set b1 (p := ⟨gl, k, none⟩) (fun e => n5 (by simpa [Value.ownBlock] using e)) (.bool true)
    have d2 := (b2.stored k (.bool true)).1
    have d3 := row_set b3 (p := ⟨gl, k, none⟩) (fun e => n6 (by simpa [Value.ownBlock] using e)) (.bool true)
    refine ⟨_, _, _, by simpa using d0, ?_, ?_, d3, fun j hj2 e => n4 ?_, f0, f1, f2, fun j hj2 => f3 j hj2⟩
    · rw [List.length_set, List.map_set]
      simpa [ic, List.map_set] using d1
    · rw [List.length_set, List.map_set, bc_set]
      exact d2
    · have e1 : gg = j := by simpa [Value.ownBlock] using hj2
      have e2 : gd = j := by simpa [Value.ownBlock] using e
      rw [e1, e2]
  have hF2 : ¬ F w.heap.size := fun x => by have := (hF _ x).2; omega
  have HFIN := Lib.hid hfin
  have Fs := Lib.hid (And.intro f0 (And.intro (f1 gg rfl) (f2 gl rfl)))
  have HF2 := Lib.hid hF2
  clear hg hp hq hd hne f0 f1 f2 f3 hj hob hobg hobl hcut ecut hfin hF hF2
  obtain ⟨m, hm⟩ : ∃ m, ds.length = m := ⟨_, rfl⟩
  rw [hm] at k3 c1 hc1 HFIN
  obtain ⟨n, hn⟩ : ∃ n, ps.length = n := ⟨_, rfl⟩
  rw [hn] at k1 k2 hkl hg1 hl1
  obtain ⟨M, hM⟩ : ∃ M, m + 1 = M := ⟨_, rfl⟩
  rw [hM] at k3 hc1
  have hmM : m < M := by omega
  have hw : IntKind.i64.wrap ((M : Int) - 1) = (m : Int) := by rw [IntKind.wrap_i64]; omega
  have hM0 : decide (0 < M) = true := by simp; omega
  clear hm hn hM
  go_enter Try.func30, Try.ntmps30
  go_wp2
  go_quiet (fail)
  go_wp2
  go_region
  all_goals
    go_wp2
    refine bodyPost_ret (v := .tuple #[.agg #[.int .i64 k, .int .i64 (y + 1)], .int .i64 0]) (by simp [results, Try.results30, go_sem]) rfl ⟨rfl, ?_, ?_⟩
    · exact ((HFIN.out _ (((Touch.refl _ w).alloc _).drewN _)).setCell HF2.out _).setCell HF2.out _
    · obtain ⟨f0, f1, f2⟩ := Fs.out
      exact ((((((((Touch.refl _ w).alloc _).drewN _).setCell (.inl f0) _).setCell (.inl f1) _).setCell (.inl f2) _).setCell (.inr (Nat.le_refl _)) _).setCell (.inr (Nat.le_refl _)) _)

set_option maxHeartbeats 2000000 in
theorem rmake_new (g : Nat) (room : Int) (ps : List (Int × Bool)) (F : Nat → Prop) (w : World) (h : ROwn w F g room ps []) (hF : InW w 0 F) (hr : (ps.length : Int) < room) (hm : room ≤ 100000) :
    Calls Try.prog 30 #[.pointer (some ⟨g, 0, none⟩)] w fun e w' => e = .returned (.tuple #[.agg #[.int .i64 ps.length, .int .i64 1], .int .i64 0]) ∧ ROwn w' (Ext F w w') g room (ps ++ [(1, true)]) [] ∧ Touch F w w' := by
  obtain ⟨vg, vl, vf, hg, hp, hq, hd, hne, f0, f1, f2, f3⟩ := h
  obtain ⟨A, cap, rfl, hc1, hc2⟩ := row_any hp
  obtain ⟨A2, cap2, rfl, hc3, hc4⟩ := row_any hq
  obtain ⟨A3, cap3, rfl, hc5, hc6⟩ := row_any hd
  unfold maxLen at hc2 hc4 hc6
  have hl := blk_lt hg
  have hF2 : ¬ F w.heap.size := fun x => by have := (hF _ x).2; omega
  have k0 : w.cell? ⟨g, 0, none⟩ = some (.int .i64 room) := cell_blk hg 0
  have k1 : w.cell? ⟨g, 1, none⟩ = some (.slice A ps.length cap) := cell_blk hg 1
  have k3 : w.cell? ⟨g, 3, none⟩ = some (.slice A3 0 cap3) := cell_blk hg 3
  have z1 : w.frozen? ⟨g, 1, none⟩ = false := free_blk hg 1
  have Hg := Lib.hid hg
  have Hp := Lib.hid hp
  have Hq := Lib.hid hq
  have Hd := Lib.hid hd
  have Hf := Lib.hid (And.intro f0 (And.intro f1 (And.intro f2 f3)))
  have Hne := Lib.hid hne
  have HF := Lib.hid hF
  have HF2 := Lib.hid hF2
  clear hg hp hq hd hne f0 f1 f2 f3 hF hF2 hc5 hc6
  obtain ⟨i0, hi, hz0, hz1, hz2⟩ := info_parts info_int
  obtain ⟨ib, hj, hy0, hy1, hy2⟩ := info_parts info_bool
  obtain ⟨n, hn⟩ : ∃ n, ps.length = n := ⟨_, rfl⟩
  rw [hn] at k1 hr hc1 hc3 Hg Hp Hq Hf Hne
  rw [hn]
  have Hn := Lib.hid hn
  clear hn
  have d1 : decide (room ≤ (n : Int)) = false := by simp; omega
  go_enter Try.func30, Try.ntmps30
  go_wp2_with (at_builtin; refine wpList_append_lies _ rfl (.tmp 14) (.tmp 15) 55 rfl 0 3 i0 _ 1 8 Try.underlying55 hi hz0 hz1 hz2 rfl (by decide) (.slice A n cap) n (ic (ps.map Prod.fst)) rfl ?o1 ⟨w.heap.size + 1, 0, none⟩ 1 1 [.int .i64 0] rfl rfl ?c1 ?c2 (by decide) ?c3 ?c4 (Nat.zero_le _) (w.heap.size + 2) ?c5 ?go)
  case o1 => exact (Hp.out.alloc _).alloc _
  case c1 => exact World.news_of_block (cs := #[.int .i64 0]) (alloc_blk (w.alloc (.cells #[.int .i64 0, .int .i64 0] 30)) _ 3 (by simp))
  case c2 => intro x hx; simp at hx; subst hx; rfl
  case c3 => unfold maxLen; omega
  case c4 => omega
  case c5 => simp
  case go =>
  intro gg cap1 w1 hown1 hgrow1 hat1 hlt1
  obtain ⟨f0, f1, f2, f3⟩ := Hf.out
  have TR1 : Touch (fun b => (Value.slice A n cap).ownBlock = some b) w w1 := (((Touch.refl _ w).alloc _).alloc _).grown hgrow1 (fun _ e => .inl e)
  have hgn : (Value.slice A n cap).ownBlock ≠ some g := row_ne Hp.out Hg.out (by decide)
  have g1 := (TR1.block g hl hgn).trans Hg.out
  have q1 := row_touch Hq.out TR1 (fun k hk x => row_row_ne Hp.out Hq.out (by decide) x hk)
  have d2 := row_touch Hd.out TR1 (fun k hk x => Hne.out k x hk)
  have hgg : F gg ∨ gg = w.heap.size + 2 := hat1.imp (fun e => f1 gg e) id
  have n2 : gg ≠ g := fun e => row_ne hown1 g1 (by decide) (e ▸ rfl)
  have n4 : (Value.slice A3 0 cap3).ownBlock ≠ some gg := by
    intro e
    rcases hat1 with x | x
    · exact Hne.out gg x e
    · have := (HF.out _ (f3 gg e)).2; omega
  have r1 : w1.heap[w.heap.size]? = some (.cells #[.int .i64 0, .int .i64 0] 30 (0, 0)) :=
    new_blk (((Touch.refl (fun b => (Value.slice A n cap).ownBlock = some b) (w.alloc (.cells #[.int .i64 0, .int .i64 0] 30))).alloc _).grown hgrow1 (fun _ e => .inl e)) rfl (fun e => HF2.out (f1 _ e))
  have T1 : Touch F w w1 := TR1.mono (fun b hb => f1 b hb)
  have hs1 : w.heap.size + 2 ≤ w1.heap.size := by have := hgrow1.size; simpa using this
  -- the new slice is stored into its field
  have g2 := set_blk g1 1 (.slice (some ⟨gg, 0, none⟩) (n + 1) cap1)
  have p2 := row_set hown1 (p := ⟨g, 1, none⟩) (fun e => row_ne hown1 g1 (by decide) e) (.slice (some ⟨gg, 0, none⟩) (n + 1) cap1)
  have q2 := row_set q1 (p := ⟨g, 1, none⟩) (fun e => row_ne q1 g1 (by decide) e) (.slice (some ⟨gg, 0, none⟩) (n + 1) cap1)
  have d3 := row_set d2 (p := ⟨g, 1, none⟩) (fun e => row_ne d2 g1 (by decide) e) (.slice (some ⟨gg, 0, none⟩) (n + 1) cap1)
  have r2 := blk_set r1 (p := ⟨g, 1, none⟩) (fun (e : w.heap.size = g) => HF2.out (e ▸ f0)) (.slice (some ⟨gg, 0, none⟩) (n + 1) cap1)
  have T2 := T1.setCell (p := ⟨g, 1, none⟩) (.inl f0) (.slice (some ⟨gg, 0, none⟩) (n + 1) cap1)
  have kx1 : w1.cell? ⟨g, 1, none⟩ = some (.slice A n cap) := cell_blk g1 1
  have kx2 : w1.cell? ⟨g, 2, none⟩ = some (.slice A2 n cap2) := cell_blk g1 2
  have zx1 : w1.frozen? ⟨g, 1, none⟩ = false := free_blk g1 1
  have hlx : g < w1.heap.size := blk_lt g1
  simp only [List.setIfInBounds_toArray, List.set_cons_succ, List.set_cons_zero] at g2
  have G2 := Lib.hid g2
  have P2 := Lib.hid p2
  have Q2 := Lib.hid q2
  have D3 := Lib.hid d3
  have R2 := Lib.hid r2
  have T2' := Lib.hid T2
  have HGG := Lib.hid hgg
  have N4 := Lib.hid n4
  clear hown1 hgrow1 hat1 TR1 hgn g1 q1 d2 hgg r1 T1 g2 p2 q2 d3 r2 T2 n4 Hg Hp Hq Hd Hne k0 k1 k3 z1
  go_wp2_with (at_builtin; refine wpList_append_lies _ rfl (.tmp 23) (.tmp 24) 111 rfl 0 4 ib _ 1 1 Try.underlying111 hj hy0 hy1 hy2 rfl (by decide) (.slice A2 n cap2) n (bc (ps.map Prod.snd)) rfl ?o2 ⟨w1.heap.size, 0, none⟩ 1 1 [.bool false] rfl rfl ?e1 ?e2 (by decide) ?e3 ?e4 (Nat.zero_le _) (w1.heap.size + 1) ?e5 ?go2)
  case o2 => exact Q2.out.alloc _
  case e1 => exact World.news_of_block (cs := #[.bool false]) (alloc_blk (w1.setCell ⟨g, 1, none⟩ (.slice (some ⟨gg, 0, none⟩) (n + 1) cap1)) _ 4 (by simp))
  case e2 => intro x hx; simp at hx; subst hx; rfl
  case e3 => unfold maxLen; omega
  case e4 => omega
  case e5 => simp
  case go2 =>
  intro gl cap4 w2 hown2 hgrow2 hat2 hlt2
  have TR2 : Touch (fun b => (Value.slice A2 n cap2).ownBlock = some b) (w1.setCell ⟨g, 1, none⟩ (.slice (some ⟨gg, 0, none⟩) (n + 1) cap1)) w2 := ((Touch.refl _ _).alloc _).grown hgrow2 (fun _ e => .inl e)
  have hgn : (Value.slice A2 n cap2).ownBlock ≠ some g := row_ne Q2.out G2.out (by decide)
  have g3 := (TR2.block g (blk_lt G2.out) hgn).trans G2.out
  have p3 := row_touch P2.out TR2 (fun k hk x => row_row_ne P2.out Q2.out (by decide) hk x)
  have d4 := row_touch D3.out TR2 (fun k hk x => row_row_ne D3.out Q2.out (by decide) hk x)
  have hF3 : ¬ (Value.slice A2 n cap2).ownBlock = some w.heap.size := fun e => HF2.out (f2 _ e)
  have r3 := (TR2.block _ (blk_lt R2.out) hF3).trans R2.out
  have hgl : F gl ∨ gl = w1.heap.size + 1 := hat2.imp (fun e => f2 gl e) id
  have n3 : gl ≠ g := fun e => row_ne hown2 g3 (by decide) (e ▸ rfl)
  have n5 : gg ≠ gl := fun e => row_row_ne p3 hown2 (by decide) (k := gg) rfl (e ▸ rfl)
  have T3 : Touch F w w2 := T2'.out.trans TR2 (fun b hb => .inl (f2 b hb))
  have n6 : (Value.slice A3 0 cap3).ownBlock ≠ some gl := fun e => row_row_ne d4 hown2 (by decide) e rfl
  have y1 : w2.cell? ⟨g, 1, none⟩ = some (.slice (some ⟨gg, 0, none⟩) (n + 1) cap1) := cell_blk g3 1
  have y2 : w2.cell? ⟨g, 2, none⟩ = some (.slice A2 n cap2) := cell_blk g3 2
  have yz : w2.frozen? ⟨g, 2, none⟩ = false := free_blk g3 2
  have hl2 : g < w2.heap.size := blk_lt g3
  have hs2 : w1.heap.size ≤ w2.heap.size := by have := TR2.size; simpa using this
  have e1 : w2.cell? ⟨gg, n, none⟩ = some (.int .i64 0) := by rw [p3.cellAt n (by omega)]; simp [ic, Hn.out]
  have e2 : w2.frozen? ⟨gg, n, none⟩ = false := p3.frozenAt _
  have e3 : w2.cell? ⟨gl, n, none⟩ = some (.bool false) := by rw [hown2.cellAt n (by omega)]; simp [bc, Hn.out]
  have e4 : w2.frozen? ⟨gl, n, none⟩ = false := hown2.frozenAt _
  have s1 : w2.cell? ⟨w.heap.size, 0, none⟩ = some (.int .i64 0) := cell_blk r3 0
  have s2 : w2.cell? ⟨w.heap.size, 1, none⟩ = some (.int .i64 0) := cell_blk r3 1
  have s3 := free_blk r3 0
  have s4 := free_blk r3 1
  have m1 : w.heap.size ≠ g := fun e => HF2.out (e ▸ f0)
  have m2 : w.heap.size ≠ gg := by
    intro e
    rcases HGG.out with x | x
    · exact HF2.out (e ▸ x)
    · omega
  have m3 : w.heap.size ≠ gl := by
    intro e
    rcases hgl with x | x
    · exact HF2.out (e ▸ x)
    · omega
  have hcap1 : n + 1 ≤ cap1 := by obtain ⟨_, _, hv, hh, _⟩ := row_form p3 (by omega); injection hv with _ _ hv; omega
  have hcap4 : n + 1 ≤ cap4 := by obtain ⟨_, _, hv, hh, _⟩ := row_form hown2 (by omega); injection hv with _ _ hv; omega
  have b1 : cap1 ≤ 9223372036854775807 := by obtain ⟨_, _, hv, hh, hx, _⟩ := row_form p3 (by omega); unfold maxLen at hx; injection hv with _ _ hv; omega
  have b4 : cap4 ≤ 9223372036854775807 := by obtain ⟨_, _, hv, hh, hx, _⟩ := row_form hown2 (by omega); unfold maxLen at hx; injection hv with _ _ hv; omega
  have G3 := Lib.hid g3
  have P3 := Lib.hid p3
  have D4 := Lib.hid d4
  have O2 := Lib.hid hown2
  have T3' := Lib.hid T3
  have HGL := Lib.hid hgl
  have N6 := Lib.hid n6
  clear hown2 hgrow2 hat2 TR2 hgn g3 p3 d4 hF3 r3 hgl T3 n6 G2 P2 Q2 D3 R2 T2' kx1 kx2 zx1
  go_wp2
  refine bodyPost_ret (v := .tuple #[.agg #[.int .i64 n, .int .i64 1], .int .i64 0]) (by simp [results, Try.results30, go_sem, s1, s2]) rfl ⟨rfl, ?_, ?_⟩
  · have x0 := set_blk G3.out 2 (.slice (some ⟨gl, 0, none⟩) (n + 1) cap4)
    simp only [List.setIfInBounds_toArray, List.set_cons_succ, List.set_cons_zero] at x0
    have x1 := row_set P3.out (p := ⟨g, 2, none⟩) (fun e => n2 (by simpa [Value.ownBlock] using e)) (.slice (some ⟨gl, 0, none⟩) (n + 1) cap4)
    have x2 := row_set O2.out (p := ⟨g, 2, none⟩) (fun e => n3 (by simpa [Value.ownBlock] using e)) (.slice (some ⟨gl, 0, none⟩) (n + 1) cap4)
    have x3 := row_set D4.out (p := ⟨g, 2, none⟩) (fun e => row_ne D4.out G3.out (by decide) e) (.slice (some ⟨gl, 0, none⟩) (n + 1) cap4)
    have u0 := blk_set x0 (p := ⟨gg, n, none⟩) (Ne.symm n2) (.int .i64 1)
    have u1 := (x1.stored n (.int .i64 1)).1
    have u2 := row_set x2 (p := ⟨gg, n, none⟩) (fun e => n5 (by simpa [Value.ownBlock] using e.symm)) (.int .i64 1)
    have u3 := row_set x3 (p := ⟨gg, n, none⟩) N4.out (.int .i64 1)
    have t0 := blk_set u0 (p := ⟨gl, n, none⟩) (Ne.symm n3) (.bool true)
    have t1 := row_set u1 (p := ⟨gl, n, none⟩) (fun e => n5 (by simpa [Value.ownBlock] using e)) (.bool true)
    have t2 := (u2.stored n (.bool true)).1
    have t3 := row_set u3 (p := ⟨gl, n, none⟩) N6.out (.bool true)
    rw [set_last _ _ _ (by simp [ic, Hn.out])] at t1
    rw [set_last _ _ _ (by simp [bc, Hn.out])] at t2
    have hR : ROwn (((w2.setCell ⟨g, 2, none⟩ (.slice (some ⟨gl, 0, none⟩) (n + 1) cap4)).setCell ⟨gg, n, none⟩ (.int .i64 1)).setCell ⟨gl, n, none⟩ (.bool true)) (fun b => F b ∨ b = gg ∨ b = gl) g room (ps ++ [(1, true)]) [] := by
      refine ⟨_, _, _, t0, ?_, ?_, t3, ?_, .inl f0, fun k hk => .inr (.inl (by simpa [Value.ownBlock] using hk.symm)), fun k hk => .inr (.inr (by simpa [Value.ownBlock] using hk.symm)), fun k hk => .inl (f3 k hk)⟩
      · rw [List.length_append, Hn.out, List.map_append]
        simpa [ic] using t1
      · rw [List.length_append, Hn.out, List.map_append]
        simpa [bc] using t2
      · intro k hk e
        have e1 : gg = k := by simpa [Value.ownBlock] using hk
        exact N4.out (e1 ▸ e)
    have hnF : ¬ (F w.heap.size ∨ w.heap.size = gg ∨ w.heap.size = gl) := by
      rintro (x | x | x)
      · exact HF2.out x
      · exact m2 x
      · exact m3 x
    refine ((hR.setCell (p := ⟨w.heap.size, 0, none⟩) hnF _).setCell (p := ⟨w.heap.size, 1, none⟩) hnF _).more ?_
    rintro b (x | rfl | rfl)
    · exact .inl x
    · rcases HGG.out with x | x
      · exact .inl x
      · right; simp; omega
    · rcases HGL.out with x | x
      · exact .inl x
      · right; simp; omega
  · refine ((((T3'.out.setCell (.inl f0) _).setCell ?_ _).setCell ?_ _).setCell (.inr (Nat.le_refl _)) _).setCell (.inr (Nat.le_refl _)) _
    · exact HGG.out.imp id (fun x => by show w.heap.size ≤ gg; omega)
    · exact HGL.out.imp id (fun x => by show w.heap.size ≤ gl; omega)
end Go.Proofs.Yticekldgjlihmaa
