/-
  What ids.take, Make and Drop return, and what they leave in memory.
-/
import Derived.Test.YticekldgjlihmaaSa
import Derived.Deep.AppendLies
namespace Go.Proofs.Yticekldgjlihmaa
open Go.ChangeShapes Go.WideShapes Go.ChangeAt Go.RowKit
variable {tl : List Value}

/-- A store into the row of places, seen by the whole Ids. -/
theorem own_place {w : World} {g gp cap n : Nat} {room : Int} {ds : List Int} {vd : Value} {xs : List Value}
    (hg : w.heap[g]? = some (.cells (.int .i64 room :: .slice (some ⟨gp, 0, none⟩) n cap :: vd :: tl).toArray 64 (0, 0))) (hp : w.ownsRow 0 117 2 (.slice (some ⟨gp, 0, none⟩) n cap) n xs) (hd : w.ownsRow 0 3 1 vd ds.length (ic ds)) (j : Nat) (u : Value) :
    (w.setCell ⟨gp, j, none⟩ u).heap[g]? = some (.cells (.int .i64 room :: .slice (some ⟨gp, 0, none⟩) n cap :: vd :: tl).toArray 64 (0, 0)) ∧ (w.setCell ⟨gp, j, none⟩ u).ownsRow 0 117 2 (.slice (some ⟨gp, 0, none⟩) n cap) n (xs.set j u) ∧ (w.setCell ⟨gp, j, none⟩ u).ownsRow 0 3 1 vd ds.length (ic ds) := by
  have h1 := row_ne hp hg (by decide)
  have h2 : g ≠ gp := fun e => h1 (by rw [e]; rfl)
  obtain ⟨s1, s2⟩ := hp.stored j u
  refine ⟨(Below.heap_setCell _ _ _ _ h2).trans hg, s1, hd.kept s2 ?_⟩
  exact .inr (row_row_ne hp hd (by decide) rfl)

/-- A block that was new before a call, behind it. -/
theorem new_blk {F : Nat → Prop} {W w1 : World} {cs : Array Value} {t : TypeId} {N : Nat} (hT : Touch F (W.alloc (.cells cs t)) w1) (hN : W.heap.size = N) (hF : ¬ F N) : w1.heap[N]? = some (.cells cs t (0, 0)) := by
  subst hN
  rw [hT.block _ (by simp) hF]
  exact heap_alloc_new W _
theorem alloc_blk (W : World) (cs : Array Value) (t : TypeId) {N : Nat} (hN : W.heap.size = N) : (W.alloc (.cells cs t)).heap[N]? = some (.cells cs t (0, 0)) := by
  subst hN; exact heap_alloc_new W _
theorem Own.setCell {w : World} {F : Nat → Prop} {g : Nat} {room : Int} {ps : List (Int × Bool)} {ds : List Int} (h : Own tl w F g room ps ds) {p : Addr} (hp : ¬ F p.block) (u : Value) : Own tl (w.setCell p u) F g room ps ds :=
  h.keep (G := fun b => b = p.block) ((Touch.refl (fun b => b = p.block) w).setCell (.inl rfl) u) (fun b hb (e : b = p.block) => hp (e ▸ hb))
theorem Own.alloc {w : World} {F : Nat → Prop} {g : Nat} {room : Int} {ps : List (Int × Bool)} {ds : List Int} (h : Own tl w F g room ps ds) (o : Obj) : Own tl (w.alloc o) F g room ps ds :=
  h.keep (G := NoB) ((Touch.refl _ _).alloc o) (fun _ _ x => x)
theorem Own.drewN {w : World} {F : Nat → Prop} {g : Nat} {room : Int} {ps : List (Int × Bool)} {ds : List Int} (h : Own tl w F g room ps ds) (n : Nat) : Own tl (w.drewN n) F g room ps ds := h

set_option maxHeartbeats 1000000 in
theorem take_in (g j : Nat) (room y : Int) (u : Bool) (ps : List (Int × Bool)) (ds : List Int) (F : Nat → Prop) (w : World) (h : Own tl w F g room ps ds) (hj : ps[j]? = some (y, u)) (hy0 : 0 ≤ y) (hy : y < 1000000000) :
    Calls Try.prog 58 #[.pointer (some ⟨g, 0, none⟩), .int .i64 j] w fun e w' => e = .returned (.agg #[.int .i64 j, .int .i64 (y + 1)]) ∧ Own tl w' F g room (ps.set j (y + 1, true)) ds ∧ Touch F w w' := by
  obtain ⟨vp, vd, hg, hp, hd, f0, f1, f2⟩ := h
  have hjl : j < ps.length := (List.getElem?_eq_some_iff.1 hj).1
  obtain ⟨gp, cap, rfl, hc1, hc2, hob⟩ := row_form hp (by omega)
  unfold maxLen at hc2
  have hl := blk_lt hg
  have hlp := row_lt hp hob
  have hgp : gp ≠ g := by
    intro e; subst e
    exact row_ne hp hg (by decide) rfl
  have k1 : w.cell? ⟨g, 1, none⟩ = some (.slice (some ⟨gp, 0, none⟩) ps.length cap) := cell_blk hg 1
  have k2 : w.cell? ⟨gp, j * 2, none⟩ = some (.int .i64 y) := by rw [hp.cellAt (j * 2) (by omega), pc_at0, hj]; rfl
  have k3 : w.cell? ⟨gp, j * 2 + 1, none⟩ = some (.bool u) := by rw [hp.cellAt (j * 2 + 1) (by omega), pc_at1, hj]; rfl
  have z2 : w.frozen? ⟨gp, j * 2, none⟩ = false := hp.frozenAt _
  have z3 : w.frozen? ⟨gp, j * 2 + 1, none⟩ = false := hp.frozenAt _
  have Hg := Lib.hid hg
  have Hp := Lib.hid hp
  have Hd := Lib.hid hd
  have Hj := Lib.hid hj
  have Hf := Lib.hid (And.intro f0 (And.intro f1 f2))
  clear hp hd f0 f1 f2 hg hj hob
  obtain ⟨n, hn⟩ : ∃ n, ps.length = n := ⟨_, rfl⟩
  rw [hn] at k1 hjl hc1
  have Hn := Lib.hid hn
  clear hn
  go_enter Try.func58, Try.ntmps58
  go_wp2
  obtain ⟨g1, p1, d1⟩ := own_place Hg.out Hp.out Hd.out (j * 2) (.int .i64 (y + 1))
  obtain ⟨g2, p2, d2⟩ := own_place g1 p1 d1 (j * 2 + 1) (.bool true)
  rw [← pc_set] at p2
  obtain ⟨f0, f1, f2⟩ := Hf.out
  refine bodyPost_ret (v := .agg #[.int .i64 j, .int .i64 (y + 1)]) (by simp [results, Try.results58, go_sem]) rfl ⟨rfl, ?_, ?_⟩
  · refine Own.keep (G := NoB) ⟨_, vd, g2, by simpa using p2, d2, f0, by simpa using f1, f2⟩ ((Touch.refl _ _).alloc _) (fun _ _ x => x)
  · exact ((((Touch.refl _ _).setCell (.inl (f1 gp rfl)) _).setCell (.inl (f1 gp rfl)) _)).alloc _

set_option maxHeartbeats 1000000 in
theorem make_full (g : Nat) (room : Int) (ps : List (Int × Bool)) (F : Nat → Prop) (w : World) (h : Own tl w F g room ps []) (hr : room ≤ ps.length) :
    Calls Try.prog 26 #[.pointer (some ⟨g, 0, none⟩)] w fun e w' => e = .returned (.tuple #[.agg #[.int .i64 0, .int .i64 0], .int .i64 10]) ∧ Touch NoB w w' := by
  obtain ⟨vp, vd, hg, hp, hd, f0, f1, f2⟩ := h
  obtain ⟨A, cap, rfl, hc1, hc2⟩ := row_any hp
  obtain ⟨A2, cap2, rfl, hc3, hc4⟩ := row_any hd
  unfold maxLen at hc2 hc4
  have hl := blk_lt hg
  have k0 : w.cell? ⟨g, 0, none⟩ = some (.int .i64 room) := cell_blk hg 0
  have k1 : w.cell? ⟨g, 1, none⟩ = some (.slice A ps.length cap) := cell_blk hg 1
  have k2 : w.cell? ⟨g, 2, none⟩ = some (.slice A2 0 cap2) := cell_blk hg 2
  clear hp hd f0 f1 f2 hg hc3 hc4
  generalize ps.length = n at *
  have d1 : decide (room ≤ (n : Int)) = true := by simpa using hr
  go_enter Try.func26, Try.ntmps26
  go_wp2
  go_quiet (fail)
  go_wp2
  exact bodyPost_ret (v := .tuple #[.agg #[.int .i64 0, .int .i64 0], .int .i64 10]) (by simp [results, Try.results26, go_sem]) rfl ⟨rfl, by repeat (first | with_reducible exact Touch.refl _ _ | with_reducible refine Touch.alloc ?_ _ | with_reducible refine Touch.drewN ?_ _ | with_reducible refine Touch.drew ?_ | with_reducible refine Touch.setCell ?_ (.inr (by simp)) _)⟩

set_option maxHeartbeats 1000000 in
theorem make_pop (g k : Nat) (room y : Int) (u : Bool) (ps : List (Int × Bool)) (ds : List Int) (F : Nat → Prop) (w : World) (h : Own tl w F g room ps (ds ++ [(k : Int)])) (hF : InW w 0 F) (hj : ps[k]? = some (y, u)) (hy0 : 0 ≤ y) (hy : y < 1000000000) :
    Calls Try.prog 26 #[.pointer (some ⟨g, 0, none⟩)] w fun e w' => e = .returned (.tuple #[.agg #[.int .i64 k, .int .i64 (y + 1)], .int .i64 0]) ∧ Own tl w' F g room (ps.set k (y + 1, true)) ds ∧ Touch F w w' := by
  obtain ⟨vp, vd, hg, hp, hd, f0, f1, f2⟩ := h
  rw [List.length_append, List.length_singleton] at hd
  obtain ⟨gd, cap, rfl, hc1, hc2, hob⟩ := row_form hd (by omega)
  unfold maxLen at hc2
  have hl := blk_lt hg
  have hld := row_lt hd hob
  have hgd : gd ≠ g := by
    intro e; subst e
    exact row_ne hd hg (by decide) rfl
  have hcut := row_cut hd (m := ds.length) (by omega)
  have ecut : (ic (ds ++ [(k : Int)])).take (ds.length * 1) = ic ds := by
    simp only [ic, List.map_append, Nat.mul_one]
    rw [List.take_left' (by simp)]
  rw [ecut] at hcut
  have k2 : w.cell? ⟨g, 2, none⟩ = some (.slice (some ⟨gd, 0, none⟩) (ds.length + 1) cap) := cell_blk hg 2
  have z2 : w.frozen? ⟨g, 2, none⟩ = false := free_blk hg 2
  have k3 : w.cell? ⟨gd, ds.length, none⟩ = some (.int .i64 k) := by rw [hd.cellAt ds.length (by omega)]; simp [ic]
  have hs1 := set_blk hg 2 (.slice (some ⟨gd, 0, none⟩) ds.length cap)
  have hgt : w.grownBy (w.setCell ⟨g, 2, none⟩ (.slice (some ⟨gd, 0, none⟩) ds.length cap)) (some g) :=
    ⟨rfl, rfl, rfl, by simp [World.setCell], fun x _ hx => Below.heap_setCell _ _ _ _ (fun e => hx (by rw [e]))⟩
  have hp1 := hp.kept hgt (.inr (row_ne hp hg (by decide)))
  have hd1 := hcut.kept hgt (.inr (row_ne hd hg (by decide)))
  have how : Own tl (w.setCell ⟨g, 2, none⟩ (.slice (some ⟨gd, 0, none⟩) ds.length cap)) F g room ps ds := ⟨vp, _, by simpa using hs1, hp1, hd1, f0, f1, f2⟩
  have Ht : Hid (Touch F w (w.setCell ⟨g, 2, none⟩ (.slice (some ⟨gd, 0, none⟩) ds.length cap))) := (Touch.refl _ _).setCell (.inl f0) _
  have Ho := Lib.hid how
  have Hj := Lib.hid hj
  have HF := Lib.hid hF
  clear hp hd f0 f1 f2 hg hob hcut ecut hs1 hgt hp1 hd1 how hj hF
  obtain ⟨n, hn⟩ : ∃ n, ds.length = n := ⟨_, rfl⟩
  rw [hn] at k2 k3 hc1 Ho Ht
  clear hn
  go_enter Try.func26, Try.ntmps26
  go_wp2_with fail
  refine (take_in g k room y u ps ds F _ (Ho.out.alloc _) Hj.out hy0 hy).mono ?_
  rintro e w1 ⟨rfl, hO, hT⟩
  have hF : ¬ F w.heap.size := fun x => by have := (HF.out _ x).2; omega
  have hb := new_blk hT (by simp) hF
  have c0 : w1.cell? ⟨w.heap.size, 0, none⟩ = some (.int .i64 0) := cell_blk hb 0
  have c1 : w1.cell? ⟨w.heap.size, 1, none⟩ = some (.int .i64 0) := cell_blk hb 1
  have c2 := free_blk hb 0
  have c3 := free_blk hb 1
  clear hb
  have HO := Lib.hid hO
  have HT := Lib.hid hT
  clear hO hT
  go_wp2
  refine bodyPost_ret (v := .tuple #[.agg #[.int .i64 k, .int .i64 (y + 1)], .int .i64 0]) (by simp [results, Try.results26, go_sem, c0, c1]) rfl ⟨rfl, ?_, ?_⟩
  · exact (HO.out.setCell hF _).setCell hF _
  · exact (((Ht.out.alloc _).same HT.out).setCell (.inr (Nat.le_refl _)) _).setCell (.inr (Nat.le_refl _)) _

theorem info_place : (Try.prog.info? 117).map (fun i => (i.zero, i.size, i.bytes)) = some (some (.agg #[.int .i64 0, .bool false]), 2, 16) := by kernel_rfl
theorem info_int : (Try.prog.info? 3).map (fun i => (i.zero, i.size, i.bytes)) = some (some (.int .i64 0), 1, 8) := by kernel_rfl

set_option maxHeartbeats 1000000 in
theorem make_new (g : Nat) (room : Int) (ps : List (Int × Bool)) (F : Nat → Prop) (w : World) (h : Own tl w F g room ps []) (hF : InW w 0 F) (hr : (ps.length : Int) < room) (hm : room ≤ 100000) :
    Calls Try.prog 26 #[.pointer (some ⟨g, 0, none⟩)] w fun e w' => e = .returned (.tuple #[.agg #[.int .i64 ps.length, .int .i64 1], .int .i64 0]) ∧ Own tl w' (Ext F w w') g room (ps ++ [(1, true)]) [] ∧ Touch F w w' := by
  obtain ⟨vp, vd, hg, hp, hd, f0, f1, f2⟩ := h
  obtain ⟨A, cap, rfl, hc1, hc2⟩ := row_any hp
  obtain ⟨A2, cap2, rfl, hc3, hc4⟩ := row_any hd
  unfold maxLen at hc2 hc4
  have hl := blk_lt hg
  have k0 : w.cell? ⟨g, 0, none⟩ = some (.int .i64 room) := cell_blk hg 0
  have k1 : w.cell? ⟨g, 1, none⟩ = some (.slice A ps.length cap) := cell_blk hg 1
  have k2 : w.cell? ⟨g, 2, none⟩ = some (.slice A2 0 cap2) := cell_blk hg 2
  have z1 : w.frozen? ⟨g, 1, none⟩ = false := free_blk hg 1
  have Hg := Lib.hid hg
  have Hp := Lib.hid hp
  have Hd := Lib.hid hd
  have Hf := Lib.hid (And.intro f0 (And.intro f1 f2))
  have HF := Lib.hid hF
  clear hp hd f0 f1 f2 hg hc3 hc4 hF
  obtain ⟨i0, hi, hz0, hz1, hz2⟩ := info_parts info_place
  obtain ⟨n, hn⟩ : ∃ n, ps.length = n := ⟨_, rfl⟩
  rw [hn] at k1 hr hc1 Hg Hp Hf
  rw [hn]
  have Hn := Lib.hid hn
  clear hn
  have d1 : decide (room ≤ (n : Int)) = false := by simp; omega
  go_enter Try.func26, Try.ntmps26
  go_wp2
  go_quiet (fail)
  go_wp2_with (at_builtin; refine wpList_append_own_at _ rfl (.tmp 49) (.tmp 51) 54 rfl 0 117 i0 _ 2 16 Try.underlying54 hi hz0 hz1 hz2 rfl (by decide) (.slice A n cap) n (pc ps) rfl ?o1 ⟨w.heap.size + 1, 0, none⟩ 1 1 [.int .i64 0, .bool false] rfl rfl ?c1 ?c2 ?c3 ?c4 (Nat.zero_le _) ?go)
  case o1 => exact (Hp.out.alloc _).alloc _
  case c1 => exact World.news_of_block (cs := #[.int .i64 0, .bool false]) (alloc_blk ((w.alloc (.cells #[.int .i64 0, .int .i64 0] 30)).drewN nq) _ 117 (by simp))
  case c2 => intro x hx; simp at hx; rcases hx with rfl | rfl <;> rfl
  case c3 => unfold maxLen; omega
  case c4 => omega
  case go =>
  intro v1 w1 hown hgrow _ hat
  obtain ⟨gp, cap1, rfl, hq1, hq2, hob⟩ := row_form hown (by omega)
  unfold maxLen at hq2
  obtain ⟨f0, f1, f2⟩ := Hf.out
  have TR : Touch (fun b => (Value.slice A n cap).ownBlock = some b) w w1 := ((((Touch.refl _ w).alloc _).drewN nq).alloc _).grown hgrow (fun _ e => .inl e)
  have hgn : (Value.slice A n cap).ownBlock ≠ some g := row_ne Hp.out Hg.out (by decide)
  have hg1 := (TR.block g hl hgn).trans Hg.out
  have hd1 := row_touch Hd.out TR (fun k hk x => row_row_ne Hp.out Hd.out (by decide) x hk)
  have hat' : F gp ∨ gp = w.heap.size + 2 := by
    rw [hob] at hat
    rcases hat with e | e
    · exact .inl (f1 gp e.symm)
    · right; simpa using e
  have hgp : gp ≠ g := by
    intro e; subst e
    exact row_ne hown hg1 (by decide) rfl
  have hF1 : ¬ (F w.heap.size ∨ w.heap.size = gp) := by
    rintro (x | x)
    · have := (HF.out _ x).2; omega
    · rcases hat' with y | y
      · have := (HF.out _ y).2; omega
      · omega
  have hF2 : ¬ F w.heap.size := fun x => hF1 (.inl x)
  have hgrown : w1.grownBy (w1.setCell ⟨g, 1, none⟩ (.slice (some ⟨gp, 0, none⟩) (n + 1) cap1)) (some g) :=
    ⟨rfl, rfl, rfl, by simp [World.setCell], fun x _ hx => Below.heap_setCell _ _ _ _ (fun e => hx (by rw [e]))⟩
  have hs1 := set_blk hg1 1 (.slice (some ⟨gp, 0, none⟩) (n + 1) cap1)
  have hp2 := hown.kept hgrown (.inr (row_ne hown hg1 (by decide)))
  have hd2 := hd1.kept hgrown (.inr (row_ne hd1 hg1 (by decide)))
  have hnn := Hn.out
  have how : Own tl (w1.setCell ⟨g, 1, none⟩ (.slice (some ⟨gp, 0, none⟩) (n + 1) cap1)) (fun b => F b ∨ b = gp) g room (ps ++ [(0, false)]) [] :=
    ⟨_, _, by simpa using hs1, by rw [pc_snoc, List.length_append, hnn]; exact hp2, hd2, .inl f0, fun k hk => .inr (by simpa [Value.ownBlock] using hk.symm), fun k hk => .inl (f2 k hk)⟩
  have hTw : Touch F w w1 := TR.mono (fun b hb => f1 b hb)
  have hres : w1.heap[w.heap.size]? = some (.cells #[.int .i64 0, .int .i64 0] 30 (0, 0)) :=
    new_blk ((((Touch.refl (fun b => (Value.slice A n cap).ownBlock = some b) (w.alloc (.cells #[.int .i64 0, .int .i64 0] 30))).drewN nq).alloc _).grown hgrow (fun _ e => .inl e)) rfl (fun e => hF2 (f1 _ e))
  have k1' : w1.cell? ⟨g, 1, none⟩ = some (.slice A n cap) := cell_blk hg1 1
  have z1' : w1.frozen? ⟨g, 1, none⟩ = false := free_blk hg1 1
  have hl1 : g < w1.heap.size := blk_lt hg1
  have hgl : gp < w1.heap.size := row_lt hown hob
  have Ho := Lib.hid how
  have HT := Lib.hid hTw
  have Hr := Lib.hid hres
  have HG := Lib.hid hgrown
  have HA := Lib.hid hat'
  have HFF := Lib.hid hF1
  have HF2 := Lib.hid hF2
  have Hf0 := Lib.hid f0
  have hgne : w.heap.size ≠ g := by omega
  clear hown hgrow hat hob TR hgn hg1 hd1 hat' hF1 hgrown hs1 hp2 hd2 hnn how hTw hres Hf f0 f1 f2 hF2 Hp Hd Hg k0 k1 k2 z1
  have hnew : (ps ++ [((0 : Int), false)])[n]? = some (0, false) := by rw [List.getElem?_append_right (by have := Hn.out; omega)]; simp [Hn.out]
  have hset : (ps ++ [((0 : Int), false)]).set n (0 + 1, true) = ps ++ [(1, true)] := by
    rw [List.set_append_right _ _ (by have := Hn.out; omega), show n - ps.length = 0 from by have := Hn.out; omega]; rfl
  have HN := Lib.hid hnew
  have HS := Lib.hid hset
  clear hnew hset
  go_wp2_with fail
  refine (take_in g n room 0 false _ [] _ _ Ho.out HN.out (by omega) (by omega)).mono ?_
  rintro e w2 ⟨rfl, hO, hT⟩
  rw [HS.out] at hO
  have hr2 : (w1.setCell ⟨g, 1, none⟩ (.slice (some ⟨gp, 0, none⟩) (n + 1) cap1)).heap[w.heap.size]? = some (.cells #[.int .i64 0, .int .i64 0] 30 (0, 0)) := (Below.heap_setCell _ _ _ _ hgne).trans Hr.out
  have hb := (hT.block _ (blk_lt hr2) HFF.out).trans hr2
  have c0 : w2.cell? ⟨w.heap.size, 0, none⟩ = some (.int .i64 0) := cell_blk hb 0
  have c1 : w2.cell? ⟨w.heap.size, 1, none⟩ = some (.int .i64 0) := cell_blk hb 1
  have c2 := free_blk hb 0
  have c3 := free_blk hb 1
  have HO := Lib.hid hO
  have HT2 := Lib.hid hT
  clear hO hT hr2 hb
  rw [show ((0 : Int) + 1) = 1 from rfl]
  go_wp2
  refine bodyPost_ret (v := .tuple #[.agg #[.int .i64 n, .int .i64 1], .int .i64 0]) (by simp [results, Try.results26, go_sem, c0, c1]) rfl ⟨rfl, ?_, ?_⟩
  · refine ((HO.out.setCell HFF.out _).setCell HFF.out _).more ?_
    rintro k (x | rfl)
    · exact .inl x
    · rcases HA.out with y | y
      · exact .inl y
      · right
        have := HT2.out.size
        simp [World.setCell] at this ⊢
        omega
  · have ht2 : Touch F w w2 := by
      refine Touch.trans ((HT.out).grown HG.out (fun k e => .inl ?_)) HT2.out ?_
      · injection e with e; subst e; exact Hf0.out
      · rintro x (y | rfl)
        · exact .inl y
        · rcases HA.out with y | y
          · exact .inl y
          · right; omega
    exact (ht2.setCell (.inr (Nat.le_refl _)) _).setCell (.inr (Nat.le_refl _)) _
end Go.Proofs.Yticekldgjlihmaa
