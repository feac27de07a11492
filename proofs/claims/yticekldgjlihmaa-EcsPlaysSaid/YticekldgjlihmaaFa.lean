/-
  Take of a component that is there; Despawn.
-/
import Derived.Test.YticekldgjlihmaaEx
namespace Go.Proofs.Yticekldgjlihmaa
open Go.ChangeShapes Go.WideShapes Go.ChangeAt Go.RowKit Go.Maps
set_option maxRecDepth 100000
set_option maxHeartbeats 5000000

theorem PInv.drop {cnt k : Nat} {room x : Int} {ps : List (Int × Bool)} {ds : List Int} (h : PInv cnt room ps ds) (hk : ps[k]? = some (x, true)) :
    PInv (cnt + 1) room (ps.set k (x, false)) (ds ++ [(k : Int)]) ∧ ∀ i y, hasI (ps.set k (x, false)) i y = true ↔ hasI ps i y = true ∧ (i, y) ≠ ((k : Int), x) := by
  have hkl := (List.getElem?_eq_some_iff.1 hk).1
  have hfree : ∀ (j : Nat), ds[j]? ≠ some (k : Int) := fun j hj => by
    obtain ⟨k2, y, e, hk2⟩ := h.fr j _ hj
    have e : k = k2 := by omega
    subst e
    rw [hk] at hk2
    simp at hk2
  refine ⟨⟨by rw [List.length_set]; have := h.len; omega, by simp; have := h.dl; omega, by rw [List.length_set]; exact h.rm, fun j z u hz => ?_, fun j d hd => ?_, fun a b d ha hb => ?_⟩, fun i y => ?_⟩
  · rcases set_get hz with ⟨_, e, _⟩ | ⟨_, hz⟩
    · injection e with e1 e2
      have := h.gen k x true hk
      omega
    · have := h.gen j z u hz; omega
  · rcases snoc_get hd with ⟨_, hd2⟩ | ⟨_, e⟩
    · obtain ⟨k2, y, e2, hk2⟩ := h.fr j d hd2
      have hne : k2 ≠ k := fun e => by subst e; subst e2; exact hfree j hd2
      exact ⟨k2, y, e2, by rw [List.getElem?_set_ne (fun e => hne e.symm)]; exact hk2⟩
    · exact ⟨k, x, e, List.getElem?_set_self hkl⟩
  · rcases snoc_get ha with ⟨_, ea⟩ | ⟨la, ea⟩ <;> rcases snoc_get hb with ⟨_, eb⟩ | ⟨lb, eb⟩
    · exact h.once a b d ea eb
    · subst eb; exact absurd ea (hfree a)
    · subst ea; exact absurd eb (hfree b)
    · omega
  · rw [has_iff, has_iff]
    constructor
    · rintro ⟨k2, rfl, hk2⟩
      rcases set_get hk2 with ⟨_, e, _⟩ | ⟨hne, hk2⟩
      · simp at e
      · exact ⟨⟨k2, rfl, hk2⟩, fun e => by injection e with e1 e2; omega⟩
    · rintro ⟨⟨k2, rfl, hk2⟩, hne⟩
      have hn : k2 ≠ k := fun e => by
        subst e
        rw [hk] at hk2
        injection hk2 with hk2
        injection hk2 with hk2
        exact hne (by rw [hk2])
      exact ⟨k2, rfl, by rw [List.getElem?_set_ne (fun e => hn e.symm)]; exact hk2⟩

section
variable {w : World} {F : Nat → Prop} {cnt g : Nat} {room tables : Int} {ps : List (Int × Bool)} {ds : List Int} {bs : List Tb}

theorem despawn_stale (h : St w F cnt g room tables ps ds bs) (i x : Int) (hi : I64 i) (hx : I64 x) (hn : hasI ps i x = false) :
    Calls Try.prog 10 #[.pointer (some ⟨g, 0, none⟩), .agg #[.int .i64 i, .int .i64 x]] w fun e w' => e = .returned (.int .i64 11) ∧ Touch NoB w w' := by
  obtain ⟨φ, ts, H, nh, va, bh, h1, h2, h3, h4⟩ := h
  have TW : Touch NoB w (w.alloc (.cells #[.int .i64 i, .int .i64 x] 30)).drew := ((Touch.refl NoB w).alloc _).drew
  have hno : ¬ InT ts (i, x) := fun e => by rw [← h2.link, hn] at e; cases e
  obtain ⟨v, hlook⟩ := (h1.quiet TW).lookNo h2.t hi hx hno
  have g5 := h1.at5
  have hgl := h1.lt
  have HT := Lib.hid TW
  clear h1 h2 h3 h4 hno hn TW
  go_enter Try.func10, Try.ntmps10
  go_wp2
  go_region
  go_wp2
  go_ret
  exact ⟨rfl, HT.out⟩

theorem despawn_in (h : St w F cnt g room tables ps ds bs) (hc : cnt ≤ 900) (i x : Int) {j k : Nat} {b : Tb} (hb : bs[j]? = some b) (hk : b.ids[k]? = some (i, x)) :
    Calls Try.prog 10 #[.pointer (some ⟨g, 0, none⟩), .agg #[.int .i64 i, .int .i64 x]] w fun e w' => e = .returned (.int .i64 0) ∧ St w' (Ext F w w') (cnt + 2) g room tables (ps.set i.toNat (x, false)) (ds ++ [i]) (bs.set j (cutB b k)) ∧ Touch F w w' := by
  obtain ⟨φ, ts, H, nh, va, bh, h1, h2, h3, h4⟩ := h
  obtain ⟨r, hr, rfl⟩ := at_ts h3 hb
  have hin : InT ts (i, x) := ⟨j, r, hr, row_mem hk⟩
  obtain ⟨hi, hx⟩ := h2.t.key hin
  obtain ⟨q, rfl, hq⟩ := (has_iff _ _ _).1 ((h2.link i x).2 hin)
  rw [Int.toNat_natCast]
  obtain ⟨P', hP'⟩ := h2.p.drop hq
  have TW : Touch NoB w (w.alloc (.cells #[.int .i64 q, .int .i64 x] 30)).drew := ((Touch.refl NoB w).alloc _).drew
  have hlook := ((h1.quiet TW).look h2.t hr (row_mem hk)).2
  have g5 := h1.at5
  have hgl := h1.lt
  have hq0 : φ w.heap.size = 0 := Classical.byContradiction fun e => by have := h1.wf _ e; omega
  have hqb : (w.alloc (.cells #[.int .i64 q, .int .i64 x] 30)).drew.heap[w.heap.size]? = some (.cells #[.int .i64 q, .int .i64 x] 30 (0, 0)) := alloc_blk w _ _ rfl
  have hb0 : (w.alloc (.cells #[.int .i64 q, .int .i64 x] 30)).drew.cell? ⟨w.heap.size, 0, none⟩ = some (.int .i64 q) := cell_blk hqb 0
  have hb1 : (w.alloc (.cells #[.int .i64 q, .int .i64 x] 30)).drew.cell? ⟨w.heap.size, 1, none⟩ = some (.int .i64 x) := cell_blk hqb 1
  have HL : Hid (Calls Try.prog 33 #[.pointer (some ⟨g, 0, none⟩), .agg #[.int .i64 q, .int .i64 x]] (w.alloc (.cells #[.int .i64 q, .int .i64 x] 30)).drew fun e w2 => (∃ v, e = .returned v) ∧ g < w2.heap.size ∧ w2.heap[w.heap.size]? = some (.cells #[.int .i64 q, .int .i64 x] 30 (0, 0)) ∧
      Calls Try.prog 34 #[.pointer (some ⟨g, 0, none⟩), .agg #[.int .i64 q, .int .i64 x]] w2.drew fun e w3 => e = .returned (.int .i64 0) ∧ w3.heap[w.heap.size]? = some (.cells #[.int .i64 q, .int .i64 x] 30 (0, 0)) ∧ St w3 (Ext F w w3) (cnt + 2) g room tables (ps.set q (x, false)) (ds ++ [(q : Int)]) (bs.set j (cutB r.b k)) ∧ Touch F w w3) := by
    refine (leave_any (h1.quiet TW) h2.t hr hk (by omega)).mono ?_
    rintro e w2 ⟨φ2, H2, nh2, va2, D2, n2, A2, N2, c2, rfl, hS2, I2, hN2, hrow, hlab, hT2, hg2⟩
    have hs1 := TW.size
    have hs2 := hT2.size
    have hsz : (w.alloc (.cells #[.int .i64 q, .int .i64 x] 30)).drew.heap.size = w.heap.size + 1 := World.size_alloc _ _
    have hq2 := (hT2.block _ (blk_lt hqb) (fun e => e hq0)).trans hqb
    refine ⟨⟨_, rfl⟩, hS2.lt, hq2, ?_⟩
    have hq2φ : φ2 w.heap.size = 0 := Classical.byContradiction fun e => by
      rcases hg2 _ e with y | y
      · exact y hq0
      · omega
    have hS2' := hS2.quiet ((Touch.refl NoB w2).drew)
    refine (drop_yes g q room x ps ds (fun b => φ2 b = 1) w2.drew hS2'.own (fun b hb => ⟨Nat.zero_le _, hS2'.wf b (by rw [hb]; decide)⟩) hq (by have := h2.p.dl; omega)).mono ?_
    rintro e w3 ⟨rfl, hO, hT3⟩
    have hS3 := hS2'.putIds hT3 hO
    have hs3 := hT3.size
    have hd2 : w2.drew.heap.size = w2.heap.size := rfl
    have hT13 : Touch (fun b => φ b ≠ 0) w w3 := ((TW.mono (fun _ e => e.elim)).same hT2).trans (((Touch.refl (fun b => φ2 b = 1) w2).drew).same hT3) (fun b e => by
      rcases hg2 b (by rw [e]; decide) with y | y
      · exact .inl y
      · right; omega)
    refine ⟨rfl, (hT3.block _ (blk_lt hq2) (fun e => by rw [hq2φ] at e; cases e)).trans hq2, ⟨_, _, H2, nh2, va2, bh, hS3, ⟨I2.more (by omega), P'.more (by omega), fun a y => ?_, ?_, ?_⟩, ?_, fun b hb => ?_⟩, hT13.mono h4⟩
    · rw [hP', h2.link]
      exact (left_in h2.t hr hk rfl (a, y)).symm
    · unfold leftT; rw [List.length_set]; have := h2.len; omega
    · unfold leftT; rw [List.length_set]; exact h2.lim
    · unfold leftT; rw [List.map_set, h3]; rfl
    · have hbl := hS3.wf b hb
      unfold relab at hb
      split at hb
      · right; omega
      · rcases hg2 b hb with y | y
        · exact .inl (h4 b y)
        · right; omega
  have HX := Lib.hid (And.intro hqb (And.intro hb0 hb1))
  clear h1 h2 h3 h4 hr hb hk hin hq P' hP' TW hq0 hqb
  go_enter Try.func10, Try.ntmps10
  go_wp2
  go_region
  go_wp2_with fail
  refine HL.out.mono ?_
  rintro e w2 ⟨⟨v, rfl⟩, hg2, hq2, hD⟩
  have k2 : w2.cell? ⟨w.heap.size, 0, none⟩ = some (.int .i64 q) := cell_blk hq2 0
  have k3 : w2.cell? ⟨w.heap.size, 1, none⟩ = some (.int .i64 x) := cell_blk hq2 1
  have l2 := blk_lt hq2
  have HD := Lib.hid hD
  clear hD hq2 hlook
  go_wp2_with fail
  go_region_held3 (fun w' => w'.cell? ⟨w.heap.size, 0, none⟩ = some (.int .i64 q) ∧ w'.cell? ⟨w.heap.size, 1, none⟩ = some (.int .i64 x)) (first | go_keep | exact ⟨kk2, kk3⟩)
    (first | (go_at_call 34
              refine HD.out.mono ?_
              rintro e w3 ⟨rfl, hq3, hS, hT⟩
              have kk2 : w3.cell? ⟨w.heap.size, 0, none⟩ = some (.int .i64 q) := cell_blk hq3 0
              have kk3 : w3.cell? ⟨w.heap.size, 1, none⟩ = some (.int .i64 x) := cell_blk hq3 1
              have HS := Lib.hid hS
              have HT := Lib.hid hT
              clear hq3 hS hT))
  all_goals
    go_wp2
    go_ret
    exact ⟨rfl, HS.out, HT.out⟩

theorem etake_in (h : St w F cnt g room tables ps ds bs) (hc9 : cnt ≤ 900) (i x : Int) {j k c : Nat} {b : Tb} (hb : bs[j]? = some b) (hk : b.ids[k]? = some (i, x)) (hc : c < 16) (hbt : bitB b.m c = true) :
    Calls Try.prog 14 #[.pointer (some ⟨g, 0, none⟩), .agg #[.int .i64 i, .int .i64 x], .int .i64 c] w fun e w' => ∃ y z, e = .returned (tup2 (y, z)) ∧ TakeEnd w F cnt g room tables ps ds bs j k c b (i, x) y z w' := by
  have hv : getV b k (c : Int) = ((b.cf c).getD k 0, 0) := by unfold getV; rw [if_pos (isC_nat hc), Int.toNat_natCast, if_pos hbt]
  have TW : Touch NoB w (w.alloc (.cells #[.int .i64 i, .int .i64 x] 30)) := (Touch.refl NoB w).alloc _
  have HG := Lib.hid (get_in (h.quiet TW) i x c hb hk)
  rw [hv] at HG
  obtain ⟨φ, ts, H, nh, va, bh, h1, h2, h3, h4⟩ := h
  obtain ⟨r, hr, rfl⟩ := at_ts h3 hb
  have hmr := h1.m0 j r hr
  have hra := (h1.arch j r hr).1
  have l1 := blk_lt hra
  have g5 := h1.at5
  have hgl := h1.lt
  have hqb : (w.alloc (.cells #[.int .i64 i, .int .i64 x] 30)).heap[w.heap.size]? = some (.cells #[.int .i64 i, .int .i64 x] 30 (0, 0)) := alloc_blk w _ _ rfl
  have hcl := cl_bw hmr.1 hmr.2 hc
  have HLook : Hid (∀ W : World, Touch NoB w W → (Instr.lookup 61 (.map (some bh)) (.agg #[.int .i64 i, .int .i64 x]) false).run Try.prog W = .ok (.pointer (some ⟨r.a, 0, none⟩)) W) := fun W hW => ((h1.quiet hW).look h2.t hr (row_mem hk)).1
  have HMove : Hid (∀ W : World, Touch NoB w W → Calls Try.prog 41 #[.pointer (some ⟨g, 0, none⟩), .agg #[.int .i64 i, .int .i64 x], .int .u16 (clM r.b.m c), .slice none 0 0] W fun e w' => ∃ z, e = .returned (.int .i64 z) ∧ MoveEnd w F cnt g room tables ps ds bs j k r.b (clM r.b.m c) (i, x) [] z w' ∧ (z = 0 ∨ z = 10)) := fun W hW =>
    (move_end h1 h2 h3 h4 hc9 hr hk (clM_range _ _) [] _ W hW (.inl ⟨rfl, rfl⟩)).mono fun e w' ⟨z, a, b, _, _⟩ => ⟨z, a, b, by
      unfold MoveEnd at b
      split at b
      · exact .inl b.1
      · exact .inr b.1⟩
  obtain ⟨R, hR⟩ : ∃ R : Int → World → Prop, R = fun z w' => MoveEnd w F cnt g room tables ps ds bs j k r.b (clM r.b.m c) (i, x) [] z w' := ⟨_, rfl⟩
  have e1 : ∀ z w', MoveEnd w F cnt g room tables ps ds bs j k r.b (clM r.b.m c) (i, x) [] z w' = R z w' := fun z w' => by rw [hR]
  unfold TakeEnd
  simp only [e1] at HMove
  simp only [e1]
  have HX := Lib.hid (And.intro hra hqb)
  have HT := Lib.hid TW
  obtain ⟨y, hy⟩ : ∃ y, (r.b.cf c).getD k 0 = y := ⟨_, rfl⟩
  rw [hy] at HG
  simp only [hy]
  unfold tup2 at HG
  obtain ⟨bm, hbm⟩ : ∃ bm, r.b.m = bm := ⟨_, rfl⟩
  rw [hbm] at HX hcl HMove
  clear h1 h2 h3 h4 hr hb hk hbt TW hmr hra hqb hv hR e1 hy hbm
  go_enter Try.func14, Try.ntmps14
  go_wp2_with fail
  refine HG.out.mono ?_
  rintro e w1 ⟨rfl, hT1⟩
  have hW1 := HT.out.same hT1
  have hA := (hW1.block r.a l1 (fun e => e)).trans HX.out.1
  have hB := (hT1.block w.heap.size (by simp) (fun e => e)).trans HX.out.2
  have k0 : w1.cell? ⟨r.a, 0, none⟩ = some (.int .u16 bm) := cell_blk hA 0
  have k2 : w1.cell? ⟨w.heap.size, 0, none⟩ = some (.int .i64 i) := cell_blk hB 0
  have k3 : w1.cell? ⟨w.heap.size, 1, none⟩ = some (.int .i64 x) := cell_blk hB 1
  have k5 : w1.cell? ⟨g, 5, none⟩ = some (.map (some bh)) := (hW1.cell (p := ⟨g, 5, none⟩) hgl (fun e => e)).trans g5
  have l0 := blk_lt hA
  have l2 := blk_lt hB
  have lg : g < w1.heap.size := Nat.lt_of_lt_of_le hgl hW1.size
  have hlook := HLook.out w1.drew hW1.drew
  have HW1 := Lib.hid hW1
  clear hT1 hW1 hA hB
  go_wp2_with fail
  go_region_law
    (first | (go_simp; go_at_call 42; refine (bit_any c _ hc).mono ?_; rintro e w' ⟨rfl, rfl⟩)
           | (go_simp; go_at_call 41
              refine (HMove.out _ HW1.out.drew).mono ?_
              rintro e w4 ⟨z, rfl, hR, hz⟩
              have HR := Lib.hid hR
              clear hR))
  all_goals
    rcases hz with rfl | rfl
    · go_wp2
      go_ret2
      exact ⟨y, 0, rfl, HR.out, by simp⟩
    · go_wp2
      go_ret2
      exact ⟨0, 10, rfl, HR.out, by simp⟩
end
end Go.Proofs.Yticekldgjlihmaa
