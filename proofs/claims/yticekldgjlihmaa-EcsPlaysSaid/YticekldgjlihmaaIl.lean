/-
  The document's own Ids (puppeteerref1): what Drop and All return, and what they leave in memory.
-/
import Derived.Test.YticekldgjlihmaaIk
import Derived.Deep.RegionLaw
namespace Go.Proofs.Yticekldgjlihmaa
open Go.ChangeShapes Go.WideShapes Go.ChangeAt Go.RowKit

set_option maxHeartbeats 400000 in
theorem rdrop_no (g : Nat) (room i x : Int) (ps : List (Int × Bool)) (ds : List Int) (F : Nat → Prop) (w : World) (h : ROwn w F g room ps ds) (hh : hasI ps i x = false) :
    Calls Try.prog 35 #[.pointer (some ⟨g, 0, none⟩), .agg #[.int .i64 i, .int .i64 x]] w fun e w' => e = .returned (.int .i64 11) ∧ Touch NoB w w' := by
  have H0 := Lib.hid h
  have HH := Lib.hid hh
  clear h hh
  go_enter Try.func35, Try.ntmps35
  go_wp2_with fail
  refine (rhas_any g room i x ps ds F _ (H0.out.alloc _)).mono ?_
  rintro e w1 ⟨rfl, hT⟩
  rw [HH.out]
  have HT := Lib.hid hT
  clear hT
  go_wp2
  go_ret
  exact ⟨rfl, ((Touch.refl _ _).alloc _).same HT.out⟩

set_option maxHeartbeats 2000000 in
theorem rdrop_yes (g k : Nat) (room x : Int) (ps : List (Int × Bool)) (ds : List Int) (F : Nat → Prop) (w : World) (h : ROwn w F g room ps ds) (hF : InW w 0 F) (hk : ps[k]? = some (x, true)) (hdl : ds.length < 1000000000) :
    Calls Try.prog 35 #[.pointer (some ⟨g, 0, none⟩), .agg #[.int .i64 k, .int .i64 x]] w fun e w' => e = .returned (.int .i64 0) ∧ ROwn w' (Ext F w w') g room (ps.set k (x, false)) (ds ++ [(k : Int)]) ∧ Touch F w w' := by
  have H0 := Lib.hid h
  have HK := Lib.hid hk
  have HF := Lib.hid hF
  have hhas : hasI ps k x = true := by unfold hasI; simp [hk]
  have HH := Lib.hid hhas
  clear h hk hF hhas
  obtain ⟨i0, hi, hz0, hz1, hz2⟩ := info_parts info_int
  go_enter Try.func35, Try.ntmps35
  go_wp2_with fail
  refine (rhas_any g room k x ps ds F _ (H0.out.alloc _)).mono ?_
  rintro e w1 ⟨rfl, hT⟩
  rw [HH.out]
  have hsz := hT.size
  simp only [World.size_alloc] at hsz
  have hb := new_blk hT rfl (fun x => x)
  have hO := (H0.out.alloc (.cells #[.int .i64 k, .int .i64 x] 30)).keep hT (fun _ _ x => x)
  obtain ⟨vg, vl, vf, hg, hp, hq, hd, hne, f0, f1, f2, f3⟩ := hO
  have hkl : k < ps.length := (List.getElem?_eq_some_iff.1 HK.out).1
  obtain ⟨gl, cap, rfl, hc1, hc2, hob⟩ := row_form hq (by omega)
  obtain ⟨gg, capg, rfl, hg1, hg2, hobg⟩ := row_form hp (by omega)
  obtain ⟨A2, cap2, rfl, hc3, hc4⟩ := row_any hd
  unfold maxLen at hc2 hc4 hg2
  have hl := blk_lt hg
  have hlp := row_lt hq hob
  have n3 : gl ≠ g := fun e => row_ne hq hg (by decide) (e ▸ rfl)
  have n2 : gg ≠ g := fun e => row_ne hp hg (by decide) (e ▸ rfl)
  have n5 : gg ≠ gl := fun e => row_row_ne hp hq (by decide) (k := gg) rfl (e ▸ rfl)
  have hrb : ¬ F w.heap.size := fun x => by have := (HF.out _ x).2; omega
  have hgw : w.heap.size ≠ g := fun e => hrb (e ▸ f0)
  have hgw2 : w.heap.size ≠ gl := fun e => hrb (e ▸ f2 gl rfl)
  have k1 : w1.cell? ⟨g, 2, none⟩ = some (.slice (some ⟨gl, 0, none⟩) ps.length cap) := cell_blk hg 2
  have k2 : w1.cell? ⟨g, 3, none⟩ = some (.slice A2 ds.length cap2) := cell_blk hg 3
  have b0 : w1.cell? ⟨w.heap.size, 0, none⟩ = some (.int .i64 k) := cell_blk hb 0
  have p1 : w1.cell? ⟨gl, k, none⟩ = some (.bool true) := by rw [hq.cellAt k (by omega), bc_at, List.getElem?_map, HK.out]; rfl
  have q1 : w1.frozen? ⟨gl, k, none⟩ = false := hq.frozenAt _
  -- the state behind the store of the bool
  have a0 := blk_set hg (p := ⟨gl, k, none⟩) (Ne.symm n3) (.bool false)
  have a1 := row_set hp (p := ⟨gl, k, none⟩) (fun e => n5 (by simpa [Value.ownBlock] using e)) (.bool false)
  have a2 := (hq.stored k (.bool false)).1
  have a3 := row_set hd (p := ⟨gl, k, none⟩) (fun e => row_row_ne hd hq (by decide) e rfl) (.bool false)
  have a4 := blk_set hb (p := ⟨gl, k, none⟩) hgw2 (.bool false)
  have aT : Touch F w (w1.setCell ⟨gl, k, none⟩ (.bool false)) := ((((Touch.refl _ w).alloc _).trans hT (fun _ x => x.elim)).setCell (.inl (f2 gl rfl)) _)
  have a5 : ic (ps.map Prod.fst) = ic ((ps.set k (x, false)).map Prod.fst) := by
    rw [List.map_set, set_same]
    rw [List.getElem?_map, HK.out]; rfl
  have a6 : (bc (ps.map Prod.snd)).set k (.bool false) = bc ((ps.set k (x, false)).map Prod.snd) := by rw [List.map_set, bc_set]
  rw [a5] at a1
  rw [a6] at a2
  obtain ⟨n, hn⟩ : ∃ n, ps.length = n := ⟨_, rfl⟩
  obtain ⟨m, hm⟩ : ∃ m, ds.length = m := ⟨_, rfl⟩
  rw [hn] at k1 hkl hc1 hg1 a0 a1 a2 f1 f2 hne
  rw [hm] at k2 hdl hc3 a0 a3 f3 hne
  have A0 := Lib.hid a0
  have A1 := Lib.hid a1
  have A2' := Lib.hid a2
  have A3 := Lib.hid a3
  have A4 := Lib.hid a4
  have AT := Lib.hid aT
  have Fs := Lib.hid (And.intro f0 (And.intro f1 (And.intro f2 f3)))
  have HNE := Lib.hid hne
  have Hn := Lib.hid hn
  have Hm := Lib.hid hm
  clear hg hp hq hd hne f0 f1 f2 f3 hT hb hob hobg a0 a1 a2 a3 a4 aT a5 a6 hn hm
  go_wp2
  go_region
  go_wp2
  obtain ⟨ws, hws⟩ : ∃ ws, w1.setCell ⟨gl, k, none⟩ (.bool false) = ws := ⟨_, rfl⟩
  rw [hws] at A0 A1 A2' A3 A4 AT
  rw [hws]
  clear hws k1 k2 b0 p1 q1 hsz hl hlp
  have hlw : g < ws.heap.size := blk_lt A0.out
  have hbw : w.heap.size < ws.heap.size := blk_lt A4.out
  have k2 : ws.cell? ⟨g, 3, none⟩ = some (.slice A2 m cap2) := cell_blk A0.out 3
  have z2 : ws.frozen? ⟨g, 3, none⟩ = false := free_blk A0.out 3
  have b0 : ws.cell? ⟨w.heap.size, 0, none⟩ = some (.int .i64 k) := cell_blk A4.out 0
  have HFG := Lib.hid (row_ne A3.out A0.out (by decide))
  go_region_law (refine step_append_lies _ rfl (.tmp 20) (.tmp 23) 55 rfl 0 3 i0 (.int .i64 0) 1 8 Try.underlying55 hi hz0 hz1 hz2 rfl (by decide) (.slice A2 m cap2) m (ic ds) (by simp [Act.eval]) (by exact (A3.out.alloc _)) ⟨ws.heap.size, 0, none⟩ 1 1 [.int .i64 k] (by simp [Act.eval]) rfl (by exact World.news_of_block (cs := #[.int .i64 k]) (alloc_blk ws.drew _ 3 rfl)) (by intro u hu; simp at hu; subst hu; rfl) (by decide) (by unfold maxLen; omega) (by omega) (Nat.zero_le _) (ws.heap.size + 1) (by simp) ?_
                 intro gd cap1 wx hown hgrow hat hlt
                 have TR : Touch (fun b => (Value.slice A2 m cap2).ownBlock = some b) ws wx := (((Touch.refl _ ws).alloc _).drew.drew).grown hgrow (fun _ e => .inl e)
                 have hgx := (TR.block g hlw HFG.out).trans A0.out
                 have kx : wx.cell? ⟨g, 3, none⟩ = some (.slice A2 m cap2) := cell_blk hgx 3
                 have zx : wx.frozen? ⟨g, 3, none⟩ = false := free_blk hgx 3
                 have HX := Lib.hid (And.intro hown (And.intro hat (And.intro TR hgx)))
                 clear hown hgrow hat TR hgx)
  all_goals
    go_wp2
    go_ret
    obtain ⟨hown, hat, TR, hgx⟩ := HX.out
    obtain ⟨f0, f1, f2, f3⟩ := Fs.out
    have n7 : gd ≠ g := fun e => row_ne hown hgx (by decide) (e ▸ rfl)
    have h1 := row_touch A1.out TR (fun j hj x => HNE.out j hj x)
    have h2 := row_touch A2'.out TR (fun j hj x => row_row_ne A2'.out A3.out (by decide) hj x)
    have s0 := set_blk hgx 3 (.slice (some ⟨gd, 0, none⟩) (m + 1) cap1)
    have s1 := row_set h1 (p := ⟨g, 3, none⟩) (fun e => n2 (by simpa [Value.ownBlock] using e)) (.slice (some ⟨gd, 0, none⟩) (m + 1) cap1)
    have s2 := row_set h2 (p := ⟨g, 3, none⟩) (fun e => n3 (by simpa [Value.ownBlock] using e)) (.slice (some ⟨gd, 0, none⟩) (m + 1) cap1)
    have s3 := row_set hown (p := ⟨g, 3, none⟩) (fun e => n7 (by simpa [Value.ownBlock] using e)) (.slice (some ⟨gd, 0, none⟩) (m + 1) cap1)
    have hTx : Touch F w wx := AT.out.trans TR (fun b e => .inl (f3 b e))
    refine ⟨rfl, ⟨_, _, _, by simpa using s0, by rw [List.length_set, Hn.out]; exact s1, by rw [List.length_set, Hn.out]; exact s2, by rw [List.length_append, Hm.out]; simpa [ic] using s3, ?_, .inl f0, fun j hj => .inl (f1 j hj), fun j hj => .inl (f2 j hj), fun j hj => ?_⟩, hTx.setCell (.inl f0) _⟩
    · intro j hj e
      have e1 : gg = j := by simpa [Value.ownBlock] using hj
      have e2 : gd = j := by simpa [Value.ownBlock] using e
      rcases hat with y | y
      · exact HNE.out j hj (e2 ▸ y)
      · have := row_lt A1.out (k := gg) rfl
        omega
    · have e1 : gd = j := by simpa [Value.ownBlock] using hj
      subst e1
      rcases hat with e | e
      · exact .inl (f3 _ e)
      · right
        simp
        omega

end Go.Proofs.Yticekldgjlihmaa
