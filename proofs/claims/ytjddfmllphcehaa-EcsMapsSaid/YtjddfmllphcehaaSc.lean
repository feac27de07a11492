/-
  What ids.Drop returns, and what it leaves in memory.
-/
import Derived.Test.YtjddfmllphcehaaSb
import Derived.Deep.RegionLaw
namespace Go.Proofs.Ytjddfmllphcehaa
open Go.ChangeShapes Go.WideShapes Go.ChangeAt Go.RowKit
variable {tl : List Value}

theorem set_same {α : Type} {l : List α} {i : Nat} {a : α} (h : l[i]? = some a) : l.set i a = l := by
  obtain ⟨hi, e⟩ := List.getElem?_eq_some_iff.1 h
  subst e
  exact List.set_getElem_self hi

set_option maxHeartbeats 400000 in
theorem drop_no (g : Nat) (room i x : Int) (ps : List (Int × Bool)) (ds : List Int) (F : Nat → Prop) (w : World) (h : Own tl w F g room ps ds) (hh : hasI ps i x = false) :
    Calls Try.prog 35 #[.pointer (some ⟨g, 0, none⟩), .agg #[.int .i64 i, .int .i64 x]] w fun e w' => e = .returned (.int .i64 11) ∧ Touch NoB w w' := by
  have H0 := Lib.hid h
  have HH := Lib.hid hh
  clear h hh
  go_enter Try.func35, Try.ntmps35
  go_wp2_with fail
  refine (has_any g room i x ps ds F _ (H0.out.alloc _)).mono ?_
  rintro e w1 ⟨rfl, hT⟩
  rw [HH.out]
  have HT := Lib.hid hT
  clear hT
  go_wp2
  go_ret
  exact ⟨rfl, ((Touch.refl _ _).alloc _).same HT.out⟩

set_option maxHeartbeats 1000000 in
theorem drop_yes (g k : Nat) (room x : Int) (ps : List (Int × Bool)) (ds : List Int) (F : Nat → Prop) (w : World) (h : Own tl w F g room ps ds) (hF : InW w 0 F) (hk : ps[k]? = some (x, true)) (hdl : ds.length < 1000000000) :
    Calls Try.prog 35 #[.pointer (some ⟨g, 0, none⟩), .agg #[.int .i64 k, .int .i64 x]] w fun e w' => e = .returned (.int .i64 0) ∧ Own tl w' (Ext F w w') g room (ps.set k (x, false)) (ds ++ [(k : Int)]) ∧ Touch F w w' := by
  have H0 := Lib.hid h
  have HK := Lib.hid hk
  have HF := Lib.hid hF
  have hhas : hasI ps k x = true := by unfold hasI; simp [hk]
  have HH := Lib.hid hhas
  clear h hk hF hhas
  obtain ⟨i0, hi, hz0, hz1, hz2⟩ := info_parts info_int
  go_enter Try.func35, Try.ntmps35
  go_wp2_with fail
  refine (has_any g room k x ps ds F _ (H0.out.alloc _)).mono ?_
  rintro e w1 ⟨rfl, hT⟩
  rw [HH.out]
  have hsz := hT.size
  simp only [World.size_alloc] at hsz
  have hb := new_blk hT rfl (fun x => x)
  have hO := (H0.out.alloc (.cells #[.int .i64 k, .int .i64 x] 30)).keep hT (fun _ _ x => x)
  obtain ⟨vp, vd, hg, hp, hd, f0, f1, f2⟩ := hO
  have hkl : k < ps.length := (List.getElem?_eq_some_iff.1 HK.out).1
  obtain ⟨gp, cap, rfl, hc1, hc2, hob⟩ := row_form hp (by omega)
  obtain ⟨A2, cap2, rfl, hc3, hc4⟩ := row_any hd
  unfold maxLen at hc2 hc4
  have hl := blk_lt hg
  have hlp := row_lt hp hob
  have hgp : gp ≠ g := by
    intro e; subst e
    exact row_ne hp hg (by decide) rfl
  have hrb : ¬ F w.heap.size := fun x => by have := (HF.out _ x).2; omega
  have hgw : w.heap.size ≠ g := fun e => hrb (e ▸ f0)
  have hgw2 : w.heap.size ≠ gp := fun e => hrb (e ▸ f1 gp rfl)
  have k1 : w1.cell? ⟨g, 1, none⟩ = some (.slice (some ⟨gp, 0, none⟩) ps.length cap) := cell_blk hg 1
  have k2 : w1.cell? ⟨g, 2, none⟩ = some (.slice A2 ds.length cap2) := cell_blk hg 2
  have z2 : w1.frozen? ⟨g, 2, none⟩ = false := free_blk hg 2
  have b0 : w1.cell? ⟨w.heap.size, 0, none⟩ = some (.int .i64 k) := cell_blk hb 0
  have p1 : w1.cell? ⟨gp, k * 2 + 1, none⟩ = some (.bool true) := by rw [hp.cellAt (k * 2 + 1) (by omega), pc_at1, HK.out]; rfl
  have q1 : w1.frozen? ⟨gp, k * 2 + 1, none⟩ = false := hp.frozenAt _
  have Hg := Lib.hid hg
  have Hp := Lib.hid hp
  have Hd := Lib.hid hd
  have Hf := Lib.hid (And.intro f0 (And.intro f1 f2))
  have HT := Lib.hid hT
  have Hb := Lib.hid hb
  clear hp hd f0 f1 f2 hg hT hb hob
  obtain ⟨n, hn⟩ : ∃ n, ps.length = n := ⟨_, rfl⟩
  obtain ⟨m, hm⟩ : ∃ m, ds.length = m := ⟨_, rfl⟩
  rw [hn] at k1 hkl hc1
  rw [hm] at k2 hdl hc3
  have Hn := Lib.hid hn
  have Hm := Lib.hid hm
  clear hn hm
  go_wp2
  go_region
  go_wp2
  obtain ⟨g1, p2, d2⟩ := own_place Hg.out Hp.out Hd.out (k * 2 + 1) (.bool false)
  obtain ⟨f0, f1, f2⟩ := Hf.out
  have hb2 : (w1.setCell ⟨gp, k * 2 + 1, none⟩ (.bool false)).heap[w.heap.size]? = some (.cells #[.int .i64 k, .int .i64 x] 30 (0, 0)) := (Below.heap_setCell _ _ _ _ hgw2).trans Hb.out
  have hT2 : Touch F w (w1.setCell ⟨gp, k * 2 + 1, none⟩ (.bool false)) := ((((Touch.refl _ w).alloc _).trans HT.out (fun _ x => x.elim)).setCell (.inl (f1 gp rfl)) _)
  have hpp : (pc ps).set (k * 2 + 1) (.bool false) = pc (ps.set k (x, false)) := by
    have h0 : (pc ps).set (k * 2) (.int .i64 x) = pc ps := set_same (by rw [pc_at0, HK.out]; rfl)
    rw [pc_set, h0]
  rw [hpp] at p2
  have hn := Hn.out
  have hm := Hm.out
  rw [hn] at g1 p2 f1
  rw [hm] at g1 d2 f2
  clear hpp hn hm
  obtain ⟨ws, hws⟩ : ∃ ws, w1.setCell ⟨gp, k * 2 + 1, none⟩ (.bool false) = ws := ⟨_, rfl⟩
  rw [hws] at g1 p2 d2 hb2 hT2
  rw [hws]
  have hlw : g < ws.heap.size := blk_lt g1
  have hbw : w.heap.size < ws.heap.size := blk_lt hb2
  have hgpw : gp < ws.heap.size := row_lt p2 rfl
  clear hws Hg Hp Hd Hf HT Hb k1 k2 z2 b0 p1 q1 hsz hl hlp
  have k2 : ws.cell? ⟨g, 2, none⟩ = some (.slice A2 m cap2) := cell_blk g1 2
  have z2 : ws.frozen? ⟨g, 2, none⟩ = false := free_blk g1 2
  have b0 : ws.cell? ⟨w.heap.size, 0, none⟩ = some (.int .i64 k) := cell_blk hb2 0
  have hfg : (Value.slice A2 m cap2).ownBlock ≠ some g := row_ne d2 g1 (by decide)
  have G1 := Lib.hid g1
  have P2 := Lib.hid p2
  have D2 := Lib.hid d2
  have T2 := Lib.hid hT2
  have Fs := Lib.hid (And.intro f0 (And.intro f1 f2))
  have HFG := Lib.hid hfg
  clear g1 p2 d2 hT2 f0 f1 f2 hfg hb2
  go_region_law (refine step_append_lies _ rfl (.tmp 21) (.tmp 24) 61 rfl 0 3 i0 (.int .i64 0) 1 8 Try.underlying61 hi hz0 hz1 hz2 rfl (by decide) (.slice A2 m cap2) m (ic ds) (by simp [Act.eval]) (by exact (D2.out.alloc _)) ⟨ws.heap.size, 0, none⟩ 1 1 [.int .i64 k] (by simp [Act.eval]) rfl (by exact World.news_of_block (cs := #[.int .i64 k]) (alloc_blk ws.drew _ 3 rfl)) (by intro u hu; simp at hu; subst hu; rfl) (by decide) (by unfold maxLen; omega) (by omega) (Nat.zero_le _) (ws.heap.size + 1) (by simp) ?_
                 intro gd cap1 wx hown hgrow hat hlt
                 have TR : Touch (fun b => (Value.slice A2 m cap2).ownBlock = some b) ws wx := (((Touch.refl _ ws).alloc _).drew.drew).grown hgrow (fun _ e => .inl e)
                 have hgx := (TR.block g hlw HFG.out).trans G1.out
                 have kx : wx.cell? ⟨g, 2, none⟩ = some (.slice A2 m cap2) := cell_blk hgx 2
                 have zx : wx.frozen? ⟨g, 2, none⟩ = false := free_blk hgx 2
                 have HX := Lib.hid (And.intro hown (And.intro hat (And.intro TR hgx)))
                 clear hown hgrow hat TR hgx)
  all_goals
    go_wp2
    go_ret
    obtain ⟨hown, hat, TR, hgx⟩ := HX.out
    obtain ⟨f0, f1, f2⟩ := Fs.out
    have hgrown : wx.grownBy (wx.setCell ⟨g, 2, none⟩ (.slice (some ⟨gd, 0, none⟩) (m + 1) cap1)) (some g) :=
      ⟨rfl, rfl, rfl, by simp [World.setCell], fun x _ hx => Below.heap_setCell _ _ _ _ (fun e => hx (by rw [e]))⟩
    have hpx := row_touch P2.out TR (fun k hk x => row_row_ne P2.out D2.out (by decide) hk x)
    have hs1 := set_blk hgx 2 (.slice (some ⟨gd, 0, none⟩) (m + 1) cap1)
    have hp3 := hpx.kept hgrown (.inr (row_ne hpx hgx (by decide)))
    have hd3 := hown.kept hgrown (.inr (row_ne hown hgx (by decide)))
    have hTx : Touch F w wx := T2.out.trans TR (fun b e => .inl (f2 b e))
    refine ⟨rfl, ⟨_, _, by simpa using hs1, by rw [List.length_set, Hn.out]; exact hp3, by rw [List.length_append, Hm.out]; simpa [ic] using hd3, .inl f0, fun j hj => .inl (f1 j hj), fun j hj => ?_⟩, hTx.setCell (.inl f0) _⟩
    have e1 : gd = j := by simpa [Value.ownBlock] using hj
    subst e1
    rcases hat with e | e
    · exact .inl (f2 _ e)
    · right
      simp [World.setCell]
      omega
end Go.Proofs.Ytjddfmllphcehaa
