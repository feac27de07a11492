/-
  What add of package schema returns, and what it leaves in memory.
-/
import Derived.Test.YteacpfknfbmjkaaKc
import Derived.Deep.RegionLaw
namespace Go.Proofs.Yteacpfknfbmjkaa
open Go.ChangeShapes Go.WideShapes Go.ChangeAt Go.RowKit
set_option maxRecDepth 100000
set_option maxHeartbeats 4000000

theorem info_key : (Try.prog.info? 30).map (fun i => (i.zero, i.size, i.bytes)) = some (some (.agg #[.string ⟨#[]⟩, .int .i64 0, .bool false]), 3, 32) := by kernel_rfl
theorem new_blk {F : Nat → Prop} {W w1 : World} {cs : Array Value} {t : TypeId} {N : Nat} (hT : Touch F (W.alloc (.cells cs t)) w1) (hN : W.heap.size = N) (hF : ¬ F N) : w1.heap[N]? = some (.cells cs t (0, 0)) := by
  subst hN
  rw [hT.block _ (by simp) hF]
  exact heap_alloc_new W _

theorem add_no (g : Nat) (l : List Ky) (k : Ky) (F : Nat → Prop) (w : World) (h : SK w F g l) (hl : l.length ≤ 1000) (hs : k.nm.size ≤ 9223372036854775807) (he : errAt l k ≠ 0) :
    Calls Try.prog 19 #[.pointer (some ⟨g, 0, none⟩), .agg #[.string k.nm, .int .i64 k.kd, .bool k.sh]] w fun e w' => e = .returned (.int .i64 (errAt l k)) ∧ Touch NoB w w' := by
  obtain ⟨nm, kd, sh⟩ := k
  simp only at hs
  have HD := Lib.hid (fun w => name_any nm hs w)
  have HI := Lib.hid (fun w => iskind_any kd w)
  have HF := Lib.hid (fun w' (t : Touch NoB w w') => find_any g l nm F w' (h.quiet t) (by omega))
  cases hb1 : nameB nm
  · have e5 : errAt l ⟨nm, kd, sh⟩ = 5 := by unfold errAt; simp [hb1]
    rw [e5]
    rw [hb1] at HD
    clear h he e5 hb1 HI HF
    go_enter Try.func19, Try.ntmps19
    go_wp2_with fail
    refine (HD.out _).mono ?_
    rintro e w' ⟨rfl, rfl⟩
    go_wp2
    go_ret
    exact ⟨rfl, (Touch.refl _ _).alloc _⟩
  · rw [hb1] at HD
    cases hk : kindB kd
    · have e7 : errAt l ⟨nm, kd, sh⟩ = 7 := by unfold errAt; simp [hb1, hk]
      rw [e7]
      rw [hk] at HI
      clear h he e7 hb1 hk HF
      go_enter Try.func19, Try.ntmps19
      go_wp2_with fail
      refine (HD.out _).mono ?_
      rintro e w' ⟨rfl, rfl⟩
      go_wp2_with fail
      refine (HI.out _).mono ?_
      rintro e w1 ⟨rfl, hT⟩
      have HT := Lib.hid (((Touch.refl _ w).alloc _).same hT)
      clear hT
      go_wp2
      go_ret
      exact ⟨rfl, HT.out⟩
    · rw [hk] at HI
      cases hf : findK l nm
      · exact absurd (show errAt l ⟨nm, kd, sh⟩ = 0 by unfold errAt; simp [hb1, hk, hf]) he
      · have e6 : errAt l ⟨nm, kd, sh⟩ = 6 := by unfold errAt; simp [hb1, hk, hf]
        rw [e6]
        rw [hf] at HF
        unfold fndV at HF
        clear h he e6 hb1 hk hf
        go_enter Try.func19, Try.ntmps19
        go_wp2_with fail
        refine (HD.out _).mono ?_
        rintro e w' ⟨rfl, rfl⟩
        go_wp2_with fail
        refine (HI.out _).mono ?_
        rintro e w1 ⟨rfl, hT⟩
        have hb := new_blk hT rfl (fun x => x)
        have c0 : w1.cell? ⟨w.heap.size, 0, none⟩ = some (.string nm) := cell_blk hb 0
        have HT := Lib.hid (((Touch.refl _ w).alloc _).same hT)
        clear hT hb
        go_wp2_with fail
        refine (HF.out _ HT.out).mono ?_
        rintro e w2 ⟨rfl, hT⟩
        have HT2 := Lib.hid (HT.out.same hT)
        clear hT
        go_wp2
        go_ret
        exact ⟨rfl, HT2.out⟩

theorem add_yes (g : Nat) (l : List Ky) (k : Ky) (F : Nat → Prop) (w : World) (h : SK w F g l) (hF : InW w 0 F) (hl : l.length ≤ 1000) (hs : k.nm.size ≤ 9223372036854775807) (he : errAt l k = 0) :
    Calls Try.prog 19 #[.pointer (some ⟨g, 0, none⟩), .agg #[.string k.nm, .int .i64 k.kd, .bool k.sh]] w fun e w' => e = .returned (.int .i64 0) ∧ SK w' (Ext F w w') g (l ++ [k]) ∧ Touch F w w' := by
  have hbits : nameB k.nm = true ∧ kindB k.kd = true ∧ findK l k.nm = none := by
    unfold errAt at he
    cases h1 : nameB k.nm
    · simp [h1] at he
    · cases h2 : kindB k.kd
      · simp [h1, h2] at he
      · cases h3 : findK l k.nm
        · exact ⟨rfl, rfl, rfl⟩
        · simp [h1, h2, h3] at he
  obtain ⟨hb1, hk, hf⟩ := hbits
  have HS0 := Lib.hid hs
  obtain ⟨nm, kd, sh⟩ := k
  simp only at hs hb1 hk hf
  have HD := Lib.hid (fun w => name_any nm hs w)
  have HI := Lib.hid (fun w => iskind_any kd w)
  have HF := Lib.hid (fun w' (t : Touch NoB w w') => find_any g l nm F w' (h.quiet t) (by omega))
  rw [hb1] at HD
  rw [hk] at HI
  rw [hf] at HF
  unfold fndV at HF
  have H0 := Lib.hid h
  have HFI := Lib.hid hF
  obtain ⟨i0, hi, hz0, hz1, hz2⟩ := info_parts info_key
  clear h he hb1 hk hf hF
  go_enter Try.func19, Try.ntmps19
  go_wp2_with fail
  refine (HD.out _).mono ?_
  rintro e w' ⟨rfl, rfl⟩
  go_wp2_with fail
  refine (HI.out _).mono ?_
  rintro e w1 ⟨rfl, hT⟩
  have hb := new_blk hT rfl (fun x => x)
  have c0 : w1.cell? ⟨w.heap.size, 0, none⟩ = some (.string nm) := cell_blk hb 0
  have HT := Lib.hid (((Touch.refl _ w).alloc _).same hT)
  have Hb := Lib.hid hb
  clear hT hb
  go_wp2_with fail
  refine (HF.out _ HT.out).mono ?_
  rintro e ws ⟨rfl, hT⟩
  have HT2 := Lib.hid (HT.out.same hT)
  have hb := (hT.block _ (blk_lt Hb.out) (fun x => x)).trans Hb.out
  obtain ⟨v, hg, hr, f0, f1, hsz⟩ := H0.out.quiet HT2.out
  obtain ⟨A, cap, rfl, hc1, hc2⟩ := row_any hr
  unfold maxLen at hc2
  have hgl := blk_lt hg
  have hbl := blk_lt hb
  have hnF : ¬ F w.heap.size := fun e => by have := (HFI.out _ e).2; omega
  have hne : w.heap.size ≠ g := fun e => hnF (by rw [e]; exact f0)
  have k0 : ws.cell? ⟨g, 0, none⟩ = some (.slice A l.length cap) := cell_blk hg 0
  have z0 : ws.frozen? ⟨g, 0, none⟩ = false := free_blk hg 0
  have b0 : ws.cell? ⟨w.heap.size, 0, none⟩ = some (.string nm) := cell_blk hb 0
  have b1 : ws.cell? ⟨w.heap.size, 1, none⟩ = some (.int .i64 kd) := cell_blk hb 1
  have b2 : ws.cell? ⟨w.heap.size, 2, none⟩ = some (.bool sh) := cell_blk hb 2
  have hfg : (Value.slice A l.length cap).ownBlock ≠ some g := row_ne hr hg (by decide)
  obtain ⟨n, hn⟩ : ∃ n, l.length = n := ⟨_, rfl⟩
  rw [hn] at k0 hr hc1 hfg f1 hl
  have HN := Lib.hid hn
  have R1 := Lib.hid hr
  have HG := Lib.hid hg
  have HFG := Lib.hid hfg
  have HFS := Lib.hid (And.intro f0 (And.intro f1 hsz))
  clear hT hb hg hr f0 f1 hsz hn hfg c0
  go_wp2
  go_region_law (refine step_append_lies _ rfl (.tmp 27) (.tmp 29) 31 rfl 0 30 i0 (.agg #[.string ⟨#[]⟩, .int .i64 0, .bool false]) 3 32 Try.underlying31 hi hz0 hz1 hz2 rfl (by decide) (.slice A n cap) n (kc l) (by simp [Act.eval]) (by exact (R1.out.alloc _)) ⟨ws.heap.size, 0, none⟩ 1 1 [.string nm, .int .i64 kd, .bool sh] (by simp [Act.eval]) rfl (by exact World.news_of_block (cs := #[.string nm, .int .i64 kd, .bool sh]) (alloc_blk ws.drew _ 30 rfl)) (by intro u hu; simp at hu; rcases hu with rfl | rfl | rfl <;> rfl) (by decide) (by unfold maxLen; omega) (by omega) (Nat.zero_le _) (ws.heap.size + 1) (by simp) ?_
                 intro gd cap1 wx hown hgrow hat hlt
                 have TR : Touch (fun b => (Value.slice A n cap).ownBlock = some b) ws wx := (((Touch.refl _ ws).alloc _).drew).grown hgrow (fun _ e => .inl e)
                 have hgx := (TR.block g hgl HFG.out).trans HG.out
                 have kx : wx.cell? ⟨g, 0, none⟩ = some (.slice A n cap) := (cell_blk hgx 0).trans (by rw [← HN.out]; rfl)
                 have zx : wx.frozen? ⟨g, 0, none⟩ = false := free_blk hgx 0
                 have HX := Lib.hid (And.intro hown (And.intro hat (And.intro TR hgx)))
                 clear hown hgrow hat TR hgx)
  all_goals
    go_wp2
    go_ret
    obtain ⟨hown, hat, TR, hgx⟩ := HX.out
    obtain ⟨f0, f1, hsz⟩ := HFS.out
    have hgrown : wx.grownBy (wx.setCell ⟨g, 0, none⟩ (.slice (some ⟨gd, 0, none⟩) (n + 1) cap1)) (some g) :=
      ⟨rfl, rfl, rfl, by simp [World.setCell], fun x _ hx => Below.heap_setCell _ _ _ _ (fun e => hx (by rw [e]))⟩
    have hs1 := set_blk hgx 0 (.slice (some ⟨gd, 0, none⟩) (n + 1) cap1)
    have hr3 := hown.kept hgrown (.inr (row_ne hown hgx (by decide)))
    have hTx : Touch F w wx := (HT2.out.mono (fun _ e => e.elim)).trans TR (fun b hb => .inl (f1 b hb))
    have hsy : (wx.setCell ⟨g, 0, none⟩ (.slice (some ⟨gd, 0, none⟩) (n + 1) cap1)).heap.size = wx.heap.size := by simp [World.setCell]
    have hws := HT2.out.size
    refine ⟨rfl, ⟨_, by simpa using hs1, by rw [List.length_append, HN.out, kc_snoc]; exact hr3, .inl f0, fun j hj => ?_, fun j x hx => ?_⟩, hTx.setCell (.inl f0) _⟩
    · have e1 : gd = j := by simpa [Value.ownBlock] using hj
      subst e1
      rcases hat with e | e
      · exact .inl (f1 _ e)
      · exact .inr ⟨by omega, by rw [hsy]; exact hlt⟩
    · by_cases hj : j < l.length
      · rw [List.getElem?_append_left hj] at hx
        exact hsz j x hx
      · rw [List.getElem?_append_right (by omega)] at hx
        obtain ⟨h0, h1⟩ := List.getElem?_eq_some_iff.1 hx
        simp at h1
        subst h1
        exact HS0.out
end Go.Proofs.Yteacpfknfbmjkaa
