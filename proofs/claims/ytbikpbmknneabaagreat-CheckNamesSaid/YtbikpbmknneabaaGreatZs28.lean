/-
  What the document's own node does where no word of a node comes; all together. Conditions: tokens as a text has them.
-/
import Derived.Test.YtbikpbmknneabaaGreatZs27
import Derived.Test.YtbikpbmknneabaaGreatZs23
import Derived.Test.YtbikpbmknneabaaGreatZs3
import Derived.Test.YtbikpbmknneabaaGreatZs22
import Derived.Test.YtbikpbmknneabaaGreatZs6
import Derived.Deep.AppendLies
import Derived.Deep.DeepCutAuto
import Derived.Deep.RegionWith
section
namespace Go.Proofs.YtbikpbmknneabaaGreat
open Go.ChangeShapes Go.WideShapes Go.ChangeAt Go.RowKit
set_option maxRecDepth 100000
set_option maxHeartbeats 8000000
attribute [local go_sem ↓] loadNd_of storeNd_of

/-- No word of a node. -/
theorem rnode_none {gp g n cp L d D : Nat} {ts : List Tk} (hds : d ≤ 40) {w : World} {σ : St} (h : RT w gp g n cp ts L σ) (hg : g < w.heap.size) (he : σ.2 = 0) (hno : ∀ s ∈ nodeW, isS ts s σ = false) :
    Calls Tryz.prog 20 #[.pointer (some ⟨gp, 0, none⟩), .int .i64 (d : Int)] w (RNP w gp g n cp ts L (D + 1) (nd0, failS 2 σ)) := by
  have HNO := Lib.hid hno
  have failS_two : (failS 2 σ).2 = 2 := by unfold failS; rw [if_pos he]
  clear hno
  have hgp := h.lt
  obtain ⟨W0, hW0⟩ : ∃ W, (w.alloc (.cells #[.int .i64 0, .int .i64 0, .int .i64 0, .string ⟨#[]⟩, .int .i64 0, .int .i64 0, .string ⟨#[]⟩, .slice none 0 0, .slice none 0 0, .slice none 0 0] 62)).alloc (.cells #[.int .i64 0, .int .i64 0, .int .i64 0, .string ⟨#[]⟩, .int .i64 0, .int .i64 0, .string ⟨#[]⟩, .slice none 0 0, .slice none 0 0, .slice none 0 0] 62) = W := ⟨_, rfl⟩
  have hN0 := NS5.start h hW0
  obtain ⟨W1, hW1⟩ : ∃ W, W0.alloc (.cells #[.string ⟨#[115, 101, 113]⟩, .string ⟨#[115, 101, 108]⟩, .string ⟨#[109, 115, 101, 113]⟩, .string ⟨#[109, 115, 101, 108]⟩, .string ⟨#[112, 97, 114]⟩] 9) = W := ⟨_, rfl⟩
  have t1 : Touch NoB W0 W1 := by rw [← hW1]; exact (Touch.refl _ _).alloc _
  have hN1 := hN0.quiet hgp t1
  have hwd : WdAt W1 W0.heap.size 5 manyW := words_at (by rw [← hW1]; exact alloc_blk _ _ _ rfl) rfl (by decide) rfl
  have hee : ((σ.2 : Int) != 0) = false := by rw [he]; rfl
  have hdd : decide ((40 : Int) < (d : Int)) = false := by simp; omega
  obtain ⟨c1, c2, cl⟩ := hN0.rt.cells
  have HN1 := Lib.hid (And.intro hN1 hwd)
  have HW1 := Lib.hid hwd
  clear h hN0 t1 hN1 hwd he hds
  go_enter Tryz.func20, Tryz.ntmps20
  go_wp2
  go_loopw [7] (fun v wr => NlRel w gp g n cp ts L σ W1 5 v wr) (fun v _ => 6 - (intOf v).toNat)
  case atStart => exact ⟨0, Nat.zero_le _, rfl, HN1.out.1, Touch.refl _ _⟩
  case round =>
    obtain ⟨i, hi, rfl, hN, hT⟩ := hrel
    have hwdr := wd_touch HN1.out.2 hT
    have HNr := Lib.hid hN
    have hNl := hN.lt
    have hwl := hwdr.2.1
    by_cases hlt : i < 5
    · obtain ⟨s, hs⟩ : ∃ s, manyW[i]? = some s := ⟨manyW[i]'(by have : manyW.length = 5 := rfl; omega), List.getElem?_eq_getElem _⟩
      have hcell := hwdr.2.2 i s hs
      have hno : isS ts s σ = false := HNO.out s ((by decide : ∀ q ∈ manyW, q ∈ nodeW) s (List.mem_of_getElem? hs))
      have HC := Lib.hid (t_no hN.rt s hno)
      have HT := Lib.hid hT
      obtain ⟨sx, hsx⟩ : ∃ sx, bs s = sx := ⟨_, rfl⟩
      rw [hsx] at hcell HC
      have hi5 : (i : Int) < 5 := by omega
      clear hN hT hwdr hs hno hsx
      go_wp2_with fail
      refine HC.out.mono ?_
      rintro x w2 ⟨rfl, hr2, ht2⟩
      have HE := Lib.hid (And.intro (HNr.out.quiet hgp ht2) (HT.out.same ht2))
      clear hr2 ht2
      go_wp2
      go_roundw
      case rel => exact ⟨i + 1, by omega, by go_num, HE.out.1, HE.out.2⟩
      case measure => simp [intOf]; omega
    · obtain rfl : i = 5 := by omega
      clear hwdr
      have HS := Lib.hid HNr.out
      clear hN hT HNr
      have HC := Lib.hid (t_no HS.out.rt [110, 111, 116] (HNO.out _ (by decide)))
      go_wp2_with fail
      refine HC.out.mono ?_
      rintro x w21 ⟨rfl, -, ht⟩
      have hn := HS.out.quiet hgp ht
      clear HS
      have HS := Lib.hid hn
      have hNl := hn.lt
      clear ht hn HC
      have HC := Lib.hid (t_no HS.out.rt [114, 101, 112, 101, 97, 116] (HNO.out _ (by decide)))
      go_wp2_with fail
      refine HC.out.mono ?_
      rintro x w22 ⟨rfl, -, ht⟩
      have hn := HS.out.quiet hgp ht
      clear HS
      have HS := Lib.hid hn
      have hNl := hn.lt
      clear ht hn HC
      have HC := Lib.hid (t_no HS.out.rt [112, 105, 99, 107] (HNO.out _ (by decide)))
      go_wp2_with fail
      refine HC.out.mono ?_
      rintro x w23 ⟨rfl, -, ht⟩
      have hn := HS.out.quiet hgp ht
      clear HS
      have HS := Lib.hid hn
      have hNl := hn.lt
      clear ht hn HC
      have HC := Lib.hid (t_no HS.out.rt [105, 102] (HNO.out _ (by decide)))
      go_wp2_with fail
      refine HC.out.mono ?_
      rintro x w24 ⟨rfl, -, ht⟩
      have hn := HS.out.quiet hgp ht
      clear HS
      have HS := Lib.hid hn
      have hNl := hn.lt
      clear ht hn HC
      have HC := Lib.hid (t_no HS.out.rt [115, 101, 116] (HNO.out _ (by decide)))
      go_wp2_with fail
      refine HC.out.mono ?_
      rintro x w25 ⟨rfl, -, ht⟩
      have hn := HS.out.quiet hgp ht
      clear HS
      have HS := Lib.hid hn
      have hNl := hn.lt
      clear ht hn HC
      have HC := Lib.hid (t_no HS.out.rt [100, 111] (HNO.out _ (by decide)))
      go_wp2_with fail
      refine HC.out.mono ?_
      rintro x w26 ⟨rfl, -, ht⟩
      have hn := HS.out.quiet hgp ht
      clear HS
      have HS := Lib.hid hn
      have hNl := hn.lt
      clear ht hn HC
      have HC := Lib.hid (t_no HS.out.rt [117, 115, 101] (HNO.out _ (by decide)))
      go_wp2_with fail
      refine HC.out.mono ?_
      rintro x w27 ⟨rfl, -, ht⟩
      have hn := HS.out.quiet hgp ht
      clear HS
      have HS := Lib.hid hn
      have hNl := hn.lt
      clear ht hn HC
      have HC := Lib.hid (t_no HS.out.rt [112, 108, 97, 110] (HNO.out _ (by decide)))
      go_wp2_with fail
      refine HC.out.mono ?_
      rintro x w28 ⟨rfl, -, ht⟩
      have hn := HS.out.quiet hgp ht
      clear HS
      have HS := Lib.hid hn
      have hNl := hn.lt
      clear ht hn HC
      have HC := Lib.hid (t_no HS.out.rt [111, 107] (HNO.out _ (by decide)))
      go_wp2_with fail
      refine HC.out.mono ?_
      rintro x w29 ⟨rfl, -, ht⟩
      have hn := HS.out.quiet hgp ht
      clear HS
      have HS := Lib.hid hn
      have hNl := hn.lt
      clear ht hn HC
      have HC := Lib.hid (t_no HS.out.rt [102, 97, 105, 108] (HNO.out _ (by decide)))
      go_wp2_with fail
      refine HC.out.mono ?_
      rintro x w30 ⟨rfl, -, ht⟩
      have hn := HS.out.quiet hgp ht
      clear HS
      have HS := Lib.hid hn
      have hNl := hn.lt
      clear ht hn HC
      have HC := Lib.hid (t_no HS.out.rt [119, 97, 105, 116] (HNO.out _ (by decide)))
      go_wp2_with fail
      refine HC.out.mono ?_
      rintro x w31 ⟨rfl, -, ht⟩
      have hn := HS.out.quiet hgp ht
      clear HS
      have HS := Lib.hid hn
      have hNl := hn.lt
      clear ht hn HC
      have HC := Lib.hid (t_fail HS.out.rt 2)
      go_wp2_with fail
      refine HC.out.mono ?_
      rintro x w32 ⟨rfl, hr, ht⟩
      have hn := HS.out.call hgp hr ht
      clear HS
      have HS := Lib.hid hn
      clear hr ht hn HC
      have HC := Lib.hid (t_want HS.out.rt [59])
      go_wp2_with fail
      refine HC.out.mono ?_
      rintro x w33 ⟨rfl, hr, ht⟩
      rw [exS_bd (by rw [failS_two]; decide)] at hr
      have hn := HS.out.call hgp hr ht
      clear HS
      have HS := Lib.hid hn
      clear hr ht hn HC
      obtain ⟨hld, W9, hst, hra, hr9, ht9, ht3⟩ := HS.out.fin hgp hg rfl (by unfold zNd; intro v hv; simp only [List.mem_cons, List.not_mem_nil, or_false] at hv; rcases hv with rfl | rfl | rfl | rfl | rfl | rfl | rfl | rfl | rfl | rfl <;> rfl)
      obtain ⟨y0, y1, y2, y3, y4, y5, y6, y7, y8, y9⟩ := range_cells hra
      have HZ := Lib.hid (And.intro hr9 (And.intro ht9 ht3))
      have hNl := HS.out.lt
      clear hra hr9 ht9 ht3
      unfold zNd at hld hst
      go_wp2
      exact bodyPost_ret (v := .agg #[.int .i64 0, .int .i64 0, .int .i64 0, .string ⟨#[]⟩, .int .i64 0, .int .i64 0, .string ⟨#[]⟩, .slice none 0 0, .slice none 0 0, .slice none 0 0]) (by simp [results, Tryz.results20, go_sem, y0, y1, y2, y3, y4, y5, y6, y7, y8, y9]) rfl
        ⟨HZ.out.2.1, HZ.out.1, nd0, 0, 0, ⟨#[]⟩, none, 0, 0, none, 0, none, 0, rfl, nt_nd0 _ _ _, fun _ => rfl⟩
theorem choF_some {ts : List Tk} {σ : St} : ∀ (ws : List Bs) (d k : Nat), choF ts σ ws d = some k → ∃ i s, k = d + i ∧ ws[i]? = some s ∧ isS ts s σ = true
  | [], d, k, h => by simp [choF] at h
  | a :: r, d, k, h => by
    unfold choF at h
    split at h
    · rename_i ha
      injection h with h
      exact ⟨0, a, by omega, rfl, ha⟩
    · obtain ⟨i, s, e, hi, hs⟩ := choF_some r (d + 1) k h
      exact ⟨i + 1, s, by omega, by simpa using hi, hs⟩
theorem choF_no {ts : List Tk} {σ : St} : ∀ (ws : List Bs) (d : Nat), choF ts σ ws d = none → ∀ s ∈ ws, isS ts s σ = false
  | [], _, _, s, h => by cases h
  | a :: r, d, h, s, hm => by
    unfold choF at h
    split at h
    · cases h
    · rename_i ha
      rcases List.mem_cons.1 hm with rfl | hm
      · simpa using ha
      · exact choF_no r (d + 1) h s hm
theorem rnd_bad {ts : List Tk} {m : Nat} {σ : St} (h : σ.2 ≠ 0) : (rnd ts m σ).2.2 ≠ 0 := by
  cases m with
  | zero => unfold rnd failS; simp only; rw [if_neg h]; exact h
  | succ m => rw [rnd, if_pos h]; exact h
theorem rnode_all {gp g n cp L : Nat} {ts : List Tk} (hnk : NumsOk ts) : ∀ (m d : Nat), m ≤ 40 → d + m = 41 → RNodeOk gp g n cp ts L d (m + 1) (rnd ts m)
  | 0, d, _, hd => fun W σ h hg => by
    obtain rfl : d = 41 := by omega
    exact rnode_deep h hg rfl
  | m + 1, d, hm, hd => fun W σ h hg => by
    have ih := rnode_all (gp := gp) (g := g) (n := n) (cp := cp) (L := L) hnk m (d + 1) (by omega) (by omega)
    rw [rnd]
    by_cases he : σ.2 ≠ 0
    · rw [if_pos he]
      exact rnode_bad h hg he
    · rw [if_neg he]
      have he0 : σ.2 = 0 := by omega
      cases hc : choF ts σ nodeW 0 with
      | none => exact rnode_none (by omega) h hg he0 (choF_no _ _ hc)
      | some k =>
        obtain ⟨i, s, e, hi, hs⟩ := choF_some _ _ _ hc
        obtain rfl : k = i := by omega
        have hk : k < 16 := (List.getElem?_eq_some_iff.1 hi).1
        have hbad : ∀ σ : St, σ.2 ≠ 0 → (rnd ts m σ).2.2 ≠ 0 := fun _ h => rnd_bad h
        match k, hk, hi with
        | 0, _, hi => cases hi; exact rnode_0 rfl (by omega) ih h hg hs
        | 1, _, hi => cases hi; exact rnode_1 rfl (by omega) ih h hg hs
        | 2, _, hi => cases hi; exact rnode_2 rfl (by omega) ih h hg hs
        | 3, _, hi => cases hi; exact rnode_3 rfl (by omega) ih h hg hs
        | 4, _, hi => cases hi; exact rnode_4 rfl (by omega) ih h hg hs
        | 5, _, hi => cases hi; exact rnode_5 rfl (by omega) ih h hg hs
        | 6, _, hi => cases hi; exact rnode_6 rfl (by omega) ih h hg hs
        | 7, _, hi => cases hi; exact rnode_7 hnk rfl (by omega) h hg hs
        | 8, _, hi => cases hi; exact rnode_8 hnk rfl (by omega) h hg hs
        | 9, _, hi => cases hi; exact rnode_9 rfl (by omega) h hg hs
        | 10, _, hi => cases hi; exact rnode_10 rfl (by omega) h hg hs
        | 11, _, hi => cases hi; exact rnode_11 hnk hbad rfl (by omega) ih h hg hs
        | 12, _, hi => cases hi; exact rnode_12 rfl (by omega) h hg hs
        | 13, _, hi => cases hi; exact rnode_13 rfl (by omega) h hg hs
        | 14, _, hi => cases hi; exact rnode_14 rfl (by omega) h hg hs
        | 15, _, hi => cases hi; exact rnode_15 rfl (by omega) h hg hs
        | k + 16, hk, _ => exact absurd hk (by omega)
theorem rnode_top {gp g n cp L : Nat} {ts : List Tk} (hnk : NumsOk ts) : RNodeOk gp g n cp ts L 1 41 (rnd ts 40) := rnode_all hnk 40 1 (by omega) rfl
end Go.Proofs.YtbikpbmknneabaaGreat
end
/-
  What the document's own key does with a reader in memory. Conditions: those that the theorem names.
-/
section
namespace Go.Proofs.YtbikpbmknneabaaGreat
open Go.ChangeShapes Go.WideShapes Go.ChangeAt Go.RowKit
set_option maxRecDepth 100000
set_option maxHeartbeats 8000000

/-- What stands at the loop over the words of kinds. -/
structure KyR (w : World) (gp g n cp : Nat) (ts : List Tk) (L : Nat) (s3 : St) (q : Nat) (nm : ByteArray) (sh : Bool) (W5 : World) (i : Nat) (wr : World) : Prop where
  rt : RT wr gp g n cp ts L s3
  t : Touch (AtB gp) w wr
  t5 : Touch NoB W5 wr
  b2 : B3 wr 57 w.heap.size (.string ⟨#[]⟩) (.int .i64 0) (.bool false)
  b3 : B3 wr 57 q (.string nm) (.int .i64 0) (.bool sh)
  no : ∀ (j : Nat) (z : Bs), j < i → kindW[j]? = some z → isS ts z s3 = false
def KyRel (w : World) (gp g n cp : Nat) (ts : List Tk) (L : Nat) (s3 : St) (q : Nat) (nm : ByteArray) (sh : Bool) (W5 : World) (v : Value) (wr : World) : Prop := ∃ i : Nat, i ≤ 5 ∧ v = .int .i64 i ∧ KyR w gp g n cp ts L s3 q nm sh W5 i wr
theorem rkey_any {gp g n cp L : Nat} {ts : List Tk} {w : World} {σ : St} (h : RT w gp g n cp ts L σ) (hg : g < w.heap.size) :
    Calls Tryz.prog 17 #[.pointer (some ⟨gp, 0, none⟩)] w fun x w' => x = .returned (.agg #[.string (bs (rkeV ts σ).nm), .int .i64 ((rkeV ts σ).kd : Int), .bool (rkeV ts σ).sh]) ∧ RT w' gp g n cp ts L (rkeS ts σ) ∧ Touch (AtB gp) w w' := by
  have hgp := h.lt
  obtain ⟨W0, hW0⟩ : ∃ W, w.alloc (.cells #[.string ⟨#[]⟩, .int .i64 0, .bool false] 57) = W := ⟨_, rfl⟩
  have t0 : Touch NoB w W0 := by rw [← hW0]; exact (Touch.refl _ _).alloc _
  have hb2 : B3 W0 57 w.heap.size (.string ⟨#[]⟩) (.int .i64 0) (.bool false) := by rw [← hW0]; exact B3.new _ _ _ _ _ rfl
  have HR0 := Lib.hid (h.touch t0)
  have HB2 := Lib.hid hb2
  have HT0 := Lib.hid (Touch.anyB (F := AtB gp) t0)
  have hl2 := blk_lt hb2
  clear h t0 hb2
  cases hi : isS ts [115, 104, 97, 114, 101, 100] σ with
  | true =>
    have HC := Lib.hid (t_yes HR0.out [115, 104, 97, 114, 101, 100] hi)
    go_enter Tryz.func17, Tryz.ntmps17
    go_wp2_with fail
    refine HC.out.mono ?_
    rintro x w1 ⟨rfl, hr, ht0⟩
    have ht : Touch (AtB gp) W0 w1 := ht0
    have hs1 := ht.size
    obtain ⟨W1, hW1⟩ : ∃ W, w1.alloc (.cells #[.string ⟨#[]⟩, .int .i64 0, .bool true] 57) = W := ⟨_, rfl⟩
    have t1 : Touch NoB w1 W1 := by rw [← hW1]; exact (Touch.refl _ _).alloc _
    have HR := Lib.hid (hr.touch t1)
    have HT := Lib.hid ((HT0.out.same ht).same (Touch.anyB (F := AtB gp) t1))
    have HB3 := Lib.hid (show B3 W1 57 w1.heap.size (.string ⟨#[]⟩) (.int .i64 0) (.bool true) by rw [← hW1]; exact B3.new _ _ _ _ _ rfl)
    have HB2 := Lib.hid ((HB2.out.go ht (by omega)).go (Touch.anyB (F := AtB gp) t1) (by omega))
    have hgq : gp < w1.heap.size := by omega
    have hgg : g < w1.heap.size := by omega
    have hq2 : w.heap.size < w1.heap.size := by omega
    have HW1 := Lib.hid hW1
    clear hr ht ht0 t1 hs1 hW1 HC
    have HC := Lib.hid (t_name HR.out)
    obtain ⟨z0, z1, z2, zl⟩ := HB3.out.cells
    go_wp2_with fail
    rw [HW1.out]
    refine HC.out.mono ?_
    rintro x w4 ⟨rfl, hr, ht⟩
    obtain ⟨nm, hnm⟩ : ∃ z, bs (naV ts (σ.1 + 1, σ.2)) = z := ⟨_, rfl⟩
    rw [hnm]
    obtain ⟨s3, hs3⟩ : ∃ z, naS ts (σ.1 + 1, σ.2) = z := ⟨_, rfl⟩
    rw [hs3] at hr
    have hV : ∀ (k : Nat) (e : choV ts kindW s3 = k), rkeV ts σ = ⟨naV ts (σ.1 + 1, σ.2), k, true⟩ ∧ rkeS ts σ = exS ts [59] (choS ts kindW s3) := by
      intro k e
      subst e
      unfold rkeV rkeS acS
      rw [hi]
      simp only [if_true, ← hs3]
      refine ⟨?_, ?_⟩ <;> first | trivial | rfl
    have HV := Lib.hid hV
    have HNM := Lib.hid hnm
    have hb4 := HB3.out.go ht (by omega)
    have hb24 := HB2.out.go ht (by omega)
    obtain ⟨V4, hV4⟩ : ∃ V, w4.setCell ⟨w1.heap.size, 0, none⟩ (.string nm) = V := ⟨_, rfl⟩
    have tV : Touch (fun b => b = w1.heap.size) w4 V4 := by rw [← hV4]; exact (Touch.refl (fun b => b = w1.heap.size) w4).setCell (p := ⟨w1.heap.size, 0, none⟩) (.inl rfl) _
    have hbV : B3 V4 57 w1.heap.size (.string nm) (.int .i64 0) (.bool true) := by rw [← hV4]; exact hb4.set0 _
    have hbV2 : B3 V4 57 w.heap.size (.string ⟨#[]⟩) (.int .i64 0) (.bool false) := (tV.block _ (blk_lt hb24) (by omega)).trans hb24
    obtain ⟨W5, hW5⟩ : ∃ W, V4.alloc (.cells #[.string ⟨#[105, 110, 116]⟩, .string ⟨#[98, 111, 111, 108]⟩, .string ⟨#[114, 101, 102]⟩, .string ⟨#[115, 121, 109]⟩, .string ⟨#[112, 111, 105, 110, 116]⟩] 9) = W := ⟨_, rfl⟩
    have t5 : Touch NoB V4 W5 := by rw [← hW5]; exact (Touch.refl _ _).alloc _
    have hwd : WdAt W5 V4.heap.size 5 kindW := words_at (by rw [← hW5]; exact alloc_blk _ _ _ rfl) rfl (by decide) rfl
    have HWD := Lib.hid hwd
    have t5' := Touch.anyB (F := AtB gp) t5
    have HK := Lib.hid (show KyR w gp g n cp ts L s3 w1.heap.size nm true W5 0 W5 from ⟨(hr.touchX tV hgq hgg).touch t5, (show Touch (AtB gp) w V4 by rw [← hV4]; exact (HT.out.same ht).setCell (p := ⟨w1.heap.size, 0, none⟩) (.inr (by simp only; omega)) _).same t5', Touch.refl _ _, hbV2.go t5' (by omega), hbV.go t5' (by omega), fun j z hj => by omega⟩)
    obtain ⟨z0, z1, z2, zl⟩ := hb4.cells
    obtain ⟨f0, f1, f2⟩ := hb4.free
    clear hr ht tV hbV hbV2 t5 t5' hwd hnm hs3 hV hb4 hb24 HC HR HT HB3 HB2 HR0 HT0
    go_wp2
    go_loopw [5] (fun v wr => KyRel w gp g n cp ts L s3 w1.heap.size nm true W5 v wr) (fun v _ => 5 - (intOf v).toNat)
    case atStart => exact ⟨0, Nat.zero_le _, rfl, HK.out⟩
    case round =>
      obtain ⟨i, hi5, rfl, hk⟩ := hrel
      have HKr := Lib.hid hk
      have hwdr := wd_touch HWD.out hk.t5
      have hwl := hwdr.2.1
      by_cases hlt : i < 5
      · obtain ⟨z, hz⟩ : ∃ z, kindW[i]? = some z := ⟨kindW[i]'(by have : kindW.length = 5 := rfl; omega), List.getElem?_eq_getElem _⟩
        have hcell := hwdr.2.2 i z hz
        obtain ⟨zx, hzx⟩ : ∃ zx, bs z = zx := ⟨_, rfl⟩
        rw [hzx] at hcell
        have hii : (i : Int) < 5 := by omega
        cases hj : isS ts z s3 with
        | false =>
          have HC := Lib.hid (t_no hk.rt z hj)
          rw [hzx] at HC
          have HZ := Lib.hid (And.intro hz hj)
          clear hk hwdr hz hj hzx
          go_wp2_with fail
          refine HC.out.mono ?_
          rintro x w6 ⟨rfl, hr, ht⟩
          have hta := Touch.anyB (F := AtB gp) ht
          have HE := Lib.hid (show KyR w gp g n cp ts L s3 w1.heap.size nm true W5 (i + 1) w6 from ⟨hr, HKr.out.t.same hta, HKr.out.t5.same ht, HKr.out.b2.go hta (by omega), HKr.out.b3.go hta (by omega), fun j q hj hq => by
            rcases Nat.lt_or_ge j i with hji | hji
            · exact HKr.out.no j q hji hq
            · obtain rfl : j = i := by omega
              have := HZ.out.1.symm.trans hq
              injection this with this
              subst this
              exact HZ.out.2⟩)
          clear hr ht hta
          go_wp2
          go_roundw
          case rel => exact ⟨i + 1, by omega, by go_num, HE.out⟩
          case measure => simp [intOf]; omega
        | true =>
          have HC := Lib.hid (t_yes hk.rt z hj)
          rw [hzx] at HC
          have hch := choF_at kindW i 0 z hz hj hk.no
          rw [Nat.zero_add] at hch
          have HCH := Lib.hid hch
          clear hk hwdr hz hzx hch
          go_wp2_with fail
          refine HC.out.mono ?_
          rintro x w6 ⟨rfl, hr, ht⟩
          have hb6 := HKr.out.b3.go ht (by omega)
          have hb26 := HKr.out.b2.go ht (by omega)
          obtain ⟨z0, z1, z2, zl⟩ := hb6.cells
          obtain ⟨f0, f1, f2⟩ := hb6.free
          obtain ⟨V6, hV6⟩ : ∃ V, w6.setCell ⟨w1.heap.size, 1, none⟩ (.int .i64 (i : Int)) = V := ⟨_, rfl⟩
          have tV : Touch (fun b => b = w1.heap.size) w6 V6 := by rw [← hV6]; exact (Touch.refl (fun b => b = w1.heap.size) w6).setCell (p := ⟨w1.heap.size, 1, none⟩) (.inl rfl) _
          have HB6 := Lib.hid (show B3 V6 57 w1.heap.size (.string nm) (.int .i64 (i : Int)) (.bool true) by rw [← hV6]; exact hb6.set1 _)
          have HB26 := Lib.hid (show B3 V6 57 w.heap.size (.string ⟨#[]⟩) (.int .i64 0) (.bool false) from (tV.block _ (blk_lt hb26) (by omega)).trans hb26)
          have HR6 := Lib.hid (hr.touchX tV hgq hgg)
          have HT6 := Lib.hid (show Touch (AtB gp) w V6 by rw [← hV6]; exact (HKr.out.t.same ht).setCell (p := ⟨w1.heap.size, 1, none⟩) (.inr (by simp only; omega)) _)
          have HC2 := Lib.hid (t_want HR6.out [59])
          clear hr ht tV hb6 hb26
          go_wp2_with fail
          refine HC2.out.mono ?_
          rintro x w7 ⟨rfl, hr, ht⟩
          have hb7 := HB6.out.go ht (by omega)
          have hb27 := HB26.out.go ht (by omega)
          have HTT := Lib.hid (HT6.out.same ht)
          obtain ⟨hv1, hv2⟩ := HV.out i (by unfold choV; rw [HCH.out]; rfl)
          have hcs : choS ts kindW s3 = (s3.1 + 1, s3.2) := by unfold choS; rw [HCH.out]
          rw [hcs] at hv2
          rw [← hv2] at hr
          have HVV := Lib.hid hv1
          clear hcs hv1 hv2 ht
          obtain ⟨z0, z1, z2, zl⟩ := hb7.cells
          obtain ⟨y0, y1, y2, yl⟩ := hb27.cells
          obtain ⟨g0, g1, g2⟩ := hb27.free
          obtain ⟨Y, hY⟩ : ∃ Y, ((w7.setCell ⟨w.heap.size, 0, none⟩ (.string nm)).setCell ⟨w.heap.size, 1, none⟩ (.int .i64 (i : Int))).setCell ⟨w.heap.size, 2, none⟩ (.bool true) = Y := ⟨_, rfl⟩
          have tY : Touch (AtB gp) w Y := by rw [← hY]; exact touch3 HTT.out (.inr (Nat.le_refl _)) _ _ _
          have tYX : Touch (fun k => k = w.heap.size) w7 Y := by rw [← hY]; exact touch3 (F := fun k => k = w.heap.size) (Touch.refl _ w7) (.inl rfl) _ _ _
          have bY : B3 Y 57 w.heap.size (.string nm) (.int .i64 (i : Int)) (.bool true) := by rw [← hY]; exact ((hb27.set0 _).set1 _).set2 _
          obtain ⟨r0, r1, r2, rl⟩ := bY.cells
          have HZ := Lib.hid (And.intro tY (hr.touchX tYX hgp hg))
          clear hr hb7 hb27 tY tYX bY
          go_wp2
          exact bodyPost_ret (v := .agg #[.string nm, .int .i64 (i : Int), .bool true]) (by simp [results, Tryz.results17, go_sem, r0, r1, r2]) rfl ⟨by rw [HVV.out, HNM.out], HZ.out.2, HZ.out.1⟩
      · obtain rfl : i = 5 := by omega
        have HC := Lib.hid (t_fail hk.rt 2)
        have hch := choF_none (σ := s3) kindW 0 (fun j q hq => HKr.out.no j q (by have := (List.getElem?_eq_some_iff.1 hq).1; exact this) hq)
        have HCH := Lib.hid hch
        clear hk hwdr hch
        go_wp2_with fail
        refine HC.out.mono ?_
        rintro x w7 ⟨rfl, hr, ht⟩
        have hb7 := HKr.out.b3.go ht (by omega)
        have hb27 := HKr.out.b2.go ht (by omega)
        have HTT := Lib.hid (HKr.out.t.same ht)
        obtain ⟨hv1, hv2⟩ := HV.out 0 (by unfold choV; rw [HCH.out]; rfl)
        have hcs : choS ts kindW s3 = failS 2 s3 := by unfold choS; rw [HCH.out]
        rw [hcs, exS_bd (by unfold failS; simp only; split <;> omega)] at hv2
        rw [← hv2] at hr
        have HVV := Lib.hid hv1
        clear hcs hv1 hv2 ht
        obtain ⟨z0, z1, z2, zl⟩ := hb7.cells
        obtain ⟨y0, y1, y2, yl⟩ := hb27.cells
        obtain ⟨g0, g1, g2⟩ := hb27.free
        obtain ⟨Y, hY⟩ : ∃ Y, ((w7.setCell ⟨w.heap.size, 0, none⟩ (.string nm)).setCell ⟨w.heap.size, 1, none⟩ (.int .i64 0)).setCell ⟨w.heap.size, 2, none⟩ (.bool true) = Y := ⟨_, rfl⟩
        have tY : Touch (AtB gp) w Y := by rw [← hY]; exact touch3 HTT.out (.inr (Nat.le_refl _)) _ _ _
        have tYX : Touch (fun k => k = w.heap.size) w7 Y := by rw [← hY]; exact touch3 (F := fun k => k = w.heap.size) (Touch.refl _ w7) (.inl rfl) _ _ _
        have bY : B3 Y 57 w.heap.size (.string nm) (.int .i64 0) (.bool true) := by rw [← hY]; exact ((hb27.set0 _).set1 _).set2 _
        obtain ⟨r0, r1, r2, rl⟩ := bY.cells
        have HZ := Lib.hid (And.intro tY (hr.touchX tYX hgp hg))
        clear hr hb7 hb27 tY tYX bY
        go_wp2
        exact bodyPost_ret (v := .agg #[.string nm, .int .i64 0, .bool true]) (by simp [results, Tryz.results17, go_sem, r0, r1, r2]) rfl ⟨by rw [HVV.out, HNM.out]; rfl, HZ.out.2, HZ.out.1⟩
  | false =>
    have HC := Lib.hid (t_no HR0.out [115, 104, 97, 114, 101, 100] hi)
    go_enter Tryz.func17, Tryz.ntmps17
    go_wp2_with fail
    refine HC.out.mono ?_
    rintro x w1 ⟨rfl, hr, ht0⟩
    have ht : Touch (AtB gp) W0 w1 := Touch.anyB ht0
    have hs1 := ht.size
    obtain ⟨W1, hW1⟩ : ∃ W, w1.alloc (.cells #[.string ⟨#[]⟩, .int .i64 0, .bool false] 57) = W := ⟨_, rfl⟩
    have t1 : Touch NoB w1 W1 := by rw [← hW1]; exact (Touch.refl _ _).alloc _
    have HR := Lib.hid (hr.touch t1)
    have HT := Lib.hid ((HT0.out.same ht).same (Touch.anyB (F := AtB gp) t1))
    have HB3 := Lib.hid (show B3 W1 57 w1.heap.size (.string ⟨#[]⟩) (.int .i64 0) (.bool false) by rw [← hW1]; exact B3.new _ _ _ _ _ rfl)
    have HB2 := Lib.hid ((HB2.out.go ht (by omega)).go (Touch.anyB (F := AtB gp) t1) (by omega))
    have hgq : gp < w1.heap.size := by omega
    have hgg : g < w1.heap.size := by omega
    have hq2 : w.heap.size < w1.heap.size := by omega
    have HW1 := Lib.hid hW1
    clear hr ht ht0 t1 hs1 hW1 HC
    have HC := Lib.hid (t_want HR.out [111, 119, 110])
    obtain ⟨z0, z1, z2, zl⟩ := HB3.out.cells
    go_wp2_with fail
    rw [HW1.out]
    refine HC.out.mono ?_
    rintro x w3 ⟨rfl, hr, ht⟩
    have HR := Lib.hid hr
    have HT := Lib.hid (HT.out.same ht)
    have HB3 := Lib.hid (HB3.out.go ht (by omega))
    have HB2 := Lib.hid (HB2.out.go ht (by omega))
    clear hr ht HC
    have HC := Lib.hid (t_name HR.out)
    go_wp2_with fail
    refine HC.out.mono ?_
    rintro x w4 ⟨rfl, hr, ht⟩
    obtain ⟨nm, hnm⟩ : ∃ z, bs (naV ts (exS ts [111, 119, 110] σ)) = z := ⟨_, rfl⟩
    rw [hnm]
    obtain ⟨s3, hs3⟩ : ∃ z, naS ts (exS ts [111, 119, 110] σ) = z := ⟨_, rfl⟩
    rw [hs3] at hr
    have hV : ∀ (k : Nat) (e : choV ts kindW s3 = k), rkeV ts σ = ⟨naV ts (exS ts [111, 119, 110] σ), k, false⟩ ∧ rkeS ts σ = exS ts [59] (choS ts kindW s3) := by
      intro k e
      subst e
      unfold rkeV rkeS acS
      rw [hi]
      simp only [Bool.false_eq_true, if_false, ← hs3]
      refine ⟨?_, ?_⟩ <;> first | trivial | rfl
    have HV := Lib.hid hV
    have HNM := Lib.hid hnm
    have hb4 := HB3.out.go ht (by omega)
    have hb24 := HB2.out.go ht (by omega)
    obtain ⟨V4, hV4⟩ : ∃ V, w4.setCell ⟨w1.heap.size, 0, none⟩ (.string nm) = V := ⟨_, rfl⟩
    have tV : Touch (fun b => b = w1.heap.size) w4 V4 := by rw [← hV4]; exact (Touch.refl (fun b => b = w1.heap.size) w4).setCell (p := ⟨w1.heap.size, 0, none⟩) (.inl rfl) _
    have hbV : B3 V4 57 w1.heap.size (.string nm) (.int .i64 0) (.bool false) := by rw [← hV4]; exact hb4.set0 _
    have hbV2 : B3 V4 57 w.heap.size (.string ⟨#[]⟩) (.int .i64 0) (.bool false) := (tV.block _ (blk_lt hb24) (by omega)).trans hb24
    obtain ⟨W5, hW5⟩ : ∃ W, V4.alloc (.cells #[.string ⟨#[105, 110, 116]⟩, .string ⟨#[98, 111, 111, 108]⟩, .string ⟨#[114, 101, 102]⟩, .string ⟨#[115, 121, 109]⟩, .string ⟨#[112, 111, 105, 110, 116]⟩] 9) = W := ⟨_, rfl⟩
    have t5 : Touch NoB V4 W5 := by rw [← hW5]; exact (Touch.refl _ _).alloc _
    have hwd : WdAt W5 V4.heap.size 5 kindW := words_at (by rw [← hW5]; exact alloc_blk _ _ _ rfl) rfl (by decide) rfl
    have HWD := Lib.hid hwd
    have t5' := Touch.anyB (F := AtB gp) t5
    have HK := Lib.hid (show KyR w gp g n cp ts L s3 w1.heap.size nm false W5 0 W5 from ⟨(hr.touchX tV hgq hgg).touch t5, (show Touch (AtB gp) w V4 by rw [← hV4]; exact (HT.out.same ht).setCell (p := ⟨w1.heap.size, 0, none⟩) (.inr (by simp only; omega)) _).same t5', Touch.refl _ _, hbV2.go t5' (by omega), hbV.go t5' (by omega), fun j z hj => by omega⟩)
    obtain ⟨z0, z1, z2, zl⟩ := hb4.cells
    obtain ⟨f0, f1, f2⟩ := hb4.free
    clear hr ht tV hbV hbV2 t5 t5' hwd hnm hs3 hV hb4 hb24 HC HR HT HB3 HB2 HR0 HT0
    go_wp2
    go_loopw [5] (fun v wr => KyRel w gp g n cp ts L s3 w1.heap.size nm false W5 v wr) (fun v _ => 5 - (intOf v).toNat)
    case atStart => exact ⟨0, Nat.zero_le _, rfl, HK.out⟩
    case round =>
      obtain ⟨i, hi5, rfl, hk⟩ := hrel
      have HKr := Lib.hid hk
      have hwdr := wd_touch HWD.out hk.t5
      have hwl := hwdr.2.1
      by_cases hlt : i < 5
      · obtain ⟨z, hz⟩ : ∃ z, kindW[i]? = some z := ⟨kindW[i]'(by have : kindW.length = 5 := rfl; omega), List.getElem?_eq_getElem _⟩
        have hcell := hwdr.2.2 i z hz
        obtain ⟨zx, hzx⟩ : ∃ zx, bs z = zx := ⟨_, rfl⟩
        rw [hzx] at hcell
        have hii : (i : Int) < 5 := by omega
        cases hj : isS ts z s3 with
        | false =>
          have HC := Lib.hid (t_no hk.rt z hj)
          rw [hzx] at HC
          have HZ := Lib.hid (And.intro hz hj)
          clear hk hwdr hz hj hzx
          go_wp2_with fail
          refine HC.out.mono ?_
          rintro x w6 ⟨rfl, hr, ht⟩
          have hta := Touch.anyB (F := AtB gp) ht
          have HE := Lib.hid (show KyR w gp g n cp ts L s3 w1.heap.size nm false W5 (i + 1) w6 from ⟨hr, HKr.out.t.same hta, HKr.out.t5.same ht, HKr.out.b2.go hta (by omega), HKr.out.b3.go hta (by omega), fun j q hj hq => by
            rcases Nat.lt_or_ge j i with hji | hji
            · exact HKr.out.no j q hji hq
            · obtain rfl : j = i := by omega
              have := HZ.out.1.symm.trans hq
              injection this with this
              subst this
              exact HZ.out.2⟩)
          clear hr ht hta
          go_wp2
          go_roundw
          case rel => exact ⟨i + 1, by omega, by go_num, HE.out⟩
          case measure => simp [intOf]; omega
        | true =>
          have HC := Lib.hid (t_yes hk.rt z hj)
          rw [hzx] at HC
          have hch := choF_at kindW i 0 z hz hj hk.no
          rw [Nat.zero_add] at hch
          have HCH := Lib.hid hch
          clear hk hwdr hz hzx hch
          go_wp2_with fail
          refine HC.out.mono ?_
          rintro x w6 ⟨rfl, hr, ht⟩
          have hb6 := HKr.out.b3.go ht (by omega)
          have hb26 := HKr.out.b2.go ht (by omega)
          obtain ⟨z0, z1, z2, zl⟩ := hb6.cells
          obtain ⟨f0, f1, f2⟩ := hb6.free
          obtain ⟨V6, hV6⟩ : ∃ V, w6.setCell ⟨w1.heap.size, 1, none⟩ (.int .i64 (i : Int)) = V := ⟨_, rfl⟩
          have tV : Touch (fun b => b = w1.heap.size) w6 V6 := by rw [← hV6]; exact (Touch.refl (fun b => b = w1.heap.size) w6).setCell (p := ⟨w1.heap.size, 1, none⟩) (.inl rfl) _
          have HB6 := Lib.hid (show B3 V6 57 w1.heap.size (.string nm) (.int .i64 (i : Int)) (.bool false) by rw [← hV6]; exact hb6.set1 _)
          have HB26 := Lib.hid (show B3 V6 57 w.heap.size (.string ⟨#[]⟩) (.int .i64 0) (.bool false) from (tV.block _ (blk_lt hb26) (by omega)).trans hb26)
          have HR6 := Lib.hid (hr.touchX tV hgq hgg)
          have HT6 := Lib.hid (show Touch (AtB gp) w V6 by rw [← hV6]; exact (HKr.out.t.same ht).setCell (p := ⟨w1.heap.size, 1, none⟩) (.inr (by simp only; omega)) _)
          have HC2 := Lib.hid (t_want HR6.out [59])
          clear hr ht tV hb6 hb26
          go_wp2_with fail
          refine HC2.out.mono ?_
          rintro x w7 ⟨rfl, hr, ht⟩
          have hb7 := HB6.out.go ht (by omega)
          have hb27 := HB26.out.go ht (by omega)
          have HTT := Lib.hid (HT6.out.same ht)
          obtain ⟨hv1, hv2⟩ := HV.out i (by unfold choV; rw [HCH.out]; rfl)
          have hcs : choS ts kindW s3 = (s3.1 + 1, s3.2) := by unfold choS; rw [HCH.out]
          rw [hcs] at hv2
          rw [← hv2] at hr
          have HVV := Lib.hid hv1
          clear hcs hv1 hv2 ht
          obtain ⟨z0, z1, z2, zl⟩ := hb7.cells
          obtain ⟨y0, y1, y2, yl⟩ := hb27.cells
          obtain ⟨g0, g1, g2⟩ := hb27.free
          obtain ⟨Y, hY⟩ : ∃ Y, ((w7.setCell ⟨w.heap.size, 0, none⟩ (.string nm)).setCell ⟨w.heap.size, 1, none⟩ (.int .i64 (i : Int))).setCell ⟨w.heap.size, 2, none⟩ (.bool false) = Y := ⟨_, rfl⟩
          have tY : Touch (AtB gp) w Y := by rw [← hY]; exact touch3 HTT.out (.inr (Nat.le_refl _)) _ _ _
          have tYX : Touch (fun k => k = w.heap.size) w7 Y := by rw [← hY]; exact touch3 (F := fun k => k = w.heap.size) (Touch.refl _ w7) (.inl rfl) _ _ _
          have bY : B3 Y 57 w.heap.size (.string nm) (.int .i64 (i : Int)) (.bool false) := by rw [← hY]; exact ((hb27.set0 _).set1 _).set2 _
          obtain ⟨r0, r1, r2, rl⟩ := bY.cells
          have HZ := Lib.hid (And.intro tY (hr.touchX tYX hgp hg))
          clear hr hb7 hb27 tY tYX bY
          go_wp2
          exact bodyPost_ret (v := .agg #[.string nm, .int .i64 (i : Int), .bool false]) (by simp [results, Tryz.results17, go_sem, r0, r1, r2]) rfl ⟨by rw [HVV.out, HNM.out], HZ.out.2, HZ.out.1⟩
      · obtain rfl : i = 5 := by omega
        have HC := Lib.hid (t_fail hk.rt 2)
        have hch := choF_none (σ := s3) kindW 0 (fun j q hq => HKr.out.no j q (by have := (List.getElem?_eq_some_iff.1 hq).1; exact this) hq)
        have HCH := Lib.hid hch
        clear hk hwdr hch
        go_wp2_with fail
        refine HC.out.mono ?_
        rintro x w7 ⟨rfl, hr, ht⟩
        have hb7 := HKr.out.b3.go ht (by omega)
        have hb27 := HKr.out.b2.go ht (by omega)
        have HTT := Lib.hid (HKr.out.t.same ht)
        obtain ⟨hv1, hv2⟩ := HV.out 0 (by unfold choV; rw [HCH.out]; rfl)
        have hcs : choS ts kindW s3 = failS 2 s3 := by unfold choS; rw [HCH.out]
        rw [hcs, exS_bd (by unfold failS; simp only; split <;> omega)] at hv2
        rw [← hv2] at hr
        have HVV := Lib.hid hv1
        clear hcs hv1 hv2 ht
        obtain ⟨z0, z1, z2, zl⟩ := hb7.cells
        obtain ⟨y0, y1, y2, yl⟩ := hb27.cells
        obtain ⟨g0, g1, g2⟩ := hb27.free
        obtain ⟨Y, hY⟩ : ∃ Y, ((w7.setCell ⟨w.heap.size, 0, none⟩ (.string nm)).setCell ⟨w.heap.size, 1, none⟩ (.int .i64 0)).setCell ⟨w.heap.size, 2, none⟩ (.bool false) = Y := ⟨_, rfl⟩
        have tY : Touch (AtB gp) w Y := by rw [← hY]; exact touch3 HTT.out (.inr (Nat.le_refl _)) _ _ _
        have tYX : Touch (fun k => k = w.heap.size) w7 Y := by rw [← hY]; exact touch3 (F := fun k => k = w.heap.size) (Touch.refl _ w7) (.inl rfl) _ _ _
        have bY : B3 Y 57 w.heap.size (.string nm) (.int .i64 0) (.bool false) := by rw [← hY]; exact ((hb27.set0 _).set1 _).set2 _
        obtain ⟨r0, r1, r2, rl⟩ := bY.cells
        have HZ := Lib.hid (And.intro tY (hr.touchX tYX hgp hg))
        clear hr hb7 hb27 tY tYX bY
        go_wp2
        exact bodyPost_ret (v := .agg #[.string nm, .int .i64 0, .bool false]) (by simp [results, Tryz.results17, go_sem, r0, r1, r2]) rfl ⟨by rw [HVV.out, HNM.out]; rfl, HZ.out.2, HZ.out.1⟩
end Go.Proofs.YtbikpbmknneabaaGreat
end
/-
  How far the document's own reader goes; a program's loop, round by round. Conditions: an end's token lies at or behind the place.
-/
section
namespace Go.Proofs.YtbikpbmknneabaaGreat
open Go.ChangeShapes Go.WideShapes Go.ChangeAt Go.RowKit
set_option maxRecDepth 100000
set_option maxHeartbeats 4000000

/-- Never back, never past the end's token. -/
def Gd (L : Nat) (F : St → St) : Prop := ∀ σ : St, σ.1 ≤ L → σ.1 ≤ (F σ).1 ∧ (F σ).1 ≤ L
section
variable {ts : List Tk} {L : Nat}
theorem Gd.comp {F G : St → St} (hF : Gd L F) (hG : Gd L G) : Gd L (fun σ => G (F σ)) := fun σ h => ⟨Nat.le_trans (hF σ h).1 (hG _ (hF σ h).2).1, (hG _ (hF σ h).2).2⟩
theorem gd_ex (hE : EnT ts L) (s : Bs) : Gd L (exS ts s) := fun σ h => ⟨exS_ge ts s σ, exS_L hE h⟩
theorem gd_na (hE : EnT ts L) : Gd L (naS ts) := fun σ h => ⟨naS_ge ts σ, naS_L hE h⟩
theorem gd_nu (hE : EnT ts L) : Gd L (nuS ts) := fun σ h => ⟨nuS_ge ts σ, nuS_L hE h⟩
theorem gd_eq (hE : EnT ts L) (hL : L ≤ ts.length) : Gd L (eqS ts) := fun _ h => ⟨eqS_ge (Nat.le_trans h hL), eqS_L hE h⟩
theorem gd_bra {sub : St → Nd × St} (hs : Gd L (fun σ => (sub σ).2)) : ∀ (f : Nat) (l : List Nd), Gd L (fun σ => (braR ts sub f l σ).2)
  | 0, _ => fun σ h => ⟨Nat.le_refl _, h⟩
  | f + 1, l => fun σ h => by
    simp only [braR]
    split
    · split
      · exact ⟨Nat.le_refl _, h⟩
      · exact (hs.comp (gd_bra hs f _)) σ h
    · exact ⟨Nat.le_refl _, h⟩
theorem gd_pic (hE : EnT ts L) (hL : L ≤ ts.length) {sub : St → Nd × St} (hs : Gd L (fun σ => (sub σ).2)) : ∀ (f : Nat) (x : List Ex) (l : List Nd), Gd L (fun σ => (picR ts sub f x l σ).2)
  | 0, _, _ => fun σ h => ⟨Nat.le_refl _, h⟩
  | f + 1, x, l => fun σ h => by
    simp only [picR]
    split
    · split
      · exact ⟨Nat.le_refl _, h⟩
      · exact ((gd_eq hE hL).comp ((gd_ex hE [58]).comp (hs.comp (gd_pic hE hL hs f _ _)))) σ h
    · exact ⟨Nat.le_refl _, h⟩
theorem gd_braS (hE : EnT ts L) {sub : St → Nd × St} (hs : Gd L (fun σ => (sub σ).2)) : Gd L (braS ts sub) := fun σ h => by
  unfold braS
  exact ((gd_ex hE [123]).comp ((gd_bra hs 17 []).comp (gd_ex hE [125]))) σ h
theorem gd_picS (hE : EnT ts L) (hL : L ≤ ts.length) {sub : St → Nd × St} (hs : Gd L (fun σ => (sub σ).2)) : Gd L (picS ts sub) := fun σ h => by
  unfold picS
  exact ((gd_ex hE [123]).comp ((gd_pic hE hL hs 17 [] []).comp (gd_ex hE [125]))) σ h
theorem gd_K (hE : EnT ts L) (hL : L ≤ ts.length) {sub : St → Nd × St} (hs : Gd L (fun σ => (sub σ).2)) (k : Nat) : Gd L (fun σ => (rndK ts sub k σ).2) := fun σ h => by
  simp only [rndK]
  repeat' split
  · exact gd_braS hE hs σ h
  · exact ((gd_nu hE).comp ((gd_nu hE).comp (gd_braS hE hs))) σ h
  · exact hs σ h
  · exact ((gd_nu hE).comp hs) σ h
  · exact gd_picS hE hL hs σ h
  · exact ((gd_eq hE hL).comp (gd_ex hE [59])) σ h
  · exact ((gd_na hE).comp ((gd_ex hE [58, 61]).comp ((gd_eq hE hL).comp (gd_ex hE [59])))) σ h
  · exact ((gd_na hE).comp (gd_ex hE [59])) σ h
  · exact gd_ex hE [59] σ h
theorem isS_in (hE : EnT ts L) {s : Bs} {σ : St} (h : isS ts s σ = true) (hl : σ.1 ≤ L) : σ.1 + 1 ≤ L := by
  have := exS_L (s := s) hE hl
  rw [exS_yes' h] at this
  exact this
theorem gd_rnd (hE : EnT ts L) (hL : L ≤ ts.length) : ∀ m, Gd L (fun σ => (rnd ts m σ).2)
  | 0 => fun σ h => ⟨Nat.le_refl _, h⟩
  | m + 1 => fun σ h => by
    simp only [rnd]
    split
    · exact ⟨Nat.le_refl _, h⟩
    · split
      · exact ⟨Nat.le_refl _, h⟩
      · rename_i k hk
        obtain ⟨i, s, e, hi, hs⟩ := choF_some _ _ _ hk
        have h1 := isS_in hE hs h
        have := gd_K hE hL (gd_rnd hE hL m) k (σ.1 + 1, σ.2) h1
        exact ⟨Nat.le_trans (Nat.le_succ _) this.1, this.2⟩
theorem rtrS_ge (hE : EnT ts L) (hL : L ≤ ts.length) {σ : St} (h : σ.1 ≤ L) : σ.1 ≤ (rtrS ts σ).1 := by
  unfold rtrS
  exact (((gd_na hE).comp ((gd_ex hE [123]).comp ((gd_rnd hE hL 40).comp (gd_ex hE [125])))) σ h).1
end
theorem rdoR_ge (ts : List Tk) : ∀ (f : Nat) (a : List Va) (b : List Ac) (c : List Cn) (σ : St), σ.1 ≤ (rdoR ts f a b c σ).2.1
  | 0, _, _, _, _ => Nat.le_refl _
  | f + 1, a, b, c, σ => by
    unfold rdoR
    split
    · split
      · exact rdoR_ge ts f a b c (failS 9 σ)
      · split
        · exact Nat.le_trans (acS_ge ts _ _) (Nat.le_trans (varS_ge ts _) (rdoR_ge ts f _ _ _ _))
        · split
          · exact Nat.le_trans (acS_ge ts _ _) (Nat.le_trans (racS_ge ts _) (rdoR_ge ts f _ _ _ _))
          · exact Nat.le_trans (exS_ge ts _ _) (Nat.le_trans (rcnS_ge ts _) (rdoR_ge ts f _ _ _ _))
    · exact Nat.le_refl _
theorem rdoS_ge (ts : List Tk) (σ : St) : σ.1 ≤ (rdoS ts σ).1 := by
  unfold rdoS
  exact Nat.le_trans (Nat.le_trans (naS_ge ts σ) (exS_ge ts _ _)) (Nat.le_trans (rdoR_ge ts _ _ _ _ _) (exS_ge ts _ _))
theorem rdoS_bad {ts : List Tk} {σ : St} (h : σ.2 ≠ 0) : (rdoS ts σ).2 ≠ 0 := by
  unfold rdoS
  have h1 : (exS ts [123] (naS ts σ)).2 ≠ 0 := exS_keep (naS_bad h)
  rw [rdoR_stop (fun e => h1 e.1)]
  exact exS_keep h1
theorem rkeS_ge (ts : List Tk) (σ : St) : σ.1 ≤ (rkeS ts σ).1 := by
  unfold rkeS
  simp only
  refine Nat.le_trans ?_ (Nat.le_trans (naS_ge ts _) (Nat.le_trans (choS_ge ts _ _) (exS_ge ts [59] _)))
  split
  · exact acS_ge ts _ _
  · exact exS_ge ts _ _
section
variable {ts : List Tk} {f : Nat} {a : List Ky} {b : List Tr} {c : List Dm} {σ : St}
theorem rprR_stop (h : ¬ (σ.2 = 0 ∧ (nxS ts σ).kd ≠ 0)) : rprR ts f a b c σ = ((a, b, c), σ) := by
  cases f with
  | zero => rfl
  | succ f => rw [rprR, if_neg h]
theorem rprR_many (h : σ.2 = 0 ∧ (nxS ts σ).kd ≠ 0) (hm : (isS ts keyB σ = true ∧ 100 ≤ a.length) ∨ (isS ts treeB σ = true ∧ 100 ≤ b.length) ∨ (isS ts domB σ = true ∧ 100 ≤ c.length)) : rprR ts (f + 1) a b c σ = rprR ts f a b c (failS 9 σ) := by
  rw [rprR, if_pos h, if_pos hm]
theorem rprR_key (h : σ.2 = 0 ∧ (nxS ts σ).kd ≠ 0) (hn : isS ts keyB σ = true) (ha : a.length < 100) : rprR ts (f + 1) a b c σ = rprR ts f (a ++ [rkeV ts (acS ts keyB σ)]) b c (rkeS ts (acS ts keyB σ)) := by
  have h1 : isS ts treeB σ = false := isS_other hn (by decide)
  have h2 : isS ts domB σ = false := isS_other hn (by decide)
  rw [rprR, if_pos h, if_neg (by rw [h1, h2]; intro h; rcases h with h | h | h; omega; cases h.1; cases h.1), if_pos hn]
theorem rprR_tree (h : σ.2 = 0 ∧ (nxS ts σ).kd ≠ 0) (hn : isS ts treeB σ = true) (hb : b.length < 100) : rprR ts (f + 1) a b c σ = rprR ts f a (b ++ [rtrV ts (acS ts treeB σ)]) c (rtrS ts (acS ts treeB σ)) := by
  have h1 : isS ts keyB σ = false := isS_other hn (by decide)
  have h2 : isS ts domB σ = false := isS_other hn (by decide)
  rw [rprR, if_pos h, if_neg (by rw [h1, h2]; intro h; rcases h with h | h | h; cases h.1; omega; cases h.1), if_neg (by rw [h1]; decide), if_pos hn]
theorem rprR_dom (h : σ.2 = 0 ∧ (nxS ts σ).kd ≠ 0) (hn : isS ts keyB σ = false) (hm : isS ts treeB σ = false) (hc : isS ts domB σ = true → c.length < 100) : rprR ts (f + 1) a b c σ = rprR ts f a b (c ++ [rdoV ts (exS ts domB σ)]) (rdoS ts (exS ts domB σ)) := by
  rw [rprR, if_pos h, if_neg (by rw [hn, hm]; intro h; rcases h with h | h | h; cases h.1; cases h.1; have := hc h.1; omega), if_neg (by rw [hn]; decide), if_neg (by rw [hm]; decide)]
end
end Go.Proofs.YtbikpbmknneabaaGreat
end
/-
  What stands in memory while the document's own Parse reads: the reader is newer than the program's two blocks. No condition beyond those that each theorem names.
-/
section
namespace Go.Proofs.YtbikpbmknneabaaGreat
open Go.ChangeShapes Go.WideShapes Go.ChangeAt Go.RowKit
set_option maxRecDepth 100000
set_option maxHeartbeats 4000000

def At2 (gp q3 : Nat) : Nat → Prop := fun k => k = gp ∨ k = q3
/-- A program that is being read, at block q3; we: the world when the reader had been made; Q: the blocks of its finished trees and domains. -/
structure PN (we wr : World) (gp q3 : Nat) (Q : Nat → Prop) (a : List Ky) (b : List Tr) (c : List Dm) (vk vt vd : Value) (ts ds : List Value) : Prop where
  t : Touch (At2 gp q3) we wr
  b3 : B3 wr 29 q3 vk vt vd
  rk : wr.ownsRow we.heap.size 57 3 vk a.length (kyC a)
  rt : wr.ownsRow we.heap.size 64 11 vt b.length ts
  lt : LsAt (TrAt wr Q) b ts
  rd : wr.ownsRow we.heap.size 71 4 vd c.length ds
  ld : LsAt (DmAt wr Q) c ds
  hQ : ∀ k, Q k → we.heap.size ≤ k ∧ k < wr.heap.size ∧ vk.ownBlock ≠ some k ∧ vt.ownBlock ≠ some k ∧ vd.ownBlock ≠ some k
section
variable {we wr V : World} {gp q3 : Nat} {Q : Nat → Prop} {a : List Ky} {b : List Tr} {c : List Dm} {vk vt vd : Value} {ts ds : List Value}
/-- A call leaves it; what the call has made new is finished. -/
theorem PN.go (h : PN we wr gp q3 Q a b c vk vt vd ts ds) (t : Touch (AtB gp) wr V) (hgp : gp < we.heap.size) (hne : q3 ≠ gp) :
    PN we V gp q3 (fun k => Q k ∨ (wr.heap.size ≤ k ∧ k < V.heap.size)) a b c vk vt vd ts ds := by
  have q : ∀ k, Q k → ¬ AtB gp k := fun k hk f => by have := (h.hQ k hk).1; unfold AtB at f; omega
  have hs := h.t.size
  have hs' := t.size
  refine ⟨h.t.same (t.mono (fun k hk => .inl hk)), h.b3.go t hne, row_go h.rk t hgp, row_go h.rt t hgp, h.lt.mono (fun x ys hx => (hx.touch t q).via (fun k hk _ => .inl hk)), row_go h.rd t hgp, h.ld.mono (fun x ys hx => (hx.touch t q).via (fun k hk _ => .inl hk)), fun k hk => ?_⟩
  rcases hk with hk | ⟨h1, h2⟩
  · have := h.hQ k hk
    exact ⟨this.1, by omega, this.2.2⟩
  · exact ⟨by omega, h2, fun e => by have := (h.rk.lt k e).2; omega, fun e => by have := (h.rt.lt k e).2; omega, fun e => by have := (h.rd.lt k e).2; omega⟩
end
section
variable {we w3 wx : World} {gp q3 gd cap : Nat} {Q : Nat → Prop} {a : List Ky} {b : List Tr} {c : List Dm} {vk vt vd : Value} {ts ds : List Value}
theorem PN.addK {v : Ky} (h : PN we w3 gp q3 Q a b c vk vt vd ts ds) (hq : q3 < we.heap.size) (TR : Touch (fun b => vk.ownBlock = some b) w3 wx)
    (hown : wx.ownsRow we.heap.size 57 3 (.slice (some ⟨gd, 0, none⟩) (a.length + 1) cap) (a.length + 1) (kyC a ++ [.string (bs v.nm), .int .i64 (v.kd : Int), .bool v.sh])) (hat : vk.ownBlock = some gd ∨ w3.heap.size ≤ gd) :
    PN we (wx.setCell ⟨q3, 0, none⟩ (.slice (some ⟨gd, 0, none⟩) (a.length + 1) cap)) gp q3 Q (a ++ [v]) (b) (c) (.slice (some ⟨gd, 0, none⟩) (a.length + 1) cap) vt vd ts ds := by
  have hb3 := h.b3.goR TR (row_ne h.rk h.b3 (by decide))
  have rt := row_touch h.rt TR (fun k hk f => row_row_ne h.rk h.rt (by decide) f hk)
  have rd := row_touch h.rd TR (fun k hk f => row_row_ne h.rk h.rd (by decide) f hk)
  have tS := (Touch.refl (fun b => b = q3) wx).setCell (p := ⟨q3, 0, none⟩) (.inl rfl) (.slice (some ⟨gd, 0, none⟩) (a.length + 1) cap)
  have hq3 : ∀ k, Q k → k ≠ q3 := fun k hk e => by have := (h.hQ k hk).1; omega
  have hself : wx.ownsRow we.heap.size 57 3 (.slice (some ⟨gd, 0, none⟩) (a.length + 1) cap) (a.length + 1) (kyC a ++ [.string (bs v.nm), .int .i64 (v.kd : Int), .bool v.sh]) := hown
  have hrow := row_aside (i := 0) (x := .slice (some ⟨gd, 0, none⟩) (a.length + 1) cap) hself (row_ne hself hb3 (by decide))
  have T1 : Touch (At2 gp q3) we (wx.setCell ⟨q3, 0, none⟩ (.slice (some ⟨gd, 0, none⟩) (a.length + 1) cap)) := (h.t.trans TR (fun k hk => .inr (row_base h.rk k hk))).setCell (p := ⟨q3, 0, none⟩) (.inl (.inr rfl)) _
  have LT := h.lt.mono (fun x ys hx => (hx.touch TR (fun k hk => (h.hQ k hk).2.2.1)).touch tS (fun k hk => hq3 k hk))
  have LD := h.ld.mono (fun x ys hx => (hx.touch TR (fun k hk => (h.hQ k hk).2.2.1)).touch tS (fun k hk => hq3 k hk))
  have HQ : ∀ k, Q k → (Value.slice (some ⟨gd, 0, none⟩) (a.length + 1) cap).ownBlock ≠ some k := fun k hk e => by
    have e1 : gd = k := by simpa [Value.ownBlock] using e
    subst e1
    rcases hat with e | e
    · exact (h.hQ _ hk).2.2.1 e
    · have := (h.hQ _ hk).2.1; omega
  exact ⟨T1, hb3.set0 _, (by rw [List.length_append, kyC_snoc]; exact hrow), row_aside rt (row_ne rt hb3 (by decide)), LT, row_aside rd (row_ne rd hb3 (by decide)), LD, fun k hk => ⟨(h.hQ k hk).1, Nat.lt_of_lt_of_le (h.hQ k hk).2.1 (Nat.le_trans TR.size tS.size), HQ k hk, (h.hQ k hk).2.2.2.1, (h.hQ k hk).2.2.2.2⟩⟩
theorem PN.addT {v : Tr} {ys : List Value} (h : PN we w3 gp q3 Q a b c vk vt vd ts ds) (hq : q3 < we.heap.size) (hv : TrAt w3 Q v ys) (TR : Touch (fun b => vt.ownBlock = some b) w3 wx)
    (hown : wx.ownsRow we.heap.size 64 11 (.slice (some ⟨gd, 0, none⟩) (b.length + 1) cap) (b.length + 1) (ts ++ ys)) (hat : vt.ownBlock = some gd ∨ w3.heap.size ≤ gd) :
    PN we (wx.setCell ⟨q3, 1, none⟩ (.slice (some ⟨gd, 0, none⟩) (b.length + 1) cap)) gp q3 Q (a) (b ++ [v]) (c) vk (.slice (some ⟨gd, 0, none⟩) (b.length + 1) cap) vd (ts ++ ys) ds := by
  have hb3 := h.b3.goR TR (row_ne h.rt h.b3 (by decide))
  have rk := row_touch h.rk TR (fun k hk f => row_row_ne h.rt h.rk (by decide) f hk)
  have rd := row_touch h.rd TR (fun k hk f => row_row_ne h.rt h.rd (by decide) f hk)
  have tS := (Touch.refl (fun b => b = q3) wx).setCell (p := ⟨q3, 1, none⟩) (.inl rfl) (.slice (some ⟨gd, 0, none⟩) (b.length + 1) cap)
  have hq3 : ∀ k, Q k → k ≠ q3 := fun k hk e => by have := (h.hQ k hk).1; omega
  have hself : wx.ownsRow we.heap.size 64 11 (.slice (some ⟨gd, 0, none⟩) (b.length + 1) cap) (b.length + 1) (ts ++ ys) := hown
  have hrow := row_aside (i := 1) (x := .slice (some ⟨gd, 0, none⟩) (b.length + 1) cap) hself (row_ne hself hb3 (by decide))
  have T1 : Touch (At2 gp q3) we (wx.setCell ⟨q3, 1, none⟩ (.slice (some ⟨gd, 0, none⟩) (b.length + 1) cap)) := (h.t.trans TR (fun k hk => .inr (row_base h.rt k hk))).setCell (p := ⟨q3, 1, none⟩) (.inl (.inr rfl)) _
  have LT := (LsAt.snoc h.lt hv).mono (fun x ys hx => (hx.touch TR (fun k hk => (h.hQ k hk).2.2.2.1)).touch tS (fun k hk => hq3 k hk))
  have LD := h.ld.mono (fun x ys hx => (hx.touch TR (fun k hk => (h.hQ k hk).2.2.2.1)).touch tS (fun k hk => hq3 k hk))
  have HQ : ∀ k, Q k → (Value.slice (some ⟨gd, 0, none⟩) (b.length + 1) cap).ownBlock ≠ some k := fun k hk e => by
    have e1 : gd = k := by simpa [Value.ownBlock] using e
    subst e1
    rcases hat with e | e
    · exact (h.hQ _ hk).2.2.2.1 e
    · have := (h.hQ _ hk).2.1; omega
  exact ⟨T1, hb3.set1 _, row_aside rk (row_ne rk hb3 (by decide)), (by rw [List.length_append]; exact hrow), LT, row_aside rd (row_ne rd hb3 (by decide)), LD, fun k hk => ⟨(h.hQ k hk).1, Nat.lt_of_lt_of_le (h.hQ k hk).2.1 (Nat.le_trans TR.size tS.size), (h.hQ k hk).2.2.1, HQ k hk, (h.hQ k hk).2.2.2.2⟩⟩
theorem PN.addD {v : Dm} {ys : List Value} (h : PN we w3 gp q3 Q a b c vk vt vd ts ds) (hq : q3 < we.heap.size) (hv : DmAt w3 Q v ys) (TR : Touch (fun b => vd.ownBlock = some b) w3 wx)
    (hown : wx.ownsRow we.heap.size 71 4 (.slice (some ⟨gd, 0, none⟩) (c.length + 1) cap) (c.length + 1) (ds ++ ys)) (hat : vd.ownBlock = some gd ∨ w3.heap.size ≤ gd) :
    PN we (wx.setCell ⟨q3, 2, none⟩ (.slice (some ⟨gd, 0, none⟩) (c.length + 1) cap)) gp q3 Q (a) (b) (c ++ [v]) vk vt (.slice (some ⟨gd, 0, none⟩) (c.length + 1) cap) ts (ds ++ ys) := by
  have hb3 := h.b3.goR TR (row_ne h.rd h.b3 (by decide))
  have rk := row_touch h.rk TR (fun k hk f => row_row_ne h.rd h.rk (by decide) f hk)
  have rt := row_touch h.rt TR (fun k hk f => row_row_ne h.rd h.rt (by decide) f hk)
  have tS := (Touch.refl (fun b => b = q3) wx).setCell (p := ⟨q3, 2, none⟩) (.inl rfl) (.slice (some ⟨gd, 0, none⟩) (c.length + 1) cap)
  have hq3 : ∀ k, Q k → k ≠ q3 := fun k hk e => by have := (h.hQ k hk).1; omega
  have hself : wx.ownsRow we.heap.size 71 4 (.slice (some ⟨gd, 0, none⟩) (c.length + 1) cap) (c.length + 1) (ds ++ ys) := hown
  have hrow := row_aside (i := 2) (x := .slice (some ⟨gd, 0, none⟩) (c.length + 1) cap) hself (row_ne hself hb3 (by decide))
  have T1 : Touch (At2 gp q3) we (wx.setCell ⟨q3, 2, none⟩ (.slice (some ⟨gd, 0, none⟩) (c.length + 1) cap)) := (h.t.trans TR (fun k hk => .inr (row_base h.rd k hk))).setCell (p := ⟨q3, 2, none⟩) (.inl (.inr rfl)) _
  have LT := h.lt.mono (fun x ys hx => (hx.touch TR (fun k hk => (h.hQ k hk).2.2.2.2)).touch tS (fun k hk => hq3 k hk))
  have LD := (LsAt.snoc h.ld hv).mono (fun x ys hx => (hx.touch TR (fun k hk => (h.hQ k hk).2.2.2.2)).touch tS (fun k hk => hq3 k hk))
  have HQ : ∀ k, Q k → (Value.slice (some ⟨gd, 0, none⟩) (c.length + 1) cap).ownBlock ≠ some k := fun k hk e => by
    have e1 : gd = k := by simpa [Value.ownBlock] using e
    subst e1
    rcases hat with e | e
    · exact (h.hQ _ hk).2.2.2.2 e
    · have := (h.hQ _ hk).2.1; omega
  exact ⟨T1, hb3.set2 _, row_aside rk (row_ne rk hb3 (by decide)), row_aside rt (row_ne rt hb3 (by decide)), LT, (by rw [List.length_append]; exact hrow), LD, fun k hk => ⟨(h.hQ k hk).1, Nat.lt_of_lt_of_le (h.hQ k hk).2.1 (Nat.le_trans TR.size tS.size), (h.hQ k hk).2.2.1, (h.hQ k hk).2.2.2.1, HQ k hk⟩⟩
end
end Go.Proofs.YtbikpbmknneabaaGreat
end
/-
  What package tree's another does of a pick: a weight is read and put behind the others. Conditions: the table of levels can be read; names and numbers among the tokens are such.
-/
section
namespace Go.Proofs.YtbikpbmknneabaaGreat
open Go.ChangeShapes Go.WideShapes Go.ChangeAt Go.RowKit
set_option maxRecDepth 100000
set_option maxHeartbeats 8000000

theorem NB.touch {w w' : World} {F : Nat → Prop} {q : Nat} {v0 v1 v2 v3 v4 v5 v6 v7 v8 v9 : Value} (h : NB w q v0 v1 v2 v3 v4 v5 v6 v7 v8 v9) (t : Touch F w w') (hq : ¬ F q) : NB w' q v0 v1 v2 v3 v4 v5 v6 v7 v8 v9 := (t.block q (blk_lt h) hq).trans h
end Go.Proofs.YtbikpbmknneabaaGreat
end
