/-
  What package tree's change does with a parser in memory. Conditions: numbers among the tokens are such.
-/
import Derived.Test.YtanecdpcenkoeaaDoorZar1
namespace Go.Proofs.YtanecdpcenkoeaaDoor
open Go.ChangeShapes Go.WideShapes Go.ChangeAt Go.RowKit
set_option maxRecDepth 100000
set_option maxHeartbeats 4000000

theorem accept_at {T : TypeId} {w : World} {gp g n cp : Nat} {ts : List Tk} {σ : St} {s : Bs} {b : Bool} (h : PS2 T w gp g n cp ts σ) (hb : isS ts s σ = b) :
    Calls Tryd.prog 65 #[.pointer (some ⟨gp, 0, none⟩), .string (bs s)] w fun x w' => x = .returned (.bool b) ∧ PS2 T w' gp g n cp ts (acS ts s σ) ∧ Touch (AtB gp) w w' := by rw [← hb]; exact accept_st h
theorem acS_no {ts : List Tk} {s : Bs} {σ : St} (h : isS ts s σ = false) : acS ts s σ = σ := by unfold acS; rw [h]; rfl
theorem change_eq {w : World} {gp g n cp : Nat} {ts : List Tk} {σ : St} (hnk : NumsOk ts) (h : PS2 59 w gp g n cp ts σ)  (h61 : isS ts [61] (naS ts σ) = true) :
    Calls Tryd.prog 101 #[.pointer (some ⟨gp, 0, none⟩)] w fun x w' => x = .returned (.agg #[.string (bs (mkeV ts σ).nm), .bool (mkeV ts σ).add, .int .i64 (mkeV ts σ).n]) ∧ PS2 59 w' gp g n cp ts (mkeS ts σ) ∧ Touch (AtB gp) w w' := by
  have _ := hnk
  obtain ⟨W0, hW0⟩ : ∃ W, w.alloc (.cells #[.string ⟨#[]⟩, .bool false, .int .i64 0] 149) = W := ⟨_, rfl⟩
  have t0 : Touch NoB w W0 := by rw [← hW0]; exact (Touch.refl _ _).alloc _
  have b2 : B3 W0 149 w.heap.size (.string ⟨#[]⟩) (.bool false) (.int .i64 0) := by rw [← hW0]; exact B3.new w _ _ _ _ rfl
  have hgp := blk_lt h.blk
  have hgl := h.tl.lt
  have hs0 : W0.heap.size = w.heap.size + 1 := by rw [← hW0]; simp only [World.size_alloc]
  have HP := Lib.hid (h.touch t0)
  have HB2 := Lib.hid b2
  have HT := Lib.hid (Touch.anyB (F := AtB gp) t0)
  unfold mkeV mkeS
  simp only
  obtain ⟨v1, hv1⟩ : ∃ z, naV ts σ = z := ⟨_, rfl⟩
  obtain ⟨s1, hs1⟩ : ∃ z, naS ts σ = z := ⟨_, rfl⟩
  have H1 := Lib.hid (fun (W : World) (q : PS2 59 W gp g n cp ts σ) => name_st q)
  simp only [hv1, hs1] at *
  simp only [h61, if_true]
  obtain ⟨s2, hs2⟩ : ∃ z, acS ts [61] s1 = z := ⟨_, rfl⟩
  have AY : Hid (∀ (W : World), PS2 59 W gp g n cp ts s1 → Calls Tryd.prog 65 #[.pointer (some ⟨gp, 0, none⟩), .string ⟨#[61]⟩] W fun x w' => x = .returned (.bool true) ∧ PS2 59 w' gp g n cp ts s2 ∧ Touch (AtB gp) W w') := Lib.hid (fun W q => by rw [← hs2]; exact accept_at (s := [61]) q h61)
  simp only [hs2]
  have HN := Lib.hid (fun (W : World) (q : PS2 59 W gp g n cp ts s2) => signed_st hnk q)
  obtain ⟨v3, hv3⟩ : ∃ z, siV ts s2 = z := ⟨_, rfl⟩
  obtain ⟨s3, hs3⟩ : ∃ z, siS ts s2 = z := ⟨_, rfl⟩
  rw [hv3, hs3] at HN
  simp only [hv3, hs3]
  obtain ⟨s4, hs4⟩ : ∃ z, exS ts [59] s3 = z := ⟨_, rfl⟩
  have HE : Hid (∀ (W : World), PS2 59 W gp g n cp ts s3 → Calls Tryd.prog 70 #[.pointer (some ⟨gp, 0, none⟩), .string ⟨#[59]⟩] W fun x w' => x = .returned (.tuple #[]) ∧ PS2 59 w' gp g n cp ts s4 ∧ Touch (AtB gp) W w') := Lib.hid (fun W q => by rw [← hs4]; exact expect_st (s := [59]) q)
  simp only [hs4]
  obtain ⟨n1, hn1⟩ : ∃ z, bs v1 = z := ⟨_, rfl⟩
  rw [hn1] at H1 ⊢
  clear hn1 hs4 hs3 hs1 hv1 h t0 b2 hnk hs2 hv3
  have HC := Lib.hid (H1.out W0 HP.out)
  go_enter Tryd.func101, Tryd.ntmps101
  go_wp2_with fail
  refine HC.out.mono ?_
  rintro r w1 ⟨rfl, hp, hT⟩
  obtain ⟨X, hX⟩ : ∃ X, w1.alloc (.cells #[.string n1, .bool false, .int .i64 0] 149) = X := ⟨_, rfl⟩
  have tx : Touch NoB w1 X := by rw [← hX]; exact (Touch.refl _ _).alloc _
  obtain ⟨q3, hq3⟩ : ∃ q3, w1.heap.size = q3 := ⟨_, rfl⟩
  have hsq : w.heap.size < q3 := by have := hT.size; omega
  have HB3 := Lib.hid (show B3 X 149 q3 (.string n1) (.bool false) (.int .i64 0) by rw [← hX]; exact B3.new _ _ _ _ _ hq3)
  have HB2 := Lib.hid ((HB2.out.go hT (by omega)).go (Touch.anyB (F := AtB gp) tx) (by omega))
  have HT := Lib.hid (HT.out.same (hT.same (Touch.anyB tx)))
  have HP := Lib.hid (hp.touch tx)
  clear hp hT tx
  subst hX
  have HC := Lib.hid (AY.out _ HP.out)
  go_wp2_with fail
  refine HC.out.mono ?_
  rintro r uy ⟨rfl, hp, hT⟩
  have HB3 := Lib.hid (HB3.out.go hT (by omega))
  have HB2 := Lib.hid (HB2.out.go hT (by omega))
  have HT := Lib.hid (HT.out.same hT)
  have HP := Lib.hid hp
  clear hp hT
  have HC := Lib.hid (HN.out uy HP.out)
  go_wp2_with fail
  refine HC.out.mono ?_
  rintro r un ⟨rfl, hp, hT⟩
  have HB3 := Lib.hid (HB3.out.go hT (by omega))
  have HB2 := Lib.hid (HB2.out.go hT (by omega))
  have HT := Lib.hid (HT.out.same hT)
  have HP := Lib.hid hp
  clear hp hT
  obtain ⟨x0, x1, x2, xl⟩ := HB3.out.cells
  obtain ⟨y0, y1, y2⟩ := HB3.out.free
  obtain ⟨V, hV⟩ : ∃ V, un.setCell ⟨q3, 2, none⟩ (.int .i64 v3) = V := ⟨_, rfl⟩
  have HP := Lib.hid (show PS2 59 V gp g n cp ts s3 by rw [← hV]; exact HP.out.own (by omega) (by omega))
  have HB3 := Lib.hid (show B3 V 149 q3 (.string n1) (.bool false) (.int .i64 v3) by rw [← hV]; exact HB3.out.set2 _)
  have HB2 := Lib.hid (show B3 V 149 w.heap.size (.string ⟨#[]⟩) (.bool false) (.int .i64 0) by rw [← hV]; exact HB2.out.aside (by omega))
  have HT := Lib.hid (show Touch (AtB gp) w V by rw [← hV]; exact HT.out.setCell (p := ⟨q3, 2, none⟩) (.inr (by simp only; omega)) _)
  have HC := Lib.hid (HE.out V HP.out)
  go_wp2_with fail
  refine HC.out.mono ?_
  rintro r ue ⟨rfl, hp, hT⟩
  have HB3 := Lib.hid (HB3.out.go hT (by omega))
  have HB2 := Lib.hid (HB2.out.go hT (by omega))
  have HT := Lib.hid (HT.out.same hT)
  have HP := Lib.hid hp
  clear hp hT
  obtain ⟨p0, p1, p2, pl⟩ := HB3.out.cells
  obtain ⟨z0, z1, z2, zl⟩ := HB2.out.cells
  obtain ⟨f0, f1, f2⟩ := HB2.out.free
  go_wp2
  have hTE := touch3 (F := AtB gp) HT.out (.inr (Nat.le_refl w.heap.size)) (.string n1) (.bool false) (.int .i64 v3)
  have hTX := touch3 (F := fun b => b = w.heap.size) (Touch.refl _ ue) (.inl rfl) (.string n1) (.bool false) (.int .i64 v3)
  exact bodyPost_ret (v := .agg #[.string n1, .bool false, .int .i64 v3]) (by simp [results, Tryd.results101, go_sem, z0, z1, z2]) rfl ⟨rfl, HP.out.touchX hTX hgp hgl, hTE⟩
theorem change_plus {w : World} {gp g n cp : Nat} {ts : List Tk} {σ : St} (hnk : NumsOk ts) (h : PS2 59 w gp g n cp ts σ) (h61 : isS ts [61] (naS ts σ) = false) (h43 : isS ts [43] (naS ts σ) = true) :
    Calls Tryd.prog 101 #[.pointer (some ⟨gp, 0, none⟩)] w fun x w' => x = .returned (.agg #[.string (bs (mkeV ts σ).nm), .bool (mkeV ts σ).add, .int .i64 (mkeV ts σ).n]) ∧ PS2 59 w' gp g n cp ts (mkeS ts σ) ∧ Touch (AtB gp) w w' := by
  have _ := hnk
  obtain ⟨W0, hW0⟩ : ∃ W, w.alloc (.cells #[.string ⟨#[]⟩, .bool false, .int .i64 0] 149) = W := ⟨_, rfl⟩
  have t0 : Touch NoB w W0 := by rw [← hW0]; exact (Touch.refl _ _).alloc _
  have b2 : B3 W0 149 w.heap.size (.string ⟨#[]⟩) (.bool false) (.int .i64 0) := by rw [← hW0]; exact B3.new w _ _ _ _ rfl
  have hgp := blk_lt h.blk
  have hgl := h.tl.lt
  have hs0 : W0.heap.size = w.heap.size + 1 := by rw [← hW0]; simp only [World.size_alloc]
  have HP := Lib.hid (h.touch t0)
  have HB2 := Lib.hid b2
  have HT := Lib.hid (Touch.anyB (F := AtB gp) t0)
  unfold mkeV mkeS
  simp only
  obtain ⟨v1, hv1⟩ : ∃ z, naV ts σ = z := ⟨_, rfl⟩
  obtain ⟨s1, hs1⟩ : ∃ z, naS ts σ = z := ⟨_, rfl⟩
  have H1 := Lib.hid (fun (W : World) (q : PS2 59 W gp g n cp ts σ) => name_st q)
  simp only [hv1, hs1] at *
  simp only [h61, h43, Bool.false_eq_true, if_false, if_true]
  have A61 : Hid (∀ (W : World), PS2 59 W gp g n cp ts s1 → Calls Tryd.prog 65 #[.pointer (some ⟨gp, 0, none⟩), .string ⟨#[61]⟩] W fun x w' => x = .returned (.bool false) ∧ PS2 59 w' gp g n cp ts s1 ∧ Touch (AtB gp) W w') := Lib.hid (fun W q => by have := accept_at (s := [61]) q h61; rwa [acS_no h61] at this)
  obtain ⟨s2, hs2⟩ : ∃ z, acS ts [43] s1 = z := ⟨_, rfl⟩
  have AY : Hid (∀ (W : World), PS2 59 W gp g n cp ts s1 → Calls Tryd.prog 65 #[.pointer (some ⟨gp, 0, none⟩), .string ⟨#[43]⟩] W fun x w' => x = .returned (.bool true) ∧ PS2 59 w' gp g n cp ts s2 ∧ Touch (AtB gp) W w') := Lib.hid (fun W q => by rw [← hs2]; exact accept_at (s := [43]) q h43)
  simp only [hs2]
  have HN := Lib.hid (fun (W : World) (q : PS2 59 W gp g n cp ts s2) => number_st q)
  have hmx : nuV ts s2 ≤ 9223372036854775807 := nuV_le hnk _
  obtain ⟨v3, hv3⟩ : ∃ z, nuV ts s2 = z := ⟨_, rfl⟩
  obtain ⟨s3, hs3⟩ : ∃ z, nuS ts s2 = z := ⟨_, rfl⟩
  rw [hv3, hs3] at HN
  rw [hv3] at hmx
  simp only [hv3, hs3]
  obtain ⟨s4, hs4⟩ : ∃ z, exS ts [59] s3 = z := ⟨_, rfl⟩
  have HE : Hid (∀ (W : World), PS2 59 W gp g n cp ts s3 → Calls Tryd.prog 70 #[.pointer (some ⟨gp, 0, none⟩), .string ⟨#[59]⟩] W fun x w' => x = .returned (.tuple #[]) ∧ PS2 59 w' gp g n cp ts s4 ∧ Touch (AtB gp) W w') := Lib.hid (fun W q => by rw [← hs4]; exact expect_st (s := [59]) q)
  simp only [hs4]
  obtain ⟨n1, hn1⟩ : ∃ z, bs v1 = z := ⟨_, rfl⟩
  rw [hn1] at H1 ⊢
  clear hn1 hs4 hs3 hs1 hv1 h t0 b2 hnk hs2 hv3
  have HC := Lib.hid (H1.out W0 HP.out)
  go_enter Tryd.func101, Tryd.ntmps101
  go_wp2_with fail
  refine HC.out.mono ?_
  rintro r w1 ⟨rfl, hp, hT⟩
  obtain ⟨X, hX⟩ : ∃ X, w1.alloc (.cells #[.string n1, .bool false, .int .i64 0] 149) = X := ⟨_, rfl⟩
  have tx : Touch NoB w1 X := by rw [← hX]; exact (Touch.refl _ _).alloc _
  obtain ⟨q3, hq3⟩ : ∃ q3, w1.heap.size = q3 := ⟨_, rfl⟩
  have hsq : w.heap.size < q3 := by have := hT.size; omega
  have HB3 := Lib.hid (show B3 X 149 q3 (.string n1) (.bool false) (.int .i64 0) by rw [← hX]; exact B3.new _ _ _ _ _ hq3)
  have HB2 := Lib.hid ((HB2.out.go hT (by omega)).go (Touch.anyB (F := AtB gp) tx) (by omega))
  have HT := Lib.hid (HT.out.same (hT.same (Touch.anyB tx)))
  have HP := Lib.hid (hp.touch tx)
  clear hp hT tx
  subst hX
  have HC := Lib.hid (A61.out _ HP.out)
  go_wp2_with fail
  refine HC.out.mono ?_
  rintro r u1_ ⟨rfl, hp, hT⟩
  have HB3 := Lib.hid (HB3.out.go hT (by omega))
  have HB2 := Lib.hid (HB2.out.go hT (by omega))
  have HT := Lib.hid (HT.out.same hT)
  have HP := Lib.hid hp
  clear hp hT
  have HC := Lib.hid (AY.out u1_ HP.out)
  go_wp2_with fail
  refine HC.out.mono ?_
  rintro r uy ⟨rfl, hp, hT⟩
  have HB3 := Lib.hid (HB3.out.go hT (by omega))
  have HB2 := Lib.hid (HB2.out.go hT (by omega))
  have HT := Lib.hid (HT.out.same hT)
  have HP := Lib.hid hp
  clear hp hT
  have HC := Lib.hid (HN.out uy HP.out)
  go_wp2_with fail
  refine HC.out.mono ?_
  rintro r un ⟨rfl, hp, hT⟩
  have HB3 := Lib.hid (HB3.out.go hT (by omega))
  have HB2 := Lib.hid (HB2.out.go hT (by omega))
  have HT := Lib.hid (HT.out.same hT)
  have HP := Lib.hid hp
  clear hp hT
  obtain ⟨x0, x1, x2, xl⟩ := HB3.out.cells
  obtain ⟨y0, y1, y2⟩ := HB3.out.free
  obtain ⟨V, hV⟩ : ∃ V, (un.setCell ⟨q3, 1, none⟩ (.bool true)).setCell ⟨q3, 2, none⟩ (.int .i64 (v3 : Int)) = V := ⟨_, rfl⟩
  have HP := Lib.hid (show PS2 59 V gp g n cp ts s3 by rw [← hV]; exact PSt.own (HP.out.own (by omega) (by omega)) (by omega) (by omega))
  have hb1 := HB3.out.set1 (.bool true)
  obtain ⟨e0, e1, e2, el⟩ := hb1.cells
  obtain ⟨g0, g1, g2⟩ := hb1.free
  have HB3 := Lib.hid (show B3 V 149 q3 (.string n1) (.bool true) (.int .i64 (v3 : Int)) by rw [← hV]; exact hb1.set2 _)
  have HB2 := Lib.hid (show B3 V 149 w.heap.size (.string ⟨#[]⟩) (.bool false) (.int .i64 0) by rw [← hV]; exact (HB2.out.aside (by omega)).aside (by omega))
  have HT := Lib.hid (show Touch (AtB gp) w V by rw [← hV]; exact (HT.out.setCell (p := ⟨q3, 1, none⟩) (.inr (by simp only; omega)) _).setCell (p := ⟨q3, 2, none⟩) (.inr (by simp only; omega)) _)
  clear hb1
  have HC := Lib.hid (HE.out V HP.out)
  go_wp2_with fail
  refine HC.out.mono ?_
  rintro r ue ⟨rfl, hp, hT⟩
  have HB3 := Lib.hid (HB3.out.go hT (by omega))
  have HB2 := Lib.hid (HB2.out.go hT (by omega))
  have HT := Lib.hid (HT.out.same hT)
  have HP := Lib.hid hp
  clear hp hT
  obtain ⟨p0, p1, p2, pl⟩ := HB3.out.cells
  obtain ⟨z0, z1, z2, zl⟩ := HB2.out.cells
  obtain ⟨f0, f1, f2⟩ := HB2.out.free
  go_wp2
  have hTE := touch3 (F := AtB gp) HT.out (.inr (Nat.le_refl w.heap.size)) (.string n1) (.bool true) (.int .i64 (v3 : Int))
  have hTX := touch3 (F := fun b => b = w.heap.size) (Touch.refl _ ue) (.inl rfl) (.string n1) (.bool true) (.int .i64 (v3 : Int))
  exact bodyPost_ret (v := .agg #[.string n1, .bool true, .int .i64 (v3 : Int)]) (by simp [results, Tryd.results101, go_sem, z0, z1, z2]) rfl ⟨rfl, HP.out.touchX hTX hgp hgl, hTE⟩
theorem change_minus {w : World} {gp g n cp : Nat} {ts : List Tk} {σ : St} (hnk : NumsOk ts) (h : PS2 59 w gp g n cp ts σ) (h61 : isS ts [61] (naS ts σ) = false) (h43 : isS ts [43] (naS ts σ) = false) (h45 : isS ts [45] (naS ts σ) = true) :
    Calls Tryd.prog 101 #[.pointer (some ⟨gp, 0, none⟩)] w fun x w' => x = .returned (.agg #[.string (bs (mkeV ts σ).nm), .bool (mkeV ts σ).add, .int .i64 (mkeV ts σ).n]) ∧ PS2 59 w' gp g n cp ts (mkeS ts σ) ∧ Touch (AtB gp) w w' := by
  have _ := hnk
  obtain ⟨W0, hW0⟩ : ∃ W, w.alloc (.cells #[.string ⟨#[]⟩, .bool false, .int .i64 0] 149) = W := ⟨_, rfl⟩
  have t0 : Touch NoB w W0 := by rw [← hW0]; exact (Touch.refl _ _).alloc _
  have b2 : B3 W0 149 w.heap.size (.string ⟨#[]⟩) (.bool false) (.int .i64 0) := by rw [← hW0]; exact B3.new w _ _ _ _ rfl
  have hgp := blk_lt h.blk
  have hgl := h.tl.lt
  have hs0 : W0.heap.size = w.heap.size + 1 := by rw [← hW0]; simp only [World.size_alloc]
  have HP := Lib.hid (h.touch t0)
  have HB2 := Lib.hid b2
  have HT := Lib.hid (Touch.anyB (F := AtB gp) t0)
  unfold mkeV mkeS
  simp only
  obtain ⟨v1, hv1⟩ : ∃ z, naV ts σ = z := ⟨_, rfl⟩
  obtain ⟨s1, hs1⟩ : ∃ z, naS ts σ = z := ⟨_, rfl⟩
  have H1 := Lib.hid (fun (W : World) (q : PS2 59 W gp g n cp ts σ) => name_st q)
  simp only [hv1, hs1] at *
  simp only [h61, h43, h45, Bool.false_eq_true, if_false, if_true]
  have A61 : Hid (∀ (W : World), PS2 59 W gp g n cp ts s1 → Calls Tryd.prog 65 #[.pointer (some ⟨gp, 0, none⟩), .string ⟨#[61]⟩] W fun x w' => x = .returned (.bool false) ∧ PS2 59 w' gp g n cp ts s1 ∧ Touch (AtB gp) W w') := Lib.hid (fun W q => by have := accept_at (s := [61]) q h61; rwa [acS_no h61] at this)
  have A43 : Hid (∀ (W : World), PS2 59 W gp g n cp ts s1 → Calls Tryd.prog 65 #[.pointer (some ⟨gp, 0, none⟩), .string ⟨#[43]⟩] W fun x w' => x = .returned (.bool false) ∧ PS2 59 w' gp g n cp ts s1 ∧ Touch (AtB gp) W w') := Lib.hid (fun W q => by have := accept_at (s := [43]) q h43; rwa [acS_no h43] at this)
  obtain ⟨s2, hs2⟩ : ∃ z, acS ts [45] s1 = z := ⟨_, rfl⟩
  have AY : Hid (∀ (W : World), PS2 59 W gp g n cp ts s1 → Calls Tryd.prog 65 #[.pointer (some ⟨gp, 0, none⟩), .string ⟨#[45]⟩] W fun x w' => x = .returned (.bool true) ∧ PS2 59 w' gp g n cp ts s2 ∧ Touch (AtB gp) W w') := Lib.hid (fun W q => by rw [← hs2]; exact accept_at (s := [45]) q h45)
  simp only [hs2]
  have HN := Lib.hid (fun (W : World) (q : PS2 59 W gp g n cp ts s2) => number_st q)
  have hmx : nuV ts s2 ≤ 9223372036854775807 := nuV_le hnk _
  obtain ⟨v3, hv3⟩ : ∃ z, nuV ts s2 = z := ⟨_, rfl⟩
  obtain ⟨s3, hs3⟩ : ∃ z, nuS ts s2 = z := ⟨_, rfl⟩
  rw [hv3, hs3] at HN
  rw [hv3] at hmx
  simp only [hv3, hs3]
  have hng : IntKind.i64.wrap (-(v3 : Int)) = -(v3 : Int) := IntWalk.i64_in _ (by omega)
  obtain ⟨s4, hs4⟩ : ∃ z, exS ts [59] s3 = z := ⟨_, rfl⟩
  have HE : Hid (∀ (W : World), PS2 59 W gp g n cp ts s3 → Calls Tryd.prog 70 #[.pointer (some ⟨gp, 0, none⟩), .string ⟨#[59]⟩] W fun x w' => x = .returned (.tuple #[]) ∧ PS2 59 w' gp g n cp ts s4 ∧ Touch (AtB gp) W w') := Lib.hid (fun W q => by rw [← hs4]; exact expect_st (s := [59]) q)
  simp only [hs4]
  obtain ⟨n1, hn1⟩ : ∃ z, bs v1 = z := ⟨_, rfl⟩
  rw [hn1] at H1 ⊢
  clear hn1 hs4 hs3 hs1 hv1 h t0 b2 hnk hs2 hv3
  have HC := Lib.hid (H1.out W0 HP.out)
  go_enter Tryd.func101, Tryd.ntmps101
  go_wp2_with fail
  refine HC.out.mono ?_
  rintro r w1 ⟨rfl, hp, hT⟩
  obtain ⟨X, hX⟩ : ∃ X, w1.alloc (.cells #[.string n1, .bool false, .int .i64 0] 149) = X := ⟨_, rfl⟩
  have tx : Touch NoB w1 X := by rw [← hX]; exact (Touch.refl _ _).alloc _
  obtain ⟨q3, hq3⟩ : ∃ q3, w1.heap.size = q3 := ⟨_, rfl⟩
  have hsq : w.heap.size < q3 := by have := hT.size; omega
  have HB3 := Lib.hid (show B3 X 149 q3 (.string n1) (.bool false) (.int .i64 0) by rw [← hX]; exact B3.new _ _ _ _ _ hq3)
  have HB2 := Lib.hid ((HB2.out.go hT (by omega)).go (Touch.anyB (F := AtB gp) tx) (by omega))
  have HT := Lib.hid (HT.out.same (hT.same (Touch.anyB tx)))
  have HP := Lib.hid (hp.touch tx)
  clear hp hT tx
  subst hX
  have HC := Lib.hid (A61.out _ HP.out)
  go_wp2_with fail
  refine HC.out.mono ?_
  rintro r u1_ ⟨rfl, hp, hT⟩
  have HB3 := Lib.hid (HB3.out.go hT (by omega))
  have HB2 := Lib.hid (HB2.out.go hT (by omega))
  have HT := Lib.hid (HT.out.same hT)
  have HP := Lib.hid hp
  clear hp hT
  have HC := Lib.hid (A43.out u1_ HP.out)
  go_wp2_with fail
  refine HC.out.mono ?_
  rintro r u2_ ⟨rfl, hp, hT⟩
  have HB3 := Lib.hid (HB3.out.go hT (by omega))
  have HB2 := Lib.hid (HB2.out.go hT (by omega))
  have HT := Lib.hid (HT.out.same hT)
  have HP := Lib.hid hp
  clear hp hT
  have HC := Lib.hid (AY.out u2_ HP.out)
  go_wp2_with fail
  refine HC.out.mono ?_
  rintro r uy ⟨rfl, hp, hT⟩
  have HB3 := Lib.hid (HB3.out.go hT (by omega))
  have HB2 := Lib.hid (HB2.out.go hT (by omega))
  have HT := Lib.hid (HT.out.same hT)
  have HP := Lib.hid hp
  clear hp hT
  have HC := Lib.hid (HN.out uy HP.out)
  go_wp2_with fail
  refine HC.out.mono ?_
  rintro r un ⟨rfl, hp, hT⟩
  have HB3 := Lib.hid (HB3.out.go hT (by omega))
  have HB2 := Lib.hid (HB2.out.go hT (by omega))
  have HT := Lib.hid (HT.out.same hT)
  have HP := Lib.hid hp
  clear hp hT
  obtain ⟨x0, x1, x2, xl⟩ := HB3.out.cells
  obtain ⟨y0, y1, y2⟩ := HB3.out.free
  obtain ⟨V, hV⟩ : ∃ V, (un.setCell ⟨q3, 1, none⟩ (.bool true)).setCell ⟨q3, 2, none⟩ (.int .i64 (-(v3 : Int))) = V := ⟨_, rfl⟩
  have HP := Lib.hid (show PS2 59 V gp g n cp ts s3 by rw [← hV]; exact PSt.own (HP.out.own (by omega) (by omega)) (by omega) (by omega))
  have hb1 := HB3.out.set1 (.bool true)
  obtain ⟨e0, e1, e2, el⟩ := hb1.cells
  obtain ⟨g0, g1, g2⟩ := hb1.free
  have HB3 := Lib.hid (show B3 V 149 q3 (.string n1) (.bool true) (.int .i64 (-(v3 : Int))) by rw [← hV]; exact hb1.set2 _)
  have HB2 := Lib.hid (show B3 V 149 w.heap.size (.string ⟨#[]⟩) (.bool false) (.int .i64 0) by rw [← hV]; exact (HB2.out.aside (by omega)).aside (by omega))
  have HT := Lib.hid (show Touch (AtB gp) w V by rw [← hV]; exact (HT.out.setCell (p := ⟨q3, 1, none⟩) (.inr (by simp only; omega)) _).setCell (p := ⟨q3, 2, none⟩) (.inr (by simp only; omega)) _)
  clear hb1
  have HC := Lib.hid (HE.out V HP.out)
  go_wp2_with fail
  refine HC.out.mono ?_
  rintro r ue ⟨rfl, hp, hT⟩
  have HB3 := Lib.hid (HB3.out.go hT (by omega))
  have HB2 := Lib.hid (HB2.out.go hT (by omega))
  have HT := Lib.hid (HT.out.same hT)
  have HP := Lib.hid hp
  clear hp hT
  obtain ⟨p0, p1, p2, pl⟩ := HB3.out.cells
  obtain ⟨z0, z1, z2, zl⟩ := HB2.out.cells
  obtain ⟨f0, f1, f2⟩ := HB2.out.free
  go_wp2
  have hTE := touch3 (F := AtB gp) HT.out (.inr (Nat.le_refl w.heap.size)) (.string n1) (.bool true) (.int .i64 (-(v3 : Int)))
  have hTX := touch3 (F := fun b => b = w.heap.size) (Touch.refl _ ue) (.inl rfl) (.string n1) (.bool true) (.int .i64 (-(v3 : Int)))
  exact bodyPost_ret (v := .agg #[.string n1, .bool true, .int .i64 (-(v3 : Int))]) (by simp [results, Tryd.results101, go_sem, z0, z1, z2]) rfl ⟨rfl, HP.out.touchX hTX hgp hgl, hTE⟩
theorem change_none {w : World} {gp g n cp : Nat} {ts : List Tk} {σ : St} (hnk : NumsOk ts) (h : PS2 59 w gp g n cp ts σ) (h61 : isS ts [61] (naS ts σ) = false) (h43 : isS ts [43] (naS ts σ) = false) (h45 : isS ts [45] (naS ts σ) = false) :
    Calls Tryd.prog 101 #[.pointer (some ⟨gp, 0, none⟩)] w fun x w' => x = .returned (.agg #[.string (bs (mkeV ts σ).nm), .bool (mkeV ts σ).add, .int .i64 (mkeV ts σ).n]) ∧ PS2 59 w' gp g n cp ts (mkeS ts σ) ∧ Touch (AtB gp) w w' := by
  have _ := hnk
  obtain ⟨W0, hW0⟩ : ∃ W, w.alloc (.cells #[.string ⟨#[]⟩, .bool false, .int .i64 0] 149) = W := ⟨_, rfl⟩
  have t0 : Touch NoB w W0 := by rw [← hW0]; exact (Touch.refl _ _).alloc _
  have b2 : B3 W0 149 w.heap.size (.string ⟨#[]⟩) (.bool false) (.int .i64 0) := by rw [← hW0]; exact B3.new w _ _ _ _ rfl
  have hgp := blk_lt h.blk
  have hgl := h.tl.lt
  have hs0 : W0.heap.size = w.heap.size + 1 := by rw [← hW0]; simp only [World.size_alloc]
  have HP := Lib.hid (h.touch t0)
  have HB2 := Lib.hid b2
  have HT := Lib.hid (Touch.anyB (F := AtB gp) t0)
  unfold mkeV mkeS
  simp only
  obtain ⟨v1, hv1⟩ : ∃ z, naV ts σ = z := ⟨_, rfl⟩
  obtain ⟨s1, hs1⟩ : ∃ z, naS ts σ = z := ⟨_, rfl⟩
  have H1 := Lib.hid (fun (W : World) (q : PS2 59 W gp g n cp ts σ) => name_st q)
  simp only [hv1, hs1] at *
  simp only [h61, h43, h45, Bool.false_eq_true, if_false]
  have A61 : Hid (∀ (W : World), PS2 59 W gp g n cp ts s1 → Calls Tryd.prog 65 #[.pointer (some ⟨gp, 0, none⟩), .string ⟨#[61]⟩] W fun x w' => x = .returned (.bool false) ∧ PS2 59 w' gp g n cp ts s1 ∧ Touch (AtB gp) W w') := Lib.hid (fun W q => by have := accept_at (s := [61]) q h61; rwa [acS_no h61] at this)
  have A43 : Hid (∀ (W : World), PS2 59 W gp g n cp ts s1 → Calls Tryd.prog 65 #[.pointer (some ⟨gp, 0, none⟩), .string ⟨#[43]⟩] W fun x w' => x = .returned (.bool false) ∧ PS2 59 w' gp g n cp ts s1 ∧ Touch (AtB gp) W w') := Lib.hid (fun W q => by have := accept_at (s := [43]) q h43; rwa [acS_no h43] at this)
  have A45 : Hid (∀ (W : World), PS2 59 W gp g n cp ts s1 → Calls Tryd.prog 65 #[.pointer (some ⟨gp, 0, none⟩), .string ⟨#[45]⟩] W fun x w' => x = .returned (.bool false) ∧ PS2 59 w' gp g n cp ts s1 ∧ Touch (AtB gp) W w') := Lib.hid (fun W q => by have := accept_at (s := [45]) q h45; rwa [acS_no h45] at this)
  have HN := Lib.hid (fun (W : World) (q : PS2 59 W gp g n cp ts s1) => fail_st q 2)
  obtain ⟨s3, hs3⟩ : ∃ z, failS 2 s1 = z := ⟨_, rfl⟩
  rw [hs3] at HN
  simp only [hs3]
  obtain ⟨s4, hs4⟩ : ∃ z, exS ts [59] s3 = z := ⟨_, rfl⟩
  have HE : Hid (∀ (W : World), PS2 59 W gp g n cp ts s3 → Calls Tryd.prog 70 #[.pointer (some ⟨gp, 0, none⟩), .string ⟨#[59]⟩] W fun x w' => x = .returned (.tuple #[]) ∧ PS2 59 w' gp g n cp ts s4 ∧ Touch (AtB gp) W w') := Lib.hid (fun W q => by rw [← hs4]; exact expect_st (s := [59]) q)
  simp only [hs4]
  obtain ⟨n1, hn1⟩ : ∃ z, bs v1 = z := ⟨_, rfl⟩
  rw [hn1] at H1 ⊢
  clear hn1 hs4 hs3 hs1 hv1 h t0 b2 hnk
  have HC := Lib.hid (H1.out W0 HP.out)
  go_enter Tryd.func101, Tryd.ntmps101
  go_wp2_with fail
  refine HC.out.mono ?_
  rintro r w1 ⟨rfl, hp, hT⟩
  obtain ⟨X, hX⟩ : ∃ X, w1.alloc (.cells #[.string n1, .bool false, .int .i64 0] 149) = X := ⟨_, rfl⟩
  have tx : Touch NoB w1 X := by rw [← hX]; exact (Touch.refl _ _).alloc _
  obtain ⟨q3, hq3⟩ : ∃ q3, w1.heap.size = q3 := ⟨_, rfl⟩
  have hsq : w.heap.size < q3 := by have := hT.size; omega
  have HB3 := Lib.hid (show B3 X 149 q3 (.string n1) (.bool false) (.int .i64 0) by rw [← hX]; exact B3.new _ _ _ _ _ hq3)
  have HB2 := Lib.hid ((HB2.out.go hT (by omega)).go (Touch.anyB (F := AtB gp) tx) (by omega))
  have HT := Lib.hid (HT.out.same (hT.same (Touch.anyB tx)))
  have HP := Lib.hid (hp.touch tx)
  clear hp hT tx
  subst hX
  have HC := Lib.hid (A61.out _ HP.out)
  go_wp2_with fail
  refine HC.out.mono ?_
  rintro r u1_ ⟨rfl, hp, hT⟩
  have HB3 := Lib.hid (HB3.out.go hT (by omega))
  have HB2 := Lib.hid (HB2.out.go hT (by omega))
  have HT := Lib.hid (HT.out.same hT)
  have HP := Lib.hid hp
  clear hp hT
  have HC := Lib.hid (A43.out u1_ HP.out)
  go_wp2_with fail
  refine HC.out.mono ?_
  rintro r u2_ ⟨rfl, hp, hT⟩
  have HB3 := Lib.hid (HB3.out.go hT (by omega))
  have HB2 := Lib.hid (HB2.out.go hT (by omega))
  have HT := Lib.hid (HT.out.same hT)
  have HP := Lib.hid hp
  clear hp hT
  have HC := Lib.hid (A45.out u2_ HP.out)
  go_wp2_with fail
  refine HC.out.mono ?_
  rintro r u3_ ⟨rfl, hp, hT⟩
  have HB3 := Lib.hid (HB3.out.go hT (by omega))
  have HB2 := Lib.hid (HB2.out.go hT (by omega))
  have HT := Lib.hid (HT.out.same hT)
  have HP := Lib.hid hp
  clear hp hT
  have HC := Lib.hid (HN.out u3_ HP.out)
  go_wp2_with fail
  refine HC.out.mono ?_
  rintro r un ⟨rfl, hp, hT⟩
  have HB3 := Lib.hid (HB3.out.go hT (by omega))
  have HB2 := Lib.hid (HB2.out.go hT (by omega))
  have HT := Lib.hid (HT.out.same hT)
  have HP := Lib.hid hp
  clear hp hT
  have HC := Lib.hid (HE.out un HP.out)
  go_wp2_with fail
  refine HC.out.mono ?_
  rintro r ue ⟨rfl, hp, hT⟩
  have HB3 := Lib.hid (HB3.out.go hT (by omega))
  have HB2 := Lib.hid (HB2.out.go hT (by omega))
  have HT := Lib.hid (HT.out.same hT)
  have HP := Lib.hid hp
  clear hp hT
  obtain ⟨p0, p1, p2, pl⟩ := HB3.out.cells
  obtain ⟨z0, z1, z2, zl⟩ := HB2.out.cells
  obtain ⟨f0, f1, f2⟩ := HB2.out.free
  go_wp2
  have hTE := touch3 (F := AtB gp) HT.out (.inr (Nat.le_refl w.heap.size)) (.string n1) (.bool false) (.int .i64 0)
  have hTX := touch3 (F := fun b => b = w.heap.size) (Touch.refl _ ue) (.inl rfl) (.string n1) (.bool false) (.int .i64 0)
  exact bodyPost_ret (v := .agg #[.string n1, .bool false, .int .i64 0]) (by simp [results, Tryd.results101, go_sem, z0, z1, z2]) rfl ⟨rfl, HP.out.touchX hTX hgp hgl, hTE⟩
theorem change_st {w : World} {gp g n cp : Nat} {ts : List Tk} {σ : St} (hnk : NumsOk ts) (h : PS2 59 w gp g n cp ts σ) :
    Calls Tryd.prog 101 #[.pointer (some ⟨gp, 0, none⟩)] w fun x w' => x = .returned (.agg #[.string (bs (mkeV ts σ).nm), .bool (mkeV ts σ).add, .int .i64 (mkeV ts σ).n]) ∧ PS2 59 w' gp g n cp ts (mkeS ts σ) ∧ Touch (AtB gp) w w' := by
  cases h61 : isS ts [61] (naS ts σ)
  · cases h43 : isS ts [43] (naS ts σ)
    · cases h45 : isS ts [45] (naS ts σ)
      · exact change_none hnk h h61 h43 h45
      · exact change_minus hnk h h61 h43 h45
    · exact change_plus hnk h h61 h43
  · exact change_eq hnk h h61
end Go.Proofs.YtanecdpcenkoeaaDoor
