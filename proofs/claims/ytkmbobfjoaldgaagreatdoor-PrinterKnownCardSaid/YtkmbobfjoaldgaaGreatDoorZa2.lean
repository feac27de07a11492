/-
  What package tree's key, variable and cond do with a parser in memory. Conditions: numbers among the tokens are such.
-/
import Derived.Test.YtkmbobfjoaldgaaGreatDoorZa1
import Derived.Deep.RegionLaw
namespace Go.Proofs.YtkmbobfjoaldgaaGreatDoor
open Go.ChangeShapes Go.WideShapes Go.ChangeAt Go.RowKit
set_option maxRecDepth 100000
set_option maxHeartbeats 4000000

/-- A block of three cells of its own. -/
def B3 (w : World) (T : TypeId) (q : Nat) (a b c : Value) : Prop := w.heap[q]? = some (.cells #[a, b, c] T (0, 0))
theorem B3.go {w w' : World} {T : TypeId} {gp q : Nat} {a b c : Value} (h : B3 w T q a b c) (t : Touch (AtB gp) w w') (hne : q ≠ gp) : B3 w' T q a b c := (t.block q (blk_lt h) hne).trans h
theorem B3.new (w : World) (T : TypeId) (a b c : Value) {N : Nat} (hN : w.heap.size = N) : B3 (w.alloc (.cells #[a, b, c] T)) T N a b c := alloc_blk _ _ _ hN
theorem B3.old {w : World} {T : TypeId} {q : Nat} {a b c : Value} (h : B3 w T q a b c) (o : Obj) : B3 (w.alloc o) T q a b c := by unfold B3; rw [heap_alloc_old _ _ (blk_lt h)]; exact h
theorem B3.cells {w : World} {T : TypeId} {q : Nat} {a b c : Value} (h : B3 w T q a b c) : w.cell? ⟨q, 0, none⟩ = some a ∧ w.cell? ⟨q, 1, none⟩ = some b ∧ w.cell? ⟨q, 2, none⟩ = some c ∧ q < w.heap.size := ⟨cell_blk h 0, cell_blk h 1, cell_blk h 2, blk_lt h⟩
theorem B3.free {w : World} {T : TypeId} {q : Nat} {a b c : Value} (h : B3 w T q a b c) : w.frozen? ⟨q, 0, none⟩ = false ∧ w.frozen? ⟨q, 1, none⟩ = false ∧ w.frozen? ⟨q, 2, none⟩ = false := ⟨free_blk h 0, free_blk h 1, free_blk h 2⟩
theorem B3.set0 {w : World} {T : TypeId} {q : Nat} {a b c : Value} (h : B3 w T q a b c) (v : Value) : B3 (w.setCell ⟨q, 0, none⟩ v) T q v b c := set_blk h 0 v
theorem B3.set1 {w : World} {T : TypeId} {q : Nat} {a b c : Value} (h : B3 w T q a b c) (v : Value) : B3 (w.setCell ⟨q, 1, none⟩ v) T q a v c := set_blk h 1 v
theorem B3.set2 {w : World} {T : TypeId} {q : Nat} {a b c : Value} (h : B3 w T q a b c) (v : Value) : B3 (w.setCell ⟨q, 2, none⟩ v) T q a b v := set_blk h 2 v
theorem B3.aside {w : World} {T : TypeId} {q p i : Nat} {a b c v : Value} (h : B3 w T q a b c) (hne : q ≠ p) : B3 (w.setCell ⟨p, i, none⟩ v) T q a b c :=
  (((Touch.refl (fun b => b = p) w).setCell (p := ⟨p, i, none⟩) (.inl rfl) v).block q (blk_lt h) hne).trans h
theorem PSt.own {T : TypeId} {w : World} {gp g n cp : Nat} {ts : List Tk} {k e q i : Nat} {v : Value} (h : PSt T w gp g n cp ts k e) (h1 : gp < q) (h2 : g < q) : PSt T (w.setCell ⟨q, i, none⟩ v) gp g n cp ts k e :=
  h.touchX ((Touch.refl (fun b => b = q) w).setCell (p := ⟨q, i, none⟩) (.inl rfl) v) h1 h2
theorem touch3 {F : Nat → Prop} {w0 w : World} {q : Nat} (h : Touch F w0 w) (hq : F q ∨ w0.heap.size ≤ q) (x0 x1 x2 : Value) :
    Touch F w0 (((w.setCell ⟨q, 0, none⟩ x0).setCell ⟨q, 1, none⟩ x1).setCell ⟨q, 2, none⟩ x2) := ((h.setCell (p := ⟨q, 0, none⟩) hq x0).setCell (p := ⟨q, 1, none⟩) hq x1).setCell (p := ⟨q, 2, none⟩) hq x2
theorem words_at {w : World} {b m : Nat} {ws : List Bs} {cs : Array Value} {T : TypeId} (hb : w.heap[b]? = some (.cells cs T (0, 0))) (hm : ws.length = m) (hm2 : m ≤ 100) (hc : cs.toList = ws.map (fun s => .string (bs s))) : WdAt w b m ws := by
  refine ⟨⟨hm, hm2⟩, blk_lt hb, fun i s hi => ?_⟩
  rw [cell_of_row _ _ _ _ _ _ hb, ← Array.getElem?_toList, hc, List.getElem?_map, hi]
  rfl
/-! ### lists of words -/
theorem owners_any (w : World) : Calls Tryz.prog 61 #[] w fun x w' => ∃ b, x = .returned (.slice (some ⟨b, 0, none⟩) 2 2) ∧ WdAt w' b 2 ownW ∧ Touch NoB w w' := by
  obtain ⟨X, hX⟩ : ∃ X, w.alloc (.cells #[.string ⟨#[111, 119, 110]⟩, .string ⟨#[115, 104, 97, 114, 101, 100]⟩] 9) = X := ⟨_, rfl⟩
  have HX := Lib.hid (And.intro (show WdAt X w.heap.size 2 ownW from words_at (by rw [← hX]; exact alloc_blk _ _ _ rfl) rfl (by decide) rfl) (show Touch NoB w X by rw [← hX]; exact (Touch.refl _ _).alloc _))
  go_enter Tryz.func61, Tryz.ntmps61
  go_wp2
  go_ret
  exact ⟨_, rfl, HX.out.1, HX.out.2⟩
theorem values_any (w : World) : Calls Tryz.prog 63 #[] w fun x w' => ∃ b, x = .returned (.slice (some ⟨b, 0, none⟩) 5 5) ∧ WdAt w' b 5 kindW ∧ Touch NoB w w' := by
  obtain ⟨X, hX⟩ : ∃ X, w.alloc (.cells #[.string ⟨#[105, 110, 116]⟩, .string ⟨#[98, 111, 111, 108]⟩, .string ⟨#[114, 101, 102]⟩, .string ⟨#[115, 121, 109]⟩, .string ⟨#[112, 111, 105, 110, 116]⟩] 9) = X := ⟨_, rfl⟩
  have HX := Lib.hid (And.intro (show WdAt X w.heap.size 5 kindW from words_at (by rw [← hX]; exact alloc_blk _ _ _ rfl) rfl (by decide) rfl) (show Touch NoB w X by rw [← hX]; exact (Touch.refl _ _).alloc _))
  go_enter Tryz.func63, Tryz.ntmps63
  go_wp2
  go_ret
  exact ⟨_, rfl, HX.out.1, HX.out.2⟩
theorem compare_any (w : World) : Calls Tryz.prog 103 #[] w fun x w' => ∃ b, x = .returned (.slice (some ⟨b, 0, none⟩) 3 3) ∧ WdAt w' b 3 opW ∧ Touch NoB w w' := by
  obtain ⟨X, hX⟩ : ∃ X, w.alloc (.cells #[.string ⟨#[62, 61]⟩, .string ⟨#[60, 61]⟩, .string ⟨#[61, 61]⟩] 9) = X := ⟨_, rfl⟩
  have HX := Lib.hid (And.intro (show WdAt X w.heap.size 3 opW from words_at (by rw [← hX]; exact alloc_blk _ _ _ rfl) rfl (by decide) rfl) (show Touch NoB w X by rw [← hX]; exact (Touch.refl _ _).alloc _))
  go_enter Tryz.func103, Tryz.ntmps103
  go_wp2
  go_ret
  exact ⟨_, rfl, HX.out.1, HX.out.2⟩
/-- A key. -/
theorem key_st {w : World} {gp g n cp : Nat} {ts : List Tk} {σ : St} (hnk : NumsOk ts) (h : PS2 57 w gp g n cp ts σ) :
    Calls Tryz.prog 41 #[.pointer (some ⟨gp, 0, none⟩)] w fun x w' => x = .returned (.agg #[.string (bs (keyV ts σ).nm), .int .i64 ((keyV ts σ).kd : Int), .bool (keyV ts σ).sh]) ∧ PS2 57 w' gp g n cp ts (keyS ts σ) ∧ Touch (AtB gp) w w' := by
  have _ := hnk
  obtain ⟨W0, hW0⟩ : ∃ W, (w.alloc (.cells #[.string ⟨#[]⟩, .int .i64 0, .bool false] 62)).alloc (.cells #[.string ⟨#[]⟩, .int .i64 0, .bool false] 62) = W := ⟨_, rfl⟩
  have t0 : Touch NoB w W0 := by rw [← hW0]; exact ((Touch.refl _ _).alloc _).alloc _
  have b2 : B3 W0 62 w.heap.size (.string ⟨#[]⟩) (.int .i64 0) (.bool false) := by rw [← hW0]; exact (B3.new w _ _ _ _ rfl).old _
  have b3 : B3 W0 62 (w.heap.size + 1) (.string ⟨#[]⟩) (.int .i64 0) (.bool false) := by rw [← hW0]; exact B3.new _ _ _ _ _ (by simp only [World.size_alloc])
  have hgp := blk_lt h.blk
  have hgl := h.tl.lt
  have hs0 : W0.heap.size = w.heap.size + 2 := by rw [← hW0]; simp only [World.size_alloc]
  have HP := Lib.hid (h.touch t0)
  have HB2 := Lib.hid b2
  have HT := Lib.hid (Touch.anyB (F := AtB gp) t0)
  unfold keyV keyS
  obtain ⟨v1, hv1⟩ : ∃ z, choV ts ownW σ = z := ⟨_, rfl⟩
  obtain ⟨s1, hs1⟩ : ∃ z, choS ts ownW σ = z := ⟨_, rfl⟩
  have H1 := Lib.hid (fun (W : World) (q : PS2 57 W gp g n cp ts σ) (b : Nat) (m : Nat) (hw : WdAt W b m ownW) => choice_st q hw)
  rw [hv1, hs1] at H1
  simp only [hv1, hs1]
  obtain ⟨v2, hv2⟩ : ∃ z, naV ts s1 = z := ⟨_, rfl⟩
  obtain ⟨s2, hs2⟩ : ∃ z, naS ts s1 = z := ⟨_, rfl⟩
  have H2 := Lib.hid (fun (W : World) (q : PS2 57 W gp g n cp ts s1) => name_st q)
  rw [hv2, hs2] at H2
  simp only [hv2, hs2]
  obtain ⟨v3, hv3⟩ : ∃ z, choV ts kindW s2 = z := ⟨_, rfl⟩
  obtain ⟨s3, hs3⟩ : ∃ z, choS ts kindW s2 = z := ⟨_, rfl⟩
  have H3 := Lib.hid (fun (W : World) (q : PS2 57 W gp g n cp ts s2) (b : Nat) (m : Nat) (hw : WdAt W b m kindW) => choice_st q hw)
  rw [hv3, hs3] at H3
  simp only [hv3, hs3]
  obtain ⟨s4, hs4⟩ : ∃ z, exS ts [59] s3 = z := ⟨_, rfl⟩
  have H4 := Lib.hid (fun (W : World) (q : PS2 57 W gp g n cp ts s3) => expect_st (s := [59]) q)
  rw [hs4] at H4
  have H4 : Hid (∀ (W : World), PS2 57 W gp g n cp ts s3 → Calls Tryz.prog 83 #[.pointer (some ⟨gp, 0, none⟩), .string ⟨#[59]⟩] W fun x w' => x = .returned (.tuple #[]) ∧ PS2 57 w' gp g n cp ts s4 ∧ Touch (AtB gp) W w') := H4
  simp only [hs4]
  obtain ⟨bb, hbb⟩ : ∃ bb, (v1 == 1) = bb := ⟨_, rfl⟩
  have hbb' : ((v1 : Int) == 1) = bb := by rw [← hbb]; exact eq_nat v1 1
  rw [hbb]
  obtain ⟨n2, hn2⟩ : ∃ z, bs v2 = z := ⟨_, rfl⟩
  rw [hn2] at H2 ⊢
  clear hbb hn2
  clear hs4 hs3 hv3 hs2 hv2 hs1 hv1 h t0 hnk
  have OWo := Lib.hid owners_any
  have OWk := Lib.hid values_any
  have OWc := Lib.hid compare_any
  go_enter Tryz.func41, Tryz.ntmps41
  go_wp2_with fail
  refine (OWo.out _).mono ?_
  rintro r X1 ⟨r1, rfl, hw1, tx1⟩
  have HC1 := Lib.hid (H1.out X1 (HP.out.touch tx1) r1 2 hw1)
  have b3 := b3.go (Touch.anyB (F := AtB gp) tx1) (by omega)
  have HB2 := Lib.hid (HB2.out.go (Touch.anyB (F := AtB gp) tx1) (by omega))
  have HT := Lib.hid (HT.out.same (Touch.anyB (F := AtB gp) tx1))
  clear tx1 hw1
  go_wp2_with fail
  refine HC1.out.mono ?_
  rintro r w1 ⟨rfl, hp, hT⟩
  have b3 := b3.go hT (by omega)
  have HB2 := Lib.hid (HB2.out.go hT (by omega))
  have HT := Lib.hid (HT.out.same hT)
  obtain ⟨x10, x11, x12, x1l⟩ := b3.cells
  obtain ⟨y10, y11, y12⟩ := b3.free
  obtain ⟨V1, hV1⟩ : ∃ V, w1.setCell ⟨w.heap.size + 1, 2, none⟩ (.bool bb) = V := ⟨_, rfl⟩
  have HP := Lib.hid (show PS2 57 V1 gp g n cp ts s1 by rw [← hV1]; exact hp.own (by omega) (by omega))
  have b3n := b3.set2 (.bool bb)
  rw [hV1] at b3n
  have HB2 := Lib.hid (show B3 V1 62 w.heap.size (.string ⟨#[]⟩) (.int .i64 0) (.bool false) by rw [← hV1]; exact HB2.out.aside (by omega))
  have HT := Lib.hid (show Touch (AtB gp) w V1 by rw [← hV1]; exact HT.out.setCell (p := ⟨w.heap.size + 1, 2, none⟩) (.inr (by simp only; omega)) _)
  clear hp hT b3
  have b3 := b3n
  clear b3n
  have HC2 := Lib.hid (H2.out V1 HP.out)
  go_wp2_with fail
  refine HC2.out.mono ?_
  rintro r w2 ⟨rfl, hp, hT⟩
  have b3 := b3.go hT (by omega)
  have HB2 := Lib.hid (HB2.out.go hT (by omega))
  have HT := Lib.hid (HT.out.same hT)
  obtain ⟨x20, x21, x22, x2l⟩ := b3.cells
  obtain ⟨y20, y21, y22⟩ := b3.free
  obtain ⟨V2, hV2⟩ : ∃ V, w2.setCell ⟨w.heap.size + 1, 0, none⟩ (.string n2) = V := ⟨_, rfl⟩
  have HP := Lib.hid (show PS2 57 V2 gp g n cp ts s2 by rw [← hV2]; exact hp.own (by omega) (by omega))
  have b3n := b3.set0 (.string n2)
  rw [hV2] at b3n
  have HB2 := Lib.hid (show B3 V2 62 w.heap.size (.string ⟨#[]⟩) (.int .i64 0) (.bool false) by rw [← hV2]; exact HB2.out.aside (by omega))
  have HT := Lib.hid (show Touch (AtB gp) w V2 by rw [← hV2]; exact HT.out.setCell (p := ⟨w.heap.size + 1, 0, none⟩) (.inr (by simp only; omega)) _)
  clear hp hT b3
  have b3 := b3n
  clear b3n
  go_wp2_with fail
  refine (OWk.out _).mono ?_
  rintro r X3 ⟨r3, rfl, hw3, tx3⟩
  have HC3 := Lib.hid (H3.out X3 (HP.out.touch tx3) r3 5 hw3)
  have b3 := b3.go (Touch.anyB (F := AtB gp) tx3) (by omega)
  have HB2 := Lib.hid (HB2.out.go (Touch.anyB (F := AtB gp) tx3) (by omega))
  have HT := Lib.hid (HT.out.same (Touch.anyB (F := AtB gp) tx3))
  clear tx3 hw3
  go_wp2_with fail
  refine HC3.out.mono ?_
  rintro r w3 ⟨rfl, hp, hT⟩
  have b3 := b3.go hT (by omega)
  have HB2 := Lib.hid (HB2.out.go hT (by omega))
  have HT := Lib.hid (HT.out.same hT)
  obtain ⟨x30, x31, x32, x3l⟩ := b3.cells
  obtain ⟨y30, y31, y32⟩ := b3.free
  obtain ⟨V3, hV3⟩ : ∃ V, w3.setCell ⟨w.heap.size + 1, 1, none⟩ (.int .i64 (v3 : Int)) = V := ⟨_, rfl⟩
  have HP := Lib.hid (show PS2 57 V3 gp g n cp ts s3 by rw [← hV3]; exact hp.own (by omega) (by omega))
  have b3n := b3.set1 (.int .i64 (v3 : Int))
  rw [hV3] at b3n
  have HB2 := Lib.hid (show B3 V3 62 w.heap.size (.string ⟨#[]⟩) (.int .i64 0) (.bool false) by rw [← hV3]; exact HB2.out.aside (by omega))
  have HT := Lib.hid (show Touch (AtB gp) w V3 by rw [← hV3]; exact HT.out.setCell (p := ⟨w.heap.size + 1, 1, none⟩) (.inr (by simp only; omega)) _)
  clear hp hT b3
  have b3 := b3n
  clear b3n
  have HC4 := Lib.hid (H4.out V3 HP.out)
  go_wp2_with fail
  refine HC4.out.mono ?_
  rintro r w4 ⟨rfl, hp, hT⟩
  have b3 := b3.go hT (by omega)
  have HB2 := Lib.hid (HB2.out.go hT (by omega))
  have HT := Lib.hid (HT.out.same hT)
  obtain ⟨x40, x41, x42, x4l⟩ := b3.cells
  obtain ⟨z0, z1, z2, zl⟩ := HB2.out.cells
  obtain ⟨f0, f1, f2⟩ := HB2.out.free
  have HP := Lib.hid hp
  clear hp hT b3
  go_wp2
  have hTE := touch3 (F := AtB gp) HT.out (.inr (Nat.le_refl w.heap.size)) (.string n2) (.int .i64 (v3 : Int)) (.bool bb)
  have hTX := touch3 (F := fun b => b = w.heap.size) (Touch.refl _ w4) (.inl rfl) (.string n2) (.int .i64 (v3 : Int)) (.bool bb)
  exact bodyPost_ret (v := .agg #[.string n2, .int .i64 (v3 : Int), .bool bb]) (by simp [results, Tryz.results41, go_sem, z0, z1, z2]) rfl ⟨rfl, HP.out.touchX hTX hgp hgl, hTE⟩
/-- A variable. -/
theorem variable_st {w : World} {gp g n cp : Nat} {ts : List Tk} {σ : St} (hnk : NumsOk ts) (h : PS2 57 w gp g n cp ts σ) :
    Calls Tryz.prog 86 #[.pointer (some ⟨gp, 0, none⟩)] w fun x w' => x = .returned (.agg #[.string (bs (varV ts σ).nm), .int .i64 (varV ts σ).lo, .int .i64 (varV ts σ).hi]) ∧ PS2 57 w' gp g n cp ts (varS ts σ) ∧ Touch (AtB gp) w w' := by
  have _ := hnk
  obtain ⟨W0, hW0⟩ : ∃ W, (w.alloc (.cells #[.string ⟨#[]⟩, .int .i64 0, .int .i64 0] 102)).alloc (.cells #[.string ⟨#[]⟩, .int .i64 0, .int .i64 0] 102) = W := ⟨_, rfl⟩
  have t0 : Touch NoB w W0 := by rw [← hW0]; exact ((Touch.refl _ _).alloc _).alloc _
  have b2 : B3 W0 102 w.heap.size (.string ⟨#[]⟩) (.int .i64 0) (.int .i64 0) := by rw [← hW0]; exact (B3.new w _ _ _ _ rfl).old _
  have b3 : B3 W0 102 (w.heap.size + 1) (.string ⟨#[]⟩) (.int .i64 0) (.int .i64 0) := by rw [← hW0]; exact B3.new _ _ _ _ _ (by simp only [World.size_alloc])
  have hgp := blk_lt h.blk
  have hgl := h.tl.lt
  have hs0 : W0.heap.size = w.heap.size + 2 := by rw [← hW0]; simp only [World.size_alloc]
  have HP := Lib.hid (h.touch t0)
  have HB2 := Lib.hid b2
  have HT := Lib.hid (Touch.anyB (F := AtB gp) t0)
  unfold varV varS
  obtain ⟨v1, hv1⟩ : ∃ z, naV ts σ = z := ⟨_, rfl⟩
  obtain ⟨s1, hs1⟩ : ∃ z, naS ts σ = z := ⟨_, rfl⟩
  have H1 := Lib.hid (fun (W : World) (q : PS2 57 W gp g n cp ts σ) => name_st q)
  rw [hv1, hs1] at H1
  simp only [hv1, hs1]
  obtain ⟨v2, hv2⟩ : ∃ z, siV ts s1 = z := ⟨_, rfl⟩
  obtain ⟨s2, hs2⟩ : ∃ z, siS ts s1 = z := ⟨_, rfl⟩
  have H2 := Lib.hid (fun (W : World) (q : PS2 57 W gp g n cp ts s1) => signed_st hnk q)
  rw [hv2, hs2] at H2
  simp only [hv2, hs2]
  obtain ⟨v3, hv3⟩ : ∃ z, siV ts s2 = z := ⟨_, rfl⟩
  obtain ⟨s3, hs3⟩ : ∃ z, siS ts s2 = z := ⟨_, rfl⟩
  have H3 := Lib.hid (fun (W : World) (q : PS2 57 W gp g n cp ts s2) => signed_st hnk q)
  rw [hv3, hs3] at H3
  simp only [hv3, hs3]
  obtain ⟨s4, hs4⟩ : ∃ z, exS ts [59] s3 = z := ⟨_, rfl⟩
  have H4 := Lib.hid (fun (W : World) (q : PS2 57 W gp g n cp ts s3) => expect_st (s := [59]) q)
  rw [hs4] at H4
  have H4 : Hid (∀ (W : World), PS2 57 W gp g n cp ts s3 → Calls Tryz.prog 83 #[.pointer (some ⟨gp, 0, none⟩), .string ⟨#[59]⟩] W fun x w' => x = .returned (.tuple #[]) ∧ PS2 57 w' gp g n cp ts s4 ∧ Touch (AtB gp) W w') := H4
  simp only [hs4]
  obtain ⟨n1, hn1⟩ : ∃ z, bs v1 = z := ⟨_, rfl⟩
  rw [hn1] at H1 ⊢
  clear hn1
  clear hs4 hs3 hv3 hs2 hv2 hs1 hv1 h t0 hnk
  go_enter Tryz.func86, Tryz.ntmps86
  have HC1 := Lib.hid (H1.out W0 HP.out)
  go_wp2_with fail
  refine HC1.out.mono ?_
  rintro r w1 ⟨rfl, hp, hT⟩
  have b3 := b3.go hT (by omega)
  have HB2 := Lib.hid (HB2.out.go hT (by omega))
  have HT := Lib.hid (HT.out.same hT)
  obtain ⟨x10, x11, x12, x1l⟩ := b3.cells
  obtain ⟨y10, y11, y12⟩ := b3.free
  obtain ⟨V1, hV1⟩ : ∃ V, w1.setCell ⟨w.heap.size + 1, 0, none⟩ (.string n1) = V := ⟨_, rfl⟩
  have HP := Lib.hid (show PS2 57 V1 gp g n cp ts s1 by rw [← hV1]; exact hp.own (by omega) (by omega))
  have b3n := b3.set0 (.string n1)
  rw [hV1] at b3n
  have HB2 := Lib.hid (show B3 V1 102 w.heap.size (.string ⟨#[]⟩) (.int .i64 0) (.int .i64 0) by rw [← hV1]; exact HB2.out.aside (by omega))
  have HT := Lib.hid (show Touch (AtB gp) w V1 by rw [← hV1]; exact HT.out.setCell (p := ⟨w.heap.size + 1, 0, none⟩) (.inr (by simp only; omega)) _)
  clear hp hT b3
  have b3 := b3n
  clear b3n
  have HC2 := Lib.hid (H2.out V1 HP.out)
  go_wp2_with fail
  refine HC2.out.mono ?_
  rintro r w2 ⟨rfl, hp, hT⟩
  have b3 := b3.go hT (by omega)
  have HB2 := Lib.hid (HB2.out.go hT (by omega))
  have HT := Lib.hid (HT.out.same hT)
  obtain ⟨x20, x21, x22, x2l⟩ := b3.cells
  obtain ⟨y20, y21, y22⟩ := b3.free
  obtain ⟨V2, hV2⟩ : ∃ V, w2.setCell ⟨w.heap.size + 1, 1, none⟩ (.int .i64 v2) = V := ⟨_, rfl⟩
  have HP := Lib.hid (show PS2 57 V2 gp g n cp ts s2 by rw [← hV2]; exact hp.own (by omega) (by omega))
  have b3n := b3.set1 (.int .i64 v2)
  rw [hV2] at b3n
  have HB2 := Lib.hid (show B3 V2 102 w.heap.size (.string ⟨#[]⟩) (.int .i64 0) (.int .i64 0) by rw [← hV2]; exact HB2.out.aside (by omega))
  have HT := Lib.hid (show Touch (AtB gp) w V2 by rw [← hV2]; exact HT.out.setCell (p := ⟨w.heap.size + 1, 1, none⟩) (.inr (by simp only; omega)) _)
  clear hp hT b3
  have b3 := b3n
  clear b3n
  have HC3 := Lib.hid (H3.out V2 HP.out)
  go_wp2_with fail
  refine HC3.out.mono ?_
  rintro r w3 ⟨rfl, hp, hT⟩
  have b3 := b3.go hT (by omega)
  have HB2 := Lib.hid (HB2.out.go hT (by omega))
  have HT := Lib.hid (HT.out.same hT)
  obtain ⟨x30, x31, x32, x3l⟩ := b3.cells
  obtain ⟨y30, y31, y32⟩ := b3.free
  obtain ⟨V3, hV3⟩ : ∃ V, w3.setCell ⟨w.heap.size + 1, 2, none⟩ (.int .i64 v3) = V := ⟨_, rfl⟩
  have HP := Lib.hid (show PS2 57 V3 gp g n cp ts s3 by rw [← hV3]; exact hp.own (by omega) (by omega))
  have b3n := b3.set2 (.int .i64 v3)
  rw [hV3] at b3n
  have HB2 := Lib.hid (show B3 V3 102 w.heap.size (.string ⟨#[]⟩) (.int .i64 0) (.int .i64 0) by rw [← hV3]; exact HB2.out.aside (by omega))
  have HT := Lib.hid (show Touch (AtB gp) w V3 by rw [← hV3]; exact HT.out.setCell (p := ⟨w.heap.size + 1, 2, none⟩) (.inr (by simp only; omega)) _)
  clear hp hT b3
  have b3 := b3n
  clear b3n
  have HC4 := Lib.hid (H4.out V3 HP.out)
  go_wp2_with fail
  refine HC4.out.mono ?_
  rintro r w4 ⟨rfl, hp, hT⟩
  have b3 := b3.go hT (by omega)
  have HB2 := Lib.hid (HB2.out.go hT (by omega))
  have HT := Lib.hid (HT.out.same hT)
  obtain ⟨x40, x41, x42, x4l⟩ := b3.cells
  obtain ⟨z0, z1, z2, zl⟩ := HB2.out.cells
  obtain ⟨f0, f1, f2⟩ := HB2.out.free
  have HP := Lib.hid hp
  clear hp hT b3
  go_wp2
  have hTE := touch3 (F := AtB gp) HT.out (.inr (Nat.le_refl w.heap.size)) (.string n1) (.int .i64 v2) (.int .i64 v3)
  have hTX := touch3 (F := fun b => b = w.heap.size) (Touch.refl _ w4) (.inl rfl) (.string n1) (.int .i64 v2) (.int .i64 v3)
  exact bodyPost_ret (v := .agg #[.string n1, .int .i64 v2, .int .i64 v3]) (by simp [results, Tryz.results86, go_sem, z0, z1, z2]) rfl ⟨rfl, HP.out.touchX hTX hgp hgl, hTE⟩
/-- A condition. -/
theorem cond_st {w : World} {gp g n cp : Nat} {ts : List Tk} {σ : St} (hnk : NumsOk ts) (h : PS2 57 w gp g n cp ts σ) :
    Calls Tryz.prog 88 #[.pointer (some ⟨gp, 0, none⟩)] w fun x w' => x = .returned (.agg #[.string (bs (cndV ts σ).nm), .int .i64 ((cndV ts σ).op : Int), .int .i64 (cndV ts σ).n]) ∧ PS2 57 w' gp g n cp ts (cndS ts σ) ∧ Touch (AtB gp) w w' := by
  have _ := hnk
  obtain ⟨W0, hW0⟩ : ∃ W, (w.alloc (.cells #[.string ⟨#[]⟩, .int .i64 0, .int .i64 0] 118)).alloc (.cells #[.string ⟨#[]⟩, .int .i64 0, .int .i64 0] 118) = W := ⟨_, rfl⟩
  have t0 : Touch NoB w W0 := by rw [← hW0]; exact ((Touch.refl _ _).alloc _).alloc _
  have b2 : B3 W0 118 w.heap.size (.string ⟨#[]⟩) (.int .i64 0) (.int .i64 0) := by rw [← hW0]; exact (B3.new w _ _ _ _ rfl).old _
  have b3 : B3 W0 118 (w.heap.size + 1) (.string ⟨#[]⟩) (.int .i64 0) (.int .i64 0) := by rw [← hW0]; exact B3.new _ _ _ _ _ (by simp only [World.size_alloc])
  have hgp := blk_lt h.blk
  have hgl := h.tl.lt
  have hs0 : W0.heap.size = w.heap.size + 2 := by rw [← hW0]; simp only [World.size_alloc]
  have HP := Lib.hid (h.touch t0)
  have HB2 := Lib.hid b2
  have HT := Lib.hid (Touch.anyB (F := AtB gp) t0)
  unfold cndV cndS
  obtain ⟨v1, hv1⟩ : ∃ z, naV ts σ = z := ⟨_, rfl⟩
  obtain ⟨s1, hs1⟩ : ∃ z, naS ts σ = z := ⟨_, rfl⟩
  have H1 := Lib.hid (fun (W : World) (q : PS2 57 W gp g n cp ts σ) => name_st q)
  rw [hv1, hs1] at H1
  simp only [hv1, hs1]
  obtain ⟨v2, hv2⟩ : ∃ z, choV ts opW s1 = z := ⟨_, rfl⟩
  obtain ⟨s2, hs2⟩ : ∃ z, choS ts opW s1 = z := ⟨_, rfl⟩
  have H2 := Lib.hid (fun (W : World) (q : PS2 57 W gp g n cp ts s1) (b : Nat) (m : Nat) (hw : WdAt W b m opW) => choice_st q hw)
  rw [hv2, hs2] at H2
  simp only [hv2, hs2]
  obtain ⟨v3, hv3⟩ : ∃ z, siV ts s2 = z := ⟨_, rfl⟩
  obtain ⟨s3, hs3⟩ : ∃ z, siS ts s2 = z := ⟨_, rfl⟩
  have H3 := Lib.hid (fun (W : World) (q : PS2 57 W gp g n cp ts s2) => signed_st hnk q)
  rw [hv3, hs3] at H3
  simp only [hv3, hs3]
  obtain ⟨s4, hs4⟩ : ∃ z, exS ts [59] s3 = z := ⟨_, rfl⟩
  have H4 := Lib.hid (fun (W : World) (q : PS2 57 W gp g n cp ts s3) => expect_st (s := [59]) q)
  rw [hs4] at H4
  have H4 : Hid (∀ (W : World), PS2 57 W gp g n cp ts s3 → Calls Tryz.prog 83 #[.pointer (some ⟨gp, 0, none⟩), .string ⟨#[59]⟩] W fun x w' => x = .returned (.tuple #[]) ∧ PS2 57 w' gp g n cp ts s4 ∧ Touch (AtB gp) W w') := H4
  simp only [hs4]
  obtain ⟨n1, hn1⟩ : ∃ z, bs v1 = z := ⟨_, rfl⟩
  rw [hn1] at H1 ⊢
  clear hn1
  clear hs4 hs3 hv3 hs2 hv2 hs1 hv1 h t0 hnk
  have OWo := Lib.hid owners_any
  have OWk := Lib.hid values_any
  have OWc := Lib.hid compare_any
  go_enter Tryz.func88, Tryz.ntmps88
  have HC1 := Lib.hid (H1.out W0 HP.out)
  go_wp2_with fail
  refine HC1.out.mono ?_
  rintro r w1 ⟨rfl, hp, hT⟩
  have b3 := b3.go hT (by omega)
  have HB2 := Lib.hid (HB2.out.go hT (by omega))
  have HT := Lib.hid (HT.out.same hT)
  obtain ⟨x10, x11, x12, x1l⟩ := b3.cells
  obtain ⟨y10, y11, y12⟩ := b3.free
  obtain ⟨V1, hV1⟩ : ∃ V, w1.setCell ⟨w.heap.size + 1, 0, none⟩ (.string n1) = V := ⟨_, rfl⟩
  have HP := Lib.hid (show PS2 57 V1 gp g n cp ts s1 by rw [← hV1]; exact hp.own (by omega) (by omega))
  have b3n := b3.set0 (.string n1)
  rw [hV1] at b3n
  have HB2 := Lib.hid (show B3 V1 118 w.heap.size (.string ⟨#[]⟩) (.int .i64 0) (.int .i64 0) by rw [← hV1]; exact HB2.out.aside (by omega))
  have HT := Lib.hid (show Touch (AtB gp) w V1 by rw [← hV1]; exact HT.out.setCell (p := ⟨w.heap.size + 1, 0, none⟩) (.inr (by simp only; omega)) _)
  clear hp hT b3
  have b3 := b3n
  clear b3n
  go_wp2_with fail
  refine (OWc.out _).mono ?_
  rintro r X2 ⟨r2, rfl, hw2, tx2⟩
  have HC2 := Lib.hid (H2.out X2 (HP.out.touch tx2) r2 3 hw2)
  have b3 := b3.go (Touch.anyB (F := AtB gp) tx2) (by omega)
  have HB2 := Lib.hid (HB2.out.go (Touch.anyB (F := AtB gp) tx2) (by omega))
  have HT := Lib.hid (HT.out.same (Touch.anyB (F := AtB gp) tx2))
  clear tx2 hw2
  go_wp2_with fail
  refine HC2.out.mono ?_
  rintro r w2 ⟨rfl, hp, hT⟩
  have b3 := b3.go hT (by omega)
  have HB2 := Lib.hid (HB2.out.go hT (by omega))
  have HT := Lib.hid (HT.out.same hT)
  obtain ⟨x20, x21, x22, x2l⟩ := b3.cells
  obtain ⟨y20, y21, y22⟩ := b3.free
  obtain ⟨V2, hV2⟩ : ∃ V, w2.setCell ⟨w.heap.size + 1, 1, none⟩ (.int .i64 (v2 : Int)) = V := ⟨_, rfl⟩
  have HP := Lib.hid (show PS2 57 V2 gp g n cp ts s2 by rw [← hV2]; exact hp.own (by omega) (by omega))
  have b3n := b3.set1 (.int .i64 (v2 : Int))
  rw [hV2] at b3n
  have HB2 := Lib.hid (show B3 V2 118 w.heap.size (.string ⟨#[]⟩) (.int .i64 0) (.int .i64 0) by rw [← hV2]; exact HB2.out.aside (by omega))
  have HT := Lib.hid (show Touch (AtB gp) w V2 by rw [← hV2]; exact HT.out.setCell (p := ⟨w.heap.size + 1, 1, none⟩) (.inr (by simp only; omega)) _)
  clear hp hT b3
  have b3 := b3n
  clear b3n
  have HC3 := Lib.hid (H3.out V2 HP.out)
  go_wp2_with fail
  refine HC3.out.mono ?_
  rintro r w3 ⟨rfl, hp, hT⟩
  have b3 := b3.go hT (by omega)
  have HB2 := Lib.hid (HB2.out.go hT (by omega))
  have HT := Lib.hid (HT.out.same hT)
  obtain ⟨x30, x31, x32, x3l⟩ := b3.cells
  obtain ⟨y30, y31, y32⟩ := b3.free
  obtain ⟨V3, hV3⟩ : ∃ V, w3.setCell ⟨w.heap.size + 1, 2, none⟩ (.int .i64 v3) = V := ⟨_, rfl⟩
  have HP := Lib.hid (show PS2 57 V3 gp g n cp ts s3 by rw [← hV3]; exact hp.own (by omega) (by omega))
  have b3n := b3.set2 (.int .i64 v3)
  rw [hV3] at b3n
  have HB2 := Lib.hid (show B3 V3 118 w.heap.size (.string ⟨#[]⟩) (.int .i64 0) (.int .i64 0) by rw [← hV3]; exact HB2.out.aside (by omega))
  have HT := Lib.hid (show Touch (AtB gp) w V3 by rw [← hV3]; exact HT.out.setCell (p := ⟨w.heap.size + 1, 2, none⟩) (.inr (by simp only; omega)) _)
  clear hp hT b3
  have b3 := b3n
  clear b3n
  have HC4 := Lib.hid (H4.out V3 HP.out)
  go_wp2_with fail
  refine HC4.out.mono ?_
  rintro r w4 ⟨rfl, hp, hT⟩
  have b3 := b3.go hT (by omega)
  have HB2 := Lib.hid (HB2.out.go hT (by omega))
  have HT := Lib.hid (HT.out.same hT)
  obtain ⟨x40, x41, x42, x4l⟩ := b3.cells
  obtain ⟨z0, z1, z2, zl⟩ := HB2.out.cells
  obtain ⟨f0, f1, f2⟩ := HB2.out.free
  have HP := Lib.hid hp
  clear hp hT b3
  go_wp2
  have hTE := touch3 (F := AtB gp) HT.out (.inr (Nat.le_refl w.heap.size)) (.string n1) (.int .i64 (v2 : Int)) (.int .i64 v3)
  have hTX := touch3 (F := fun b => b = w.heap.size) (Touch.refl _ w4) (.inl rfl) (.string n1) (.int .i64 (v2 : Int)) (.int .i64 v3)
  exact bodyPost_ret (v := .agg #[.string n1, .int .i64 (v2 : Int), .int .i64 v3]) (by simp [results, Tryz.results88, go_sem, z0, z1, z2]) rfl ⟨rfl, HP.out.touchX hTX hgp hgl, hTE⟩
end Go.Proofs.YtkmbobfjoaldgaaGreatDoor

/-
  What package syntax's MostKids and Nodes, and package tree's expression do with a parser in memory. Conditions: the table of levels can be read; names and numbers among the tokens are such.
-/
namespace Go.Proofs.YtkmbobfjoaldgaaGreatDoor
open Go.ChangeShapes Go.WideShapes Go.ChangeAt Go.RowKit
set_option maxRecDepth 100000
set_option maxHeartbeats 4000000

/-- How many Kids a kind may have. -/
def mostL (k : Nat) : Nat := if k ≤ 4 ∨ k = 11 then 16 else if k = 5 ∨ k = 6 then 1 else 0
theorem mostkids_any (k : Nat) (hk : k ≤ 15) (w : World) : Calls Tryz.prog 118 #[.int .i64 (k : Int)] w fun x w' => x = .returned (.int .i64 (mostL k : Int)) ∧ w = w' := by
  have hc : k = 0 ∨ k = 1 ∨ k = 2 ∨ k = 3 ∨ k = 4 ∨ k = 5 ∨ k = 6 ∨ k = 7 ∨ k = 8 ∨ k = 9 ∨ k = 10 ∨ k = 11 ∨ k = 12 ∨ k = 13 ∨ k = 14 ∨ k = 15 := by omega
  clear hk
  rcases hc with rfl | rfl | rfl | rfl | rfl | rfl | rfl | rfl | rfl | rfl | rfl | rfl | rfl | rfl | rfl | rfl
  all_goals
    go_enter Tryz.func118, Tryz.ntmps118
    go_wp2
    go_ret
    exact ⟨rfl, rfl⟩
/-- The words that nodes begin with. -/
def nodeW : List Bs := [[115, 101, 113], [115, 101, 108], [109, 115, 101, 113], [109, 115, 101, 108], [112, 97, 114], [110, 111, 116], [114, 101, 112, 101, 97, 116], [105, 102], [115, 101, 116], [100, 111], [117, 115, 101], [112, 105, 99, 107], [112, 108, 97, 110], [111, 107], [102, 97, 105, 108], [119, 97, 105, 116]]
theorem nodes_any (w : World) : Calls Tryz.prog 131 #[] w fun x w' => ∃ b, x = .returned (.slice (some ⟨b, 0, none⟩) 16 16) ∧ WdAt w' b 16 nodeW ∧ Touch NoB w w' := by
  obtain ⟨X, hX⟩ : ∃ X, w.alloc (.cells #[.string ⟨#[115, 101, 113]⟩, .string ⟨#[115, 101, 108]⟩, .string ⟨#[109, 115, 101, 113]⟩, .string ⟨#[109, 115, 101, 108]⟩, .string ⟨#[112, 97, 114]⟩, .string ⟨#[110, 111, 116]⟩, .string ⟨#[114, 101, 112, 101, 97, 116]⟩, .string ⟨#[105, 102]⟩, .string ⟨#[115, 101, 116]⟩, .string ⟨#[100, 111]⟩, .string ⟨#[117, 115, 101]⟩, .string ⟨#[112, 105, 99, 107]⟩, .string ⟨#[112, 108, 97, 110]⟩, .string ⟨#[111, 107]⟩, .string ⟨#[102, 97, 105, 108]⟩, .string ⟨#[119, 97, 105, 116]⟩] 9) = X := ⟨_, rfl⟩
  have HX := Lib.hid (And.intro (show WdAt X w.heap.size 16 nodeW from words_at (by rw [← hX]; exact alloc_blk _ _ _ rfl) rfl (by decide) rfl) (show Touch NoB w X by rw [← hX]; exact (Touch.refl _ _).alloc _))
  go_enter Tryz.func131, Tryz.ntmps131
  go_wp2
  go_ret
  exact ⟨_, rfl, HX.out.1, HX.out.2⟩
/-- What an expression's parser leaves. -/
def EqPost (w : World) (gp g n cp : Nat) (ts : List Tk) (σ : St) (x : Ending) (w' : World) : Prop := ∃ (a b : Int) (s : ByteArray) (A : Option Addr) (m c : Nat), x = .returned (.agg #[.int .i64 a, .int .i64 b, .string s, .slice A m c]) ∧
  ET w' (fun b => w.heap.size ≤ b) (eqV ts σ) a b s A m c ∧ PS2 57 w' gp g n cp ts (eqS ts σ) ∧ Touch (AtB gp) w w'
theorem par_eq {w w' : World} {ts : List Tk} {σ : St} {x : Ending} (h : ParPost w (parL ts σ.1) x w') (he : σ.2 = 0) : ∃ (a b : Int) (s : ByteArray) (A : Option Addr) (m c : Nat),
    x = .returned (.tuple #[.agg #[.int .i64 a, .int .i64 b, .string s, .slice A m c], .int .i64 ((eqS ts σ).1 : Int), .int .i64 ((eqS ts σ).2 : Int)]) ∧ ET w' (fun b => w.heap.size ≤ b) (eqV ts σ) a b s A m c ∧ Touch NoB w w' := by
  obtain ⟨ht, h⟩ := h
  unfold eqV eqS
  rw [if_pos he, if_pos he]
  cases hp : parL ts σ.1 with
  | ok y k =>
    rw [hp] at h
    obtain ⟨a, b, s, A, m, c, rfl, h2⟩ := h
    exact ⟨a, b, s, A, m, c, rfl, h2, ht⟩
  | er e k =>
    rw [hp] at h
    exact ⟨0, 0, ⟨#[]⟩, none, 0, 0, h, ⟨rfl, rfl, rfl, rfl, rfl, rfl⟩, ht⟩
theorem eqS_le {ts : List Tk} {σ : St} (h : σ.1 ≤ ts.length) : (eqS ts σ).1 ≤ ts.length := by
  unfold eqS
  split
  · have hf := ful_fwd ts 40 5 σ.1 h
    rw [← par_bin h] at hf
    cases hp : parL ts σ.1 with
    | ok y k => rw [hp] at hf; exact hf.2
    | er e k => rw [hp] at hf; exact hf.2.1
  · exact h
theorem expr_st {w : World} {gp g n cp B : Nat} {ts : List Tk} {σ : St} (hok : NamesOk ts) (hnk : NumsOk ts) (hv : LV w B) (h : PS2 57 w gp g n cp ts σ) :
    Calls Tryz.prog 132 #[.pointer (some ⟨gp, 0, none⟩)] w (EqPost w gp g n cp ts σ) := by
  obtain ⟨W0, hW0⟩ : ∃ W, w.alloc (.cells #[.int .i64 0, .int .i64 0, .string ⟨#[]⟩, .slice none 0 0] 44) = W := ⟨_, rfl⟩
  have t0 : Touch NoB w W0 := by rw [← hW0]; exact (Touch.refl _ _).alloc _
  have hb2 : XB W0 w.heap.size 0 0 ⟨#[]⟩ none 0 0 := by rw [← hW0]; exact XB.new w _ _ _ _ _ _ rfl
  have hs0 : W0.heap.size = w.heap.size + 1 := by rw [← hW0]; simp only [World.size_alloc]
  have hgp := blk_lt h.blk
  have hgl := h.tl.lt
  have hp0 := h.touch t0
  have c2 : W0.cell? ⟨gp, 2, none⟩ = some (.int .i64 (σ.2 : Int)) := cell_blk hp0.blk 2
  by_cases he : σ.2 = 0
  · have hee : ((σ.2 : Int) != 0) = false := by simp [he]
    have d0 : W0.drew.cell? ⟨gp, 0, none⟩ = some (.slice (some ⟨g, 0, none⟩) n cp) := cell_blk (w := W0.drew) hp0.blk 0
    have d1 : W0.drew.cell? ⟨gp, 1, none⟩ = some (.int .i64 (σ.1 : Int)) := cell_blk (w := W0.drew) hp0.blk 1
    obtain ⟨Z, hZ⟩ : ∃ Z, W0.drew.alloc (.cells #[.int .i64 0, .int .i64 0, .string ⟨#[]⟩, .slice none 0 0] 44) = Z := ⟨_, rfl⟩
    have tZ : Touch NoB W0 Z := by rw [← hZ]; exact (Touch.refl NoB W0).drew.alloc _
    have hpZ := hp0.touch tZ
    have z0 : Z.cell? ⟨gp, 0, none⟩ = some (.slice (some ⟨g, 0, none⟩) n cp) := cell_blk hpZ.blk 0
    have z1 : Z.cell? ⟨gp, 1, none⟩ = some (.int .i64 (σ.1 : Int)) := cell_blk hpZ.blk 1
    have hxZ : XB Z (w.heap.size + 1) 0 0 ⟨#[]⟩ none 0 0 := by rw [← hZ]; exact XB.new _ _ _ _ _ _ _ hs0
    have hsZ : Z.heap.size = w.heap.size + 2 := by rw [← hZ]; simp only [World.size_alloc, World.size_drew]; omega
    have HP1 := Lib.hid (parse_at (w := W0.drew) (cp := cp) (h.tl.touch (t0.drew)) h.len h.le h.small (hv.touch0 t0.drew) hok hnk)
    have HP2 := Lib.hid (parse_at (w := Z) (cp := cp) (h.tl.touch (t0.same tZ)) h.len h.le h.small (hv.touch0 (t0.same tZ)) hok hnk)
    have HH := Lib.hid (And.intro h (And.intro t0 (And.intro hb2 (And.intro tZ hxZ))))
    have HLE := Lib.hid (eqS_le (ts := ts) (σ := σ) (by rw [h.len]; exact h.le))
    have HQ := Lib.hid (fun (w w' : World) (x : Ending) (hp : ParPost w (parL ts σ.1) x w') => par_eq hp he)
    obtain ⟨st, hst⟩ : ∃ st, eqS ts σ = st := ⟨_, rfl⟩
    obtain ⟨ex, hex⟩ : ∃ ex, eqV ts σ = ex := ⟨_, rfl⟩
    rw [hst, hex] at HQ
    rw [hst] at HLE
    unfold EqPost
    rw [hst, hex]
    obtain ⟨k, hk⟩ : ∃ k, σ.1 = k := ⟨_, rfl⟩
    obtain ⟨e, hse⟩ : ∃ e, σ.2 = e := ⟨_, rfl⟩
    rw [hse] at c2 hee
    rw [hk] at d1 z1 HP1 HP2 HQ
    clear h t0 hb2 hp0 tZ hpZ hxZ hok hnk hv hst hex he hk hse
    go_enter Tryz.func132, Tryz.ntmps132
    go_wp2_with fail
    go_region_law
      (first
        | (go_simp; go_at_call 148
           refine HP1.out.mono ?_
           intro x w1 hP
           obtain ⟨a, b, s, A, m, c, rfl, het, hT1⟩ := HQ.out _ _ _ hP
           clear hP
           obtain ⟨W', hW'⟩ : ∃ W, w1.alloc (.cells #[.int .i64 a, .int .i64 b, .string s, .slice A m c] 44) = W := ⟨_, rfl⟩
           have t' : Touch NoB w1 W' := by rw [← hW']; exact (Touch.refl _ _).alloc _
           obtain ⟨q, hq⟩ : ∃ q, w1.heap.size = q := ⟨_, rfl⟩
           have hx : XB W' q a b s A m c := by rw [← hW']; exact XB.new _ _ _ _ _ _ _ hq
           have hT01 : Touch NoB W0 W' := ((Touch.refl NoB W0).drew.same hT1).same t'
           have hsq : w.heap.size + 1 ≤ q := by have h1 := hT1.size; have h2 : W0.drew.heap.size = W0.heap.size := rfl; omega
           have HX := Lib.hid (And.intro hx (And.intro (show ET W' (fun b => w.heap.size + 1 ≤ b ∧ b ≠ q) ex a b s A m c from (het.via (R := fun b => w.heap.size + 1 ≤ b ∧ b ≠ q) (fun b h1 h2 => ⟨by have h3 : W0.drew.heap.size = W0.heap.size := rfl; omega, by omega⟩)).touch0 t') hT01))
           clear hx het hT1 t' hT01 HP2)
        | (go_simp; go_at_call 148
           refine HP2.out.mono ?_
           intro x w1 hP
           obtain ⟨a, b, s, A, m, c, rfl, het, hT1⟩ := HQ.out _ _ _ hP
           clear hP
           obtain ⟨q, hq⟩ : ∃ q, w.heap.size + 1 = q := ⟨_, rfl⟩
           have hxq : XB w1 q 0 0 ⟨#[]⟩ none 0 0 := by rw [← hq]; exact (hT1.block _ (blk_lt HH.out.2.2.2.2) (fun x => x)).trans HH.out.2.2.2.2
           obtain ⟨g0, g1, g2, g3⟩ := hxq.free
           obtain ⟨v0, v1, v2, v3, v4⟩ := hxq.cells
           obtain ⟨W', hW'⟩ : ∃ W, (((w1.setCell ⟨q, 0, none⟩ (.int .i64 a)).setCell ⟨q, 1, none⟩ (.int .i64 b)).setCell ⟨q, 2, none⟩ (.string s)).setCell ⟨q, 3, none⟩ (.slice A m c) = W := ⟨_, rfl⟩
           have hx : XB W' q a b s A m c := by rw [← hW']; exact set4 hxq _ _ _ _
           have tX : Touch (fun b => b = q) w1 W' := by rw [← hW']; exact touch4 (F := fun b => b = q) (Touch.refl _ w1) (.inl rfl) _ _ _ _
           have hT01 : Touch NoB W0 W' := (HH.out.2.2.2.1.same hT1).trans tX (fun b hb => .inr (by omega))
           have hsq : w.heap.size + 1 ≤ q := by omega
           have HX := Lib.hid (And.intro hx (And.intro (show ET W' (fun b => w.heap.size + 1 ≤ b ∧ b ≠ q) ex a b s A m c from (het.via (R := fun b => w.heap.size + 1 ≤ b ∧ b ≠ q) (fun b h1 h2 => ⟨by omega, by omega⟩)).aside tX (fun h => h.2 rfl)) hT01))
           clear hxq hx het hT1 tX hT01 HP1))
    all_goals
      have hpW := HH.out.1.touch (HH.out.2.1.same HX.out.2.2)
      have c1 : W'.cell? ⟨gp, 1, none⟩ = some (.int .i64 (σ.1 : Int)) := cell_blk hpW.blk 1
      have q1 : W'.frozen? ⟨gp, 1, none⟩ = false := free_blk hpW.blk 1
      have hle : st.1 ≤ n := by have := HLE.out; rw [hpW.len] at this; exact this
      have hp1 := hpW.setk st.1 hle
      have c2' : (W'.setCell ⟨gp, 1, none⟩ (.int .i64 (st.1 : Int))).cell? ⟨gp, 2, none⟩ = some (.int .i64 (σ.2 : Int)) := cell_blk hp1.blk 2
      have q2 : (W'.setCell ⟨gp, 1, none⟩ (.int .i64 (st.1 : Int))).frozen? ⟨gp, 2, none⟩ = false := free_blk hp1.blk 2
      obtain ⟨V, hV⟩ : ∃ V, (W'.setCell ⟨gp, 1, none⟩ (.int .i64 (st.1 : Int))).setCell ⟨gp, 2, none⟩ (.int .i64 (st.2 : Int)) = V := ⟨_, rfl⟩
      have hp2 : PS2 57 V gp g n cp ts st := by rw [← hV]; exact hp1.sete st.2
      have tV : Touch (AtB gp) W' V := by rw [← hV]; exact touch_set (gp := gp) (touch_set (gp := gp) (Touch.refl _ W') 1 _) 2 _
      have hqgp : q ≠ gp := by omega
      obtain ⟨p0, p1, p2, p3, p4⟩ := (HX.out.1.go tV hqgp).cells
      have hb2V : XB V w.heap.size 0 0 ⟨#[]⟩ none 0 0 := XB.go ((HX.out.2.2.block _ (by omega) (fun x => x)).trans HH.out.2.2.1 : XB W' w.heap.size 0 0 ⟨#[]⟩ none 0 0) tV (by omega)
      obtain ⟨b0, b1, b2, b3, b4⟩ := hb2V.cells
      obtain ⟨f0, f1, f2, f3⟩ := hb2V.free
      have HF := Lib.hid (And.intro hp2 (And.intro (HX.out.2.1.touch tV (hpW.nox _)) (show Touch (AtB gp) w V from (Touch.anyB (HH.out.2.1.same HX.out.2.2)).same tV)))
      clear hpW hp1 hp2 tV hb2V
      go_wp2
      have hTE := touch4 (F := AtB gp) HF.out.2.2 (.inr (Nat.le_refl w.heap.size)) (.int .i64 a) (.int .i64 b) (.string s) (.slice A m c)
      have hTX := touch4 (F := fun b => b = w.heap.size) (Touch.refl _ V) (.inl rfl) (.int .i64 a) (.int .i64 b) (.string s) (.slice A m c)
      exact bodyPost_ret (v := .agg #[.int .i64 a, .int .i64 b, .string s, .slice A m c]) (by simp [results, Tryz.results132, go_sem, b0, b1, b2, b3]) rfl ⟨a, b, s, A, m, c, rfl, (HF.out.2.1.aside hTX (fun h => by omega)).via (fun b h1 _ => by omega), HF.out.1.touchX hTX hgp hgl, hTE⟩
  · have hee : ((σ.2 : Int) != 0) = true := by simp; omega
    have HP := Lib.hid (And.intro hp0 t0)
    have e1 : eqV ts σ = .leaf 0 0 [] := by unfold eqV; rw [if_neg he]
    have e2 : eqS ts σ = σ := by unfold eqS; rw [if_neg he]
    unfold EqPost
    rw [e1, e2]
    obtain ⟨z0, z1, z2, z3, z4⟩ := hb2.cells
    obtain ⟨f0, f1, f2, f3⟩ := hb2.free
    obtain ⟨e, hse⟩ : ∃ e, σ.2 = e := ⟨_, rfl⟩
    rw [hse] at c2 hee
    clear h t0 hb2 hp0 e1 e2 he hok hnk hv hse
    go_enter Tryz.func132, Tryz.ntmps132
    go_wp2
    have hTE := touch4 (F := AtB gp) (Touch.anyB (F := AtB gp) HP.out.2) (.inr (Nat.le_refl w.heap.size)) (.int .i64 0) (.int .i64 0) (.string ⟨#[]⟩) (.slice none 0 0)
    have hTX := touch4 (F := fun b => b = w.heap.size) (Touch.refl _ W0) (.inl rfl) (.int .i64 0) (.int .i64 0) (.string ⟨#[]⟩) (.slice none 0 0)
    exact bodyPost_ret (v := .agg #[.int .i64 0, .int .i64 0, .string ⟨#[]⟩, .slice none 0 0]) (by simp [results, Tryz.results132, go_sem, z0, z1, z2, z3]) rfl ⟨0, 0, ⟨#[]⟩, none, 0, 0, rfl, ⟨rfl, rfl, rfl, rfl, rfl, rfl⟩, HP.out.1.touchX hTX hgp hgl, hTE⟩
end Go.Proofs.YtkmbobfjoaldgaaGreatDoor

/-
  What package tree's change does with a parser in memory. Conditions: numbers among the tokens are such.
-/
namespace Go.Proofs.YtkmbobfjoaldgaaGreatDoor
open Go.ChangeShapes Go.WideShapes Go.ChangeAt Go.RowKit
set_option maxRecDepth 100000
set_option maxHeartbeats 4000000

theorem accept_at {T : TypeId} {w : World} {gp g n cp : Nat} {ts : List Tk} {σ : St} {s : Bs} {b : Bool} (h : PS2 T w gp g n cp ts σ) (hb : isS ts s σ = b) :
    Calls Tryz.prog 80 #[.pointer (some ⟨gp, 0, none⟩), .string (bs s)] w fun x w' => x = .returned (.bool b) ∧ PS2 T w' gp g n cp ts (acS ts s σ) ∧ Touch (AtB gp) w w' := by rw [← hb]; exact accept_st h
theorem acS_no {ts : List Tk} {s : Bs} {σ : St} (h : isS ts s σ = false) : acS ts s σ = σ := by unfold acS; rw [h]; rfl
theorem change_eq {w : World} {gp g n cp : Nat} {ts : List Tk} {σ : St} (hnk : NumsOk ts) (h : PS2 57 w gp g n cp ts σ)  (h61 : isS ts [61] (naS ts σ) = true) :
    Calls Tryz.prog 117 #[.pointer (some ⟨gp, 0, none⟩)] w fun x w' => x = .returned (.agg #[.string (bs (mkeV ts σ).nm), .bool (mkeV ts σ).add, .int .i64 (mkeV ts σ).n]) ∧ PS2 57 w' gp g n cp ts (mkeS ts σ) ∧ Touch (AtB gp) w w' := by
  have _ := hnk
  obtain ⟨W0, hW0⟩ : ∃ W, w.alloc (.cells #[.string ⟨#[]⟩, .bool false, .int .i64 0] 131) = W := ⟨_, rfl⟩
  have t0 : Touch NoB w W0 := by rw [← hW0]; exact (Touch.refl _ _).alloc _
  have b2 : B3 W0 131 w.heap.size (.string ⟨#[]⟩) (.bool false) (.int .i64 0) := by rw [← hW0]; exact B3.new w _ _ _ _ rfl
  have hgp := blk_lt h.blk
  have hgl := h.tl.lt
  have hs0 : W0.heap.size = w.heap.size + 1 := by rw [← hW0]; simp only [World.size_alloc]
  have HP := Lib.hid (h.touch t0)
  have HB2 := Lib.hid b2
  have HT := Lib.hid (Touch.anyB (F := AtB gp) t0)
  unfold mkeV mkeS
  simp only
  obtain ⟨v1, hv1⟩ : ∃ z, naV ts σ = z := ⟨_, rfl⟩
  obtain ⟨s1, hs1⟩ : ∃ z, naS ts σ = z := ⟨_, rfl⟩
  have H1 := Lib.hid (fun (W : World) (q : PS2 57 W gp g n cp ts σ) => name_st q)
  simp only [hv1, hs1] at *
  simp only [h61, if_true]
  obtain ⟨s2, hs2⟩ : ∃ z, acS ts [61] s1 = z := ⟨_, rfl⟩
  have AY : Hid (∀ (W : World), PS2 57 W gp g n cp ts s1 → Calls Tryz.prog 80 #[.pointer (some ⟨gp, 0, none⟩), .string ⟨#[61]⟩] W fun x w' => x = .returned (.bool true) ∧ PS2 57 w' gp g n cp ts s2 ∧ Touch (AtB gp) W w') := Lib.hid (fun W q => by rw [← hs2]; exact accept_at (s := [61]) q h61)
  simp only [hs2]
  have HN := Lib.hid (fun (W : World) (q : PS2 57 W gp g n cp ts s2) => signed_st hnk q)
  obtain ⟨v3, hv3⟩ : ∃ z, siV ts s2 = z := ⟨_, rfl⟩
  obtain ⟨s3, hs3⟩ : ∃ z, siS ts s2 = z := ⟨_, rfl⟩
  rw [hv3, hs3] at HN
  simp only [hv3, hs3]
  obtain ⟨s4, hs4⟩ : ∃ z, exS ts [59] s3 = z := ⟨_, rfl⟩
  have HE : Hid (∀ (W : World), PS2 57 W gp g n cp ts s3 → Calls Tryz.prog 83 #[.pointer (some ⟨gp, 0, none⟩), .string ⟨#[59]⟩] W fun x w' => x = .returned (.tuple #[]) ∧ PS2 57 w' gp g n cp ts s4 ∧ Touch (AtB gp) W w') := Lib.hid (fun W q => by rw [← hs4]; exact expect_st (s := [59]) q)
  simp only [hs4]
  obtain ⟨n1, hn1⟩ : ∃ z, bs v1 = z := ⟨_, rfl⟩
  rw [hn1] at H1 ⊢
  clear hn1 hs4 hs3 hs1 hv1 h t0 b2 hnk hs2 hv3
  have HC := Lib.hid (H1.out W0 HP.out)
  go_enter Tryz.func117, Tryz.ntmps117
  go_wp2_with fail
  refine HC.out.mono ?_
  rintro r w1 ⟨rfl, hp, hT⟩
  obtain ⟨X, hX⟩ : ∃ X, w1.alloc (.cells #[.string n1, .bool false, .int .i64 0] 131) = X := ⟨_, rfl⟩
  have tx : Touch NoB w1 X := by rw [← hX]; exact (Touch.refl _ _).alloc _
  obtain ⟨q3, hq3⟩ : ∃ q3, w1.heap.size = q3 := ⟨_, rfl⟩
  have hsq : w.heap.size < q3 := by have := hT.size; omega
  have HB3 := Lib.hid (show B3 X 131 q3 (.string n1) (.bool false) (.int .i64 0) by rw [← hX]; exact B3.new _ _ _ _ _ hq3)
  have HB2 := Lib.hid ((HB2.out.go hT (by omega)).go (Touch.anyB (F := AtB gp) tx) (by omega))
  have HT := Lib.hid (HT.out.same (hT.same (Touch.anyB tx)))
  have HP := Lib.hid (hp.touch tx)
  clear hp hT tx
  subst hX
  have HC := Lib.hid (AY.out _ HP.out)
  go_wp2_with fail
  refine HC.out.mono ?_
  rintro r uy ⟨rfl, hp, hT⟩
  have HB3 := Lib.hid (HB3.out.go hT (by omega))
  have HB2 := Lib.hid (HB2.out.go hT (by omega))
  have HT := Lib.hid (HT.out.same hT)
  have HP := Lib.hid hp
  clear hp hT
  have HC := Lib.hid (HN.out uy HP.out)
  go_wp2_with fail
  refine HC.out.mono ?_
  rintro r un ⟨rfl, hp, hT⟩
  have HB3 := Lib.hid (HB3.out.go hT (by omega))
  have HB2 := Lib.hid (HB2.out.go hT (by omega))
  have HT := Lib.hid (HT.out.same hT)
  have HP := Lib.hid hp
  clear hp hT
  obtain ⟨x0, x1, x2, xl⟩ := HB3.out.cells
  obtain ⟨y0, y1, y2⟩ := HB3.out.free
  obtain ⟨V, hV⟩ : ∃ V, un.setCell ⟨q3, 2, none⟩ (.int .i64 v3) = V := ⟨_, rfl⟩
  have HP := Lib.hid (show PS2 57 V gp g n cp ts s3 by rw [← hV]; exact HP.out.own (by omega) (by omega))
  have HB3 := Lib.hid (show B3 V 131 q3 (.string n1) (.bool false) (.int .i64 v3) by rw [← hV]; exact HB3.out.set2 _)
  have HB2 := Lib.hid (show B3 V 131 w.heap.size (.string ⟨#[]⟩) (.bool false) (.int .i64 0) by rw [← hV]; exact HB2.out.aside (by omega))
  have HT := Lib.hid (show Touch (AtB gp) w V by rw [← hV]; exact HT.out.setCell (p := ⟨q3, 2, none⟩) (.inr (by simp only; omega)) _)
  have HC := Lib.hid (HE.out V HP.out)
  go_wp2_with fail
  refine HC.out.mono ?_
  rintro r ue ⟨rfl, hp, hT⟩
  have HB3 := Lib.hid (HB3.out.go hT (by omega))
  have HB2 := Lib.hid (HB2.out.go hT (by omega))
  have HT := Lib.hid (HT.out.same hT)
  have HP := Lib.hid hp
  clear hp hT
  obtain ⟨p0, p1, p2, pl⟩ := HB3.out.cells
  obtain ⟨z0, z1, z2, zl⟩ := HB2.out.cells
  obtain ⟨f0, f1, f2⟩ := HB2.out.free
  go_wp2
  have hTE := touch3 (F := AtB gp) HT.out (.inr (Nat.le_refl w.heap.size)) (.string n1) (.bool false) (.int .i64 v3)
  have hTX := touch3 (F := fun b => b = w.heap.size) (Touch.refl _ ue) (.inl rfl) (.string n1) (.bool false) (.int .i64 v3)
  exact bodyPost_ret (v := .agg #[.string n1, .bool false, .int .i64 v3]) (by simp [results, Tryz.results117, go_sem, z0, z1, z2]) rfl ⟨rfl, HP.out.touchX hTX hgp hgl, hTE⟩
theorem change_plus {w : World} {gp g n cp : Nat} {ts : List Tk} {σ : St} (hnk : NumsOk ts) (h : PS2 57 w gp g n cp ts σ) (h61 : isS ts [61] (naS ts σ) = false) (h43 : isS ts [43] (naS ts σ) = true) :
    Calls Tryz.prog 117 #[.pointer (some ⟨gp, 0, none⟩)] w fun x w' => x = .returned (.agg #[.string (bs (mkeV ts σ).nm), .bool (mkeV ts σ).add, .int .i64 (mkeV ts σ).n]) ∧ PS2 57 w' gp g n cp ts (mkeS ts σ) ∧ Touch (AtB gp) w w' := by
  have _ := hnk
  obtain ⟨W0, hW0⟩ : ∃ W, w.alloc (.cells #[.string ⟨#[]⟩, .bool false, .int .i64 0] 131) = W := ⟨_, rfl⟩
  have t0 : Touch NoB w W0 := by rw [← hW0]; exact (Touch.refl _ _).alloc _
  have b2 : B3 W0 131 w.heap.size (.string ⟨#[]⟩) (.bool false) (.int .i64 0) := by rw [← hW0]; exact B3.new w _ _ _ _ rfl
  have hgp := blk_lt h.blk
  have hgl := h.tl.lt
  have hs0 : W0.heap.size = w.heap.size + 1 := by rw [← hW0]; simp only [World.size_alloc]
  have HP := Lib.hid (h.touch t0)
  have HB2 := Lib.hid b2
  have HT := Lib.hid (Touch.anyB (F := AtB gp) t0)
  unfold mkeV mkeS
  simp only
  obtain ⟨v1, hv1⟩ : ∃ z, naV ts σ = z := ⟨_, rfl⟩
  obtain ⟨s1, hs1⟩ : ∃ z, naS ts σ = z := ⟨_, rfl⟩
  have H1 := Lib.hid (fun (W : World) (q : PS2 57 W gp g n cp ts σ) => name_st q)
  simp only [hv1, hs1] at *
  simp only [h61, h43, Bool.false_eq_true, if_false, if_true]
  have A61 : Hid (∀ (W : World), PS2 57 W gp g n cp ts s1 → Calls Tryz.prog 80 #[.pointer (some ⟨gp, 0, none⟩), .string ⟨#[61]⟩] W fun x w' => x = .returned (.bool false) ∧ PS2 57 w' gp g n cp ts s1 ∧ Touch (AtB gp) W w') := Lib.hid (fun W q => by have := accept_at (s := [61]) q h61; rwa [acS_no h61] at this)
  obtain ⟨s2, hs2⟩ : ∃ z, acS ts [43] s1 = z := ⟨_, rfl⟩
  have AY : Hid (∀ (W : World), PS2 57 W gp g n cp ts s1 → Calls Tryz.prog 80 #[.pointer (some ⟨gp, 0, none⟩), .string ⟨#[43]⟩] W fun x w' => x = .returned (.bool true) ∧ PS2 57 w' gp g n cp ts s2 ∧ Touch (AtB gp) W w') := Lib.hid (fun W q => by rw [← hs2]; exact accept_at (s := [43]) q h43)
  simp only [hs2]
  have HN := Lib.hid (fun (W : World) (q : PS2 57 W gp g n cp ts s2) => number_st q)
  have hmx : nuV ts s2 ≤ 9223372036854775807 := nuV_le hnk _
  obtain ⟨v3, hv3⟩ : ∃ z, nuV ts s2 = z := ⟨_, rfl⟩
  obtain ⟨s3, hs3⟩ : ∃ z, nuS ts s2 = z := ⟨_, rfl⟩
  rw [hv3, hs3] at HN
  rw [hv3] at hmx
  simp only [hv3, hs3]
  obtain ⟨s4, hs4⟩ : ∃ z, exS ts [59] s3 = z := ⟨_, rfl⟩
  have HE : Hid (∀ (W : World), PS2 57 W gp g n cp ts s3 → Calls Tryz.prog 83 #[.pointer (some ⟨gp, 0, none⟩), .string ⟨#[59]⟩] W fun x w' => x = .returned (.tuple #[]) ∧ PS2 57 w' gp g n cp ts s4 ∧ Touch (AtB gp) W w') := Lib.hid (fun W q => by rw [← hs4]; exact expect_st (s := [59]) q)
  simp only [hs4]
  obtain ⟨n1, hn1⟩ : ∃ z, bs v1 = z := ⟨_, rfl⟩
  rw [hn1] at H1 ⊢
  clear hn1 hs4 hs3 hs1 hv1 h t0 b2 hnk hs2 hv3
  have HC := Lib.hid (H1.out W0 HP.out)
  go_enter Tryz.func117, Tryz.ntmps117
  go_wp2_with fail
  refine HC.out.mono ?_
  rintro r w1 ⟨rfl, hp, hT⟩
  obtain ⟨X, hX⟩ : ∃ X, w1.alloc (.cells #[.string n1, .bool false, .int .i64 0] 131) = X := ⟨_, rfl⟩
  have tx : Touch NoB w1 X := by rw [← hX]; exact (Touch.refl _ _).alloc _
  obtain ⟨q3, hq3⟩ : ∃ q3, w1.heap.size = q3 := ⟨_, rfl⟩
  have hsq : w.heap.size < q3 := by have := hT.size; omega
  have HB3 := Lib.hid (show B3 X 131 q3 (.string n1) (.bool false) (.int .i64 0) by rw [← hX]; exact B3.new _ _ _ _ _ hq3)
  have HB2 := Lib.hid ((HB2.out.go hT (by omega)).go (Touch.anyB (F := AtB gp) tx) (by omega))
  have HT := Lib.hid (HT.out.same (hT.same (Touch.anyB tx)))
  have HP := Lib.hid (hp.touch tx)
  clear hp hT tx
  subst hX
  have HC := Lib.hid (A61.out _ HP.out)
  go_wp2_with fail
  refine HC.out.mono ?_
  rintro r u1_ ⟨rfl, hp, hT⟩
  have HB3 := Lib.hid (HB3.out.go hT (by omega))
  have HB2 := Lib.hid (HB2.out.go hT (by omega))
  have HT := Lib.hid (HT.out.same hT)
  have HP := Lib.hid hp
  clear hp hT
  have HC := Lib.hid (AY.out u1_ HP.out)
  go_wp2_with fail
  refine HC.out.mono ?_
  rintro r uy ⟨rfl, hp, hT⟩
  have HB3 := Lib.hid (HB3.out.go hT (by omega))
  have HB2 := Lib.hid (HB2.out.go hT (by omega))
  have HT := Lib.hid (HT.out.same hT)
  have HP := Lib.hid hp
  clear hp hT
  have HC := Lib.hid (HN.out uy HP.out)
  go_wp2_with fail
  refine HC.out.mono ?_
  rintro r un ⟨rfl, hp, hT⟩
  have HB3 := Lib.hid (HB3.out.go hT (by omega))
  have HB2 := Lib.hid (HB2.out.go hT (by omega))
  have HT := Lib.hid (HT.out.same hT)
  have HP := Lib.hid hp
  clear hp hT
  obtain ⟨x0, x1, x2, xl⟩ := HB3.out.cells
  obtain ⟨y0, y1, y2⟩ := HB3.out.free
  obtain ⟨V, hV⟩ : ∃ V, (un.setCell ⟨q3, 1, none⟩ (.bool true)).setCell ⟨q3, 2, none⟩ (.int .i64 (v3 : Int)) = V := ⟨_, rfl⟩
  have HP := Lib.hid (show PS2 57 V gp g n cp ts s3 by rw [← hV]; exact PSt.own (HP.out.own (by omega) (by omega)) (by omega) (by omega))
  have hb1 := HB3.out.set1 (.bool true)
  obtain ⟨e0, e1, e2, el⟩ := hb1.cells
  obtain ⟨g0, g1, g2⟩ := hb1.free
  have HB3 := Lib.hid (show B3 V 131 q3 (.string n1) (.bool true) (.int .i64 (v3 : Int)) by rw [← hV]; exact hb1.set2 _)
  have HB2 := Lib.hid (show B3 V 131 w.heap.size (.string ⟨#[]⟩) (.bool false) (.int .i64 0) by rw [← hV]; exact (HB2.out.aside (by omega)).aside (by omega))
  have HT := Lib.hid (show Touch (AtB gp) w V by rw [← hV]; exact (HT.out.setCell (p := ⟨q3, 1, none⟩) (.inr (by simp only; omega)) _).setCell (p := ⟨q3, 2, none⟩) (.inr (by simp only; omega)) _)
  clear hb1
  have HC := Lib.hid (HE.out V HP.out)
  go_wp2_with fail
  refine HC.out.mono ?_
  rintro r ue ⟨rfl, hp, hT⟩
  have HB3 := Lib.hid (HB3.out.go hT (by omega))
  have HB2 := Lib.hid (HB2.out.go hT (by omega))
  have HT := Lib.hid (HT.out.same hT)
  have HP := Lib.hid hp
  clear hp hT
  obtain ⟨p0, p1, p2, pl⟩ := HB3.out.cells
  obtain ⟨z0, z1, z2, zl⟩ := HB2.out.cells
  obtain ⟨f0, f1, f2⟩ := HB2.out.free
  go_wp2
  have hTE := touch3 (F := AtB gp) HT.out (.inr (Nat.le_refl w.heap.size)) (.string n1) (.bool true) (.int .i64 (v3 : Int))
  have hTX := touch3 (F := fun b => b = w.heap.size) (Touch.refl _ ue) (.inl rfl) (.string n1) (.bool true) (.int .i64 (v3 : Int))
  exact bodyPost_ret (v := .agg #[.string n1, .bool true, .int .i64 (v3 : Int)]) (by simp [results, Tryz.results117, go_sem, z0, z1, z2]) rfl ⟨rfl, HP.out.touchX hTX hgp hgl, hTE⟩
theorem change_minus {w : World} {gp g n cp : Nat} {ts : List Tk} {σ : St} (hnk : NumsOk ts) (h : PS2 57 w gp g n cp ts σ) (h61 : isS ts [61] (naS ts σ) = false) (h43 : isS ts [43] (naS ts σ) = false) (h45 : isS ts [45] (naS ts σ) = true) :
    Calls Tryz.prog 117 #[.pointer (some ⟨gp, 0, none⟩)] w fun x w' => x = .returned (.agg #[.string (bs (mkeV ts σ).nm), .bool (mkeV ts σ).add, .int .i64 (mkeV ts σ).n]) ∧ PS2 57 w' gp g n cp ts (mkeS ts σ) ∧ Touch (AtB gp) w w' := by
  have _ := hnk
  obtain ⟨W0, hW0⟩ : ∃ W, w.alloc (.cells #[.string ⟨#[]⟩, .bool false, .int .i64 0] 131) = W := ⟨_, rfl⟩
  have t0 : Touch NoB w W0 := by rw [← hW0]; exact (Touch.refl _ _).alloc _
  have b2 : B3 W0 131 w.heap.size (.string ⟨#[]⟩) (.bool false) (.int .i64 0) := by rw [← hW0]; exact B3.new w _ _ _ _ rfl
  have hgp := blk_lt h.blk
  have hgl := h.tl.lt
  have hs0 : W0.heap.size = w.heap.size + 1 := by rw [← hW0]; simp only [World.size_alloc]
  have HP := Lib.hid (h.touch t0)
  have HB2 := Lib.hid b2
  have HT := Lib.hid (Touch.anyB (F := AtB gp) t0)
  unfold mkeV mkeS
  simp only
  obtain ⟨v1, hv1⟩ : ∃ z, naV ts σ = z := ⟨_, rfl⟩
  obtain ⟨s1, hs1⟩ : ∃ z, naS ts σ = z := ⟨_, rfl⟩
  have H1 := Lib.hid (fun (W : World) (q : PS2 57 W gp g n cp ts σ) => name_st q)
  simp only [hv1, hs1] at *
  simp only [h61, h43, h45, Bool.false_eq_true, if_false, if_true]
  have A61 : Hid (∀ (W : World), PS2 57 W gp g n cp ts s1 → Calls Tryz.prog 80 #[.pointer (some ⟨gp, 0, none⟩), .string ⟨#[61]⟩] W fun x w' => x = .returned (.bool false) ∧ PS2 57 w' gp g n cp ts s1 ∧ Touch (AtB gp) W w') := Lib.hid (fun W q => by have := accept_at (s := [61]) q h61; rwa [acS_no h61] at this)
  have A43 : Hid (∀ (W : World), PS2 57 W gp g n cp ts s1 → Calls Tryz.prog 80 #[.pointer (some ⟨gp, 0, none⟩), .string ⟨#[43]⟩] W fun x w' => x = .returned (.bool false) ∧ PS2 57 w' gp g n cp ts s1 ∧ Touch (AtB gp) W w') := Lib.hid (fun W q => by have := accept_at (s := [43]) q h43; rwa [acS_no h43] at this)
  obtain ⟨s2, hs2⟩ : ∃ z, acS ts [45] s1 = z := ⟨_, rfl⟩
  have AY : Hid (∀ (W : World), PS2 57 W gp g n cp ts s1 → Calls Tryz.prog 80 #[.pointer (some ⟨gp, 0, none⟩), .string ⟨#[45]⟩] W fun x w' => x = .returned (.bool true) ∧ PS2 57 w' gp g n cp ts s2 ∧ Touch (AtB gp) W w') := Lib.hid (fun W q => by rw [← hs2]; exact accept_at (s := [45]) q h45)
  simp only [hs2]
  have HN := Lib.hid (fun (W : World) (q : PS2 57 W gp g n cp ts s2) => number_st q)
  have hmx : nuV ts s2 ≤ 9223372036854775807 := nuV_le hnk _
  obtain ⟨v3, hv3⟩ : ∃ z, nuV ts s2 = z := ⟨_, rfl⟩
  obtain ⟨s3, hs3⟩ : ∃ z, nuS ts s2 = z := ⟨_, rfl⟩
  rw [hv3, hs3] at HN
  rw [hv3] at hmx
  simp only [hv3, hs3]
  have hng : IntKind.i64.wrap (-(v3 : Int)) = -(v3 : Int) := IntWalk.i64_in _ (by omega)
  obtain ⟨s4, hs4⟩ : ∃ z, exS ts [59] s3 = z := ⟨_, rfl⟩
  have HE : Hid (∀ (W : World), PS2 57 W gp g n cp ts s3 → Calls Tryz.prog 83 #[.pointer (some ⟨gp, 0, none⟩), .string ⟨#[59]⟩] W fun x w' => x = .returned (.tuple #[]) ∧ PS2 57 w' gp g n cp ts s4 ∧ Touch (AtB gp) W w') := Lib.hid (fun W q => by rw [← hs4]; exact expect_st (s := [59]) q)
  simp only [hs4]
  obtain ⟨n1, hn1⟩ : ∃ z, bs v1 = z := ⟨_, rfl⟩
  rw [hn1] at H1 ⊢
  clear hn1 hs4 hs3 hs1 hv1 h t0 b2 hnk hs2 hv3
  have HC := Lib.hid (H1.out W0 HP.out)
  go_enter Tryz.func117, Tryz.ntmps117
  go_wp2_with fail
  refine HC.out.mono ?_
  rintro r w1 ⟨rfl, hp, hT⟩
  obtain ⟨X, hX⟩ : ∃ X, w1.alloc (.cells #[.string n1, .bool false, .int .i64 0] 131) = X := ⟨_, rfl⟩
  have tx : Touch NoB w1 X := by rw [← hX]; exact (Touch.refl _ _).alloc _
  obtain ⟨q3, hq3⟩ : ∃ q3, w1.heap.size = q3 := ⟨_, rfl⟩
  have hsq : w.heap.size < q3 := by have := hT.size; omega
  have HB3 := Lib.hid (show B3 X 131 q3 (.string n1) (.bool false) (.int .i64 0) by rw [← hX]; exact B3.new _ _ _ _ _ hq3)
  have HB2 := Lib.hid ((HB2.out.go hT (by omega)).go (Touch.anyB (F := AtB gp) tx) (by omega))
  have HT := Lib.hid (HT.out.same (hT.same (Touch.anyB tx)))
  have HP := Lib.hid (hp.touch tx)
  clear hp hT tx
  subst hX
  have HC := Lib.hid (A61.out _ HP.out)
  go_wp2_with fail
  refine HC.out.mono ?_
  rintro r u1_ ⟨rfl, hp, hT⟩
  have HB3 := Lib.hid (HB3.out.go hT (by omega))
  have HB2 := Lib.hid (HB2.out.go hT (by omega))
  have HT := Lib.hid (HT.out.same hT)
  have HP := Lib.hid hp
  clear hp hT
  have HC := Lib.hid (A43.out u1_ HP.out)
  go_wp2_with fail
  refine HC.out.mono ?_
  rintro r u2_ ⟨rfl, hp, hT⟩
  have HB3 := Lib.hid (HB3.out.go hT (by omega))
  have HB2 := Lib.hid (HB2.out.go hT (by omega))
  have HT := Lib.hid (HT.out.same hT)
  have HP := Lib.hid hp
  clear hp hT
  have HC := Lib.hid (AY.out u2_ HP.out)
  go_wp2_with fail
  refine HC.out.mono ?_
  rintro r uy ⟨rfl, hp, hT⟩
  have HB3 := Lib.hid (HB3.out.go hT (by omega))
  have HB2 := Lib.hid (HB2.out.go hT (by omega))
  have HT := Lib.hid (HT.out.same hT)
  have HP := Lib.hid hp
  clear hp hT
  have HC := Lib.hid (HN.out uy HP.out)
  go_wp2_with fail
  refine HC.out.mono ?_
  rintro r un ⟨rfl, hp, hT⟩
  have HB3 := Lib.hid (HB3.out.go hT (by omega))
  have HB2 := Lib.hid (HB2.out.go hT (by omega))
  have HT := Lib.hid (HT.out.same hT)
  have HP := Lib.hid hp
  clear hp hT
  obtain ⟨x0, x1, x2, xl⟩ := HB3.out.cells
  obtain ⟨y0, y1, y2⟩ := HB3.out.free
  obtain ⟨V, hV⟩ : ∃ V, (un.setCell ⟨q3, 1, none⟩ (.bool true)).setCell ⟨q3, 2, none⟩ (.int .i64 (-(v3 : Int))) = V := ⟨_, rfl⟩
  have HP := Lib.hid (show PS2 57 V gp g n cp ts s3 by rw [← hV]; exact PSt.own (HP.out.own (by omega) (by omega)) (by omega) (by omega))
  have hb1 := HB3.out.set1 (.bool true)
  obtain ⟨e0, e1, e2, el⟩ := hb1.cells
  obtain ⟨g0, g1, g2⟩ := hb1.free
  have HB3 := Lib.hid (show B3 V 131 q3 (.string n1) (.bool true) (.int .i64 (-(v3 : Int))) by rw [← hV]; exact hb1.set2 _)
  have HB2 := Lib.hid (show B3 V 131 w.heap.size (.string ⟨#[]⟩) (.bool false) (.int .i64 0) by rw [← hV]; exact (HB2.out.aside (by omega)).aside (by omega))
  have HT := Lib.hid (show Touch (AtB gp) w V by rw [← hV]; exact (HT.out.setCell (p := ⟨q3, 1, none⟩) (.inr (by simp only; omega)) _).setCell (p := ⟨q3, 2, none⟩) (.inr (by simp only; omega)) _)
  clear hb1
  have HC := Lib.hid (HE.out V HP.out)
  go_wp2_with fail
  refine HC.out.mono ?_
  rintro r ue ⟨rfl, hp, hT⟩
  have HB3 := Lib.hid (HB3.out.go hT (by omega))
  have HB2 := Lib.hid (HB2.out.go hT (by omega))
  have HT := Lib.hid (HT.out.same hT)
  have HP := Lib.hid hp
  clear hp hT
  obtain ⟨p0, p1, p2, pl⟩ := HB3.out.cells
  obtain ⟨z0, z1, z2, zl⟩ := HB2.out.cells
  obtain ⟨f0, f1, f2⟩ := HB2.out.free
  go_wp2
  have hTE := touch3 (F := AtB gp) HT.out (.inr (Nat.le_refl w.heap.size)) (.string n1) (.bool true) (.int .i64 (-(v3 : Int)))
  have hTX := touch3 (F := fun b => b = w.heap.size) (Touch.refl _ ue) (.inl rfl) (.string n1) (.bool true) (.int .i64 (-(v3 : Int)))
  exact bodyPost_ret (v := .agg #[.string n1, .bool true, .int .i64 (-(v3 : Int))]) (by simp [results, Tryz.results117, go_sem, z0, z1, z2]) rfl ⟨rfl, HP.out.touchX hTX hgp hgl, hTE⟩
theorem change_none {w : World} {gp g n cp : Nat} {ts : List Tk} {σ : St} (hnk : NumsOk ts) (h : PS2 57 w gp g n cp ts σ) (h61 : isS ts [61] (naS ts σ) = false) (h43 : isS ts [43] (naS ts σ) = false) (h45 : isS ts [45] (naS ts σ) = false) :
    Calls Tryz.prog 117 #[.pointer (some ⟨gp, 0, none⟩)] w fun x w' => x = .returned (.agg #[.string (bs (mkeV ts σ).nm), .bool (mkeV ts σ).add, .int .i64 (mkeV ts σ).n]) ∧ PS2 57 w' gp g n cp ts (mkeS ts σ) ∧ Touch (AtB gp) w w' := by
  have _ := hnk
  obtain ⟨W0, hW0⟩ : ∃ W, w.alloc (.cells #[.string ⟨#[]⟩, .bool false, .int .i64 0] 131) = W := ⟨_, rfl⟩
  have t0 : Touch NoB w W0 := by rw [← hW0]; exact (Touch.refl _ _).alloc _
  have b2 : B3 W0 131 w.heap.size (.string ⟨#[]⟩) (.bool false) (.int .i64 0) := by rw [← hW0]; exact B3.new w _ _ _ _ rfl
  have hgp := blk_lt h.blk
  have hgl := h.tl.lt
  have hs0 : W0.heap.size = w.heap.size + 1 := by rw [← hW0]; simp only [World.size_alloc]
  have HP := Lib.hid (h.touch t0)
  have HB2 := Lib.hid b2
  have HT := Lib.hid (Touch.anyB (F := AtB gp) t0)
  unfold mkeV mkeS
  simp only
  obtain ⟨v1, hv1⟩ : ∃ z, naV ts σ = z := ⟨_, rfl⟩
  obtain ⟨s1, hs1⟩ : ∃ z, naS ts σ = z := ⟨_, rfl⟩
  have H1 := Lib.hid (fun (W : World) (q : PS2 57 W gp g n cp ts σ) => name_st q)
  simp only [hv1, hs1] at *
  simp only [h61, h43, h45, Bool.false_eq_true, if_false]
  have A61 : Hid (∀ (W : World), PS2 57 W gp g n cp ts s1 → Calls Tryz.prog 80 #[.pointer (some ⟨gp, 0, none⟩), .string ⟨#[61]⟩] W fun x w' => x = .returned (.bool false) ∧ PS2 57 w' gp g n cp ts s1 ∧ Touch (AtB gp) W w') := Lib.hid (fun W q => by have := accept_at (s := [61]) q h61; rwa [acS_no h61] at this)
  have A43 : Hid (∀ (W : World), PS2 57 W gp g n cp ts s1 → Calls Tryz.prog 80 #[.pointer (some ⟨gp, 0, none⟩), .string ⟨#[43]⟩] W fun x w' => x = .returned (.bool false) ∧ PS2 57 w' gp g n cp ts s1 ∧ Touch (AtB gp) W w') := Lib.hid (fun W q => by have := accept_at (s := [43]) q h43; rwa [acS_no h43] at this)
  have A45 : Hid (∀ (W : World), PS2 57 W gp g n cp ts s1 → Calls Tryz.prog 80 #[.pointer (some ⟨gp, 0, none⟩), .string ⟨#[45]⟩] W fun x w' => x = .returned (.bool false) ∧ PS2 57 w' gp g n cp ts s1 ∧ Touch (AtB gp) W w') := Lib.hid (fun W q => by have := accept_at (s := [45]) q h45; rwa [acS_no h45] at this)
  have HN := Lib.hid (fun (W : World) (q : PS2 57 W gp g n cp ts s1) => fail_st q 2)
  obtain ⟨s3, hs3⟩ : ∃ z, failS 2 s1 = z := ⟨_, rfl⟩
  rw [hs3] at HN
  simp only [hs3]
  obtain ⟨s4, hs4⟩ : ∃ z, exS ts [59] s3 = z := ⟨_, rfl⟩
  have HE : Hid (∀ (W : World), PS2 57 W gp g n cp ts s3 → Calls Tryz.prog 83 #[.pointer (some ⟨gp, 0, none⟩), .string ⟨#[59]⟩] W fun x w' => x = .returned (.tuple #[]) ∧ PS2 57 w' gp g n cp ts s4 ∧ Touch (AtB gp) W w') := Lib.hid (fun W q => by rw [← hs4]; exact expect_st (s := [59]) q)
  simp only [hs4]
  obtain ⟨n1, hn1⟩ : ∃ z, bs v1 = z := ⟨_, rfl⟩
  rw [hn1] at H1 ⊢
  clear hn1 hs4 hs3 hs1 hv1 h t0 b2 hnk
  have HC := Lib.hid (H1.out W0 HP.out)
  go_enter Tryz.func117, Tryz.ntmps117
  go_wp2_with fail
  refine HC.out.mono ?_
  rintro r w1 ⟨rfl, hp, hT⟩
  obtain ⟨X, hX⟩ : ∃ X, w1.alloc (.cells #[.string n1, .bool false, .int .i64 0] 131) = X := ⟨_, rfl⟩
  have tx : Touch NoB w1 X := by rw [← hX]; exact (Touch.refl _ _).alloc _
  obtain ⟨q3, hq3⟩ : ∃ q3, w1.heap.size = q3 := ⟨_, rfl⟩
  have hsq : w.heap.size < q3 := by have := hT.size; omega
  have HB3 := Lib.hid (show B3 X 131 q3 (.string n1) (.bool false) (.int .i64 0) by rw [← hX]; exact B3.new _ _ _ _ _ hq3)
  have HB2 := Lib.hid ((HB2.out.go hT (by omega)).go (Touch.anyB (F := AtB gp) tx) (by omega))
  have HT := Lib.hid (HT.out.same (hT.same (Touch.anyB tx)))
  have HP := Lib.hid (hp.touch tx)
  clear hp hT tx
  subst hX
  have HC := Lib.hid (A61.out _ HP.out)
  go_wp2_with fail
  refine HC.out.mono ?_
  rintro r u1_ ⟨rfl, hp, hT⟩
  have HB3 := Lib.hid (HB3.out.go hT (by omega))
  have HB2 := Lib.hid (HB2.out.go hT (by omega))
  have HT := Lib.hid (HT.out.same hT)
  have HP := Lib.hid hp
  clear hp hT
  have HC := Lib.hid (A43.out u1_ HP.out)
  go_wp2_with fail
  refine HC.out.mono ?_
  rintro r u2_ ⟨rfl, hp, hT⟩
  have HB3 := Lib.hid (HB3.out.go hT (by omega))
  have HB2 := Lib.hid (HB2.out.go hT (by omega))
  have HT := Lib.hid (HT.out.same hT)
  have HP := Lib.hid hp
  clear hp hT
  have HC := Lib.hid (A45.out u2_ HP.out)
  go_wp2_with fail
  refine HC.out.mono ?_
  rintro r u3_ ⟨rfl, hp, hT⟩
  have HB3 := Lib.hid (HB3.out.go hT (by omega))
  have HB2 := Lib.hid (HB2.out.go hT (by omega))
  have HT := Lib.hid (HT.out.same hT)
  have HP := Lib.hid hp
  clear hp hT
  have HC := Lib.hid (HN.out u3_ HP.out)
  go_wp2_with fail
  refine HC.out.mono ?_
  rintro r un ⟨rfl, hp, hT⟩
  have HB3 := Lib.hid (HB3.out.go hT (by omega))
  have HB2 := Lib.hid (HB2.out.go hT (by omega))
  have HT := Lib.hid (HT.out.same hT)
  have HP := Lib.hid hp
  clear hp hT
  have HC := Lib.hid (HE.out un HP.out)
  go_wp2_with fail
  refine HC.out.mono ?_
  rintro r ue ⟨rfl, hp, hT⟩
  have HB3 := Lib.hid (HB3.out.go hT (by omega))
  have HB2 := Lib.hid (HB2.out.go hT (by omega))
  have HT := Lib.hid (HT.out.same hT)
  have HP := Lib.hid hp
  clear hp hT
  obtain ⟨p0, p1, p2, pl⟩ := HB3.out.cells
  obtain ⟨z0, z1, z2, zl⟩ := HB2.out.cells
  obtain ⟨f0, f1, f2⟩ := HB2.out.free
  go_wp2
  have hTE := touch3 (F := AtB gp) HT.out (.inr (Nat.le_refl w.heap.size)) (.string n1) (.bool false) (.int .i64 0)
  have hTX := touch3 (F := fun b => b = w.heap.size) (Touch.refl _ ue) (.inl rfl) (.string n1) (.bool false) (.int .i64 0)
  exact bodyPost_ret (v := .agg #[.string n1, .bool false, .int .i64 0]) (by simp [results, Tryz.results117, go_sem, z0, z1, z2]) rfl ⟨rfl, HP.out.touchX hTX hgp hgl, hTE⟩
theorem change_st {w : World} {gp g n cp : Nat} {ts : List Tk} {σ : St} (hnk : NumsOk ts) (h : PS2 57 w gp g n cp ts σ) :
    Calls Tryz.prog 117 #[.pointer (some ⟨gp, 0, none⟩)] w fun x w' => x = .returned (.agg #[.string (bs (mkeV ts σ).nm), .bool (mkeV ts σ).add, .int .i64 (mkeV ts σ).n]) ∧ PS2 57 w' gp g n cp ts (mkeS ts σ) ∧ Touch (AtB gp) w w' := by
  cases h61 : isS ts [61] (naS ts σ)
  · cases h43 : isS ts [43] (naS ts σ)
    · cases h45 : isS ts [45] (naS ts σ)
      · exact change_none hnk h h61 h43 h45
      · exact change_minus hnk h h61 h43 h45
    · exact change_plus hnk h h61 h43
  · exact change_eq hnk h h61
end Go.Proofs.YtkmbobfjoaldgaaGreatDoor
