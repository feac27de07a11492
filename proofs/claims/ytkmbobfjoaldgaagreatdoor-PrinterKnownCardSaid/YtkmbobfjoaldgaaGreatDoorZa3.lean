/-
  What package tree's head does with a parser in memory, kind by kind. Conditions: the table of levels can be read; names and numbers among the tokens are such.
-/
import Derived.Test.YtkmbobfjoaldgaaGreatDoorZa2
import Derived.Test.YtkmbobfjoaldgaaGreatDoorQg
import Derived.Deep.RegionLaw
namespace Go.Proofs.YtkmbobfjoaldgaaGreatDoor
open Go.ChangeShapes Go.WideShapes Go.ChangeAt Go.RowKit
set_option maxRecDepth 100000
set_option maxHeartbeats 4000000

/-- What a node's head holds. -/
structure Hd where
  a : Nat
  b : Nat
  nm : Bs
  ex : Ex
def hd0 : Hd := ⟨0, 0, [], .leaf 0 0 []⟩
/-- .. of a kind, and the state behind it. -/
def headT (ts : List Tk) (kd : Nat) (s : St) : Hd × St :=
  if kd = 4 then (⟨nuV ts s, nuV ts (nuS ts s), [], .leaf 0 0 []⟩, nuS ts (nuS ts s))
  else if kd = 6 then (⟨nuV ts s, 0, [], .leaf 0 0 []⟩, nuS ts s)
  else if kd = 7 then (⟨0, 0, [], eqV ts s⟩, eqS ts s)
  else if kd = 8 then (⟨0, 0, naV ts s, eqV ts (exS ts [58, 61] (naS ts s))⟩, eqS ts (exS ts [58, 61] (naS ts s)))
  else if kd = 9 ∨ kd = 10 ∨ kd = 12 then (⟨0, 0, naV ts s, .leaf 0 0 []⟩, naS ts s)
  else (hd0, s)
def headE (ts : List Tk) (kd : Nat) (s : St) : St := if mostL kd = 0 then exS ts [59] s else if 1 < mostL kd then exS ts [123] s else s
def headK (ts : List Tk) (σ : St) : Nat := choV ts nodeW σ
def headV (ts : List Tk) (σ : St) : Hd := (headT ts (headK ts σ) (choS ts nodeW σ)).1
def headS (ts : List Tk) (σ : St) : St := headE ts (headK ts σ) (headT ts (headK ts σ) (choS ts nodeW σ)).2
theorem choF_lt {ts : List Tk} {σ : St} : ∀ (ws : List Bs) (d i : Nat), choF ts σ ws d = some i → i < d + ws.length
  | [], d, i, h => by cases h
  | a :: r, d, i, h => by
    unfold choF at h
    split at h
    · injection h with h; subst h; simp only [List.length_cons]; omega
    · have := choF_lt r (d + 1) i h; simp only [List.length_cons]; omega
theorem headK_le (ts : List Tk) (σ : St) : headK ts σ ≤ 15 := by
  unfold headK choV
  cases h : choF ts σ nodeW 0 with
  | none => simp
  | some i => have := choF_lt nodeW 0 i h; simp only [Option.getD_some]; simp [nodeW] at this; omega
def HdPost (w : World) (gp g n cp : Nat) (ts : List Tk) (kd : Nat) (h : Hd) (st : St) (x : Ending) (w' : World) : Prop := ∃ (a b : Int) (s : ByteArray) (A : Option Addr) (m c : Nat),
  x = .returned (.agg #[.int .i64 (kd : Int), .int .i64 (h.a : Int), .int .i64 (h.b : Int), .string (bs h.nm), .int .i64 a, .int .i64 b, .string s, .slice A m c, .slice none 0 0, .slice none 0 0]) ∧
  ET w' (fun b => w.heap.size ≤ b) h.ex a b s A m c ∧ PS2 57 w' gp g n cp ts st ∧ Touch (AtB gp) w w'
/-- A node in a block of its own. -/
def NB (w : World) (q : Nat) (v0 v1 v2 v3 v4 v5 v6 v7 v8 v9 : Value) : Prop := w.heap[q]? = some (.cells #[v0, v1, v2, v3, v4, v5, v6, v7, v8, v9] 47 (0, 0))
theorem NB.go {w w' : World} {gp q : Nat} {v0 v1 v2 v3 v4 v5 v6 v7 v8 v9 : Value} (h : NB w q v0 v1 v2 v3 v4 v5 v6 v7 v8 v9) (t : Touch (AtB gp) w w') (hne : q ≠ gp) : NB w' q v0 v1 v2 v3 v4 v5 v6 v7 v8 v9 := (t.block q (blk_lt h) hne).trans h
theorem NB.new (w : World) (v0 v1 v2 v3 v4 v5 v6 v7 v8 v9 : Value) {N : Nat} (hN : w.heap.size = N) : NB (w.alloc (.cells #[v0, v1, v2, v3, v4, v5, v6, v7, v8, v9] 47)) N v0 v1 v2 v3 v4 v5 v6 v7 v8 v9 := alloc_blk _ _ _ hN
theorem NB.aside {w : World} {q p i : Nat} {v v0 v1 v2 v3 v4 v5 v6 v7 v8 v9 : Value} (h : NB w q v0 v1 v2 v3 v4 v5 v6 v7 v8 v9) (hne : q ≠ p) : NB (w.setCell ⟨p, i, none⟩ v) q v0 v1 v2 v3 v4 v5 v6 v7 v8 v9 :=
  (((Touch.refl (fun b => b = p) w).setCell (p := ⟨p, i, none⟩) (.inl rfl) v).block q (blk_lt h) hne).trans h
theorem NB.cells {w : World} {q : Nat} {v0 v1 v2 v3 v4 v5 v6 v7 v8 v9 : Value} (h : NB w q v0 v1 v2 v3 v4 v5 v6 v7 v8 v9) : w.cell? ⟨q, 0, none⟩ = some v0 ∧ w.cell? ⟨q, 1, none⟩ = some v1 ∧ w.cell? ⟨q, 2, none⟩ = some v2 ∧ w.cell? ⟨q, 3, none⟩ = some v3 ∧ w.cell? ⟨q, 4, none⟩ = some v4 ∧ w.cell? ⟨q, 5, none⟩ = some v5 ∧ w.cell? ⟨q, 6, none⟩ = some v6 ∧ w.cell? ⟨q, 7, none⟩ = some v7 ∧ w.cell? ⟨q, 8, none⟩ = some v8 ∧ w.cell? ⟨q, 9, none⟩ = some v9 ∧ q < w.heap.size :=
  ⟨cell_blk h 0, cell_blk h 1, cell_blk h 2, cell_blk h 3, cell_blk h 4, cell_blk h 5, cell_blk h 6, cell_blk h 7, cell_blk h 8, cell_blk h 9, blk_lt h⟩
theorem NB.free {w : World} {q : Nat} {v0 v1 v2 v3 v4 v5 v6 v7 v8 v9 : Value} (h : NB w q v0 v1 v2 v3 v4 v5 v6 v7 v8 v9) : w.frozen? ⟨q, 0, none⟩ = false ∧ w.frozen? ⟨q, 1, none⟩ = false ∧ w.frozen? ⟨q, 2, none⟩ = false ∧ w.frozen? ⟨q, 3, none⟩ = false ∧ w.frozen? ⟨q, 4, none⟩ = false ∧ w.frozen? ⟨q, 5, none⟩ = false ∧ w.frozen? ⟨q, 6, none⟩ = false ∧ w.frozen? ⟨q, 7, none⟩ = false ∧ w.frozen? ⟨q, 8, none⟩ = false ∧ w.frozen? ⟨q, 9, none⟩ = false :=
  ⟨free_blk h 0, free_blk h 1, free_blk h 2, free_blk h 3, free_blk h 4, free_blk h 5, free_blk h 6, free_blk h 7, free_blk h 8, free_blk h 9⟩
theorem ET.own {w : World} {Q : Nat → Prop} {q i : Nat} {v : Value} {x : Ex} {a b : Int} {s : ByteArray} {A : Option Addr} {m c : Nat} (h : ET w Q x a b s A m c) (hq : ¬ Q q) : ET (w.setCell ⟨q, i, none⟩ v) Q x a b s A m c :=
  h.aside ((Touch.refl (fun b => b = q) w).setCell (p := ⟨q, i, none⟩) (.inl rfl) v) hq
theorem head_G4 {w : World} {gp g n cp B : Nat} {ts : List Tk} {σ : St} (hok : NamesOk ts) (hnk : NumsOk ts) (hv : LV w B) (hB : B ≤ gp) (h : PS2 57 w gp g n cp ts σ) {kd : Nat} (hk : headK ts σ = kd) (hg : kd = 4) :
    Calls Tryz.prog 113 #[.pointer (some ⟨gp, 0, none⟩)] w (HdPost w gp g n cp ts kd (headV ts σ) (headS ts σ)) := by
  have _ := hok; have _ := hnk; have _ := hv; have _ := hB
  have hk15 : kd ≤ 15 := by rw [← hk]; exact headK_le ts σ
  have hmo : mostL kd = 16 := by unfold mostL; rw [if_pos (by omega)]
  have hMK := fun w => mostkids_any kd hk15 w
  rw [hmo] at hMK
  unfold headV headS headE headT
  rw [hk, hmo]
  rw [if_pos (show kd = 4 by omega)]
  simp only [show ¬ (16 : Nat) = 0 from by decide, show (1 : Nat) < 16 from by decide, if_false, if_true]
  have e4 : ((kd : Int) == 4) = true := by simp; omega
  have e6 : ((kd : Int) == 6) = false := by simp; omega
  have e7 : ((kd : Int) == 7) = false := by simp; omega
  have e8 : ((kd : Int) == 8) = false := by simp; omega
  have e9 : ((kd : Int) == 9) = false := by simp; omega
  have e10 : ((kd : Int) == 10) = false := by simp; omega
  have e12 : ((kd : Int) == 12) = false := by simp; omega
  obtain ⟨W0, hW0⟩ : ∃ W, w.alloc (.cells #[.int .i64 0, .int .i64 0, .int .i64 0, .string ⟨#[]⟩, .int .i64 0, .int .i64 0, .string ⟨#[]⟩, .slice none 0 0, .slice none 0 0, .slice none 0 0] 47) = W := ⟨_, rfl⟩
  have t0 : Touch NoB w W0 := by rw [← hW0]; exact (Touch.refl _ _).alloc _
  have b2 : NB W0 w.heap.size (.int .i64 0) (.int .i64 0) (.int .i64 0) (.string ⟨#[]⟩) (.int .i64 0) (.int .i64 0) (.string ⟨#[]⟩) (.slice none 0 0) (.slice none 0 0) (.slice none 0 0) := by rw [← hW0]; exact NB.new w _ _ _ _ _ _ _ _ _ _ rfl
  have hgp := blk_lt h.blk
  have hgl := h.tl.lt
  have hs0 : W0.heap.size = w.heap.size + 1 := by rw [← hW0]; simp only [World.size_alloc]
  have HP := Lib.hid (h.touch t0)
  have HB2 := Lib.hid b2
  have HT := Lib.hid (Touch.anyB (F := AtB gp) t0)
  have HV := Lib.hid (And.intro hv hB)
  have HM := Lib.hid hMK
  have H1 := Lib.hid (fun (W : World) (q : PS2 57 W gp g n cp ts σ) (b : Nat) (hw : WdAt W b 16 nodeW) => choice_st q hw)
  have HN := Lib.hid nodes_any
  have hk' : choV ts nodeW σ = kd := hk
  obtain ⟨s1, hs1⟩ : ∃ z, choS ts nodeW σ = z := ⟨_, rfl⟩
  rw [hk', hs1] at H1
  simp only [hs1]
  obtain ⟨va, hva⟩ : ∃ z, nuV ts s1 = z := ⟨_, rfl⟩
  obtain ⟨s2, hs2⟩ : ∃ z, nuS ts s1 = z := ⟨_, rfl⟩
  have H2 := Lib.hid (fun (W : World) (q : PS2 57 W gp g n cp ts s1) => number_st q)
  rw [hva, hs2] at H2
  simp only [hva, hs2]
  obtain ⟨vb, hvb⟩ : ∃ z, nuV ts s2 = z := ⟨_, rfl⟩
  obtain ⟨s3, hs3⟩ : ∃ z, nuS ts s2 = z := ⟨_, rfl⟩
  have H3 := Lib.hid (fun (W : World) (q : PS2 57 W gp g n cp ts s2) => number_st q)
  rw [hvb, hs3] at H3
  simp only [hvb, hs3]
  obtain ⟨s4, hs4⟩ : ∃ z, exS ts [123] s3 = z := ⟨_, rfl⟩
  have H4 : Hid (∀ (W : World), PS2 57 W gp g n cp ts s3 → Calls Tryz.prog 83 #[.pointer (some ⟨gp, 0, none⟩), .string ⟨#[123]⟩] W fun x w' => x = .returned (.tuple #[]) ∧ PS2 57 w' gp g n cp ts s4 ∧ Touch (AtB gp) W w') := Lib.hid (fun W q => by rw [← hs4]; exact expect_st (s := [123]) q)
  simp only [hs4]
  unfold HdPost
  clear hs4 hs3 hvb hs2 hva hs1 hk hk' h t0 b2 hok hnk hv hB hMK hmo hg hk15
  go_enter Tryz.func113, Tryz.ntmps113
  go_wp2_with fail
  refine (HN.out _).mono ?_
  rintro r X0 ⟨r0, rfl, hw0, tx0⟩
  have hs0 : w.heap.size + 1 ≤ X0.heap.size := by have := tx0.size; omega
  have HB2 := Lib.hid (HB2.out.go (Touch.anyB (F := AtB gp) tx0) (by omega))
  have HT := Lib.hid (HT.out.same (Touch.anyB (F := AtB gp) tx0))
  have HC := Lib.hid (H1.out X0 (HP.out.touch tx0) r0 hw0)
  clear hw0 tx0
  go_wp2_with fail
  refine HC.out.mono ?_
  rintro r w1 ⟨rfl, hp, hT⟩
  obtain ⟨X, hX⟩ : ∃ X, w1.alloc (.cells #[.int .i64 (kd : Int), .int .i64 0, .int .i64 0, .string ⟨#[]⟩, .int .i64 0, .int .i64 0, .string ⟨#[]⟩, .slice none 0 0, .slice none 0 0, .slice none 0 0] 47) = X := ⟨_, rfl⟩
  have tx : Touch NoB w1 X := by rw [← hX]; exact (Touch.refl _ _).alloc _
  obtain ⟨q3, hq3⟩ : ∃ q3, w1.heap.size = q3 := ⟨_, rfl⟩
  have hsq : w.heap.size < q3 := by have := hT.size; omega
  have HB3 := Lib.hid (show NB X q3 (.int .i64 (kd : Int)) (.int .i64 0) (.int .i64 0) (.string ⟨#[]⟩) (.int .i64 0) (.int .i64 0) (.string ⟨#[]⟩) (.slice none 0 0) (.slice none 0 0) (.slice none 0 0) by rw [← hX]; exact NB.new _ _ _ _ _ _ _ _ _ _ _ hq3)
  have HB2 := Lib.hid ((HB2.out.go hT (by omega)).go (Touch.anyB (F := AtB gp) tx) (by omega))
  have HT := Lib.hid (HT.out.same (hT.same (Touch.anyB tx)))
  have HP := Lib.hid (hp.touch tx)
  obtain ⟨i0, i1, i2, i3, i4, i5, i6, i7, i8, i9, il⟩ := HB3.out.cells
  clear hp hT tx
  subst hX
  have HC := Lib.hid (H2.out _ HP.out)
  go_wp2_with fail
  refine HC.out.mono ?_
  rintro r w2 ⟨rfl, hp, hT⟩
  clear i0 i1 i2 i3 i4 i5 i6 i7 i8 i9 il
  try clear a0 a1 a2 a3 a4 a5 a6 a7 a8 a9 al y0 y1 y2 y3 y4 y5 y6 y7 y8 y9
  have HB3 := Lib.hid (HB3.out.go hT (by omega))
  have HB2 := Lib.hid (HB2.out.go hT (by omega))
  have HT := Lib.hid (HT.out.same hT)
  have HP := Lib.hid hp
  clear hp hT
  obtain ⟨i0, i1, i2, i3, i4, i5, i6, i7, i8, i9, il⟩ := HB3.out.cells
  obtain ⟨y0, y1, y2, y3, y4, y5, y6, y7, y8, y9⟩ := HB3.out.free
  obtain ⟨a0, a1, a2, a3, a4, a5, a6, a7, a8, a9, al⟩ := HB3.out.cells
  clear i0 i1 i2 i3 i4 i5 i6 i7 i8 i9 il
  obtain ⟨V2, hV2⟩ : ∃ V, (w2).setCell ⟨q3, 1, none⟩ (.int .i64 (va : Int)) = V := ⟨_, rfl⟩
  have HB3 := Lib.hid (show NB V2 q3 (.int .i64 (kd : Int)) (.int .i64 (va : Int)) (.int .i64 0) (.string ⟨#[]⟩) (.int .i64 0) (.int .i64 0) (.string ⟨#[]⟩) (.slice none 0 0) (.slice none 0 0) (.slice none 0 0) by rw [← hV2]; exact set_blk (HB3.out) 1 (.int .i64 (va : Int)))
  have HB2 := Lib.hid (show NB V2 w.heap.size (.int .i64 0) (.int .i64 0) (.int .i64 0) (.string ⟨#[]⟩) (.int .i64 0) (.int .i64 0) (.string ⟨#[]⟩) (.slice none 0 0) (.slice none 0 0) (.slice none 0 0) by rw [← hV2]; exact (NB.aside (HB2.out) (by omega)))
  have HP := Lib.hid (show PS2 57 V2 gp g n cp ts s2 by rw [← hV2]; exact (PSt.own HP.out (by omega) (by omega)))
  have HT := Lib.hid (show Touch (AtB gp) w V2 by rw [← hV2]; exact (Touch.setCell HT.out (p := ⟨q3, 1, none⟩) (.inr (by simp only; omega)) (.int .i64 (va : Int))))
  obtain ⟨i0, i1, i2, i3, i4, i5, i6, i7, i8, i9, il⟩ := HB3.out.cells
  have HC := Lib.hid (H3.out _ HP.out)
  go_wp2_with fail
  refine HC.out.mono ?_
  rintro r w3 ⟨rfl, hp, hT⟩
  clear i0 i1 i2 i3 i4 i5 i6 i7 i8 i9 il
  try clear a0 a1 a2 a3 a4 a5 a6 a7 a8 a9 al y0 y1 y2 y3 y4 y5 y6 y7 y8 y9
  have HB3 := Lib.hid (HB3.out.go hT (by omega))
  have HB2 := Lib.hid (HB2.out.go hT (by omega))
  have HT := Lib.hid (HT.out.same hT)
  have HP := Lib.hid hp
  clear hp hT
  obtain ⟨i0, i1, i2, i3, i4, i5, i6, i7, i8, i9, il⟩ := HB3.out.cells
  obtain ⟨y0, y1, y2, y3, y4, y5, y6, y7, y8, y9⟩ := HB3.out.free
  obtain ⟨a0, a1, a2, a3, a4, a5, a6, a7, a8, a9, al⟩ := HB3.out.cells
  clear i0 i1 i2 i3 i4 i5 i6 i7 i8 i9 il
  obtain ⟨V3, hV3⟩ : ∃ V, (w3).setCell ⟨q3, 2, none⟩ (.int .i64 (vb : Int)) = V := ⟨_, rfl⟩
  have HB3 := Lib.hid (show NB V3 q3 (.int .i64 (kd : Int)) (.int .i64 (va : Int)) (.int .i64 (vb : Int)) (.string ⟨#[]⟩) (.int .i64 0) (.int .i64 0) (.string ⟨#[]⟩) (.slice none 0 0) (.slice none 0 0) (.slice none 0 0) by rw [← hV3]; exact set_blk (HB3.out) 2 (.int .i64 (vb : Int)))
  have HB2 := Lib.hid (show NB V3 w.heap.size (.int .i64 0) (.int .i64 0) (.int .i64 0) (.string ⟨#[]⟩) (.int .i64 0) (.int .i64 0) (.string ⟨#[]⟩) (.slice none 0 0) (.slice none 0 0) (.slice none 0 0) by rw [← hV3]; exact (NB.aside (HB2.out) (by omega)))
  have HP := Lib.hid (show PS2 57 V3 gp g n cp ts s3 by rw [← hV3]; exact (PSt.own HP.out (by omega) (by omega)))
  have HT := Lib.hid (show Touch (AtB gp) w V3 by rw [← hV3]; exact (Touch.setCell HT.out (p := ⟨q3, 2, none⟩) (.inr (by simp only; omega)) (.int .i64 (vb : Int))))
  obtain ⟨i0, i1, i2, i3, i4, i5, i6, i7, i8, i9, il⟩ := HB3.out.cells
  go_wp2_with fail
  refine (HM.out _).mono ?_
  rintro r wm ⟨rfl, rfl⟩
  have HC := Lib.hid (H4.out _ HP.out)
  go_wp2_with fail
  refine HC.out.mono ?_
  rintro r we ⟨rfl, hp, hT⟩
  clear i0 i1 i2 i3 i4 i5 i6 i7 i8 i9 il
  try clear a0 a1 a2 a3 a4 a5 a6 a7 a8 a9 al y0 y1 y2 y3 y4 y5 y6 y7 y8 y9
  have HB3 := Lib.hid (HB3.out.go hT (by omega))
  have HB2 := Lib.hid (HB2.out.go hT (by omega))
  have HT := Lib.hid (HT.out.same hT)
  have HP := Lib.hid hp
  clear hp hT
  obtain ⟨i0, i1, i2, i3, i4, i5, i6, i7, i8, i9, il⟩ := HB3.out.cells
  obtain ⟨z0, z1, z2, z3, z4, z5, z6, z7, z8, z9, zl⟩ := HB2.out.cells
  obtain ⟨f0, f1, f2, f3, f4, f5, f6, f7, f8, f9⟩ := HB2.out.free
  go_wp2
  have hTE := fun (W : World) (hW : Touch (AtB gp) w W) (i : Nat) (v : Value) => hW.setCell (p := ⟨w.heap.size, i, none⟩) (.inr (Nat.le_refl w.heap.size)) v
  have hTP := fun (W : World) (hW : PS2 57 W gp g n cp ts s4) (i : Nat) (v : Value) => (PSt.own (q := w.heap.size) (i := i) (v := v) hW hgp hgl : PS2 57 (W.setCell ⟨w.heap.size, i, none⟩ v) gp g n cp ts s4)
  refine bodyPost_ret (v := .agg #[.int .i64 (kd : Int), .int .i64 (va : Int), .int .i64 (vb : Int), .string ⟨#[]⟩, .int .i64 0, .int .i64 0, .string ⟨#[]⟩, .slice none 0 0, .slice none 0 0, .slice none 0 0]) (by simp [results, Tryz.results113, go_sem, z0, z1, z2, z3, z4, z5, z6, z7, z8, z9]) rfl ⟨0, 0, ⟨#[]⟩, none, 0, 0, by rfl, ?_, ?_, ?_⟩
  · exact ⟨rfl, rfl, rfl, rfl, rfl, rfl⟩
  · iterate 10 (refine hTP _ ?_ _ _)
    exact HP.out
  · iterate 10 (refine hTE _ ?_ _ _)
    exact HT.out
theorem head_G6 {w : World} {gp g n cp B : Nat} {ts : List Tk} {σ : St} (hok : NamesOk ts) (hnk : NumsOk ts) (hv : LV w B) (hB : B ≤ gp) (h : PS2 57 w gp g n cp ts σ) {kd : Nat} (hk : headK ts σ = kd) (hg : kd = 6) :
    Calls Tryz.prog 113 #[.pointer (some ⟨gp, 0, none⟩)] w (HdPost w gp g n cp ts kd (headV ts σ) (headS ts σ)) := by
  have _ := hok; have _ := hnk; have _ := hv; have _ := hB
  have hk15 : kd ≤ 15 := by rw [← hk]; exact headK_le ts σ
  have hmo : mostL kd = 1 := by unfold mostL; rw [if_neg (by omega), if_pos (by omega)]
  have hMK := fun w => mostkids_any kd hk15 w
  rw [hmo] at hMK
  unfold headV headS headE headT
  rw [hk, hmo]
  rw [if_neg (show ¬ (kd = 4) by omega)]
  rw [if_pos (show kd = 6 by omega)]
  simp only [show ¬ (1 : Nat) = 0 from by decide, show ¬ (1 : Nat) < 1 from by decide, if_false]
  have e4 : ((kd : Int) == 4) = false := by simp; omega
  have e6 : ((kd : Int) == 6) = true := by simp; omega
  have e7 : ((kd : Int) == 7) = false := by simp; omega
  have e8 : ((kd : Int) == 8) = false := by simp; omega
  have e9 : ((kd : Int) == 9) = false := by simp; omega
  have e10 : ((kd : Int) == 10) = false := by simp; omega
  have e12 : ((kd : Int) == 12) = false := by simp; omega
  obtain ⟨W0, hW0⟩ : ∃ W, w.alloc (.cells #[.int .i64 0, .int .i64 0, .int .i64 0, .string ⟨#[]⟩, .int .i64 0, .int .i64 0, .string ⟨#[]⟩, .slice none 0 0, .slice none 0 0, .slice none 0 0] 47) = W := ⟨_, rfl⟩
  have t0 : Touch NoB w W0 := by rw [← hW0]; exact (Touch.refl _ _).alloc _
  have b2 : NB W0 w.heap.size (.int .i64 0) (.int .i64 0) (.int .i64 0) (.string ⟨#[]⟩) (.int .i64 0) (.int .i64 0) (.string ⟨#[]⟩) (.slice none 0 0) (.slice none 0 0) (.slice none 0 0) := by rw [← hW0]; exact NB.new w _ _ _ _ _ _ _ _ _ _ rfl
  have hgp := blk_lt h.blk
  have hgl := h.tl.lt
  have hs0 : W0.heap.size = w.heap.size + 1 := by rw [← hW0]; simp only [World.size_alloc]
  have HP := Lib.hid (h.touch t0)
  have HB2 := Lib.hid b2
  have HT := Lib.hid (Touch.anyB (F := AtB gp) t0)
  have HV := Lib.hid (And.intro hv hB)
  have HM := Lib.hid hMK
  have H1 := Lib.hid (fun (W : World) (q : PS2 57 W gp g n cp ts σ) (b : Nat) (hw : WdAt W b 16 nodeW) => choice_st q hw)
  have HN := Lib.hid nodes_any
  have hk' : choV ts nodeW σ = kd := hk
  obtain ⟨s1, hs1⟩ : ∃ z, choS ts nodeW σ = z := ⟨_, rfl⟩
  rw [hk', hs1] at H1
  simp only [hs1]
  obtain ⟨va, hva⟩ : ∃ z, nuV ts s1 = z := ⟨_, rfl⟩
  obtain ⟨s2, hs2⟩ : ∃ z, nuS ts s1 = z := ⟨_, rfl⟩
  have H2 := Lib.hid (fun (W : World) (q : PS2 57 W gp g n cp ts s1) => number_st q)
  rw [hva, hs2] at H2
  simp only [hva, hs2]
  unfold HdPost
  clear hs2 hva hs1 hk hk' h t0 b2 hok hnk hv hB hMK hmo hg hk15
  go_enter Tryz.func113, Tryz.ntmps113
  go_wp2_with fail
  refine (HN.out _).mono ?_
  rintro r X0 ⟨r0, rfl, hw0, tx0⟩
  have hs0 : w.heap.size + 1 ≤ X0.heap.size := by have := tx0.size; omega
  have HB2 := Lib.hid (HB2.out.go (Touch.anyB (F := AtB gp) tx0) (by omega))
  have HT := Lib.hid (HT.out.same (Touch.anyB (F := AtB gp) tx0))
  have HC := Lib.hid (H1.out X0 (HP.out.touch tx0) r0 hw0)
  clear hw0 tx0
  go_wp2_with fail
  refine HC.out.mono ?_
  rintro r w1 ⟨rfl, hp, hT⟩
  obtain ⟨X, hX⟩ : ∃ X, w1.alloc (.cells #[.int .i64 (kd : Int), .int .i64 0, .int .i64 0, .string ⟨#[]⟩, .int .i64 0, .int .i64 0, .string ⟨#[]⟩, .slice none 0 0, .slice none 0 0, .slice none 0 0] 47) = X := ⟨_, rfl⟩
  have tx : Touch NoB w1 X := by rw [← hX]; exact (Touch.refl _ _).alloc _
  obtain ⟨q3, hq3⟩ : ∃ q3, w1.heap.size = q3 := ⟨_, rfl⟩
  have hsq : w.heap.size < q3 := by have := hT.size; omega
  have HB3 := Lib.hid (show NB X q3 (.int .i64 (kd : Int)) (.int .i64 0) (.int .i64 0) (.string ⟨#[]⟩) (.int .i64 0) (.int .i64 0) (.string ⟨#[]⟩) (.slice none 0 0) (.slice none 0 0) (.slice none 0 0) by rw [← hX]; exact NB.new _ _ _ _ _ _ _ _ _ _ _ hq3)
  have HB2 := Lib.hid ((HB2.out.go hT (by omega)).go (Touch.anyB (F := AtB gp) tx) (by omega))
  have HT := Lib.hid (HT.out.same (hT.same (Touch.anyB tx)))
  have HP := Lib.hid (hp.touch tx)
  obtain ⟨i0, i1, i2, i3, i4, i5, i6, i7, i8, i9, il⟩ := HB3.out.cells
  clear hp hT tx
  subst hX
  have HC := Lib.hid (H2.out _ HP.out)
  go_wp2_with fail
  refine HC.out.mono ?_
  rintro r w2 ⟨rfl, hp, hT⟩
  clear i0 i1 i2 i3 i4 i5 i6 i7 i8 i9 il
  try clear a0 a1 a2 a3 a4 a5 a6 a7 a8 a9 al y0 y1 y2 y3 y4 y5 y6 y7 y8 y9
  have HB3 := Lib.hid (HB3.out.go hT (by omega))
  have HB2 := Lib.hid (HB2.out.go hT (by omega))
  have HT := Lib.hid (HT.out.same hT)
  have HP := Lib.hid hp
  clear hp hT
  obtain ⟨i0, i1, i2, i3, i4, i5, i6, i7, i8, i9, il⟩ := HB3.out.cells
  obtain ⟨y0, y1, y2, y3, y4, y5, y6, y7, y8, y9⟩ := HB3.out.free
  obtain ⟨a0, a1, a2, a3, a4, a5, a6, a7, a8, a9, al⟩ := HB3.out.cells
  clear i0 i1 i2 i3 i4 i5 i6 i7 i8 i9 il
  obtain ⟨V2, hV2⟩ : ∃ V, (w2).setCell ⟨q3, 1, none⟩ (.int .i64 (va : Int)) = V := ⟨_, rfl⟩
  have HB3 := Lib.hid (show NB V2 q3 (.int .i64 (kd : Int)) (.int .i64 (va : Int)) (.int .i64 0) (.string ⟨#[]⟩) (.int .i64 0) (.int .i64 0) (.string ⟨#[]⟩) (.slice none 0 0) (.slice none 0 0) (.slice none 0 0) by rw [← hV2]; exact set_blk (HB3.out) 1 (.int .i64 (va : Int)))
  have HB2 := Lib.hid (show NB V2 w.heap.size (.int .i64 0) (.int .i64 0) (.int .i64 0) (.string ⟨#[]⟩) (.int .i64 0) (.int .i64 0) (.string ⟨#[]⟩) (.slice none 0 0) (.slice none 0 0) (.slice none 0 0) by rw [← hV2]; exact (NB.aside (HB2.out) (by omega)))
  have HP := Lib.hid (show PS2 57 V2 gp g n cp ts s2 by rw [← hV2]; exact (PSt.own HP.out (by omega) (by omega)))
  have HT := Lib.hid (show Touch (AtB gp) w V2 by rw [← hV2]; exact (Touch.setCell HT.out (p := ⟨q3, 1, none⟩) (.inr (by simp only; omega)) (.int .i64 (va : Int))))
  obtain ⟨i0, i1, i2, i3, i4, i5, i6, i7, i8, i9, il⟩ := HB3.out.cells
  go_wp2_with fail
  refine (HM.out _).mono ?_
  rintro r wm ⟨rfl, rfl⟩
  obtain ⟨z0, z1, z2, z3, z4, z5, z6, z7, z8, z9, zl⟩ := HB2.out.cells
  obtain ⟨f0, f1, f2, f3, f4, f5, f6, f7, f8, f9⟩ := HB2.out.free
  go_wp2
  have hTE := fun (W : World) (hW : Touch (AtB gp) w W) (i : Nat) (v : Value) => hW.setCell (p := ⟨w.heap.size, i, none⟩) (.inr (Nat.le_refl w.heap.size)) v
  have hTP := fun (W : World) (hW : PS2 57 W gp g n cp ts s2) (i : Nat) (v : Value) => (PSt.own (q := w.heap.size) (i := i) (v := v) hW hgp hgl : PS2 57 (W.setCell ⟨w.heap.size, i, none⟩ v) gp g n cp ts s2)
  refine bodyPost_ret (v := .agg #[.int .i64 (kd : Int), .int .i64 (va : Int), .int .i64 0, .string ⟨#[]⟩, .int .i64 0, .int .i64 0, .string ⟨#[]⟩, .slice none 0 0, .slice none 0 0, .slice none 0 0]) (by simp [results, Tryz.results113, go_sem, z0, z1, z2, z3, z4, z5, z6, z7, z8, z9]) rfl ⟨0, 0, ⟨#[]⟩, none, 0, 0, by rfl, ?_, ?_, ?_⟩
  · exact ⟨rfl, rfl, rfl, rfl, rfl, rfl⟩
  · iterate 10 (refine hTP _ ?_ _ _)
    exact HP.out
  · iterate 10 (refine hTE _ ?_ _ _)
    exact HT.out
theorem head_G7 {w : World} {gp g n cp B : Nat} {ts : List Tk} {σ : St} (hok : NamesOk ts) (hnk : NumsOk ts) (hv : LV w B) (hB : B ≤ gp) (h : PS2 57 w gp g n cp ts σ) {kd : Nat} (hk : headK ts σ = kd) (hg : kd = 7) :
    Calls Tryz.prog 113 #[.pointer (some ⟨gp, 0, none⟩)] w (HdPost w gp g n cp ts kd (headV ts σ) (headS ts σ)) := by
  have _ := hok; have _ := hnk; have _ := hv; have _ := hB
  have hk15 : kd ≤ 15 := by rw [← hk]; exact headK_le ts σ
  have hmo : mostL kd = 0 := by unfold mostL; rw [if_neg (by omega), if_neg (by omega)]
  have hMK := fun w => mostkids_any kd hk15 w
  rw [hmo] at hMK
  unfold headV headS headE headT
  rw [hk, hmo]
  rw [if_neg (show ¬ (kd = 4) by omega)]
  rw [if_neg (show ¬ (kd = 6) by omega)]
  rw [if_pos (show kd = 7 by omega)]
  simp only [if_true]
  have e4 : ((kd : Int) == 4) = false := by simp; omega
  have e6 : ((kd : Int) == 6) = false := by simp; omega
  have e7 : ((kd : Int) == 7) = true := by simp; omega
  have e8 : ((kd : Int) == 8) = false := by simp; omega
  have e9 : ((kd : Int) == 9) = false := by simp; omega
  have e10 : ((kd : Int) == 10) = false := by simp; omega
  have e12 : ((kd : Int) == 12) = false := by simp; omega
  obtain ⟨W0, hW0⟩ : ∃ W, w.alloc (.cells #[.int .i64 0, .int .i64 0, .int .i64 0, .string ⟨#[]⟩, .int .i64 0, .int .i64 0, .string ⟨#[]⟩, .slice none 0 0, .slice none 0 0, .slice none 0 0] 47) = W := ⟨_, rfl⟩
  have t0 : Touch NoB w W0 := by rw [← hW0]; exact (Touch.refl _ _).alloc _
  have b2 : NB W0 w.heap.size (.int .i64 0) (.int .i64 0) (.int .i64 0) (.string ⟨#[]⟩) (.int .i64 0) (.int .i64 0) (.string ⟨#[]⟩) (.slice none 0 0) (.slice none 0 0) (.slice none 0 0) := by rw [← hW0]; exact NB.new w _ _ _ _ _ _ _ _ _ _ rfl
  have hgp := blk_lt h.blk
  have hgl := h.tl.lt
  have hs0 : W0.heap.size = w.heap.size + 1 := by rw [← hW0]; simp only [World.size_alloc]
  have HP := Lib.hid (h.touch t0)
  have HB2 := Lib.hid b2
  have HT := Lib.hid (Touch.anyB (F := AtB gp) t0)
  have HV := Lib.hid (And.intro hv hB)
  have HM := Lib.hid hMK
  have H1 := Lib.hid (fun (W : World) (q : PS2 57 W gp g n cp ts σ) (b : Nat) (hw : WdAt W b 16 nodeW) => choice_st q hw)
  have HN := Lib.hid nodes_any
  have hk' : choV ts nodeW σ = kd := hk
  obtain ⟨s1, hs1⟩ : ∃ z, choS ts nodeW σ = z := ⟨_, rfl⟩
  rw [hk', hs1] at H1
  simp only [hs1]
  obtain ⟨ex, hex⟩ : ∃ z, eqV ts s1 = z := ⟨_, rfl⟩
  obtain ⟨s2, hs2⟩ : ∃ z, eqS ts s1 = z := ⟨_, rfl⟩
  have H2 := Lib.hid (fun (W : World) (q : PS2 57 W gp g n cp ts s1) (hv : LV W B) => expr_st hok hnk hv q)
  unfold EqPost at H2
  rw [hex, hs2] at H2
  simp only [hex, hs2]
  obtain ⟨s3, hs3⟩ : ∃ z, exS ts [59] s2 = z := ⟨_, rfl⟩
  have H3 : Hid (∀ (W : World), PS2 57 W gp g n cp ts s2 → Calls Tryz.prog 83 #[.pointer (some ⟨gp, 0, none⟩), .string ⟨#[59]⟩] W fun x w' => x = .returned (.tuple #[]) ∧ PS2 57 w' gp g n cp ts s3 ∧ Touch (AtB gp) W w') := Lib.hid (fun W q => by rw [← hs3]; exact expect_st (s := [59]) q)
  simp only [hs3]
  unfold HdPost
  clear hs3 hs2 hex hs1 hk hk' h t0 b2 hok hnk hv hB hMK hmo hg hk15
  go_enter Tryz.func113, Tryz.ntmps113
  go_wp2_with fail
  refine (HN.out _).mono ?_
  rintro r X0 ⟨r0, rfl, hw0, tx0⟩
  have hs0 : w.heap.size + 1 ≤ X0.heap.size := by have := tx0.size; omega
  have HB2 := Lib.hid (HB2.out.go (Touch.anyB (F := AtB gp) tx0) (by omega))
  have HT := Lib.hid (HT.out.same (Touch.anyB (F := AtB gp) tx0))
  have HC := Lib.hid (H1.out X0 (HP.out.touch tx0) r0 hw0)
  clear hw0 tx0
  go_wp2_with fail
  refine HC.out.mono ?_
  rintro r w1 ⟨rfl, hp, hT⟩
  obtain ⟨X, hX⟩ : ∃ X, w1.alloc (.cells #[.int .i64 (kd : Int), .int .i64 0, .int .i64 0, .string ⟨#[]⟩, .int .i64 0, .int .i64 0, .string ⟨#[]⟩, .slice none 0 0, .slice none 0 0, .slice none 0 0] 47) = X := ⟨_, rfl⟩
  have tx : Touch NoB w1 X := by rw [← hX]; exact (Touch.refl _ _).alloc _
  obtain ⟨q3, hq3⟩ : ∃ q3, w1.heap.size = q3 := ⟨_, rfl⟩
  have hsq : w.heap.size < q3 := by have := hT.size; omega
  have HB3 := Lib.hid (show NB X q3 (.int .i64 (kd : Int)) (.int .i64 0) (.int .i64 0) (.string ⟨#[]⟩) (.int .i64 0) (.int .i64 0) (.string ⟨#[]⟩) (.slice none 0 0) (.slice none 0 0) (.slice none 0 0) by rw [← hX]; exact NB.new _ _ _ _ _ _ _ _ _ _ _ hq3)
  have HB2 := Lib.hid ((HB2.out.go hT (by omega)).go (Touch.anyB (F := AtB gp) tx) (by omega))
  have HT := Lib.hid (HT.out.same (hT.same (Touch.anyB tx)))
  have HP := Lib.hid (hp.touch tx)
  obtain ⟨i0, i1, i2, i3, i4, i5, i6, i7, i8, i9, il⟩ := HB3.out.cells
  clear hp hT tx
  subst hX
  have hq3w := blk_lt HB3.out
  have HC := Lib.hid (H2.out _ HP.out (HV.out.1.touchP HT.out HV.out.2))
  go_wp2_with fail
  refine HC.out.mono ?_
  rintro r w2 ⟨ea, eb, es, eA, em, ec, rfl, het, hp, hT⟩
  clear i0 i1 i2 i3 i4 i5 i6 i7 i8 i9 il
  try clear a0 a1 a2 a3 a4 a5 a6 a7 a8 a9 al y0 y1 y2 y3 y4 y5 y6 y7 y8 y9
  have HB3 := Lib.hid (HB3.out.go hT (by omega))
  have HB2 := Lib.hid (HB2.out.go hT (by omega))
  have HET := Lib.hid (het.via (R := fun b => w.heap.size < b ∧ b ≠ q3) (fun b h1 _ => ⟨by omega, by omega⟩))
  clear het hq3w
  have HT := Lib.hid (HT.out.same hT)
  have HP := Lib.hid hp
  clear hp hT
  obtain ⟨i0, i1, i2, i3, i4, i5, i6, i7, i8, i9, il⟩ := HB3.out.cells
  obtain ⟨y0, y1, y2, y3, y4, y5, y6, y7, y8, y9⟩ := HB3.out.free
  obtain ⟨a0, a1, a2, a3, a4, a5, a6, a7, a8, a9, al⟩ := HB3.out.cells
  clear i0 i1 i2 i3 i4 i5 i6 i7 i8 i9 il
  obtain ⟨V2, hV2⟩ : ∃ V, ((((w2).setCell ⟨q3, 4, none⟩ (.int .i64 ea)).setCell ⟨q3, 5, none⟩ (.int .i64 eb)).setCell ⟨q3, 6, none⟩ (.string es)).setCell ⟨q3, 7, none⟩ (.slice eA em ec) = V := ⟨_, rfl⟩
  have HB3 := Lib.hid (show NB V2 q3 (.int .i64 (kd : Int)) (.int .i64 0) (.int .i64 0) (.string ⟨#[]⟩) (.int .i64 ea) (.int .i64 eb) (.string es) (.slice eA em ec) (.slice none 0 0) (.slice none 0 0) by rw [← hV2]; exact set_blk (set_blk (set_blk (set_blk (HB3.out) 4 (.int .i64 ea)) 5 (.int .i64 eb)) 6 (.string es)) 7 (.slice eA em ec))
  have HB2 := Lib.hid (show NB V2 w.heap.size (.int .i64 0) (.int .i64 0) (.int .i64 0) (.string ⟨#[]⟩) (.int .i64 0) (.int .i64 0) (.string ⟨#[]⟩) (.slice none 0 0) (.slice none 0 0) (.slice none 0 0) by rw [← hV2]; exact (NB.aside ((NB.aside ((NB.aside ((NB.aside (HB2.out) (by omega))) (by omega))) (by omega))) (by omega)))
  have HP := Lib.hid (show PS2 57 V2 gp g n cp ts s2 by rw [← hV2]; exact (PSt.own (PSt.own (PSt.own (PSt.own HP.out (by omega) (by omega)) (by omega) (by omega)) (by omega) (by omega)) (by omega) (by omega)))
  have HT := Lib.hid (show Touch (AtB gp) w V2 by rw [← hV2]; exact (Touch.setCell (Touch.setCell (Touch.setCell (Touch.setCell HT.out (p := ⟨q3, 4, none⟩) (.inr (by simp only; omega)) (.int .i64 ea)) (p := ⟨q3, 5, none⟩) (.inr (by simp only; omega)) (.int .i64 eb)) (p := ⟨q3, 6, none⟩) (.inr (by simp only; omega)) (.string es)) (p := ⟨q3, 7, none⟩) (.inr (by simp only; omega)) (.slice eA em ec)))
  have HET := Lib.hid (show ET V2 (fun b => w.heap.size < b ∧ b ≠ q3) ex ea eb es eA em ec by rw [← hV2]; exact (ET.own (ET.own (ET.own (ET.own HET.out (fun z => z.2 rfl)) (fun z => z.2 rfl)) (fun z => z.2 rfl)) (fun z => z.2 rfl)))
  obtain ⟨i0, i1, i2, i3, i4, i5, i6, i7, i8, i9, il⟩ := HB3.out.cells
  go_wp2_with fail
  refine (HM.out _).mono ?_
  rintro r wm ⟨rfl, rfl⟩
  have HC := Lib.hid (H3.out _ HP.out)
  go_wp2_with fail
  refine HC.out.mono ?_
  rintro r we ⟨rfl, hp, hT⟩
  clear i0 i1 i2 i3 i4 i5 i6 i7 i8 i9 il
  try clear a0 a1 a2 a3 a4 a5 a6 a7 a8 a9 al y0 y1 y2 y3 y4 y5 y6 y7 y8 y9
  have HB3 := Lib.hid (HB3.out.go hT (by omega))
  have HB2 := Lib.hid (HB2.out.go hT (by omega))
  have HET := Lib.hid (HET.out.touch hT (HP.out.nox _))
  have HT := Lib.hid (HT.out.same hT)
  have HP := Lib.hid hp
  clear hp hT
  obtain ⟨i0, i1, i2, i3, i4, i5, i6, i7, i8, i9, il⟩ := HB3.out.cells
  obtain ⟨z0, z1, z2, z3, z4, z5, z6, z7, z8, z9, zl⟩ := HB2.out.cells
  obtain ⟨f0, f1, f2, f3, f4, f5, f6, f7, f8, f9⟩ := HB2.out.free
  go_wp2
  have hTE := fun (W : World) (hW : Touch (AtB gp) w W) (i : Nat) (v : Value) => hW.setCell (p := ⟨w.heap.size, i, none⟩) (.inr (Nat.le_refl w.heap.size)) v
  have hTP := fun (W : World) (hW : PS2 57 W gp g n cp ts s3) (i : Nat) (v : Value) => (PSt.own (q := w.heap.size) (i := i) (v := v) hW hgp hgl : PS2 57 (W.setCell ⟨w.heap.size, i, none⟩ v) gp g n cp ts s3)
  have hTQ := fun (W : World) (hW : ET W (fun b => w.heap.size < b ∧ b ≠ q3) ex ea eb es eA em ec) (i : Nat) (v : Value) => (hW.own (q := w.heap.size) (i := i) (v := v) (fun z => by have h1 := z.1; omega))
  refine bodyPost_ret (v := .agg #[.int .i64 (kd : Int), .int .i64 0, .int .i64 0, .string ⟨#[]⟩, .int .i64 ea, .int .i64 eb, .string es, .slice eA em ec, .slice none 0 0, .slice none 0 0]) (by simp [results, Tryz.results113, go_sem, z0, z1, z2, z3, z4, z5, z6, z7, z8, z9]) rfl ⟨ea, eb, es, eA, em, ec, by rfl, ?_, ?_, ?_⟩
  · refine ET.via (Q := fun b => w.heap.size < b ∧ b ≠ q3) (fun b h1 _ => Nat.le_of_lt h1.1) ?_
    iterate 10 (refine hTQ _ ?_ _ _)
    exact HET.out
  · iterate 10 (refine hTP _ ?_ _ _)
    exact HP.out
  · iterate 10 (refine hTE _ ?_ _ _)
    exact HT.out
theorem head_G8 {w : World} {gp g n cp B : Nat} {ts : List Tk} {σ : St} (hok : NamesOk ts) (hnk : NumsOk ts) (hv : LV w B) (hB : B ≤ gp) (h : PS2 57 w gp g n cp ts σ) {kd : Nat} (hk : headK ts σ = kd) (hg : kd = 8) :
    Calls Tryz.prog 113 #[.pointer (some ⟨gp, 0, none⟩)] w (HdPost w gp g n cp ts kd (headV ts σ) (headS ts σ)) := by
  have _ := hok; have _ := hnk; have _ := hv; have _ := hB
  have hk15 : kd ≤ 15 := by rw [← hk]; exact headK_le ts σ
  have hmo : mostL kd = 0 := by unfold mostL; rw [if_neg (by omega), if_neg (by omega)]
  have hMK := fun w => mostkids_any kd hk15 w
  rw [hmo] at hMK
  unfold headV headS headE headT
  rw [hk, hmo]
  rw [if_neg (show ¬ (kd = 4) by omega)]
  rw [if_neg (show ¬ (kd = 6) by omega)]
  rw [if_neg (show ¬ (kd = 7) by omega)]
  rw [if_pos (show kd = 8 by omega)]
  simp only [if_true]
  have e4 : ((kd : Int) == 4) = false := by simp; omega
  have e6 : ((kd : Int) == 6) = false := by simp; omega
  have e7 : ((kd : Int) == 7) = false := by simp; omega
  have e8 : ((kd : Int) == 8) = true := by simp; omega
  have e9 : ((kd : Int) == 9) = false := by simp; omega
  have e10 : ((kd : Int) == 10) = false := by simp; omega
  have e12 : ((kd : Int) == 12) = false := by simp; omega
  obtain ⟨W0, hW0⟩ : ∃ W, w.alloc (.cells #[.int .i64 0, .int .i64 0, .int .i64 0, .string ⟨#[]⟩, .int .i64 0, .int .i64 0, .string ⟨#[]⟩, .slice none 0 0, .slice none 0 0, .slice none 0 0] 47) = W := ⟨_, rfl⟩
  have t0 : Touch NoB w W0 := by rw [← hW0]; exact (Touch.refl _ _).alloc _
  have b2 : NB W0 w.heap.size (.int .i64 0) (.int .i64 0) (.int .i64 0) (.string ⟨#[]⟩) (.int .i64 0) (.int .i64 0) (.string ⟨#[]⟩) (.slice none 0 0) (.slice none 0 0) (.slice none 0 0) := by rw [← hW0]; exact NB.new w _ _ _ _ _ _ _ _ _ _ rfl
  have hgp := blk_lt h.blk
  have hgl := h.tl.lt
  have hs0 : W0.heap.size = w.heap.size + 1 := by rw [← hW0]; simp only [World.size_alloc]
  have HP := Lib.hid (h.touch t0)
  have HB2 := Lib.hid b2
  have HT := Lib.hid (Touch.anyB (F := AtB gp) t0)
  have HV := Lib.hid (And.intro hv hB)
  have HM := Lib.hid hMK
  have H1 := Lib.hid (fun (W : World) (q : PS2 57 W gp g n cp ts σ) (b : Nat) (hw : WdAt W b 16 nodeW) => choice_st q hw)
  have HN := Lib.hid nodes_any
  have hk' : choV ts nodeW σ = kd := hk
  obtain ⟨s1, hs1⟩ : ∃ z, choS ts nodeW σ = z := ⟨_, rfl⟩
  rw [hk', hs1] at H1
  simp only [hs1]
  obtain ⟨vn, hvn⟩ : ∃ z, naV ts s1 = z := ⟨_, rfl⟩
  obtain ⟨s2, hs2⟩ : ∃ z, naS ts s1 = z := ⟨_, rfl⟩
  have H2 := Lib.hid (fun (W : World) (q : PS2 57 W gp g n cp ts s1) => name_st q)
  rw [hvn, hs2] at H2
  simp only [hvn, hs2]
  obtain ⟨nb, hnb⟩ : ∃ z, bs vn = z := ⟨_, rfl⟩
  rw [hnb] at H2
  have HNB := Lib.hid hnb
  clear hnb
  obtain ⟨s3, hs3⟩ : ∃ z, exS ts [58, 61] s2 = z := ⟨_, rfl⟩
  have H3 : Hid (∀ (W : World), PS2 57 W gp g n cp ts s2 → Calls Tryz.prog 83 #[.pointer (some ⟨gp, 0, none⟩), .string ⟨#[58, 61]⟩] W fun x w' => x = .returned (.tuple #[]) ∧ PS2 57 w' gp g n cp ts s3 ∧ Touch (AtB gp) W w') := Lib.hid (fun W q => by rw [← hs3]; exact expect_st (s := [58, 61]) q)
  simp only [hs3]
  obtain ⟨ex, hex⟩ : ∃ z, eqV ts s3 = z := ⟨_, rfl⟩
  obtain ⟨s4, hs4⟩ : ∃ z, eqS ts s3 = z := ⟨_, rfl⟩
  have H4 := Lib.hid (fun (W : World) (q : PS2 57 W gp g n cp ts s3) (hv : LV W B) => expr_st hok hnk hv q)
  unfold EqPost at H4
  rw [hex, hs4] at H4
  simp only [hex, hs4]
  obtain ⟨s5, hs5⟩ : ∃ z, exS ts [59] s4 = z := ⟨_, rfl⟩
  have H5 : Hid (∀ (W : World), PS2 57 W gp g n cp ts s4 → Calls Tryz.prog 83 #[.pointer (some ⟨gp, 0, none⟩), .string ⟨#[59]⟩] W fun x w' => x = .returned (.tuple #[]) ∧ PS2 57 w' gp g n cp ts s5 ∧ Touch (AtB gp) W w') := Lib.hid (fun W q => by rw [← hs5]; exact expect_st (s := [59]) q)
  simp only [hs5]
  unfold HdPost
  clear hs5 hs4 hex hs3 hs2 hvn hs1 hk hk' h t0 b2 hok hnk hv hB hMK hmo hg hk15
  go_enter Tryz.func113, Tryz.ntmps113
  go_wp2_with fail
  refine (HN.out _).mono ?_
  rintro r X0 ⟨r0, rfl, hw0, tx0⟩
  have hs0 : w.heap.size + 1 ≤ X0.heap.size := by have := tx0.size; omega
  have HB2 := Lib.hid (HB2.out.go (Touch.anyB (F := AtB gp) tx0) (by omega))
  have HT := Lib.hid (HT.out.same (Touch.anyB (F := AtB gp) tx0))
  have HC := Lib.hid (H1.out X0 (HP.out.touch tx0) r0 hw0)
  clear hw0 tx0
  go_wp2_with fail
  refine HC.out.mono ?_
  rintro r w1 ⟨rfl, hp, hT⟩
  obtain ⟨X, hX⟩ : ∃ X, w1.alloc (.cells #[.int .i64 (kd : Int), .int .i64 0, .int .i64 0, .string ⟨#[]⟩, .int .i64 0, .int .i64 0, .string ⟨#[]⟩, .slice none 0 0, .slice none 0 0, .slice none 0 0] 47) = X := ⟨_, rfl⟩
  have tx : Touch NoB w1 X := by rw [← hX]; exact (Touch.refl _ _).alloc _
  obtain ⟨q3, hq3⟩ : ∃ q3, w1.heap.size = q3 := ⟨_, rfl⟩
  have hsq : w.heap.size < q3 := by have := hT.size; omega
  have HB3 := Lib.hid (show NB X q3 (.int .i64 (kd : Int)) (.int .i64 0) (.int .i64 0) (.string ⟨#[]⟩) (.int .i64 0) (.int .i64 0) (.string ⟨#[]⟩) (.slice none 0 0) (.slice none 0 0) (.slice none 0 0) by rw [← hX]; exact NB.new _ _ _ _ _ _ _ _ _ _ _ hq3)
  have HB2 := Lib.hid ((HB2.out.go hT (by omega)).go (Touch.anyB (F := AtB gp) tx) (by omega))
  have HT := Lib.hid (HT.out.same (hT.same (Touch.anyB tx)))
  have HP := Lib.hid (hp.touch tx)
  obtain ⟨i0, i1, i2, i3, i4, i5, i6, i7, i8, i9, il⟩ := HB3.out.cells
  clear hp hT tx
  subst hX
  have HC := Lib.hid (H2.out _ HP.out)
  go_wp2_with fail
  refine HC.out.mono ?_
  rintro r w2 ⟨rfl, hp, hT⟩
  clear i0 i1 i2 i3 i4 i5 i6 i7 i8 i9 il
  try clear a0 a1 a2 a3 a4 a5 a6 a7 a8 a9 al y0 y1 y2 y3 y4 y5 y6 y7 y8 y9
  have HB3 := Lib.hid (HB3.out.go hT (by omega))
  have HB2 := Lib.hid (HB2.out.go hT (by omega))
  have HT := Lib.hid (HT.out.same hT)
  have HP := Lib.hid hp
  clear hp hT
  obtain ⟨i0, i1, i2, i3, i4, i5, i6, i7, i8, i9, il⟩ := HB3.out.cells
  obtain ⟨y0, y1, y2, y3, y4, y5, y6, y7, y8, y9⟩ := HB3.out.free
  obtain ⟨a0, a1, a2, a3, a4, a5, a6, a7, a8, a9, al⟩ := HB3.out.cells
  clear i0 i1 i2 i3 i4 i5 i6 i7 i8 i9 il
  obtain ⟨V2, hV2⟩ : ∃ V, (w2).setCell ⟨q3, 3, none⟩ (.string nb) = V := ⟨_, rfl⟩
  have HB3 := Lib.hid (show NB V2 q3 (.int .i64 (kd : Int)) (.int .i64 0) (.int .i64 0) (.string nb) (.int .i64 0) (.int .i64 0) (.string ⟨#[]⟩) (.slice none 0 0) (.slice none 0 0) (.slice none 0 0) by rw [← hV2]; exact set_blk (HB3.out) 3 (.string nb))
  have HB2 := Lib.hid (show NB V2 w.heap.size (.int .i64 0) (.int .i64 0) (.int .i64 0) (.string ⟨#[]⟩) (.int .i64 0) (.int .i64 0) (.string ⟨#[]⟩) (.slice none 0 0) (.slice none 0 0) (.slice none 0 0) by rw [← hV2]; exact (NB.aside (HB2.out) (by omega)))
  have HP := Lib.hid (show PS2 57 V2 gp g n cp ts s2 by rw [← hV2]; exact (PSt.own HP.out (by omega) (by omega)))
  have HT := Lib.hid (show Touch (AtB gp) w V2 by rw [← hV2]; exact (Touch.setCell HT.out (p := ⟨q3, 3, none⟩) (.inr (by simp only; omega)) (.string nb)))
  obtain ⟨i0, i1, i2, i3, i4, i5, i6, i7, i8, i9, il⟩ := HB3.out.cells
  have HC := Lib.hid (H3.out _ HP.out)
  go_wp2_with fail
  refine HC.out.mono ?_
  rintro r w3 ⟨rfl, hp, hT⟩
  clear i0 i1 i2 i3 i4 i5 i6 i7 i8 i9 il
  try clear a0 a1 a2 a3 a4 a5 a6 a7 a8 a9 al y0 y1 y2 y3 y4 y5 y6 y7 y8 y9
  have HB3 := Lib.hid (HB3.out.go hT (by omega))
  have HB2 := Lib.hid (HB2.out.go hT (by omega))
  have HT := Lib.hid (HT.out.same hT)
  have HP := Lib.hid hp
  clear hp hT
  obtain ⟨i0, i1, i2, i3, i4, i5, i6, i7, i8, i9, il⟩ := HB3.out.cells
  have hq3w := blk_lt HB3.out
  have HC := Lib.hid (H4.out _ HP.out (HV.out.1.touchP HT.out HV.out.2))
  go_wp2_with fail
  refine HC.out.mono ?_
  rintro r w4 ⟨ea, eb, es, eA, em, ec, rfl, het, hp, hT⟩
  clear i0 i1 i2 i3 i4 i5 i6 i7 i8 i9 il
  try clear a0 a1 a2 a3 a4 a5 a6 a7 a8 a9 al y0 y1 y2 y3 y4 y5 y6 y7 y8 y9
  have HB3 := Lib.hid (HB3.out.go hT (by omega))
  have HB2 := Lib.hid (HB2.out.go hT (by omega))
  have HET := Lib.hid (het.via (R := fun b => w.heap.size < b ∧ b ≠ q3) (fun b h1 _ => ⟨by omega, by omega⟩))
  clear het hq3w
  have HT := Lib.hid (HT.out.same hT)
  have HP := Lib.hid hp
  clear hp hT
  obtain ⟨i0, i1, i2, i3, i4, i5, i6, i7, i8, i9, il⟩ := HB3.out.cells
  obtain ⟨y0, y1, y2, y3, y4, y5, y6, y7, y8, y9⟩ := HB3.out.free
  obtain ⟨a0, a1, a2, a3, a4, a5, a6, a7, a8, a9, al⟩ := HB3.out.cells
  clear i0 i1 i2 i3 i4 i5 i6 i7 i8 i9 il
  obtain ⟨V4, hV4⟩ : ∃ V, ((((w4).setCell ⟨q3, 4, none⟩ (.int .i64 ea)).setCell ⟨q3, 5, none⟩ (.int .i64 eb)).setCell ⟨q3, 6, none⟩ (.string es)).setCell ⟨q3, 7, none⟩ (.slice eA em ec) = V := ⟨_, rfl⟩
  have HB3 := Lib.hid (show NB V4 q3 (.int .i64 (kd : Int)) (.int .i64 0) (.int .i64 0) (.string nb) (.int .i64 ea) (.int .i64 eb) (.string es) (.slice eA em ec) (.slice none 0 0) (.slice none 0 0) by rw [← hV4]; exact set_blk (set_blk (set_blk (set_blk (HB3.out) 4 (.int .i64 ea)) 5 (.int .i64 eb)) 6 (.string es)) 7 (.slice eA em ec))
  have HB2 := Lib.hid (show NB V4 w.heap.size (.int .i64 0) (.int .i64 0) (.int .i64 0) (.string ⟨#[]⟩) (.int .i64 0) (.int .i64 0) (.string ⟨#[]⟩) (.slice none 0 0) (.slice none 0 0) (.slice none 0 0) by rw [← hV4]; exact (NB.aside ((NB.aside ((NB.aside ((NB.aside (HB2.out) (by omega))) (by omega))) (by omega))) (by omega)))
  have HP := Lib.hid (show PS2 57 V4 gp g n cp ts s4 by rw [← hV4]; exact (PSt.own (PSt.own (PSt.own (PSt.own HP.out (by omega) (by omega)) (by omega) (by omega)) (by omega) (by omega)) (by omega) (by omega)))
  have HT := Lib.hid (show Touch (AtB gp) w V4 by rw [← hV4]; exact (Touch.setCell (Touch.setCell (Touch.setCell (Touch.setCell HT.out (p := ⟨q3, 4, none⟩) (.inr (by simp only; omega)) (.int .i64 ea)) (p := ⟨q3, 5, none⟩) (.inr (by simp only; omega)) (.int .i64 eb)) (p := ⟨q3, 6, none⟩) (.inr (by simp only; omega)) (.string es)) (p := ⟨q3, 7, none⟩) (.inr (by simp only; omega)) (.slice eA em ec)))
  have HET := Lib.hid (show ET V4 (fun b => w.heap.size < b ∧ b ≠ q3) ex ea eb es eA em ec by rw [← hV4]; exact (ET.own (ET.own (ET.own (ET.own HET.out (fun z => z.2 rfl)) (fun z => z.2 rfl)) (fun z => z.2 rfl)) (fun z => z.2 rfl)))
  obtain ⟨i0, i1, i2, i3, i4, i5, i6, i7, i8, i9, il⟩ := HB3.out.cells
  go_wp2_with fail
  refine (HM.out _).mono ?_
  rintro r wm ⟨rfl, rfl⟩
  have HC := Lib.hid (H5.out _ HP.out)
  go_wp2_with fail
  refine HC.out.mono ?_
  rintro r we ⟨rfl, hp, hT⟩
  clear i0 i1 i2 i3 i4 i5 i6 i7 i8 i9 il
  try clear a0 a1 a2 a3 a4 a5 a6 a7 a8 a9 al y0 y1 y2 y3 y4 y5 y6 y7 y8 y9
  have HB3 := Lib.hid (HB3.out.go hT (by omega))
  have HB2 := Lib.hid (HB2.out.go hT (by omega))
  have HET := Lib.hid (HET.out.touch hT (HP.out.nox _))
  have HT := Lib.hid (HT.out.same hT)
  have HP := Lib.hid hp
  clear hp hT
  obtain ⟨i0, i1, i2, i3, i4, i5, i6, i7, i8, i9, il⟩ := HB3.out.cells
  obtain ⟨z0, z1, z2, z3, z4, z5, z6, z7, z8, z9, zl⟩ := HB2.out.cells
  obtain ⟨f0, f1, f2, f3, f4, f5, f6, f7, f8, f9⟩ := HB2.out.free
  go_wp2
  have hTE := fun (W : World) (hW : Touch (AtB gp) w W) (i : Nat) (v : Value) => hW.setCell (p := ⟨w.heap.size, i, none⟩) (.inr (Nat.le_refl w.heap.size)) v
  have hTP := fun (W : World) (hW : PS2 57 W gp g n cp ts s5) (i : Nat) (v : Value) => (PSt.own (q := w.heap.size) (i := i) (v := v) hW hgp hgl : PS2 57 (W.setCell ⟨w.heap.size, i, none⟩ v) gp g n cp ts s5)
  have hTQ := fun (W : World) (hW : ET W (fun b => w.heap.size < b ∧ b ≠ q3) ex ea eb es eA em ec) (i : Nat) (v : Value) => (hW.own (q := w.heap.size) (i := i) (v := v) (fun z => by have h1 := z.1; omega))
  refine bodyPost_ret (v := .agg #[.int .i64 (kd : Int), .int .i64 0, .int .i64 0, .string nb, .int .i64 ea, .int .i64 eb, .string es, .slice eA em ec, .slice none 0 0, .slice none 0 0]) (by simp [results, Tryz.results113, go_sem, z0, z1, z2, z3, z4, z5, z6, z7, z8, z9]) rfl ⟨ea, eb, es, eA, em, ec, by rw [HNB.out]; rfl, ?_, ?_, ?_⟩
  · refine ET.via (Q := fun b => w.heap.size < b ∧ b ≠ q3) (fun b h1 _ => Nat.le_of_lt h1.1) ?_
    iterate 10 (refine hTQ _ ?_ _ _)
    exact HET.out
  · iterate 10 (refine hTP _ ?_ _ _)
    exact HP.out
  · iterate 10 (refine hTE _ ?_ _ _)
    exact HT.out
theorem head_Gn {w : World} {gp g n cp B : Nat} {ts : List Tk} {σ : St} (hok : NamesOk ts) (hnk : NumsOk ts) (hv : LV w B) (hB : B ≤ gp) (h : PS2 57 w gp g n cp ts σ) {kd : Nat} (hk : headK ts σ = kd) (hg : kd = 9 ∨ kd = 10 ∨ kd = 12) :
    Calls Tryz.prog 113 #[.pointer (some ⟨gp, 0, none⟩)] w (HdPost w gp g n cp ts kd (headV ts σ) (headS ts σ)) := by
  have _ := hok; have _ := hnk; have _ := hv; have _ := hB
  have hk15 : kd ≤ 15 := by rw [← hk]; exact headK_le ts σ
  have hmo : mostL kd = 0 := by unfold mostL; rw [if_neg (by omega), if_neg (by omega)]
  have hMK := fun w => mostkids_any kd hk15 w
  rw [hmo] at hMK
  unfold headV headS headE headT
  rw [hk, hmo]
  rw [if_neg (show ¬ (kd = 4) by omega)]
  rw [if_neg (show ¬ (kd = 6) by omega)]
  rw [if_neg (show ¬ (kd = 7) by omega)]
  rw [if_neg (show ¬ (kd = 8) by omega)]
  rw [if_pos (show kd = 9 ∨ kd = 10 ∨ kd = 12 by omega)]
  simp only [if_true]
  have e4 : ((kd : Int) == 4) = false := by simp; omega
  have e6 : ((kd : Int) == 6) = false := by simp; omega
  have e7 : ((kd : Int) == 7) = false := by simp; omega
  have e8 : ((kd : Int) == 8) = false := by simp; omega
  have hgg : (((kd : Int) == 9) = true) ∨ (((kd : Int) == 9) = false ∧ ((kd : Int) == 10) = true) ∨ (((kd : Int) == 9) = false ∧ ((kd : Int) == 10) = false ∧ ((kd : Int) == 12) = true) := by
    rcases hg with rfl | rfl | rfl
    · exact .inl (by decide)
    · exact .inr (.inl ⟨by decide, by decide⟩)
    · exact .inr (.inr ⟨by decide, by decide, by decide⟩)
  obtain ⟨W0, hW0⟩ : ∃ W, w.alloc (.cells #[.int .i64 0, .int .i64 0, .int .i64 0, .string ⟨#[]⟩, .int .i64 0, .int .i64 0, .string ⟨#[]⟩, .slice none 0 0, .slice none 0 0, .slice none 0 0] 47) = W := ⟨_, rfl⟩
  have t0 : Touch NoB w W0 := by rw [← hW0]; exact (Touch.refl _ _).alloc _
  have b2 : NB W0 w.heap.size (.int .i64 0) (.int .i64 0) (.int .i64 0) (.string ⟨#[]⟩) (.int .i64 0) (.int .i64 0) (.string ⟨#[]⟩) (.slice none 0 0) (.slice none 0 0) (.slice none 0 0) := by rw [← hW0]; exact NB.new w _ _ _ _ _ _ _ _ _ _ rfl
  have hgp := blk_lt h.blk
  have hgl := h.tl.lt
  have hs0 : W0.heap.size = w.heap.size + 1 := by rw [← hW0]; simp only [World.size_alloc]
  have HP := Lib.hid (h.touch t0)
  have HB2 := Lib.hid b2
  have HT := Lib.hid (Touch.anyB (F := AtB gp) t0)
  have HV := Lib.hid (And.intro hv hB)
  have HM := Lib.hid hMK
  have H1 := Lib.hid (fun (W : World) (q : PS2 57 W gp g n cp ts σ) (b : Nat) (hw : WdAt W b 16 nodeW) => choice_st q hw)
  have HN := Lib.hid nodes_any
  have hk' : choV ts nodeW σ = kd := hk
  obtain ⟨s1, hs1⟩ : ∃ z, choS ts nodeW σ = z := ⟨_, rfl⟩
  rw [hk', hs1] at H1
  simp only [hs1]
  obtain ⟨vn, hvn⟩ : ∃ z, naV ts s1 = z := ⟨_, rfl⟩
  obtain ⟨s2, hs2⟩ : ∃ z, naS ts s1 = z := ⟨_, rfl⟩
  have H2 := Lib.hid (fun (W : World) (q : PS2 57 W gp g n cp ts s1) => name_st q)
  rw [hvn, hs2] at H2
  simp only [hvn, hs2]
  obtain ⟨nb, hnb⟩ : ∃ z, bs vn = z := ⟨_, rfl⟩
  rw [hnb] at H2
  have HNB := Lib.hid hnb
  clear hnb
  obtain ⟨s3, hs3⟩ : ∃ z, exS ts [59] s2 = z := ⟨_, rfl⟩
  have H3 : Hid (∀ (W : World), PS2 57 W gp g n cp ts s2 → Calls Tryz.prog 83 #[.pointer (some ⟨gp, 0, none⟩), .string ⟨#[59]⟩] W fun x w' => x = .returned (.tuple #[]) ∧ PS2 57 w' gp g n cp ts s3 ∧ Touch (AtB gp) W w') := Lib.hid (fun W q => by rw [← hs3]; exact expect_st (s := [59]) q)
  simp only [hs3]
  unfold HdPost
  clear hs3 hs2 hvn hs1 hk hk' h t0 b2 hok hnk hv hB hMK hmo hg hk15
  go_enter Tryz.func113, Tryz.ntmps113
  go_wp2_with fail
  refine (HN.out _).mono ?_
  rintro r X0 ⟨r0, rfl, hw0, tx0⟩
  have hs0 : w.heap.size + 1 ≤ X0.heap.size := by have := tx0.size; omega
  have HB2 := Lib.hid (HB2.out.go (Touch.anyB (F := AtB gp) tx0) (by omega))
  have HT := Lib.hid (HT.out.same (Touch.anyB (F := AtB gp) tx0))
  have HC := Lib.hid (H1.out X0 (HP.out.touch tx0) r0 hw0)
  clear hw0 tx0
  go_wp2_with fail
  refine HC.out.mono ?_
  rintro r w1 ⟨rfl, hp, hT⟩
  obtain ⟨X, hX⟩ : ∃ X, w1.alloc (.cells #[.int .i64 (kd : Int), .int .i64 0, .int .i64 0, .string ⟨#[]⟩, .int .i64 0, .int .i64 0, .string ⟨#[]⟩, .slice none 0 0, .slice none 0 0, .slice none 0 0] 47) = X := ⟨_, rfl⟩
  have tx : Touch NoB w1 X := by rw [← hX]; exact (Touch.refl _ _).alloc _
  obtain ⟨q3, hq3⟩ : ∃ q3, w1.heap.size = q3 := ⟨_, rfl⟩
  have hsq : w.heap.size < q3 := by have := hT.size; omega
  have HB3 := Lib.hid (show NB X q3 (.int .i64 (kd : Int)) (.int .i64 0) (.int .i64 0) (.string ⟨#[]⟩) (.int .i64 0) (.int .i64 0) (.string ⟨#[]⟩) (.slice none 0 0) (.slice none 0 0) (.slice none 0 0) by rw [← hX]; exact NB.new _ _ _ _ _ _ _ _ _ _ _ hq3)
  have HB2 := Lib.hid ((HB2.out.go hT (by omega)).go (Touch.anyB (F := AtB gp) tx) (by omega))
  have HT := Lib.hid (HT.out.same (hT.same (Touch.anyB tx)))
  have HP := Lib.hid (hp.touch tx)
  obtain ⟨i0, i1, i2, i3, i4, i5, i6, i7, i8, i9, il⟩ := HB3.out.cells
  clear hp hT tx
  subst hX
  rcases hgg with e9 | ⟨e9, e10⟩ | ⟨e9, e10, e12⟩
  all_goals
    have HC := Lib.hid (H2.out _ HP.out)
    go_wp2_with fail
    refine HC.out.mono ?_
    rintro r w2 ⟨rfl, hp, hT⟩
    clear i0 i1 i2 i3 i4 i5 i6 i7 i8 i9 il
    try clear a0 a1 a2 a3 a4 a5 a6 a7 a8 a9 al y0 y1 y2 y3 y4 y5 y6 y7 y8 y9
    have HB3 := Lib.hid (HB3.out.go hT (by omega))
    have HB2 := Lib.hid (HB2.out.go hT (by omega))
    have HT := Lib.hid (HT.out.same hT)
    have HP := Lib.hid hp
    clear hp hT
    obtain ⟨i0, i1, i2, i3, i4, i5, i6, i7, i8, i9, il⟩ := HB3.out.cells
    obtain ⟨y0, y1, y2, y3, y4, y5, y6, y7, y8, y9⟩ := HB3.out.free
    obtain ⟨a0, a1, a2, a3, a4, a5, a6, a7, a8, a9, al⟩ := HB3.out.cells
    clear i0 i1 i2 i3 i4 i5 i6 i7 i8 i9 il
    obtain ⟨V2, hV2⟩ : ∃ V, (w2).setCell ⟨q3, 3, none⟩ (.string nb) = V := ⟨_, rfl⟩
    have HB3 := Lib.hid (show NB V2 q3 (.int .i64 (kd : Int)) (.int .i64 0) (.int .i64 0) (.string nb) (.int .i64 0) (.int .i64 0) (.string ⟨#[]⟩) (.slice none 0 0) (.slice none 0 0) (.slice none 0 0) by rw [← hV2]; exact set_blk (HB3.out) 3 (.string nb))
    have HB2 := Lib.hid (show NB V2 w.heap.size (.int .i64 0) (.int .i64 0) (.int .i64 0) (.string ⟨#[]⟩) (.int .i64 0) (.int .i64 0) (.string ⟨#[]⟩) (.slice none 0 0) (.slice none 0 0) (.slice none 0 0) by rw [← hV2]; exact (NB.aside (HB2.out) (by omega)))
    have HP := Lib.hid (show PS2 57 V2 gp g n cp ts s2 by rw [← hV2]; exact (PSt.own HP.out (by omega) (by omega)))
    have HT := Lib.hid (show Touch (AtB gp) w V2 by rw [← hV2]; exact (Touch.setCell HT.out (p := ⟨q3, 3, none⟩) (.inr (by simp only; omega)) (.string nb)))
    obtain ⟨i0, i1, i2, i3, i4, i5, i6, i7, i8, i9, il⟩ := HB3.out.cells
    go_wp2_with fail
    refine (HM.out _).mono ?_
    rintro r wm ⟨rfl, rfl⟩
    have HC := Lib.hid (H3.out _ HP.out)
    go_wp2_with fail
    refine HC.out.mono ?_
    rintro r we ⟨rfl, hp, hT⟩
    clear i0 i1 i2 i3 i4 i5 i6 i7 i8 i9 il
    try clear a0 a1 a2 a3 a4 a5 a6 a7 a8 a9 al y0 y1 y2 y3 y4 y5 y6 y7 y8 y9
    have HB3 := Lib.hid (HB3.out.go hT (by omega))
    have HB2 := Lib.hid (HB2.out.go hT (by omega))
    have HT := Lib.hid (HT.out.same hT)
    have HP := Lib.hid hp
    clear hp hT
    obtain ⟨i0, i1, i2, i3, i4, i5, i6, i7, i8, i9, il⟩ := HB3.out.cells
    obtain ⟨z0, z1, z2, z3, z4, z5, z6, z7, z8, z9, zl⟩ := HB2.out.cells
    obtain ⟨f0, f1, f2, f3, f4, f5, f6, f7, f8, f9⟩ := HB2.out.free
    go_wp2
    have hTE := fun (W : World) (hW : Touch (AtB gp) w W) (i : Nat) (v : Value) => hW.setCell (p := ⟨w.heap.size, i, none⟩) (.inr (Nat.le_refl w.heap.size)) v
    have hTP := fun (W : World) (hW : PS2 57 W gp g n cp ts s3) (i : Nat) (v : Value) => (PSt.own (q := w.heap.size) (i := i) (v := v) hW hgp hgl : PS2 57 (W.setCell ⟨w.heap.size, i, none⟩ v) gp g n cp ts s3)
    refine bodyPost_ret (v := .agg #[.int .i64 (kd : Int), .int .i64 0, .int .i64 0, .string nb, .int .i64 0, .int .i64 0, .string ⟨#[]⟩, .slice none 0 0, .slice none 0 0, .slice none 0 0]) (by simp [results, Tryz.results113, go_sem, z0, z1, z2, z3, z4, z5, z6, z7, z8, z9]) rfl ⟨0, 0, ⟨#[]⟩, none, 0, 0, by rw [HNB.out]; rfl, ?_, ?_, ?_⟩
    · exact ⟨rfl, rfl, rfl, rfl, rfl, rfl⟩
    · iterate 10 (refine hTP _ ?_ _ _)
      exact HP.out
    · iterate 10 (refine hTE _ ?_ _ _)
      exact HT.out
theorem head_O16 {w : World} {gp g n cp B : Nat} {ts : List Tk} {σ : St} (hok : NamesOk ts) (hnk : NumsOk ts) (hv : LV w B) (hB : B ≤ gp) (h : PS2 57 w gp g n cp ts σ) {kd : Nat} (hk : headK ts σ = kd) (hg : kd ≤ 3 ∨ kd = 11) :
    Calls Tryz.prog 113 #[.pointer (some ⟨gp, 0, none⟩)] w (HdPost w gp g n cp ts kd (headV ts σ) (headS ts σ)) := by
  have _ := hok; have _ := hnk; have _ := hv; have _ := hB
  have hk15 : kd ≤ 15 := by rw [← hk]; exact headK_le ts σ
  have hmo : mostL kd = 16 := by unfold mostL; rw [if_pos (by omega)]
  have hMK := fun w => mostkids_any kd hk15 w
  rw [hmo] at hMK
  unfold headV headS headE headT
  rw [hk, hmo]
  rw [if_neg (show ¬ (kd = 4) by omega)]
  rw [if_neg (show ¬ (kd = 6) by omega)]
  rw [if_neg (show ¬ (kd = 7) by omega)]
  rw [if_neg (show ¬ (kd = 8) by omega)]
  rw [if_neg (show ¬ (kd = 9 ∨ kd = 10 ∨ kd = 12) by omega)]
  simp only [show ¬ (16 : Nat) = 0 from by decide, show (1 : Nat) < 16 from by decide, if_false, if_true]
  have e4 : ((kd : Int) == 4) = false := by simp; omega
  have e6 : ((kd : Int) == 6) = false := by simp; omega
  have e7 : ((kd : Int) == 7) = false := by simp; omega
  have e8 : ((kd : Int) == 8) = false := by simp; omega
  have e9 : ((kd : Int) == 9) = false := by simp; omega
  have e10 : ((kd : Int) == 10) = false := by simp; omega
  have e12 : ((kd : Int) == 12) = false := by simp; omega
  obtain ⟨W0, hW0⟩ : ∃ W, w.alloc (.cells #[.int .i64 0, .int .i64 0, .int .i64 0, .string ⟨#[]⟩, .int .i64 0, .int .i64 0, .string ⟨#[]⟩, .slice none 0 0, .slice none 0 0, .slice none 0 0] 47) = W := ⟨_, rfl⟩
  have t0 : Touch NoB w W0 := by rw [← hW0]; exact (Touch.refl _ _).alloc _
  have b2 : NB W0 w.heap.size (.int .i64 0) (.int .i64 0) (.int .i64 0) (.string ⟨#[]⟩) (.int .i64 0) (.int .i64 0) (.string ⟨#[]⟩) (.slice none 0 0) (.slice none 0 0) (.slice none 0 0) := by rw [← hW0]; exact NB.new w _ _ _ _ _ _ _ _ _ _ rfl
  have hgp := blk_lt h.blk
  have hgl := h.tl.lt
  have hs0 : W0.heap.size = w.heap.size + 1 := by rw [← hW0]; simp only [World.size_alloc]
  have HP := Lib.hid (h.touch t0)
  have HB2 := Lib.hid b2
  have HT := Lib.hid (Touch.anyB (F := AtB gp) t0)
  have HV := Lib.hid (And.intro hv hB)
  have HM := Lib.hid hMK
  have H1 := Lib.hid (fun (W : World) (q : PS2 57 W gp g n cp ts σ) (b : Nat) (hw : WdAt W b 16 nodeW) => choice_st q hw)
  have HN := Lib.hid nodes_any
  have hk' : choV ts nodeW σ = kd := hk
  obtain ⟨s1, hs1⟩ : ∃ z, choS ts nodeW σ = z := ⟨_, rfl⟩
  rw [hk', hs1] at H1
  simp only [hs1]
  obtain ⟨s2, hs2⟩ : ∃ z, exS ts [123] s1 = z := ⟨_, rfl⟩
  have H2 : Hid (∀ (W : World), PS2 57 W gp g n cp ts s1 → Calls Tryz.prog 83 #[.pointer (some ⟨gp, 0, none⟩), .string ⟨#[123]⟩] W fun x w' => x = .returned (.tuple #[]) ∧ PS2 57 w' gp g n cp ts s2 ∧ Touch (AtB gp) W w') := Lib.hid (fun W q => by rw [← hs2]; exact expect_st (s := [123]) q)
  simp only [hs2]
  unfold HdPost
  clear hs2 hs1 hk hk' h t0 b2 hok hnk hv hB hMK hmo hg hk15
  go_enter Tryz.func113, Tryz.ntmps113
  go_wp2_with fail
  refine (HN.out _).mono ?_
  rintro r X0 ⟨r0, rfl, hw0, tx0⟩
  have hs0 : w.heap.size + 1 ≤ X0.heap.size := by have := tx0.size; omega
  have HB2 := Lib.hid (HB2.out.go (Touch.anyB (F := AtB gp) tx0) (by omega))
  have HT := Lib.hid (HT.out.same (Touch.anyB (F := AtB gp) tx0))
  have HC := Lib.hid (H1.out X0 (HP.out.touch tx0) r0 hw0)
  clear hw0 tx0
  go_wp2_with fail
  refine HC.out.mono ?_
  rintro r w1 ⟨rfl, hp, hT⟩
  obtain ⟨X, hX⟩ : ∃ X, w1.alloc (.cells #[.int .i64 (kd : Int), .int .i64 0, .int .i64 0, .string ⟨#[]⟩, .int .i64 0, .int .i64 0, .string ⟨#[]⟩, .slice none 0 0, .slice none 0 0, .slice none 0 0] 47) = X := ⟨_, rfl⟩
  have tx : Touch NoB w1 X := by rw [← hX]; exact (Touch.refl _ _).alloc _
  obtain ⟨q3, hq3⟩ : ∃ q3, w1.heap.size = q3 := ⟨_, rfl⟩
  have hsq : w.heap.size < q3 := by have := hT.size; omega
  have HB3 := Lib.hid (show NB X q3 (.int .i64 (kd : Int)) (.int .i64 0) (.int .i64 0) (.string ⟨#[]⟩) (.int .i64 0) (.int .i64 0) (.string ⟨#[]⟩) (.slice none 0 0) (.slice none 0 0) (.slice none 0 0) by rw [← hX]; exact NB.new _ _ _ _ _ _ _ _ _ _ _ hq3)
  have HB2 := Lib.hid ((HB2.out.go hT (by omega)).go (Touch.anyB (F := AtB gp) tx) (by omega))
  have HT := Lib.hid (HT.out.same (hT.same (Touch.anyB tx)))
  have HP := Lib.hid (hp.touch tx)
  obtain ⟨i0, i1, i2, i3, i4, i5, i6, i7, i8, i9, il⟩ := HB3.out.cells
  clear hp hT tx
  subst hX
  go_wp2_with fail
  refine (HM.out _).mono ?_
  rintro r wm ⟨rfl, rfl⟩
  have HC := Lib.hid (H2.out _ HP.out)
  go_wp2_with fail
  refine HC.out.mono ?_
  rintro r we ⟨rfl, hp, hT⟩
  clear i0 i1 i2 i3 i4 i5 i6 i7 i8 i9 il
  try clear a0 a1 a2 a3 a4 a5 a6 a7 a8 a9 al y0 y1 y2 y3 y4 y5 y6 y7 y8 y9
  have HB3 := Lib.hid (HB3.out.go hT (by omega))
  have HB2 := Lib.hid (HB2.out.go hT (by omega))
  have HT := Lib.hid (HT.out.same hT)
  have HP := Lib.hid hp
  clear hp hT
  obtain ⟨i0, i1, i2, i3, i4, i5, i6, i7, i8, i9, il⟩ := HB3.out.cells
  obtain ⟨z0, z1, z2, z3, z4, z5, z6, z7, z8, z9, zl⟩ := HB2.out.cells
  obtain ⟨f0, f1, f2, f3, f4, f5, f6, f7, f8, f9⟩ := HB2.out.free
  go_wp2
  have hTE := fun (W : World) (hW : Touch (AtB gp) w W) (i : Nat) (v : Value) => hW.setCell (p := ⟨w.heap.size, i, none⟩) (.inr (Nat.le_refl w.heap.size)) v
  have hTP := fun (W : World) (hW : PS2 57 W gp g n cp ts s2) (i : Nat) (v : Value) => (PSt.own (q := w.heap.size) (i := i) (v := v) hW hgp hgl : PS2 57 (W.setCell ⟨w.heap.size, i, none⟩ v) gp g n cp ts s2)
  refine bodyPost_ret (v := .agg #[.int .i64 (kd : Int), .int .i64 0, .int .i64 0, .string ⟨#[]⟩, .int .i64 0, .int .i64 0, .string ⟨#[]⟩, .slice none 0 0, .slice none 0 0, .slice none 0 0]) (by simp [results, Tryz.results113, go_sem, z0, z1, z2, z3, z4, z5, z6, z7, z8, z9]) rfl ⟨0, 0, ⟨#[]⟩, none, 0, 0, by rfl, ?_, ?_, ?_⟩
  · exact ⟨rfl, rfl, rfl, rfl, rfl, rfl⟩
  · iterate 10 (refine hTP _ ?_ _ _)
    exact HP.out
  · iterate 10 (refine hTE _ ?_ _ _)
    exact HT.out
theorem head_O1 {w : World} {gp g n cp B : Nat} {ts : List Tk} {σ : St} (hok : NamesOk ts) (hnk : NumsOk ts) (hv : LV w B) (hB : B ≤ gp) (h : PS2 57 w gp g n cp ts σ) {kd : Nat} (hk : headK ts σ = kd) (hg : kd = 5) :
    Calls Tryz.prog 113 #[.pointer (some ⟨gp, 0, none⟩)] w (HdPost w gp g n cp ts kd (headV ts σ) (headS ts σ)) := by
  have _ := hok; have _ := hnk; have _ := hv; have _ := hB
  have hk15 : kd ≤ 15 := by rw [← hk]; exact headK_le ts σ
  have hmo : mostL kd = 1 := by unfold mostL; rw [if_neg (by omega), if_pos (by omega)]
  have hMK := fun w => mostkids_any kd hk15 w
  rw [hmo] at hMK
  unfold headV headS headE headT
  rw [hk, hmo]
  rw [if_neg (show ¬ (kd = 4) by omega)]
  rw [if_neg (show ¬ (kd = 6) by omega)]
  rw [if_neg (show ¬ (kd = 7) by omega)]
  rw [if_neg (show ¬ (kd = 8) by omega)]
  rw [if_neg (show ¬ (kd = 9 ∨ kd = 10 ∨ kd = 12) by omega)]
  simp only [show ¬ (1 : Nat) = 0 from by decide, show ¬ (1 : Nat) < 1 from by decide, if_false]
  have e4 : ((kd : Int) == 4) = false := by simp; omega
  have e6 : ((kd : Int) == 6) = false := by simp; omega
  have e7 : ((kd : Int) == 7) = false := by simp; omega
  have e8 : ((kd : Int) == 8) = false := by simp; omega
  have e9 : ((kd : Int) == 9) = false := by simp; omega
  have e10 : ((kd : Int) == 10) = false := by simp; omega
  have e12 : ((kd : Int) == 12) = false := by simp; omega
  obtain ⟨W0, hW0⟩ : ∃ W, w.alloc (.cells #[.int .i64 0, .int .i64 0, .int .i64 0, .string ⟨#[]⟩, .int .i64 0, .int .i64 0, .string ⟨#[]⟩, .slice none 0 0, .slice none 0 0, .slice none 0 0] 47) = W := ⟨_, rfl⟩
  have t0 : Touch NoB w W0 := by rw [← hW0]; exact (Touch.refl _ _).alloc _
  have b2 : NB W0 w.heap.size (.int .i64 0) (.int .i64 0) (.int .i64 0) (.string ⟨#[]⟩) (.int .i64 0) (.int .i64 0) (.string ⟨#[]⟩) (.slice none 0 0) (.slice none 0 0) (.slice none 0 0) := by rw [← hW0]; exact NB.new w _ _ _ _ _ _ _ _ _ _ rfl
  have hgp := blk_lt h.blk
  have hgl := h.tl.lt
  have hs0 : W0.heap.size = w.heap.size + 1 := by rw [← hW0]; simp only [World.size_alloc]
  have HP := Lib.hid (h.touch t0)
  have HB2 := Lib.hid b2
  have HT := Lib.hid (Touch.anyB (F := AtB gp) t0)
  have HV := Lib.hid (And.intro hv hB)
  have HM := Lib.hid hMK
  have H1 := Lib.hid (fun (W : World) (q : PS2 57 W gp g n cp ts σ) (b : Nat) (hw : WdAt W b 16 nodeW) => choice_st q hw)
  have HN := Lib.hid nodes_any
  have hk' : choV ts nodeW σ = kd := hk
  obtain ⟨s1, hs1⟩ : ∃ z, choS ts nodeW σ = z := ⟨_, rfl⟩
  rw [hk', hs1] at H1
  simp only [hs1]
  unfold HdPost
  clear hs1 hk hk' h t0 b2 hok hnk hv hB hMK hmo hg hk15
  go_enter Tryz.func113, Tryz.ntmps113
  go_wp2_with fail
  refine (HN.out _).mono ?_
  rintro r X0 ⟨r0, rfl, hw0, tx0⟩
  have hs0 : w.heap.size + 1 ≤ X0.heap.size := by have := tx0.size; omega
  have HB2 := Lib.hid (HB2.out.go (Touch.anyB (F := AtB gp) tx0) (by omega))
  have HT := Lib.hid (HT.out.same (Touch.anyB (F := AtB gp) tx0))
  have HC := Lib.hid (H1.out X0 (HP.out.touch tx0) r0 hw0)
  clear hw0 tx0
  go_wp2_with fail
  refine HC.out.mono ?_
  rintro r w1 ⟨rfl, hp, hT⟩
  obtain ⟨X, hX⟩ : ∃ X, w1.alloc (.cells #[.int .i64 (kd : Int), .int .i64 0, .int .i64 0, .string ⟨#[]⟩, .int .i64 0, .int .i64 0, .string ⟨#[]⟩, .slice none 0 0, .slice none 0 0, .slice none 0 0] 47) = X := ⟨_, rfl⟩
  have tx : Touch NoB w1 X := by rw [← hX]; exact (Touch.refl _ _).alloc _
  obtain ⟨q3, hq3⟩ : ∃ q3, w1.heap.size = q3 := ⟨_, rfl⟩
  have hsq : w.heap.size < q3 := by have := hT.size; omega
  have HB3 := Lib.hid (show NB X q3 (.int .i64 (kd : Int)) (.int .i64 0) (.int .i64 0) (.string ⟨#[]⟩) (.int .i64 0) (.int .i64 0) (.string ⟨#[]⟩) (.slice none 0 0) (.slice none 0 0) (.slice none 0 0) by rw [← hX]; exact NB.new _ _ _ _ _ _ _ _ _ _ _ hq3)
  have HB2 := Lib.hid ((HB2.out.go hT (by omega)).go (Touch.anyB (F := AtB gp) tx) (by omega))
  have HT := Lib.hid (HT.out.same (hT.same (Touch.anyB tx)))
  have HP := Lib.hid (hp.touch tx)
  obtain ⟨i0, i1, i2, i3, i4, i5, i6, i7, i8, i9, il⟩ := HB3.out.cells
  clear hp hT tx
  subst hX
  go_wp2_with fail
  refine (HM.out _).mono ?_
  rintro r wm ⟨rfl, rfl⟩
  obtain ⟨X, hX⟩ : ∃ X, w1.alloc (.cells #[.int .i64 (kd : Int), .int .i64 0, .int .i64 0, .string ⟨#[]⟩, .int .i64 0, .int .i64 0, .string ⟨#[]⟩, .slice none 0 0, .slice none 0 0, .slice none 0 0] 47) = X := ⟨_, rfl⟩
  clear i0 i1 i2 i3 i4 i5 i6 i7 i8 i9 il
  rw [hX] at HB2 HB3 HT HP
  try rw [hX]
  clear hX
  obtain ⟨i0, i1, i2, i3, i4, i5, i6, i7, i8, i9, il⟩ := HB3.out.cells
  obtain ⟨z0, z1, z2, z3, z4, z5, z6, z7, z8, z9, zl⟩ := HB2.out.cells
  obtain ⟨f0, f1, f2, f3, f4, f5, f6, f7, f8, f9⟩ := HB2.out.free
  go_wp2
  have hTE := fun (W : World) (hW : Touch (AtB gp) w W) (i : Nat) (v : Value) => hW.setCell (p := ⟨w.heap.size, i, none⟩) (.inr (Nat.le_refl w.heap.size)) v
  have hTP := fun (W : World) (hW : PS2 57 W gp g n cp ts s1) (i : Nat) (v : Value) => (PSt.own (q := w.heap.size) (i := i) (v := v) hW hgp hgl : PS2 57 (W.setCell ⟨w.heap.size, i, none⟩ v) gp g n cp ts s1)
  refine bodyPost_ret (v := .agg #[.int .i64 (kd : Int), .int .i64 0, .int .i64 0, .string ⟨#[]⟩, .int .i64 0, .int .i64 0, .string ⟨#[]⟩, .slice none 0 0, .slice none 0 0, .slice none 0 0]) (by simp [results, Tryz.results113, go_sem, z0, z1, z2, z3, z4, z5, z6, z7, z8, z9]) rfl ⟨0, 0, ⟨#[]⟩, none, 0, 0, by rfl, ?_, ?_, ?_⟩
  · exact ⟨rfl, rfl, rfl, rfl, rfl, rfl⟩
  · iterate 10 (refine hTP _ ?_ _ _)
    exact HP.out
  · iterate 10 (refine hTE _ ?_ _ _)
    exact HT.out
theorem head_O0 {w : World} {gp g n cp B : Nat} {ts : List Tk} {σ : St} (hok : NamesOk ts) (hnk : NumsOk ts) (hv : LV w B) (hB : B ≤ gp) (h : PS2 57 w gp g n cp ts σ) {kd : Nat} (hk : headK ts σ = kd) (hg : 13 ≤ kd) :
    Calls Tryz.prog 113 #[.pointer (some ⟨gp, 0, none⟩)] w (HdPost w gp g n cp ts kd (headV ts σ) (headS ts σ)) := by
  have _ := hok; have _ := hnk; have _ := hv; have _ := hB
  have hk15 : kd ≤ 15 := by rw [← hk]; exact headK_le ts σ
  have hmo : mostL kd = 0 := by unfold mostL; rw [if_neg (by omega), if_neg (by omega)]
  have hMK := fun w => mostkids_any kd hk15 w
  rw [hmo] at hMK
  unfold headV headS headE headT
  rw [hk, hmo]
  rw [if_neg (show ¬ (kd = 4) by omega)]
  rw [if_neg (show ¬ (kd = 6) by omega)]
  rw [if_neg (show ¬ (kd = 7) by omega)]
  rw [if_neg (show ¬ (kd = 8) by omega)]
  rw [if_neg (show ¬ (kd = 9 ∨ kd = 10 ∨ kd = 12) by omega)]
  simp only [if_true]
  have e4 : ((kd : Int) == 4) = false := by simp; omega
  have e6 : ((kd : Int) == 6) = false := by simp; omega
  have e7 : ((kd : Int) == 7) = false := by simp; omega
  have e8 : ((kd : Int) == 8) = false := by simp; omega
  have e9 : ((kd : Int) == 9) = false := by simp; omega
  have e10 : ((kd : Int) == 10) = false := by simp; omega
  have e12 : ((kd : Int) == 12) = false := by simp; omega
  obtain ⟨W0, hW0⟩ : ∃ W, w.alloc (.cells #[.int .i64 0, .int .i64 0, .int .i64 0, .string ⟨#[]⟩, .int .i64 0, .int .i64 0, .string ⟨#[]⟩, .slice none 0 0, .slice none 0 0, .slice none 0 0] 47) = W := ⟨_, rfl⟩
  have t0 : Touch NoB w W0 := by rw [← hW0]; exact (Touch.refl _ _).alloc _
  have b2 : NB W0 w.heap.size (.int .i64 0) (.int .i64 0) (.int .i64 0) (.string ⟨#[]⟩) (.int .i64 0) (.int .i64 0) (.string ⟨#[]⟩) (.slice none 0 0) (.slice none 0 0) (.slice none 0 0) := by rw [← hW0]; exact NB.new w _ _ _ _ _ _ _ _ _ _ rfl
  have hgp := blk_lt h.blk
  have hgl := h.tl.lt
  have hs0 : W0.heap.size = w.heap.size + 1 := by rw [← hW0]; simp only [World.size_alloc]
  have HP := Lib.hid (h.touch t0)
  have HB2 := Lib.hid b2
  have HT := Lib.hid (Touch.anyB (F := AtB gp) t0)
  have HV := Lib.hid (And.intro hv hB)
  have HM := Lib.hid hMK
  have H1 := Lib.hid (fun (W : World) (q : PS2 57 W gp g n cp ts σ) (b : Nat) (hw : WdAt W b 16 nodeW) => choice_st q hw)
  have HN := Lib.hid nodes_any
  have hk' : choV ts nodeW σ = kd := hk
  obtain ⟨s1, hs1⟩ : ∃ z, choS ts nodeW σ = z := ⟨_, rfl⟩
  rw [hk', hs1] at H1
  simp only [hs1]
  obtain ⟨s2, hs2⟩ : ∃ z, exS ts [59] s1 = z := ⟨_, rfl⟩
  have H2 : Hid (∀ (W : World), PS2 57 W gp g n cp ts s1 → Calls Tryz.prog 83 #[.pointer (some ⟨gp, 0, none⟩), .string ⟨#[59]⟩] W fun x w' => x = .returned (.tuple #[]) ∧ PS2 57 w' gp g n cp ts s2 ∧ Touch (AtB gp) W w') := Lib.hid (fun W q => by rw [← hs2]; exact expect_st (s := [59]) q)
  simp only [hs2]
  unfold HdPost
  clear hs2 hs1 hk hk' h t0 b2 hok hnk hv hB hMK hmo hg hk15
  go_enter Tryz.func113, Tryz.ntmps113
  go_wp2_with fail
  refine (HN.out _).mono ?_
  rintro r X0 ⟨r0, rfl, hw0, tx0⟩
  have hs0 : w.heap.size + 1 ≤ X0.heap.size := by have := tx0.size; omega
  have HB2 := Lib.hid (HB2.out.go (Touch.anyB (F := AtB gp) tx0) (by omega))
  have HT := Lib.hid (HT.out.same (Touch.anyB (F := AtB gp) tx0))
  have HC := Lib.hid (H1.out X0 (HP.out.touch tx0) r0 hw0)
  clear hw0 tx0
  go_wp2_with fail
  refine HC.out.mono ?_
  rintro r w1 ⟨rfl, hp, hT⟩
  obtain ⟨X, hX⟩ : ∃ X, w1.alloc (.cells #[.int .i64 (kd : Int), .int .i64 0, .int .i64 0, .string ⟨#[]⟩, .int .i64 0, .int .i64 0, .string ⟨#[]⟩, .slice none 0 0, .slice none 0 0, .slice none 0 0] 47) = X := ⟨_, rfl⟩
  have tx : Touch NoB w1 X := by rw [← hX]; exact (Touch.refl _ _).alloc _
  obtain ⟨q3, hq3⟩ : ∃ q3, w1.heap.size = q3 := ⟨_, rfl⟩
  have hsq : w.heap.size < q3 := by have := hT.size; omega
  have HB3 := Lib.hid (show NB X q3 (.int .i64 (kd : Int)) (.int .i64 0) (.int .i64 0) (.string ⟨#[]⟩) (.int .i64 0) (.int .i64 0) (.string ⟨#[]⟩) (.slice none 0 0) (.slice none 0 0) (.slice none 0 0) by rw [← hX]; exact NB.new _ _ _ _ _ _ _ _ _ _ _ hq3)
  have HB2 := Lib.hid ((HB2.out.go hT (by omega)).go (Touch.anyB (F := AtB gp) tx) (by omega))
  have HT := Lib.hid (HT.out.same (hT.same (Touch.anyB tx)))
  have HP := Lib.hid (hp.touch tx)
  obtain ⟨i0, i1, i2, i3, i4, i5, i6, i7, i8, i9, il⟩ := HB3.out.cells
  clear hp hT tx
  subst hX
  go_wp2_with fail
  refine (HM.out _).mono ?_
  rintro r wm ⟨rfl, rfl⟩
  have HC := Lib.hid (H2.out _ HP.out)
  go_wp2_with fail
  refine HC.out.mono ?_
  rintro r we ⟨rfl, hp, hT⟩
  clear i0 i1 i2 i3 i4 i5 i6 i7 i8 i9 il
  try clear a0 a1 a2 a3 a4 a5 a6 a7 a8 a9 al y0 y1 y2 y3 y4 y5 y6 y7 y8 y9
  have HB3 := Lib.hid (HB3.out.go hT (by omega))
  have HB2 := Lib.hid (HB2.out.go hT (by omega))
  have HT := Lib.hid (HT.out.same hT)
  have HP := Lib.hid hp
  clear hp hT
  obtain ⟨i0, i1, i2, i3, i4, i5, i6, i7, i8, i9, il⟩ := HB3.out.cells
  obtain ⟨z0, z1, z2, z3, z4, z5, z6, z7, z8, z9, zl⟩ := HB2.out.cells
  obtain ⟨f0, f1, f2, f3, f4, f5, f6, f7, f8, f9⟩ := HB2.out.free
  go_wp2
  have hTE := fun (W : World) (hW : Touch (AtB gp) w W) (i : Nat) (v : Value) => hW.setCell (p := ⟨w.heap.size, i, none⟩) (.inr (Nat.le_refl w.heap.size)) v
  have hTP := fun (W : World) (hW : PS2 57 W gp g n cp ts s2) (i : Nat) (v : Value) => (PSt.own (q := w.heap.size) (i := i) (v := v) hW hgp hgl : PS2 57 (W.setCell ⟨w.heap.size, i, none⟩ v) gp g n cp ts s2)
  refine bodyPost_ret (v := .agg #[.int .i64 (kd : Int), .int .i64 0, .int .i64 0, .string ⟨#[]⟩, .int .i64 0, .int .i64 0, .string ⟨#[]⟩, .slice none 0 0, .slice none 0 0, .slice none 0 0]) (by simp [results, Tryz.results113, go_sem, z0, z1, z2, z3, z4, z5, z6, z7, z8, z9]) rfl ⟨0, 0, ⟨#[]⟩, none, 0, 0, by rfl, ?_, ?_, ?_⟩
  · exact ⟨rfl, rfl, rfl, rfl, rfl, rfl⟩
  · iterate 10 (refine hTP _ ?_ _ _)
    exact HP.out
  · iterate 10 (refine hTE _ ?_ _ _)
    exact HT.out
theorem head_st {w : World} {gp g n cp B : Nat} {ts : List Tk} {σ : St} (hok : NamesOk ts) (hnk : NumsOk ts) (hv : LV w B) (hB : B ≤ gp) (h : PS2 57 w gp g n cp ts σ) :
    Calls Tryz.prog 113 #[.pointer (some ⟨gp, 0, none⟩)] w (HdPost w gp g n cp ts (headK ts σ) (headV ts σ) (headS ts σ)) := by
  have hk := headK_le ts σ
  have hc : headK ts σ = 4 ∨ headK ts σ = 6 ∨ headK ts σ = 7 ∨ headK ts σ = 8 ∨ (headK ts σ = 9 ∨ headK ts σ = 10 ∨ headK ts σ = 12) ∨ (headK ts σ ≤ 3 ∨ headK ts σ = 11) ∨ headK ts σ = 5 ∨ 13 ≤ headK ts σ := by omega
  rcases hc with hc | hc | hc | hc | hc | hc | hc | hc
  · exact head_G4 hok hnk hv hB h rfl hc
  · exact head_G6 hok hnk hv hB h rfl hc
  · exact head_G7 hok hnk hv hB h rfl hc
  · exact head_G8 hok hnk hv hB h rfl hc
  · exact head_Gn hok hnk hv hB h rfl hc
  · exact head_O16 hok hnk hv hB h rfl hc
  · exact head_O1 hok hnk hv hB h rfl hc
  · exact head_O0 hok hnk hv hB h rfl hc
end Go.Proofs.YtkmbobfjoaldgaaGreatDoor

/-
  A parser of nodes and programs over lists of tokens, told by plain functions of a place and an error: the nodes that wait for a kid on a stack. No program is named here.
-/
namespace Go.Proofs.YtkmbobfjoaldgaaGreatDoor
set_option maxRecDepth 100000

/-- A node: its kind, its numbers, its name, its expression, its Kids, its weights. -/
inductive Nd where
  | mk (kd a b : Nat) (nm : Bs) (ex : Ex) (ks : List Nd) (ws : List Ex)
def nd0 : Nd := .mk 0 0 0 [] (.leaf 0 0 []) [] []
def Nd.kd : Nd → Nat | .mk k _ _ _ _ _ _ => k
def Nd.ks : Nd → List Nd | .mk _ _ _ _ _ l _ => l
def Nd.ws : Nd → List Ex | .mk _ _ _ _ _ _ l => l
def Nd.add : Nd → Nd → Nd | .mk k a b nm ex ks ws, c => .mk k a b nm ex (ks ++ [c]) ws
def Nd.wadd : Nd → Ex → Nd | .mk k a b nm ex ks ws, x => .mk k a b nm ex ks (ws ++ [x])
def headN (ts : List Tk) (σ : St) : Nd := .mk (headK ts σ) (headV ts σ).a (headV ts σ).b (headV ts σ).nm (headV ts σ).ex [] []
/-- Does a kid follow? The node, with its weight, and the state ahead of the kid. -/
def anoV (ts : List Tk) (n : Nd) (σ : St) : Bool := if mostL n.kd ≤ 1 then decide (n.ks.length < mostL n.kd) else !(decide (0 < n.ks.length) && isS ts [125] σ)
def anoF (n : Nd) (σ : St) : St := if n.ks.length = mostL n.kd then failS 9 σ else σ
def anoN (ts : List Tk) (n : Nd) (σ : St) : Nd := if mostL n.kd ≤ 1 then n else if (decide (0 < n.ks.length) && isS ts [125] σ) = true then n else if n.kd = 11 then n.wadd (eqV ts (anoF n σ)) else n
def anoS (ts : List Tk) (n : Nd) (σ : St) : St := if mostL n.kd ≤ 1 then σ else if (decide (0 < n.ks.length) && isS ts [125] σ) = true then acS ts [125] σ else if n.kd = 11 then exS ts [58] (eqS ts (anoF n σ)) else anoF n σ
def begS (op : List Nd) (σ : St) : St := if op.length = 40 then failS 4 σ else σ
/-- The stack's way: a node begins (none), or one has been read so far (some). -/
def nodR (ts : List Tk) : Nat → List Nd → Option Nd → St → Nd × St
  | 0, _, _, σ => (nd0, σ)
  | f + 1, op, none, σ => nodR ts f op (some (headN ts (begS op σ))) (headS ts (begS op σ))
  | f + 1, op, some n, σ =>
    if σ.2 ≠ 0 then (nd0, σ)
    else if anoV ts n σ = true then nodR ts f (anoN ts n σ :: op) none (anoS ts n σ)
    else match op with
      | [] => (anoN ts n σ, anoS ts n σ)
      | p :: r => nodR ts f r (some (p.add (anoN ts n σ))) (anoS ts n σ)
def nodG (ts : List Tk) (σ : St) : Nd × St := nodR ts (6 * ts.length + 100) [] none σ
structure Tr where
  nm : Bs
  root : Nd
structure Ac where
  nm : Bs
  cost : Nat
  need : List Cn
  make : List Mk
structure Dm where
  nm : Bs
  vars : List Va
  acts : List Ac
  goal : List Cn
structure Pg where
  keys : List Ky
  trees : List Tr
  doms : List Dm
def treV (ts : List Tk) (σ : St) : Tr := ⟨naV ts σ, (nodG ts (exS ts [123] (naS ts σ))).1⟩
def treS (ts : List Tk) (σ : St) : St := exS ts [125] (nodG ts (exS ts [123] (naS ts σ))).2
def needB : Bs := [110, 101, 101, 100]
def makeB : Bs := [109, 97, 107, 101]
def varB : Bs := [118, 97, 114]
def actB : Bs := [97, 99, 116]
def goalB : Bs := [103, 111, 97, 108]
def keyB : Bs := [107, 101, 121]
def treeB : Bs := [116, 114, 101, 101]
def domB : Bs := [100, 111, 109, 97, 105, 110]
/-- An act's needs and makes. -/
def actR (ts : List Tk) : Nat → List Cn → List Mk → St → (List Cn × List Mk) × St
  | 0, a, b, σ => ((a, b), σ)
  | f + 1, a, b, σ =>
    if wiV ts σ = true then
      let s0 := wiS ts σ
      if beV ts needB a.length 8 s0 = true then
        let s1 := beT ts needB a.length 8 s0
        actR ts f (a ++ [cndV ts s1]) b (cndS ts s1)
      else
        let s1 := beT ts needB a.length 8 s0
        if beV ts makeB b.length 8 s1 = true then
          let s2 := beT ts makeB b.length 8 s1
          actR ts f a (b ++ [mkeV ts s2]) (mkeS ts s2)
        else actR ts f a b (failS 2 (beT ts makeB b.length 8 s1))
    else ((a, b), wiS ts σ)
def actH (ts : List Tk) (σ : St) : St := exS ts [123] (nuS ts (exS ts [99, 111, 115, 116] (naS ts σ)))
def actV (ts : List Tk) (σ : St) : Ac := let r := actR ts (ts.length + 5) [] [] (actH ts σ); ⟨naV ts σ, nuV ts (exS ts [99, 111, 115, 116] (naS ts σ)), r.1.1, r.1.2⟩
def actS (ts : List Tk) (σ : St) : St := (actR ts (ts.length + 5) [] [] (actH ts σ)).2
/-- A domain's elements. -/
def domR (ts : List Tk) : Nat → List Va → List Ac → List Cn → St → (List Va × List Ac × List Cn) × St
  | 0, a, b, c, σ => ((a, b, c), σ)
  | f + 1, a, b, c, σ =>
    if wiV ts σ = true then
      let s0 := wiS ts σ
      let s1 := beT ts varB a.length 8 s0
      if beV ts varB a.length 8 s0 = true then domR ts f (a ++ [varV ts s1]) b c (varS ts s1)
      else
        let s2 := beT ts actB b.length 20 s1
        if beV ts actB b.length 20 s1 = true then domR ts f a (b ++ [actV ts s2]) c (actS ts s2)
        else
          let s3 := beT ts goalB c.length 8 s2
          if beV ts goalB c.length 8 s2 = true then domR ts f a b (c ++ [cndV ts s3]) (cndS ts s3)
          else domR ts f a b c (failS 2 s3)
    else ((a, b, c), wiS ts σ)
def domV (ts : List Tk) (σ : St) : Dm := let r := domR ts (ts.length + 5) [] [] [] (exS ts [123] (naS ts σ)); ⟨naV ts σ, r.1.1, r.1.2.1, r.1.2.2⟩
def domS (ts : List Tk) (σ : St) : St := (domR ts (ts.length + 5) [] [] [] (exS ts [123] (naS ts σ))).2
/-- A program's declarations. -/
def prgR (ts : List Tk) : Nat → List Ky → List Tr → List Dm → St → (List Ky × List Tr × List Dm) × St
  | 0, a, b, c, σ => ((a, b, c), σ)
  | f + 1, a, b, c, σ =>
    if (nxS ts σ).kd ≠ 0 then
      let s1 := beT ts keyB a.length 100 σ
      if beV ts keyB a.length 100 σ = true then prgR ts f (a ++ [keyV ts s1]) b c (keyS ts s1)
      else
        let s2 := beT ts treeB b.length 100 s1
        if beV ts treeB b.length 100 s1 = true then prgR ts f a (b ++ [treV ts s2]) c (treS ts s2)
        else
          let s3 := beT ts domB c.length 100 s2
          if beV ts domB c.length 100 s2 = true then prgR ts f a b (c ++ [domV ts s3]) (domS ts s3)
          else prgR ts f a b c (failS 2 s3)
    else ((a, b, c), σ)
def prgG (ts : List Tk) : Pg × St := let r := prgR ts (ts.length + 5) [] [] [] (0, 0); (⟨r.1.1, r.1.2.1, r.1.2.2⟩, r.2)
/-- What a text comes to: a program, or an error and its offset. -/
inductive Pr where
  | ok (p : Pg)
  | er (e at_ : Nat)
def parP (b : Bs) : Pr := match lexL b with
  | .bad p => .er 2 p
  | .good ts => if (prgG ts).2.2 = 0 then .ok (prgG ts).1 else .er (prgG ts).2.2 (match ts[(prgG ts).2.1]? with | some t => t.pl | none => 0)
end Go.Proofs.YtkmbobfjoaldgaaGreatDoor

/-
  What the document's own SameExpr returns of two expressions in memory. Conditions: those that each theorem names.
-/
namespace Go.Proofs.YtkmbobfjoaldgaaGreatDoor
open Go.ChangeShapes Go.WideShapes Go.ChangeAt Go.RowKit
set_option maxRecDepth 100000
set_option maxHeartbeats 4000000

def exK : Ex → Int
  | .leaf k _ _ => k
  | .one k _ => k
  | .two k _ _ => k
def exN : Ex → Int
  | .leaf _ n _ => n
  | _ => 0
def exSt : Ex → Bs
  | .leaf _ _ s => s
  | _ => []
theorem ET.top {w : World} {Q : Nat → Prop} : ∀ {x : Ex} {a b : Int} {s : ByteArray} {A : Option Addr} {m c : Nat}, ET w Q x a b s A m c → a = exK x ∧ b = exN x ∧ s = bs (exSt x)
  | .leaf k n q, a, b, s, A, m, c, h => by obtain ⟨h1, h2, h3, _⟩ := h; exact ⟨h1, h2, h3⟩
  | .one k x, a, b, s, A, m, c, h => by obtain ⟨h1, h2, h3, _⟩ := h; exact ⟨h1, h2, h3⟩
  | .two k x y, a, b, s, A, m, c, h => by obtain ⟨h1, h2, h3, _⟩ := h; exact ⟨h1, h2, h3⟩
def sameL : List Ex → List Ex → Bool
  | [], [] => true
  | a :: r, b :: q => a.same b && sameL r q
  | _, _ => false
theorem same_top (x y : Ex) : x.same y = (decide (exK x = exK y) && decide (exN x = exN y) && decide (exSt x = exSt y) && sameL (kidsOf x) (kidsOf y)) := by
  rw [Bool.eq_iff_iff]
  cases x <;> cases y <;> simp [Ex.same, exK, exN, exSt, kidsOf, sameL, and_assoc]
  · exact ⟨fun ⟨a, b, c⟩ => ⟨decide_eq_true a, decide_eq_true b, decide_eq_true c⟩, fun ⟨a, b, c⟩ => ⟨of_decide_eq_true a, of_decide_eq_true b, of_decide_eq_true c⟩⟩
  · exact fun _ => ⟨fun a => decide_eq_true a, fun a => of_decide_eq_true a⟩
  · exact fun _ _ => ⟨fun a => decide_eq_true a, fun a => of_decide_eq_true a⟩
theorem sameL_len : ∀ (l m : List Ex), sameL l m = true → l.length = m.length
  | [], [], _ => rfl
  | a :: r, b :: q, h => by simp only [sameL, Bool.and_eq_true] at h; simp [sameL_len r q h.2]
  | [], b :: q, h => by simp [sameL] at h
  | a :: r, [], h => by simp [sameL] at h
theorem sameL_no : ∀ (l m : List Ex) (i : Nat) (x y : Ex), l[i]? = some x → m[i]? = some y → x.same y = false → sameL l m = false
  | [], _, i, x, y, h, _, _ => by cases h
  | a :: r, [], i, x, y, _, h, _ => by cases h
  | a :: r, b :: q, 0, x, y, h1, h2, h => by
    simp only [List.getElem?_cons_zero, Option.some.injEq] at h1 h2
    subst h1 h2
    simp [sameL, h]
  | a :: r, b :: q, i + 1, x, y, h1, h2, h => by
    have := sameL_no r q i x y (by simpa using h1) (by simpa using h2) h
    simp [sameL, this]
theorem sameL_yes : ∀ (l m : List Ex), l.length = m.length → (∀ (i : Nat) (x y : Ex), l[i]? = some x → m[i]? = some y → x.same y = true) → sameL l m = true
  | [], [], _, _ => rfl
  | a :: r, b :: q, hl, h => by
    simp only [sameL, Bool.and_eq_true]
    exact ⟨h 0 a b rfl rfl, sameL_yes r q (by simpa using hl) (fun i x y h1 h2 => h (i + 1) x y (by simpa using h1) (by simpa using h2))⟩
  | [], b :: q, hl, _ => by simp at hl
  | a :: r, [], hl, _ => by simp at hl

/-- What is assumed of SameExpr below depth N. -/
def SameOk (N : Nat) : Prop := ∀ (x y : Ex), x.depth ≤ N → ∀ (w : World) (Q R : Nat → Prop) (a b : Int) (s : ByteArray) (A : Option Addr) (m c : Nat) (a' b' : Int) (s' : ByteArray) (A' : Option Addr) (m' c' : Nat), ET w Q x a b s A m c → ET w R y a' b' s' A' m' c' →
  Calls Tryz.prog 45 #[.agg #[.int .i64 a, .int .i64 b, .string s, .slice A m c], .agg #[.int .i64 a', .int .i64 b', .string s', .slice A' m' c']] w fun e w' => e = .returned (.bool (x.same y)) ∧ Touch NoB w w'
def SmRel (x y : Ex) (m : Nat) (w : World) (v5 : Value) (wr : World) : Prop := ∃ i : Nat, i ≤ m ∧ v5 = .int .i64 i ∧ (∀ (j : Nat) (p q : Ex), j < i → (kidsOf x)[j]? = some p → (kidsOf y)[j]? = some q → p.same q = true) ∧ Touch NoB w wr
theorem sames_any {N : Nat} (H : SameOk N) {x y : Ex} (hx : x.depth ≤ N + 1) {w : World} {Q R : Nat → Prop} {a b : Int} {s : ByteArray} {A : Option Addr} {m c : Nat} {a' b' : Int} {s' : ByteArray} {A' : Option Addr} {m' c' : Nat} (h1 : ET w Q x a b s A m c) (h2 : ET w R y a' b' s' A' m' c') :
    Calls Tryz.prog 46 #[.slice A m c, .slice A' m' c'] w fun e w' => e = .returned (.bool (sameL (kidsOf x) (kidsOf y))) ∧ Touch NoB w w' := by
  obtain ⟨hl1, rfl, hm1⟩ := h1.len
  obtain ⟨hl2, rfl, hm2⟩ := h2.len
  by_cases hmm : c = c'
  · subst hmm
    have H1 := Lib.hid h1
    have H2 := Lib.hid h2
    have HL := Lib.hid (And.intro hl1 (And.intro hl2 hx))
    have HH := Lib.hid H
    clear h1 h2 hl1 hl2 hx H
    go_enter Tryz.func46, Tryz.ntmps46
    go_wp2
    go_loopw [5] (fun v5 wr => SmRel x y c w v5 wr) (fun v5 _ => c - (intOf v5).toNat)
    case atStart => exact ⟨0, Nat.zero_le _, rfl, fun j p q hj => by omega, Touch.refl _ _⟩
    case round =>
      obtain ⟨i, hi, rfl, hno, hTr⟩ := hrel
      by_cases hlt : i < c
      · obtain ⟨p, hp⟩ : ∃ p, (kidsOf x)[i]? = some p := ⟨(kidsOf x)[i]'(by rw [HL.out.1]; exact hlt), List.getElem?_eq_getElem _⟩
        obtain ⟨q, hq⟩ : ∃ q, (kidsOf y)[i]? = some q := ⟨(kidsOf y)[i]'(by rw [HL.out.2.1]; exact hlt), List.getElem?_eq_getElem _⟩
        obtain ⟨g1, a1, b1, t1, A1, m1, c1, rfl, kl1, k0, k1, k2, k3, ket1⟩ := (H1.out.touch0 hTr).kid i p hp
        obtain ⟨g2, a2, b2, t2, A2, m2, c2, rfl, kl2, l0, l1, l2, l3, ket2⟩ := (H2.out.touch0 hTr).kid i q hq
        have p0 : wr.drew.cell? ⟨g1, i * 4, none⟩ = some (.int .i64 a1) := k0
        have p1 : wr.drew.cell? ⟨g1, i * 4 + 1, none⟩ = some (.int .i64 b1) := k1
        have p2 : wr.drew.cell? ⟨g1, i * 4 + 2, none⟩ = some (.string t1) := k2
        have p3 : wr.drew.cell? ⟨g1, i * 4 + 3, none⟩ = some (.slice A1 m1 c1) := k3
        have q0 : wr.drew.cell? ⟨g2, i * 4, none⟩ = some (.int .i64 a2) := l0
        have q1 : wr.drew.cell? ⟨g2, i * 4 + 1, none⟩ = some (.int .i64 b2) := l1
        have q2 : wr.drew.cell? ⟨g2, i * 4 + 2, none⟩ = some (.string t2) := l2
        have q3 : wr.drew.cell? ⟨g2, i * 4 + 3, none⟩ = some (.slice A2 m2 c2) := l3
        have tdr : Touch NoB wr wr.drew := (Touch.refl _ _).drew
        have HC := Lib.hid (HH.out p q (by have := kid_lt hp; have := HL.out.2.2; omega) wr.drew Q R _ _ _ _ _ _ _ _ _ _ _ _ (ket1.touch0 tdr) (ket2.touch0 tdr))
        have HN := Lib.hid (And.intro hno (And.intro hp hq))
        have HT := Lib.hid (hTr.same tdr)
        clear ket1 ket2 hTr hno hp hq k0 k1 k2 k3 l0 l1 l2 l3 tdr
        cases hsm : p.same q
        · rw [hsm] at HC
          have HS := Lib.hid (sameL_no _ _ i p q HN.out.2.1 HN.out.2.2 hsm)
          clear hsm
          go_wp2_with fail
          go_region_law (go_simp; go_at_call 45; refine HC.out.mono ?_; rintro r w2 ⟨rfl, hT2⟩; have HT2 := Lib.hid (HT.out.same hT2); clear hT2)
          all_goals
            go_wp2
            go_ret
            exact ⟨ret_bool HS.out.symm, HT2.out⟩
        · rw [hsm] at HC
          have HS := Lib.hid hsm
          clear hsm
          go_wp2_with fail
          go_region_law (go_simp; go_at_call 45; refine HC.out.mono ?_; rintro r w2 ⟨rfl, hT2⟩; have HT2 := Lib.hid (HT.out.same hT2); clear hT2)
          all_goals
            go_wp2
            go_roundw
            case rel =>
              refine ⟨i + 1, by omega, by go_num, fun j p' q' hj h1 h2 => ?_, HT2.out⟩
              by_cases ej : j = i
              · subst ej
                have e1 := HN.out.2.1.symm.trans h1
                have e2 := HN.out.2.2.symm.trans h2
                injection e1 with e1
                injection e2 with e2
                subst e1 e2
                exact HS.out
              · exact HN.out.1 j p' q' (by omega) h1 h2
            case measure => simp [intOf]; omega
      · obtain rfl : i = c := by omega
        have HS := Lib.hid (sameL_yes (kidsOf x) (kidsOf y) (by rw [HL.out.1, HL.out.2.1]) (fun j p q h1 h2 => hno j p q (by have := (List.getElem?_eq_some_iff.1 h1).1; rw [HL.out.1] at this; exact this) h1 h2))
        have HT := Lib.hid hTr
        clear hTr hno
        go_wp2
        go_ret
        exact ⟨ret_bool HS.out.symm, HT.out⟩
  · have hne : ((c : Int) != (c' : Int)) = true := by
      have : ¬ (c : Int) = (c' : Int) := by omega
      simpa using this
    have HS : Hid (sameL (kidsOf x) (kidsOf y) = false) := Lib.hid (by
      cases h : sameL (kidsOf x) (kidsOf y) with
      | false => rfl
      | true => have := sameL_len _ _ h; omega)
    clear h1 h2 H
    go_enter Tryz.func46, Tryz.ntmps46
    go_wp2
    go_ret
    exact ⟨ret_bool HS.out.symm, Touch.refl _ _⟩
theorem same_all : ∀ N : Nat, SameOk N
  | 0 => fun x y h => by cases x <;> simp [Ex.depth] at h
  | N + 1 => by
    intro x y hN w Q R a b s A m c a' b' s' A' m' c' h1 h2
    have HC := Lib.hid (fun W (t : Touch NoB w W) => sames_any (same_all N) hN (h1.touch0 t) (h2.touch0 t))
    obtain ⟨e1, e2, e3⟩ := h1.top
    obtain ⟨e4, e5, e6⟩ := h2.top
    have HST := Lib.hid (same_top x y)
    have hk : (a != a') = !decide (exK x = exK y) := by
      rw [e1, e4]
      by_cases h : exK x = exK y
      · simp [h]
      · simp [h]
    have hn : (b != b') = !decide (exN x = exN y) := by
      rw [e2, e5]
      by_cases h : exN x = exN y
      · simp [h]
      · simp [h]
    have hs : (s.toList == s'.toList) = decide (exSt x = exSt y) := by
      rw [e3, e6, bs_toList, bs_toList]
      by_cases h : exSt x = exSt y
      · simp [h]
      · simp [h]
    clear h1 h2 e1 e2 e3 e4 e5 e6 hN
    cases hk1 : decide (exK x = exK y) <;> cases hn1 : decide (exN x = exN y) <;> cases hs1 : decide (exSt x = exSt y)
    all_goals
      rw [hk1] at hk HST
      rw [hn1] at hn HST
      rw [hs1] at hs HST
      simp only [Bool.not_true, Bool.not_false] at hk hn
      simp only [Bool.false_and, Bool.and_false, Bool.true_and, Bool.and_true] at HST
      clear hk1 hn1 hs1
      rw [HST.out]
      try (obtain ⟨sl, hsl⟩ : ∃ sl, sameL (kidsOf x) (kidsOf y) = sl := ⟨_, rfl⟩)
      try rw [hsl] at HC
      try rw [hsl]
      try clear hsl
      go_enter Tryz.func45, Tryz.ntmps45
      go_wp2_with (first | (go_at_call 46; refine (HC.out _ (((Touch.refl _ _).alloc _).alloc _)).mono ?_; rintro r w2 ⟨rfl, hT2⟩))
      first
      | (go_ret
         exact ⟨rfl, (((Touch.refl _ _).alloc _).alloc _).same hT2⟩)
      | (go_ret
         exact ⟨rfl, (((Touch.refl _ _).alloc _).alloc _)⟩)
end Go.Proofs.YtkmbobfjoaldgaaGreatDoor
