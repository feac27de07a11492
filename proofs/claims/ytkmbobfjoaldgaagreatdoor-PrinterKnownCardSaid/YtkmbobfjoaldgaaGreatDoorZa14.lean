/-
  What package tree's tree does with a parser in memory. Conditions: the table of levels can be read; names and numbers among the tokens are such; an end's token lies at or behind the place.
-/
import Derived.Test.YtkmbobfjoaldgaaGreatDoorZa13
namespace Go.Proofs.YtkmbobfjoaldgaaGreatDoor
open Go.ChangeShapes Go.WideShapes Go.ChangeAt Go.RowKit
set_option maxRecDepth 100000
set_option maxHeartbeats 4000000

/-- A block of eleven cells. -/
def TB (w : World) (q : Nat) (cs : Array Value) : Prop := w.heap[q]? = some (.cells cs 49 (0, 0))
theorem TB.touch {w w' : World} {F : Nat → Prop} {q : Nat} {cs : Array Value} (h : TB w q cs) (t : Touch F w w') (hq : ¬ F q) : TB w' q cs := (t.block q (blk_lt h) hq).trans h
/-- What a tree's parser leaves. -/
def TrPost (w : World) (gp g n cp : Nat) (ts : List Tk) (v : Tr) (st : St) (x : Ending) (w' : World) : Prop := ∃ (e0 e1 : Int) (e2 : ByteArray) (A : Option Addr) (m c : Nat) (kA : Option Addr) (km kc : Nat) (wA : Option Addr) (wm wc : Nat),
  x = .returned (.agg #[.string (bs v.nm), .int .i64 (v.root.kd : Int), .int .i64 (v.root.a : Int), .int .i64 (v.root.b : Int), .string (bs v.root.nm), .int .i64 e0, .int .i64 e1, .string e2, .slice A m c, .slice kA km kc, .slice wA wm wc]) ∧ TrAt w' (fun b => w.heap.size ≤ b) v [.string (bs v.nm), .int .i64 (v.root.kd : Int), .int .i64 (v.root.a : Int), .int .i64 (v.root.b : Int), .string (bs v.root.nm), .int .i64 e0, .int .i64 e1, .string e2, .slice A m c, .slice kA km kc, .slice wA wm wc] ∧ PS2 57 w' gp g n cp ts st ∧ Touch (AtB gp) w w'
theorem tree_any {w : World} {gp g n cp B L : Nat} {ts : List Tk} {σ : St} (hok : NamesOk ts) (hnk : NumsOk ts) (hv : LV w B) (hB : B ≤ gp) (hE : EnT ts L) (hL : σ.1 ≤ L) (h : PS2 57 w gp g n cp ts σ) :
    Calls Tryz.prog 42 #[.pointer (some ⟨gp, 0, none⟩)] w (TrPost w gp g n cp ts (treV ts σ) (treS ts σ)) := by
  obtain ⟨W0, hW0⟩ : ∃ W, w.alloc (.cells #[.string ⟨#[]⟩, .int .i64 0, .int .i64 0, .int .i64 0, .string ⟨#[]⟩, .int .i64 0, .int .i64 0, .string ⟨#[]⟩, .slice none 0 0, .slice none 0 0, .slice none 0 0] 49) = W := ⟨_, rfl⟩
  have t0 : Touch NoB w W0 := by rw [← hW0]; exact (Touch.refl _ _).alloc _
  have b2 : TB W0 w.heap.size #[.string ⟨#[]⟩, .int .i64 0, .int .i64 0, .int .i64 0, .string ⟨#[]⟩, .int .i64 0, .int .i64 0, .string ⟨#[]⟩, .slice none 0 0, .slice none 0 0, .slice none 0 0] := by rw [← hW0]; exact alloc_blk w _ _ rfl
  have hgp := blk_lt h.blk
  have hgl := h.tl.lt
  have hs0 : W0.heap.size = w.heap.size + 1 := by rw [← hW0]; simp only [World.size_alloc]
  have HP := Lib.hid (h.touch t0)
  have HB2 := Lib.hid b2
  have HT := Lib.hid (Touch.anyB (F := AtB gp) t0)
  have HV := Lib.hid (And.intro hv hB)
  unfold treV treS
  obtain ⟨v1, hv1⟩ : ∃ z, naV ts σ = z := ⟨_, rfl⟩
  obtain ⟨s1, hs1⟩ : ∃ z, naS ts σ = z := ⟨_, rfl⟩
  have hL1 : s1.1 ≤ L := by rw [← hs1]; exact naS_L hE hL
  have H1 := Lib.hid (fun (W : World) (q : PS2 57 W gp g n cp ts σ) => name_st q)
  simp only [hv1, hs1] at *
  obtain ⟨s2, hs2⟩ : ∃ z, exS ts [123] s1 = z := ⟨_, rfl⟩
  have hL2 : s2.1 ≤ L := by rw [← hs2]; exact exS_L hE hL1
  have H2 : Hid (∀ (W : World), PS2 57 W gp g n cp ts s1 → Calls Tryz.prog 83 #[.pointer (some ⟨gp, 0, none⟩), .string ⟨#[123]⟩] W fun x w' => x = .returned (.tuple #[]) ∧ PS2 57 w' gp g n cp ts s2 ∧ Touch (AtB gp) W w') := Lib.hid (fun W q => by rw [← hs2]; exact expect_st (s := [123]) q)
  simp only [hs2] at *
  obtain ⟨nd, hnd⟩ : ∃ z, (nodG ts s2).1 = z := ⟨_, rfl⟩
  obtain ⟨s3, hs3⟩ : ∃ z, (nodG ts s2).2 = z := ⟨_, rfl⟩
  have H3 := Lib.hid (fun (W : World) (q : PS2 57 W gp g n cp ts s2) (hv : LV W B) => node_any hok hnk hv hB hE hL2 q)
  rw [hnd, hs3] at H3
  simp only [hnd, hs3]
  obtain ⟨s4, hs4⟩ : ∃ z, exS ts [125] s3 = z := ⟨_, rfl⟩
  have H4 : Hid (∀ (W : World), PS2 57 W gp g n cp ts s3 → Calls Tryz.prog 83 #[.pointer (some ⟨gp, 0, none⟩), .string ⟨#[125]⟩] W fun x w' => x = .returned (.tuple #[]) ∧ PS2 57 w' gp g n cp ts s4 ∧ Touch (AtB gp) W w') := Lib.hid (fun W q => by rw [← hs4]; exact expect_st (s := [125]) q)
  simp only [hs4]
  obtain ⟨n1, hn1⟩ : ∃ z, bs v1 = z := ⟨_, rfl⟩
  rw [hn1] at H1
  have HC := Lib.hid (H1.out W0 HP.out)
  unfold TrPost
  clear hs4 hs3 hnd hs2 hv1 hs1 h t0 b2 hok hnk hv hB hE hL hL1 hL2
  simp only [hn1]
  go_enter Tryz.func42, Tryz.ntmps42
  go_wp2_with fail
  refine HC.out.mono ?_
  rintro r w1 ⟨rfl, hp, hT⟩
  obtain ⟨X, hX⟩ : ∃ X, w1.alloc (.cells #[.string n1, .int .i64 0, .int .i64 0, .int .i64 0, .string ⟨#[]⟩, .int .i64 0, .int .i64 0, .string ⟨#[]⟩, .slice none 0 0, .slice none 0 0, .slice none 0 0] 49) = X := ⟨_, rfl⟩
  have tx : Touch NoB w1 X := by rw [← hX]; exact (Touch.refl _ _).alloc _
  obtain ⟨q3, hq3⟩ : ∃ q3, w1.heap.size = q3 := ⟨_, rfl⟩
  have hsq : w.heap.size < q3 := by have := hT.size; omega
  have HB3 := Lib.hid (show TB X q3 #[.string n1, .int .i64 0, .int .i64 0, .int .i64 0, .string ⟨#[]⟩, .int .i64 0, .int .i64 0, .string ⟨#[]⟩, .slice none 0 0, .slice none 0 0, .slice none 0 0] by rw [← hX]; exact alloc_blk _ _ _ hq3)
  have HB2 := Lib.hid ((HB2.out.touch hT (by unfold AtB; omega)).touch tx (fun z => z))
  have HT := Lib.hid (HT.out.same (hT.same (Touch.anyB tx)))
  have HP := Lib.hid (hp.touch tx)
  clear hp hT tx
  subst hX
  have HC := Lib.hid (H2.out _ HP.out)
  go_wp2_with fail
  refine HC.out.mono ?_
  rintro r w2 ⟨rfl, hp, hT⟩
  have HB3 := Lib.hid (HB3.out.touch hT (by unfold AtB; omega))
  have HB2 := Lib.hid (HB2.out.touch hT (by unfold AtB; omega))
  have HT := Lib.hid (HT.out.same hT)
  have hq32 := blk_lt HB3.out
  have HC := Lib.hid (H3.out _ hp (HV.out.1.touchP HT.out HV.out.2))
  clear hp hT
  go_wp2_with fail
  refine HC.out.mono ?_
  rintro r w3 ⟨e0, e1, e2, A, m, c, kA, km, kc, wA, wm, wc, D, rfl, hnt, hp, hT⟩
  have HB3 := Lib.hid (HB3.out.touch hT (by unfold AtB; omega))
  have HB2 := Lib.hid (HB2.out.touch hT (by unfold AtB; omega))
  have HT := Lib.hid (HT.out.same hT)
  have HNT := Lib.hid (NT.via (R := fun b => w.heap.size < b ∧ b ≠ q3) (fun b h1 _ => ⟨by omega, by omega⟩) _ _ _ hnt)
  have HP := Lib.hid hp
  clear hp hT hnt hq32
  have hb3 : w3.heap[q3]? = _ := HB3.out
  have ⟨i0, i1, i2, i3, i4, i5, i6, i7, i8, i9, i10⟩ : w3.cell? ⟨q3, 0, none⟩ = some (.string n1) ∧ w3.cell? ⟨q3, 1, none⟩ = some (.int .i64 0) ∧ w3.cell? ⟨q3, 2, none⟩ = some (.int .i64 0) ∧ w3.cell? ⟨q3, 3, none⟩ = some (.int .i64 0) ∧ w3.cell? ⟨q3, 4, none⟩ = some (.string ⟨#[]⟩) ∧ w3.cell? ⟨q3, 5, none⟩ = some (.int .i64 0) ∧ w3.cell? ⟨q3, 6, none⟩ = some (.int .i64 0) ∧ w3.cell? ⟨q3, 7, none⟩ = some (.string ⟨#[]⟩) ∧ w3.cell? ⟨q3, 8, none⟩ = some (.slice none 0 0) ∧ w3.cell? ⟨q3, 9, none⟩ = some (.slice none 0 0) ∧ w3.cell? ⟨q3, 10, none⟩ = some (.slice none 0 0) := ⟨cell_blk hb3 0, cell_blk hb3 1, cell_blk hb3 2, cell_blk hb3 3, cell_blk hb3 4, cell_blk hb3 5, cell_blk hb3 6, cell_blk hb3 7, cell_blk hb3 8, cell_blk hb3 9, cell_blk hb3 10⟩
  have ⟨y0, y1, y2, y3, y4, y5, y6, y7, y8, y9, y10⟩ : w3.frozen? ⟨q3, 0, none⟩ = false ∧ w3.frozen? ⟨q3, 1, none⟩ = false ∧ w3.frozen? ⟨q3, 2, none⟩ = false ∧ w3.frozen? ⟨q3, 3, none⟩ = false ∧ w3.frozen? ⟨q3, 4, none⟩ = false ∧ w3.frozen? ⟨q3, 5, none⟩ = false ∧ w3.frozen? ⟨q3, 6, none⟩ = false ∧ w3.frozen? ⟨q3, 7, none⟩ = false ∧ w3.frozen? ⟨q3, 8, none⟩ = false ∧ w3.frozen? ⟨q3, 9, none⟩ = false ∧ w3.frozen? ⟨q3, 10, none⟩ = false := ⟨free_blk hb3 0, free_blk hb3 1, free_blk hb3 2, free_blk hb3 3, free_blk hb3 4, free_blk hb3 5, free_blk hb3 6, free_blk hb3 7, free_blk hb3 8, free_blk hb3 9, free_blk hb3 10⟩
  obtain ⟨V, hV⟩ : ∃ V, setL w3 q3 1 [.int .i64 (nd.kd : Int), .int .i64 (nd.a : Int), .int .i64 (nd.b : Int), .string (bs nd.nm), .int .i64 e0, .int .i64 e1, .string e2, .slice A m c, .slice kA km kc, .slice wA wm wc] = V := ⟨_, rfl⟩
  have tV : Touch (fun b => b = q3) w3 V := by rw [← hV]; exact setL_touch _ _ _
  have bV := setL_blk (t := 49) (fr := (0, 0)) [.int .i64 (nd.kd : Int), .int .i64 (nd.a : Int), .int .i64 (nd.b : Int), .string (bs nd.nm), .int .i64 e0, .int .i64 e1, .string e2, .slice A m c, .slice kA km kc, .slice wA wm wc] [.int .i64 0, .int .i64 0, .int .i64 0, .string ⟨#[]⟩, .int .i64 0, .int .i64 0, .string ⟨#[]⟩, .slice none 0 0, .slice none 0 0, .slice none 0 0] [.string n1] w3 rfl hb3
  rw [show [Value.string n1].length = 1 from rfl, hV] at bV
  simp only [setL, Nat.reduceAdd] at hV
  have HB3 := Lib.hid (show TB V q3 #[.string n1, .int .i64 (nd.kd : Int), .int .i64 (nd.a : Int), .int .i64 (nd.b : Int), .string (bs nd.nm), .int .i64 e0, .int .i64 e1, .string e2, .slice A m c, .slice kA km kc, .slice wA wm wc] from bV)
  have HB2 := Lib.hid (HB2.out.touch tV (by omega))
  have HNT := Lib.hid (NT.touch tV (fun b h1 => h1.2) _ _ _ HNT.out)
  have HP := Lib.hid (HP.out.touchX tV (by omega) (by omega))
  have HT := Lib.hid (HT.out.trans tV (fun b hb => .inr (by omega)))
  clear hb3 tV bV
  have HC := Lib.hid (H4.out _ HP.out)
  go_wp2_with fail
  refine HC.out.mono ?_
  rintro r w4 ⟨rfl, hp, hT⟩
  have HB3 := Lib.hid (HB3.out.touch hT (by unfold AtB; omega))
  have HB2 := Lib.hid (HB2.out.touch hT (by unfold AtB; omega))
  have HT := Lib.hid (HT.out.same hT)
  have HNT := Lib.hid (NT.touch hT (fun b h1 => by unfold AtB; omega) _ _ _ HNT.out)
  have HP := Lib.hid hp
  clear hp hT
  have hb3 : w4.heap[q3]? = _ := HB3.out
  have hb2 : w4.heap[w.heap.size]? = _ := HB2.out
  clear i0 i1 i2 i3 i4 i5 i6 i7 i8 i9 i10 y0 y1 y2 y3 y4 y5 y6 y7 y8 y9 y10
  have ⟨i0, i1, i2, i3, i4, i5, i6, i7, i8, i9, i10⟩ : w4.cell? ⟨q3, 0, none⟩ = some (.string n1) ∧ w4.cell? ⟨q3, 1, none⟩ = some (.int .i64 (nd.kd : Int)) ∧ w4.cell? ⟨q3, 2, none⟩ = some (.int .i64 (nd.a : Int)) ∧ w4.cell? ⟨q3, 3, none⟩ = some (.int .i64 (nd.b : Int)) ∧ w4.cell? ⟨q3, 4, none⟩ = some (.string (bs nd.nm)) ∧ w4.cell? ⟨q3, 5, none⟩ = some (.int .i64 e0) ∧ w4.cell? ⟨q3, 6, none⟩ = some (.int .i64 e1) ∧ w4.cell? ⟨q3, 7, none⟩ = some (.string e2) ∧ w4.cell? ⟨q3, 8, none⟩ = some (.slice A m c) ∧ w4.cell? ⟨q3, 9, none⟩ = some (.slice kA km kc) ∧ w4.cell? ⟨q3, 10, none⟩ = some (.slice wA wm wc) := ⟨cell_blk hb3 0, cell_blk hb3 1, cell_blk hb3 2, cell_blk hb3 3, cell_blk hb3 4, cell_blk hb3 5, cell_blk hb3 6, cell_blk hb3 7, cell_blk hb3 8, cell_blk hb3 9, cell_blk hb3 10⟩
  have ⟨z0, z1, z2, z3, z4, z5, z6, z7, z8, z9, z10⟩ : w4.cell? ⟨w.heap.size, 0, none⟩ = some (.string ⟨#[]⟩) ∧ w4.cell? ⟨w.heap.size, 1, none⟩ = some (.int .i64 0) ∧ w4.cell? ⟨w.heap.size, 2, none⟩ = some (.int .i64 0) ∧ w4.cell? ⟨w.heap.size, 3, none⟩ = some (.int .i64 0) ∧ w4.cell? ⟨w.heap.size, 4, none⟩ = some (.string ⟨#[]⟩) ∧ w4.cell? ⟨w.heap.size, 5, none⟩ = some (.int .i64 0) ∧ w4.cell? ⟨w.heap.size, 6, none⟩ = some (.int .i64 0) ∧ w4.cell? ⟨w.heap.size, 7, none⟩ = some (.string ⟨#[]⟩) ∧ w4.cell? ⟨w.heap.size, 8, none⟩ = some (.slice none 0 0) ∧ w4.cell? ⟨w.heap.size, 9, none⟩ = some (.slice none 0 0) ∧ w4.cell? ⟨w.heap.size, 10, none⟩ = some (.slice none 0 0) := ⟨cell_blk hb2 0, cell_blk hb2 1, cell_blk hb2 2, cell_blk hb2 3, cell_blk hb2 4, cell_blk hb2 5, cell_blk hb2 6, cell_blk hb2 7, cell_blk hb2 8, cell_blk hb2 9, cell_blk hb2 10⟩
  have ⟨f0, f1, f2, f3, f4, f5, f6, f7, f8, f9, f10⟩ : w4.frozen? ⟨w.heap.size, 0, none⟩ = false ∧ w4.frozen? ⟨w.heap.size, 1, none⟩ = false ∧ w4.frozen? ⟨w.heap.size, 2, none⟩ = false ∧ w4.frozen? ⟨w.heap.size, 3, none⟩ = false ∧ w4.frozen? ⟨w.heap.size, 4, none⟩ = false ∧ w4.frozen? ⟨w.heap.size, 5, none⟩ = false ∧ w4.frozen? ⟨w.heap.size, 6, none⟩ = false ∧ w4.frozen? ⟨w.heap.size, 7, none⟩ = false ∧ w4.frozen? ⟨w.heap.size, 8, none⟩ = false ∧ w4.frozen? ⟨w.heap.size, 9, none⟩ = false ∧ w4.frozen? ⟨w.heap.size, 10, none⟩ = false := ⟨free_blk hb2 0, free_blk hb2 1, free_blk hb2 2, free_blk hb2 3, free_blk hb2 4, free_blk hb2 5, free_blk hb2 6, free_blk hb2 7, free_blk hb2 8, free_blk hb2 9, free_blk hb2 10⟩
  obtain ⟨Y, hY⟩ : ∃ Y, setL w4 w.heap.size 0 [.string n1, .int .i64 (nd.kd : Int), .int .i64 (nd.a : Int), .int .i64 (nd.b : Int), .string (bs nd.nm), .int .i64 e0, .int .i64 e1, .string e2, .slice A m c, .slice kA km kc, .slice wA wm wc] = Y := ⟨_, rfl⟩
  have tW : Touch (fun b => b = w.heap.size) w4 Y := by rw [← hY]; exact setL_touch _ _ _
  have bY := setL_blk (t := 49) (fr := (0, 0)) [.string n1, .int .i64 (nd.kd : Int), .int .i64 (nd.a : Int), .int .i64 (nd.b : Int), .string (bs nd.nm), .int .i64 e0, .int .i64 e1, .string e2, .slice A m c, .slice kA km kc, .slice wA wm wc] [.string ⟨#[]⟩, .int .i64 0, .int .i64 0, .int .i64 0, .string ⟨#[]⟩, .int .i64 0, .int .i64 0, .string ⟨#[]⟩, .slice none 0 0, .slice none 0 0, .slice none 0 0] [] w4 rfl hb2
  rw [show ([] : List Value).length = 0 from rfl, hY] at bY
  have HBY := Lib.hid (show TB Y w.heap.size #[.string n1, .int .i64 (nd.kd : Int), .int .i64 (nd.a : Int), .int .i64 (nd.b : Int), .string (bs nd.nm), .int .i64 e0, .int .i64 e1, .string e2, .slice A m c, .slice kA km kc, .slice wA wm wc] from bY)
  clear bY
  simp only [setL, Nat.reduceAdd] at hY
  clear hb2 hb3
  go_wp2
  have hby : Y.heap[w.heap.size]? = _ := HBY.out
  have ⟨r0, r1, r2, r3, r4, r5, r6, r7, r8, r9, r10⟩ : Y.cell? ⟨w.heap.size, 0, none⟩ = some (.string n1) ∧ Y.cell? ⟨w.heap.size, 1, none⟩ = some (.int .i64 (nd.kd : Int)) ∧ Y.cell? ⟨w.heap.size, 2, none⟩ = some (.int .i64 (nd.a : Int)) ∧ Y.cell? ⟨w.heap.size, 3, none⟩ = some (.int .i64 (nd.b : Int)) ∧ Y.cell? ⟨w.heap.size, 4, none⟩ = some (.string (bs nd.nm)) ∧ Y.cell? ⟨w.heap.size, 5, none⟩ = some (.int .i64 e0) ∧ Y.cell? ⟨w.heap.size, 6, none⟩ = some (.int .i64 e1) ∧ Y.cell? ⟨w.heap.size, 7, none⟩ = some (.string e2) ∧ Y.cell? ⟨w.heap.size, 8, none⟩ = some (.slice A m c) ∧ Y.cell? ⟨w.heap.size, 9, none⟩ = some (.slice kA km kc) ∧ Y.cell? ⟨w.heap.size, 10, none⟩ = some (.slice wA wm wc) := ⟨cell_blk hby 0, cell_blk hby 1, cell_blk hby 2, cell_blk hby 3, cell_blk hby 4, cell_blk hby 5, cell_blk hby 6, cell_blk hby 7, cell_blk hby 8, cell_blk hby 9, cell_blk hby 10⟩
  refine bodyPost_ret (v := .agg #[.string n1, .int .i64 (nd.kd : Int), .int .i64 (nd.a : Int), .int .i64 (nd.b : Int), .string (bs nd.nm), .int .i64 e0, .int .i64 e1, .string e2, .slice A m c, .slice kA km kc, .slice wA wm wc]) (by simp [results, Tryz.results42, go_sem, r0, r1, r2, r3, r4, r5, r6, r7, r8, r9, r10]) rfl ⟨e0, e1, e2, A, m, c, kA, km, kc, wA, wm, wc, rfl, ⟨D, [.int .i64 (nd.kd : Int), .int .i64 (nd.a : Int), .int .i64 (nd.b : Int), .string (bs nd.nm), .int .i64 e0, .int .i64 e1, .string e2, .slice A m c, .slice kA km kc, .slice wA wm wc], by rw [← hn1], ?_⟩, HP.out.touchX tW hgp hgl, HT.out.trans tW (fun b hb => .inr (by omega))⟩
  exact NT.via (Q := fun b => w.heap.size < b ∧ b ≠ q3) (fun b h1 _ => Nat.le_of_lt h1.1) _ _ _ (NT.touch tW (fun b h1 => by omega) _ _ _ HNT.out)
end Go.Proofs.YtkmbobfjoaldgaaGreatDoor

/-
  What package tree's program does with a parser in memory. Conditions: the table of levels can be read; names and numbers among the tokens are such; an end's token lies behind the place.
-/
namespace Go.Proofs.YtkmbobfjoaldgaaGreatDoor
open Go.ChangeShapes Go.WideShapes Go.ChangeAt Go.RowKit
set_option maxRecDepth 100000
set_option maxHeartbeats 8000000

theorem tok_f0 (a b c d : Value) (W : World) : (Instr.field 60 (.agg #[a, b, c, d]) 0).run Tryz.prog W = .ok a W := by kernel_rfl
def PgPost (w : World) (gp g n cp : Nat) (ts : List Tk) (v : Pg) (st : St) (x : Ending) (w' : World) : Prop := ∃ v1 v2 v3, x = .returned (.agg #[v1, v2, v3]) ∧
  PgAt w' (fun k => w.heap.size ≤ k) v [v1, v2, v3] ∧ PS2 57 w' gp g n cp ts st ∧ Touch (AtB gp) w w'
structure PR (ts : List Tk) (R0 : (List Ky × List Tr × List Dm) × St) (n L f : Nat) (a : List Ky) (b : List Tr) (c : List Dm) (σ : St) : Prop where
  md : prgR ts f a b c σ = R0
  fu : Fu f n σ
  la : a.length ≤ 100
  lb : b.length ≤ 100
  lc : c.length ≤ 100
  hl : σ.1 ≤ L
/-- The way out of the loop. -/
theorem prg_out {w V : World} {gp g n cp q3 : Nat} {Q : Nat → Prop} {ts : List Tk} {a : List Ky} {b : List Tr} {c : List Dm} {vk vt vd : Value} {xt xd : List Value} {st : St} (h : PM w V gp q3 Q a b c vk vt vd xt xd) (hp : PS2 57 V gp g n cp ts st) (hgp : gp < w.heap.size) (hgl : g < w.heap.size) :
    ∀ (x0 x1 x2 : Value), let W := ((V.setCell ⟨w.heap.size, 0, none⟩ x0).setCell ⟨w.heap.size, 1, none⟩ x1).setCell ⟨w.heap.size, 2, none⟩ x2
      PgAt W (fun k => w.heap.size ≤ k) ⟨a, b, c⟩ [vk, vt, vd] ∧ PS2 57 W gp g n cp ts st ∧ Touch (AtB gp) w W := by
  intro x0 x1 x2
  have n1 := row_ne h.rk h.b2 (by decide)
  have n2 := row_ne h.rt h.b2 (by decide)
  have n3 := row_ne h.rd h.b2 (by decide)
  have tX := touch3 (F := fun k => k = w.heap.size) (Touch.refl _ V) (.inl rfl) x0 x1 x2
  have r1 := row_aside (row_aside (row_aside (i := 0) (x := x0) h.rk n1) n1 (i := 1) (x := x1)) n1 (i := 2) (x := x2)
  have r2 := row_aside (row_aside (row_aside (i := 0) (x := x0) h.rt n2) n2 (i := 1) (x := x1)) n2 (i := 2) (x := x2)
  have r3 := row_aside (row_aside (row_aside (i := 0) (x := x0) h.rd n3) n3 (i := 1) (x := x1)) n3 (i := 2) (x := x2)
  have q : ∀ k, Q k → ¬ (k = w.heap.size) := fun k hk e => by have := (h.hQ k hk).1; omega
  have v : ∀ k, Q k → k < (((V.setCell ⟨w.heap.size, 0, none⟩ x0).setCell ⟨w.heap.size, 1, none⟩ x1).setCell ⟨w.heap.size, 2, none⟩ x2).heap.size → w.heap.size ≤ k := fun k hk _ => Nat.le_of_lt (h.hQ k hk).1
  exact ⟨⟨_, _, _, xt, xd, rfl, slat_of r1, slat_of r2, h.lt.mono (fun x ys hx => (hx.touch tX q).via v), slat_of r3, h.ld.mono (fun x ys hx => (hx.touch tX q).via v)⟩, PSt.own (PSt.own (PSt.own hp hgp hgl) hgp hgl) hgp hgl, touch3 h.t (.inr (Nat.le_refl _)) x0 x1 x2⟩
theorem nodR_ge {ts : List Tk} {L : Nat} (hE : EnT ts L) : ∀ (f : Nat) (op : List Nd) (o : Option Nd) (σ : St), σ.1 ≤ L → σ.1 ≤ (nodR ts f op o σ).2.1
  | 0, _, _, _, h => by unfold nodR; exact Nat.le_refl _
  | f + 1, op, none, σ, h => by
    unfold nodR
    have hb : (begS op σ).1 = σ.1 := by unfold begS; split <;> rfl
    have h1 : (begS op σ).1 ≤ (headS ts (begS op σ)).1 := by
      have h5 := choS_ge ts nodeW (begS op σ)
      have h6 := headT_ge (kd := headK ts (begS op σ)) hE (s := choS ts nodeW (begS op σ)) (choS_L hE (by omega))
      have h7 : (headT ts (headK ts (begS op σ)) (choS ts nodeW (begS op σ))).2.1 ≤ (headS ts (begS op σ)).1 := headE_ge
      omega
    have h2 := headS_L hE (σ := begS op σ) (by omega)
    have h3 := nodR_ge hE f op (some (headN ts (begS op σ))) (headS ts (begS op σ)) h2
    omega
  | f + 1, op, some n, σ, h => by
    unfold nodR
    have hg := anoS_ge (n := n) hE h
    have hl := anoS_L hE (n := n) h
    split
    · exact Nat.le_refl _
    · split
      · exact Nat.le_trans hg (nodR_ge hE f _ _ _ hl)
      · split
        · exact hg
        · exact Nat.le_trans hg (nodR_ge hE f _ _ _ hl)
theorem treS_ge {ts : List Tk} {L : Nat} {σ : St} (hE : EnT ts L) (h : σ.1 ≤ L) : σ.1 ≤ (treS ts σ).1 := by
  have h1 := naS_ge ts σ
  have h2 := exS_ge ts [123] (naS ts σ)
  have h3 := nodR_ge hE (6 * ts.length + 100) [] none (exS ts [123] (naS ts σ)) (exS_L hE (naS_L hE h))
  have h4 := exS_ge ts [125] (nodG ts (exS ts [123] (naS ts σ))).2
  unfold treS
  unfold nodG at h4 ⊢
  omega
theorem dm_1 {w : World} {Q : Nat → Prop} {d : Dm} {x u1 u2 u3 : Value} (h : DmAt w Q d [x, u1, u2, u3]) : ∃ A m c, u1 = .slice A m c := by
  obtain ⟨v1, v2, v3, xs, e, ⟨A, c, rfl, -⟩, -⟩ := h
  simp only [List.cons.injEq] at e
  exact ⟨A, _, c, e.2.1⟩
theorem dm_2 {w : World} {Q : Nat → Prop} {d : Dm} {x u1 u2 u3 : Value} (h : DmAt w Q d [x, u1, u2, u3]) : ∃ A m c, u2 = .slice A m c := by
  obtain ⟨v1, v2, v3, xs, e, -, ⟨A, c, rfl, -⟩, -⟩ := h
  simp only [List.cons.injEq] at e
  exact ⟨A, _, c, e.2.2.1⟩
theorem dm_3 {w : World} {Q : Nat → Prop} {d : Dm} {x u1 u2 u3 : Value} (h : DmAt w Q d [x, u1, u2, u3]) : ∃ A m c, u3 = .slice A m c := by
  obtain ⟨v1, v2, v3, xs, e, -, -, -, ⟨A, c, rfl, -⟩⟩ := h
  simp only [List.cons.injEq] at e
  exact ⟨A, _, c, e.2.2.2.1⟩
theorem nx_kd {ts : List Tk} {L : Nat} {σ : St} (hE : EnT ts L) (hl : σ.1 ≤ L) (h : (nxS ts σ).kd ≠ 0) : σ.2 = 0 ∧ σ.1 < L := by
  unfold nxS at h
  by_cases e : σ.2 = 0
  · refine ⟨e, ?_⟩
    rcases Nat.lt_or_ge σ.1 L with z | z
    · exact z
    · have : σ.1 = L := by omega
      rw [this] at h
      exact absurd (nxt_end0 hE σ.2) h
  · rw [nxt_bad e] at h
    exact absurd rfl h
theorem program_any {w : World} {gp g n cp B L : Nat} {ts : List Tk} (hok : NamesOk ts) (hnk : NumsOk ts) (hv : LV w B) (hB : B ≤ gp) (hE : EnT ts L) (h : PS2 57 w gp g n cp ts (0, 0)) :
    Calls Tryz.prog 17 #[.pointer (some ⟨gp, 0, none⟩)] w fun x w' => PgPost w gp g n cp ts (prgG ts).1 (prgG ts).2 x w' := by
  obtain ⟨W0, hW0⟩ : ∃ W, (w.alloc (.cells #[.slice none 0 0, .slice none 0 0, .slice none 0 0] 29)).alloc (.cells #[.slice none 0 0, .slice none 0 0, .slice none 0 0] 29) = W := ⟨_, rfl⟩
  have t0 : Touch NoB w W0 := by rw [← hW0]; exact ((Touch.refl _ _).alloc _).alloc _
  have b2 : B3 W0 29 w.heap.size (.slice none 0 0) (.slice none 0 0) (.slice none 0 0) := by rw [← hW0]; exact (B3.new w _ _ _ _ rfl).old _
  have b3 : B3 W0 29 (w.heap.size + 1) (.slice none 0 0) (.slice none 0 0) (.slice none 0 0) := by rw [← hW0]; exact B3.new _ _ _ _ _ (by simp only [World.size_alloc])
  have hgp := blk_lt h.blk
  have hgl := h.tl.lt
  have hln : ts.length = n := h.len
  have hLn : L < n := by obtain ⟨t, ht, -⟩ := hE; rw [← hln]; exact (List.getElem?_eq_some_iff.1 ht).1
  obtain ⟨R0, hR0⟩ : ∃ z, prgR ts (ts.length + 5) [] [] [] (0, 0) = z := ⟨_, rfl⟩
  unfold prgG
  simp only [hR0]
  obtain ⟨q3, hq3⟩ : ∃ z, w.heap.size + 1 = z := ⟨_, rfl⟩
  have hsq : w.heap.size < q3 := by omega
  rw [hq3] at b3
  have HR : Hid (∃ f a b c τ vk vt vd xt xd Q, PM w W0 gp q3 Q a b c vk vt vd xt xd ∧ PS2 57 W0 gp g n cp ts τ ∧ PR ts R0 n L f a b c τ) := Lib.hid ⟨ts.length + 5, [], [], [], (0, 0), .slice none 0 0, .slice none 0 0, .slice none 0 0, [], [], fun _ => False, ⟨Touch.anyB t0, b2, b3, World.ownsRow_nil _ _ _ _, World.ownsRow_nil _ _ _ _, .nil, World.ownsRow_nil _ _ _ _, .nil, fun _ hk => hk.elim⟩, h.touch t0, ⟨hR0, ⟨by omega, fun _ => by omega⟩, by simp, by simp, by simp, Nat.zero_le _⟩⟩
  have HNK := Lib.hid (And.intro hok (And.intro hnk (And.intro hv (And.intro hB hE))))
  clear h t0 b2 b3 hR0 hok hnk hv hB hE
  have hf := fun (a b c d : Value) (W : World) => tok_f0 a b c d W
  go_enter Tryz.func17, Tryz.ntmps17
  go_wp2_with fail
  go_loopw [] (fun wr => ∃ f a b c τ vk vt vd xt xd Q, PM w wr gp q3 Q a b c vk vt vd xt xd ∧ PS2 57 wr gp g n cp ts τ ∧ PR ts R0 n L f a b c τ) (fun wr => meas2 gp n wr)
  case atStart => exact HR.out
  case round =>
    clear HR
    obtain ⟨f, a, b, c, τ, vk, vt, vd, xt, xd, Q, hD, hps, hdr⟩ := hrel
    obtain ⟨A1, kp1, rfl, hc1, hc2⟩ := row_any hD.rk
    obtain ⟨A2, kp2, rfl, hd1, hd2⟩ := row_any hD.rt
    obtain ⟨A3, kp3, rfl, he1, he2⟩ := row_any hD.rd
    have hrd := prg_round hdr.md hdr.fu
    have hme := meas2_at hps
    have HC := Lib.hid (next_any hps)
    have HD := Lib.hid hD
    have HP := Lib.hid hps
    have HDR := Lib.hid hdr
    have hkx := fun e => nx_kd HNK.out.2.2.2.2 hdr.hl (σ := τ) e
    have hnx : nxt ts τ.1 τ.2 = nxS ts τ := rfl
    rw [hnx] at HC
    obtain ⟨x, hx⟩ : ∃ x, nxS ts τ = x := ⟨_, rfl⟩
    rw [hx] at HC hrd hkx
    clear hD hps hdr hnx hx
    by_cases hw : x.kd = 0
    · have he := hrd.1 hw
      have hw2 : (((x.kd : Nat) : Int) != 0) = false := by simp [hw]
      clear hrd hme hkx
      go_wp2_with fail
      refine HC.out.mono ?_
      rintro r V ⟨rfl, hT⟩
      have HD := Lib.hid (HD.out.go (Touch.anyB hT) hgp hsq)
      have HP := Lib.hid (HP.out.touch hT)
      obtain ⟨z0, z1, z2, zl⟩ := HD.out.b2.cells
      obtain ⟨f0, f1, f2⟩ := HD.out.b2.free
      obtain ⟨p0, p1, p2, pl⟩ := HD.out.b3.cells
      have HE := Lib.hid he
      have HO := Lib.hid (prg_out HD.out HP.out hgp hgl)
      clear hT he
      go_wp2
      refine bodyPost_ret (v := .agg #[.slice A1 a.length kp1, .slice A2 b.length kp2, .slice A3 c.length kp3]) (by simp [results, Tryz.results17, go_sem, z0, z1, z2]) rfl ?_
      rw [HE.out]
      exact ⟨_, _, _, rfl, HO.out _ _ _⟩
    · have hw2 : (((x.kd : Nat) : Int) != 0) = true := by simp; omega
      obtain ⟨h0, hlt⟩ := hkx hw
      obtain ⟨f', rfl, s1, s2, s3, hs1, hs2, hs3, r1, r2, r3, r4⟩ := hrd.2 hw
      clear hrd hw hkx
      have hE := HNK.out.2.2.2.2
      have hl1 : s1.1 ≤ L := by rw [← hs1]; exact beT_L hE (Nat.le_of_lt hlt)
      have hl2 : s2.1 ≤ L := by rw [← hs2]; exact beT_L hE hl1
      have hl3 : s3.1 ≤ L := by rw [← hs3]; exact beT_L hE hl2
      obtain ⟨bn1, hbn1⟩ : ∃ z, beV ts keyB a.length 100 τ = z := ⟨_, rfl⟩
      obtain ⟨bn2, hbn2⟩ : ∃ z, beV ts treeB b.length 100 s1 = z := ⟨_, rfl⟩
      obtain ⟨bn3, hbn3⟩ : ∃ z, beV ts domB c.length 100 s2 = z := ⟨_, rfl⟩
      have HBN1 : Hid (∀ (W : World), PS2 57 W gp g n cp ts τ → Calls Tryz.prog 40 #[.pointer (some ⟨gp, 0, none⟩), .string ⟨#[107, 101, 121]⟩, .int .i64 (a.length : Int), .int .i64 100] W fun x w' => x = .returned (.bool bn1) ∧ PS2 57 w' gp g n cp ts s1 ∧ Touch (AtB gp) W w') := Lib.hid (fun W q => by rw [← hs1, ← hbn1]; exact begins_st (s := keyB) (hv := a.length) (most := 100) q)
      have HBN2 : Hid (∀ (W : World), PS2 57 W gp g n cp ts s1 → Calls Tryz.prog 40 #[.pointer (some ⟨gp, 0, none⟩), .string ⟨#[116, 114, 101, 101]⟩, .int .i64 (b.length : Int), .int .i64 100] W fun x w' => x = .returned (.bool bn2) ∧ PS2 57 w' gp g n cp ts s2 ∧ Touch (AtB gp) W w') := Lib.hid (fun W q => by rw [← hs2, ← hbn2]; exact begins_st (s := treeB) (hv := b.length) (most := 100) q)
      have HBN3 : Hid (∀ (W : World), PS2 57 W gp g n cp ts s2 → Calls Tryz.prog 40 #[.pointer (some ⟨gp, 0, none⟩), .string ⟨#[100, 111, 109, 97, 105, 110]⟩, .int .i64 (c.length : Int), .int .i64 100] W fun x w' => x = .returned (.bool bn3) ∧ PS2 57 w' gp g n cp ts s3 ∧ Touch (AtB gp) W w') := Lib.hid (fun W q => by rw [← hs3, ← hbn3]; exact begins_st (s := domB) (hv := c.length) (most := 100) q)
      have hy1 : bn1 = true → s1.1 = τ.1 + 1 ∧ a.length < 100 := fun e => by rw [← hs1]; subst e; exact ⟨beT_yes hbn1, be_lt hbn1 HDR.out.la⟩
      have hz1 : bn1 = false → s1.1 = τ.1 := fun e => by rw [← hs1]; subst e; exact beT_no hbn1
      have hy2 : bn2 = true → s2.1 = s1.1 + 1 ∧ b.length < 100 := fun e => by rw [← hs2]; subst e; exact ⟨beT_yes hbn2, be_lt hbn2 HDR.out.lb⟩
      have hz2 : bn2 = false → s2.1 = s1.1 := fun e => by rw [← hs2]; subst e; exact beT_no hbn2
      have hy3 : bn3 = true → s3.1 = s2.1 + 1 ∧ c.length < 100 := fun e => by rw [← hs3]; subst e; exact ⟨beT_yes hbn3, be_lt hbn3 HDR.out.lc⟩
      have hz3 : bn3 = false → s3.1 = s2.1 := fun e => by rw [← hs3]; subst e; exact beT_no hbn3
      rw [hbn1] at r1 r2 r3 r4
      rw [hbn2] at r2 r3 r4
      rw [hbn3] at r3 r4
      have HR1 := Lib.hid r1
      have HR2 := Lib.hid r2
      have HR3 := Lib.hid r3
      have HR4 := Lib.hid r4
      have HY1 := Lib.hid hy1
      have HY2 := Lib.hid hy2
      have HY3 := Lib.hid hy3
      have HZ1 := Lib.hid hz1
      have HZ2 := Lib.hid hz2
      have HZ3 := Lib.hid hz3
      have HLL := Lib.hid (And.intro hl1 (And.intro hl2 (And.intro hl3 hlt)))
      have H0 := Lib.hid h0
      have HME := Lib.hid hme
      clear hs1 hs2 hs3 hbn1 hbn2 hbn3 hy1 hy2 hy3 hz1 hz2 hz3 r1 r2 r3 r4 h0 hme hl1 hl2 hl3 hlt hE
      go_wp2_with fail
      refine HC.out.mono ?_
      rintro r V0 ⟨rfl, hT⟩
      have HD := Lib.hid (HD.out.go (Touch.anyB hT) hgp hsq)
      have HP := Lib.hid (HP.out.touch hT)
      clear hT
      obtain ⟨q0, q1, q2, ql⟩ := HD.out.b3.cells
      have HC := Lib.hid (HBN1.out _ HP.out)
      go_wp2_with fail
      refine HC.out.mono ?_
      rintro r V1 ⟨rfl, hp, hT⟩
      have HD := Lib.hid (HD.out.go hT hgp hsq)
      have HP := Lib.hid hp
      clear hp hT q0 q1 q2 ql
      cases bn1
      · skip
        obtain ⟨q0, q1, q2, ql⟩ := HD.out.b3.cells
        have HC := Lib.hid (HBN2.out _ HP.out)
        go_wp2_with fail
        refine HC.out.mono ?_
        rintro r V2 ⟨rfl, hp, hT⟩
        have HD := Lib.hid (HD.out.go hT hgp hsq)
        have HP := Lib.hid hp
        clear hp hT q0 q1 q2 ql
        cases bn2
        · skip
          obtain ⟨q0, q1, q2, ql⟩ := HD.out.b3.cells
          have HC := Lib.hid (HBN3.out _ HP.out)
          go_wp2_with fail
          refine HC.out.mono ?_
          rintro r V3 ⟨rfl, hp, hT⟩
          have HD := Lib.hid (HD.out.go hT hgp hsq)
          have HP := Lib.hid hp
          clear hp hT q0 q1 q2 ql
          cases bn3
          · have hz1 := HZ1.out (by trivial)
            have hz2 := HZ2.out (by trivial)
            have hz3 := HZ3.out (by trivial)
            have HF := Lib.hid (fail_st HP.out 2)
            have hr3 := Lib.hid (HR4.out (by trivial) (by trivial) (by trivial))
            obtain ⟨fs, hfs⟩ : ∃ z, failS 2 s3 = z := ⟨_, rfl⟩
            have hf1 : fs.1 = s3.1 := by rw [← hfs]; rfl
            have hf2 : fs.2 ≠ 0 := by rw [← hfs]; exact failS_bad (by decide) s3
            rw [hfs] at HF hr3
            clear hfs
            go_wp2_with fail
            refine HF.out.mono ?_
            rintro r V4 ⟨rfl, hp, hT⟩
            have HD := Lib.hid (HD.out.go hT hgp hsq)
            have HP := Lib.hid hp
            clear hp hT
            go_wp2
            go_roundw
            case rel => exact ⟨f', a, b, c, fs, _, _, _, _, _, _, HD.out, HP.out, hr3.out, HDR.out.fu.stop H0.out hf2, HDR.out.la, HDR.out.lb, HDR.out.lc, by have := HLL.out.2.2.1; omega⟩
            case measure =>
              rw [meas2_at HP.out, HME.out, if_pos H0.out, if_neg hf2]
              omega
          · skip
            have hz1 := HZ1.out (by trivial)
            have hz2 := HZ2.out (by trivial)
            obtain ⟨hy, hla⟩ := HY3.out (by trivial)
            obtain ⟨q0, q1, q2, ql⟩ := HD.out.b3.cells
            obtain ⟨g0, g1, g2⟩ := HD.out.b3.free
            have hr1 := HR3.out (by trivial) (by trivial) (by trivial)
            obtain ⟨cv, hcv⟩ : ∃ z, domV ts s3 = z := ⟨_, rfl⟩
            obtain ⟨cs, hcs⟩ : ∃ z, domS ts s3 = z := ⟨_, rfl⟩
            have hge : s3.1 ≤ cs.1 := by rw [← hcs]; exact domS_ge ts s3
            have hcl : cs.1 ≤ L := by rw [← hcs]; exact domS_L HNK.out.2.2.2.2 HLL.out.2.2.1
            have HCD := Lib.hid (fun (W : World) (q : PS2 57 W gp g n cp ts s3) => domain_any HNK.out.2.1 q)
            unfold DomPost at HCD
            rw [hcv, hcs] at hr1 HCD
            obtain ⟨cnm, hcnm⟩ : ∃ z, bs cv.nm = z := ⟨_, rfl⟩
            rw [hcnm] at HCD
            have HCV := Lib.hid hcnm
            have HRR := Lib.hid hr1
            clear hcv hcs hcnm hr1
            obtain ⟨i0, hi, hz0, hz1', hz2'⟩ := info_dom'
            unfold maxLen at he2
            go_wp2_with fail
            go_region_law? (first
              | (go_simp; go_at_call 43
                 refine (HCD.out _ (HP.out.touch (Touch.refl _ _).drew)).mono ?_
                 rintro r w3 ⟨u1, u2, u3, rfl, hta, hp, hT0⟩
                 have hT := (Touch.refl (AtB gp) V3).drew.same hT0
                 have HD3 := Lib.hid (HD.out.widen hT hgp hsq)
                 have hav := hta.via (R := fun k => Q k ∨ (V3.heap.size ≤ k ∧ k < w3.heap.size)) (fun k h1 h2 => .inr ⟨h1, h2⟩)
                 obtain ⟨B1, L1, k1, rfl⟩ := dm_1 hta
                 obtain ⟨B2, L2, k2, rfl⟩ := dm_2 hta
                 obtain ⟨B3_, L3, k3, rfl⟩ := dm_3 hta
                 obtain ⟨j0, j1, j2, jl⟩ := HD3.out.b3.cells
                 obtain ⟨l0, l1, l2⟩ := HD3.out.b3.free
                 have HX3 := Lib.hid (And.intro hp (And.intro hT hav))
                 clear hp hT0 hT hav hta)
              | (refine step_append_lies _ rfl (.tmp 47) (.tmp 50) 27 rfl w.heap.size 69 i0 (.agg #[.string ⟨#[]⟩, .slice none 0 0, .slice none 0 0, .slice none 0 0]) 4 88 Tryz.underlying27 hi hz0 hz1' hz2' rfl (by decide) (.slice A3 c.length kp3) c.length xd (by simp [Act.eval]) (by exact (HD3.out.rd.alloc _)) ⟨w3.heap.size, 0, none⟩ 1 1 [.string cnm, .slice B1 L1 k1, .slice B2 L2 k2, .slice B3_ L3 k3] (by simp [Act.eval]) rfl (by exact World.news_of_block (cs := #[.string cnm, .slice B1 L1 k1, .slice B2 L2 k2, .slice B3_ L3 k3]) (alloc_blk w3 _ 69 rfl)) (by intro u hu; simp at hu; rcases hu with rfl | rfl | rfl | rfl <;> rfl) (by decide) (by unfold maxLen; omega) (by omega) (by have := HX3.out.2.1.size; have := HD.out.t.size; simp only [World.size_alloc]; omega) (w3.heap.size + 1) (by simp) ?_
                 intro gd cap2 wx hown hgrow hat hlt
                 have TR : Touch (fun k9 => (Value.slice A3 c.length kp3).ownBlock = some k9) w3 wx := ((Touch.refl _ w3).alloc _).grown hgrow (fun _ e => .inl e)
                 have hbx := HD3.out.b3.goR TR (row_ne HD3.out.rd HD3.out.b3 (by decide))
                 obtain ⟨k0, k1', k2', kl⟩ := hbx.cells
                 obtain ⟨m0, m1, m2⟩ := hbx.free
                 have HX := Lib.hid (And.intro (HX3.out.1.touchR TR (row_base HD3.out.rd) hgp hgl) (HD3.out.addD hsq HX3.out.2.2 TR hown hat))
                 clear hown hgrow hat TR hbx))
            all_goals
              go_wp2
              go_roundw
              case rel => exact ⟨f', a, b, c ++ [cv], cs, _, _, _, _, _, _, HX.out.2, HX.out.1.own (by omega) (by omega), HRR.out, HDR.out.fu.next H0.out (by have := HLL.out.2.2.2; omega) (by omega), HDR.out.la, HDR.out.lb, by rw [List.length_append]; exact hla, hcl⟩
              case measure =>
                have hps := HX.out.1.own (q := q3) (i := 2) (v := .slice (some ⟨gd, 0, none⟩) (c.length + 1) cap2) (by omega) (by omega)
                rw [meas2_at hps, HME.out, if_pos H0.out]
                have := HLL.out.2.2.2
                split <;> omega
        · skip
          have hz1 := HZ1.out (by trivial)
          obtain ⟨hy, hla⟩ := HY2.out (by trivial)
          obtain ⟨q0, q1, q2, ql⟩ := HD.out.b3.cells
          obtain ⟨g0, g1, g2⟩ := HD.out.b3.free
          have hr1 := HR2.out (by trivial) (by trivial)
          obtain ⟨cv, hcv⟩ : ∃ z, treV ts s2 = z := ⟨_, rfl⟩
          obtain ⟨cs, hcs⟩ : ∃ z, treS ts s2 = z := ⟨_, rfl⟩
          have hge : s2.1 ≤ cs.1 := by rw [← hcs]; exact treS_ge HNK.out.2.2.2.2 HLL.out.2.1
          have hcl : cs.1 ≤ L := by rw [← hcs]; exact treS_L HNK.out.2.2.2.2 HLL.out.2.1
          have HCD := Lib.hid (fun (W : World) (q : PS2 57 W gp g n cp ts s2) (hv : LV W B) => tree_any HNK.out.1 HNK.out.2.1 hv HNK.out.2.2.2.1 HNK.out.2.2.2.2 HLL.out.2.1 q)
          unfold TrPost at HCD
          rw [hcv, hcs] at hr1 HCD
          obtain ⟨cnm, hcnm⟩ : ∃ z, bs cv.nm = z := ⟨_, rfl⟩
          rw [hcnm] at HCD
          have HCV := Lib.hid hcnm
          have HRR := Lib.hid hr1
          clear hcv hcs hcnm hr1
          obtain ⟨i0, hi, hz0, hz1', hz2'⟩ := info_tree'
          unfold maxLen at hd2
          go_wp2_with fail
          go_region_law? (first
            | (go_simp; go_at_call 42
               refine (HCD.out _ (HP.out.touch (Touch.refl _ _).drew) (HNK.out.2.2.1.touchP (HD.out.t.drew) HNK.out.2.2.2.1)).mono ?_
               rintro r w3 ⟨e0, e1, e2, A, m, c9, kA, km, kc, wA, wm, wc, rfl, hta, hp, hT0⟩
               have hT := (Touch.refl (AtB gp) V2).drew.same hT0
               have HD3 := Lib.hid (HD.out.widen hT hgp hsq)
               have hav := hta.via (R := fun k => Q k ∨ (V2.heap.size ≤ k ∧ k < w3.heap.size)) (fun k h1 h2 => .inr ⟨h1, h2⟩)
               obtain ⟨j0, j1, j2, jl⟩ := HD3.out.b3.cells
               obtain ⟨l0, l1, l2⟩ := HD3.out.b3.free
               have HX3 := Lib.hid (And.intro hp (And.intro hT hav))
               clear hp hT0 hT hav hta)
            | (refine step_append_lies _ rfl (.tmp 34) (.tmp 37) 26 rfl w.heap.size 49 i0 (.agg #[.string ⟨#[]⟩, .int .i64 0, .int .i64 0, .int .i64 0, .string ⟨#[]⟩, .int .i64 0, .int .i64 0, .string ⟨#[]⟩, .slice none 0 0, .slice none 0 0, .slice none 0 0]) 11 160 Tryz.underlying26 hi hz0 hz1' hz2' rfl (by decide) (.slice A2 b.length kp2) b.length xt (by simp [Act.eval]) (by exact (HD3.out.rt.alloc _)) ⟨w3.heap.size, 0, none⟩ 1 1 [.string cnm, .int .i64 (cv.root.kd : Int), .int .i64 (cv.root.a : Int), .int .i64 (cv.root.b : Int), .string (bs cv.root.nm), .int .i64 e0, .int .i64 e1, .string e2, .slice A m c9, .slice kA km kc, .slice wA wm wc] (by simp [Act.eval]) rfl (by exact World.news_of_block (cs := #[.string cnm, .int .i64 (cv.root.kd : Int), .int .i64 (cv.root.a : Int), .int .i64 (cv.root.b : Int), .string (bs cv.root.nm), .int .i64 e0, .int .i64 e1, .string e2, .slice A m c9, .slice kA km kc, .slice wA wm wc]) (alloc_blk w3 _ 49 rfl)) (by intro u hu; simp at hu; rcases hu with rfl | rfl | rfl | rfl | rfl | rfl | rfl | rfl | rfl | rfl | rfl <;> rfl) (by decide) (by unfold maxLen; omega) (by omega) (by have := HX3.out.2.1.size; have := HD.out.t.size; simp only [World.size_alloc]; omega) (w3.heap.size + 1) (by simp) ?_
               intro gd cap2 wx hown hgrow hat hlt
               have TR : Touch (fun k9 => (Value.slice A2 b.length kp2).ownBlock = some k9) w3 wx := ((Touch.refl _ w3).alloc _).grown hgrow (fun _ e => .inl e)
               have hbx := HD3.out.b3.goR TR (row_ne HD3.out.rt HD3.out.b3 (by decide))
               obtain ⟨k0, k1', k2', kl⟩ := hbx.cells
               obtain ⟨m0, m1, m2⟩ := hbx.free
               have HX := Lib.hid (And.intro (HX3.out.1.touchR TR (row_base HD3.out.rt) hgp hgl) (HD3.out.addT hsq HX3.out.2.2 TR hown hat))
               clear hown hgrow hat TR hbx))
          all_goals
            go_wp2
            go_roundw
            case rel => exact ⟨f', a, b ++ [cv], c, cs, _, _, _, _, _, _, HX.out.2, HX.out.1.own (by omega) (by omega), HRR.out, HDR.out.fu.next H0.out (by have := HLL.out.2.2.2; omega) (by omega), HDR.out.la, by rw [List.length_append]; exact hla, HDR.out.lc, hcl⟩
            case measure =>
              have hps := HX.out.1.own (q := q3) (i := 1) (v := .slice (some ⟨gd, 0, none⟩) (b.length + 1) cap2) (by omega) (by omega)
              rw [meas2_at hps, HME.out, if_pos H0.out]
              have := HLL.out.2.2.2
              split <;> omega
      · skip
        obtain ⟨hy, hla⟩ := HY1.out (by trivial)
        obtain ⟨q0, q1, q2, ql⟩ := HD.out.b3.cells
        obtain ⟨g0, g1, g2⟩ := HD.out.b3.free
        have hr1 := HR1.out (by trivial)
        obtain ⟨cv, hcv⟩ : ∃ z, keyV ts s1 = z := ⟨_, rfl⟩
        obtain ⟨cs, hcs⟩ : ∃ z, keyS ts s1 = z := ⟨_, rfl⟩
        have hge : s1.1 ≤ cs.1 := by rw [← hcs]; exact keyS_ge ts s1
        have hcl : cs.1 ≤ L := by rw [← hcs]; exact keyS_L HNK.out.2.2.2.2 HLL.out.1
        have HCD := Lib.hid (fun (W : World) (q : PS2 57 W gp g n cp ts s1) => key_st HNK.out.2.1 q)
        rw [hcv, hcs] at hr1 HCD
        obtain ⟨cnm, hcnm⟩ : ∃ z, bs cv.nm = z := ⟨_, rfl⟩
        rw [hcnm] at HCD
        have HCV := Lib.hid hcnm
        have HRR := Lib.hid hr1
        clear hcv hcs hcnm hr1
        obtain ⟨i0, hi, hz0, hz1', hz2'⟩ := info_key'
        unfold maxLen at hc2
        go_wp2_with fail
        go_region_law? (first
          | (go_simp; go_at_call 41
             refine (HCD.out _ (HP.out.touch (Touch.refl _ _).drew)).mono ?_
             rintro r w3 ⟨rfl, hp, hT0⟩
             have hT := (Touch.refl (AtB gp) V1).drew.same hT0
             have HD3 := Lib.hid (HD.out.go hT hgp hsq)
             have hav := trivial
             obtain ⟨j0, j1, j2, jl⟩ := HD3.out.b3.cells
             obtain ⟨l0, l1, l2⟩ := HD3.out.b3.free
             have HX3 := Lib.hid (And.intro hp (And.intro hT hav))
             clear hp hT0 hT hav)
          | (refine step_append_lies _ rfl (.tmp 21) (.tmp 24) 25 rfl w.heap.size 62 i0 (.agg #[.string ⟨#[]⟩, .int .i64 0, .bool false]) 3 32 Tryz.underlying25 hi hz0 hz1' hz2' rfl (by decide) (.slice A1 a.length kp1) a.length (kyC a) (by simp [Act.eval]) (by exact (HD3.out.rk.alloc _)) ⟨w3.heap.size, 0, none⟩ 1 1 [.string cnm, .int .i64 (cv.kd : Int), .bool cv.sh] (by simp [Act.eval]) rfl (by exact World.news_of_block (cs := #[.string cnm, .int .i64 (cv.kd : Int), .bool cv.sh]) (alloc_blk w3 _ 62 rfl)) (by intro u hu; simp at hu; rcases hu with rfl | rfl | rfl <;> rfl) (by decide) (by unfold maxLen; omega) (by omega) (by have := HX3.out.2.1.size; have := HD.out.t.size; simp only [World.size_alloc]; omega) (w3.heap.size + 1) (by simp) ?_
             intro gd cap2 wx hown hgrow hat hlt
             have TR : Touch (fun k9 => (Value.slice A1 a.length kp1).ownBlock = some k9) w3 wx := ((Touch.refl _ w3).alloc _).grown hgrow (fun _ e => .inl e)
             have hbx := HD3.out.b3.goR TR (row_ne HD3.out.rk HD3.out.b3 (by decide))
             obtain ⟨k0, k1', k2', kl⟩ := hbx.cells
             obtain ⟨m0, m1, m2⟩ := hbx.free
             have HX := Lib.hid (And.intro (HX3.out.1.touchR TR (row_base HD3.out.rk) hgp hgl) (HD3.out.addK (v := cv) hsq TR (by rw [HCV.out]; exact hown) hat))
             clear hown hgrow hat TR hbx))
        all_goals
          go_wp2
          go_roundw
          case rel => exact ⟨f', a ++ [cv], b, c, cs, _, _, _, _, _, _, HX.out.2, HX.out.1.own (by omega) (by omega), HRR.out, HDR.out.fu.next H0.out (by have := HLL.out.2.2.2; omega) (by omega), by rw [List.length_append]; exact hla, HDR.out.lb, HDR.out.lc, hcl⟩
          case measure =>
            have hps := HX.out.1.own (q := q3) (i := 0) (v := .slice (some ⟨gd, 0, none⟩) (a.length + 1) cap2) (by omega) (by omega)
            rw [meas2_at hps, HME.out, if_pos H0.out]
            have := HLL.out.2.2.2
            split <;> omega
end Go.Proofs.YtkmbobfjoaldgaaGreatDoor

/-
  Package lex's divide, from its label comment on: a remark is left behind byte by byte. Conditions: at most 65536 bytes.
-/
namespace Go.Proofs.YtkmbobfjoaldgaaGreatDoor
open Go.ChangeShapes Go.WideShapes Go.ChangeAt Go.RowKit
set_option maxRecDepth 100000
set_option maxHeartbeats 4000000

/-- The measure, jump by jump. -/
theorem mv_00 {n i j k : Nat} (h : k < n) : mv n 0 i (k + 1) < mv n 0 j k := by
  have := mul_step (n := n) (i := k) (k := k + 1) (by omega) (by omega)
  simp only [mv, if_true]; omega
theorem mv_0l {n j k l : Nat} (h0 : l = 1 ∨ l = 2 ∨ l = 3 ∨ l = 4) (hk : k ≤ n) : mv n l k k < mv n 0 j k := by
  rcases h0 with rfl | rfl | rfl | rfl <;> simp only [mv, if_true] <;> simp <;> omega
theorem mv_ll {n i k l : Nat} (h0 : l = 1 ∨ l = 2 ∨ l = 3) (h : k < n) : mv n l i (k + 1) < mv n l i k := by
  rcases h0 with rfl | rfl | rfl <;> simp only [mv] <;> simp <;> omega
theorem mv_l0 {n i j k l : Nat} (h0 : l = 1 ∨ l = 5) (h : i < k) (hk : k ≤ n) : mv n 0 j k < mv n l i k := by
  have := mul_step h hk
  rcases h0 with rfl | rfl <;> simp only [mv, if_true] <;> simp <;> omega
theorem mv_l5 {n i k j l : Nat} (h0 : l = 2 ∨ l = 3 ∨ l = 4) : mv n 5 i j < mv n l i k := by
  rcases h0 with rfl | rfl | rfl <;> simp only [mv] <;> simp

theorem pass1 (A : Option Addr) (n cap : Nat) (b : Bs) (w wr : World) (g M : Nat) (ts : List Tk) (vl : Value) (i k : Nat) 
    {u1 u2 u3 u4 u7 u10 u11 u12 u13 u14 u15 u16 u17 u18 u19 u20 u21 u22 u23 u24 u25 u26 u27 u28 u29 u30 u31 u32 u33 u34 u35 u36 u37 u38 u39 u40 u41 u42 u43 u44 u45 u46 u47 u48 u49 u50 u51 u52 u53 u54 u55 u56 u57 u58 u59 u60 u61 u62 u63 u64 u65 u66 u67 u68 u69 u70 u71 u72 u73 u74 u75 u76 u77 u78 u79 u80 u81 u82 u83 u84 u85 u86 u87 u88 u89 u90 u91 u92 u93 u94 u95 u96 u97 u98 u99 u100 u101 u102 u103 u104 u105 u106 u107 u108 u109 u110 u111 u112 u113 u114 u115 u116 u117 u118 u119 u120 u121 u122 u123 u124 u125 u126 u127 u128 u129 u130 u131 u132 u133 u134 u135 u136 u137 u138 u139 u140 u141 u142 : Value}
    (Q : Exit → Act → World → Prop) (hn : b.length = n) (hcap : n ≤ cap) (hc63 : cap ≤ 9223372036854775807) (hmax : n ≤ 65536) (hb : BAt w A b) (hev : EV w) (hI : DI w g ts vl wr) (hk : k ≤ n) (hi : i < n) (hcnt : ts.length ≤ i) (hD : DL b g ts i k u7 wr 1) (hM : mv n 1 i k = M) :
    (divX 1).wp Tryz.prog (hop (DG A cap b w g M) Q) ⟨#[.slice A n cap, u1, u2, u3, u4, vl, .pointer (some ⟨g, 0, none⟩), u7, .int .i64 (i : Int), .int .i64 (k : Int), u10, u11, u12, u13, u14, u15, u16, u17, u18, u19, u20, u21, u22, u23, u24, u25, u26, u27, u28, u29, u30, u31, u32, u33, u34, u35, u36, u37, u38, u39, u40, u41, u42, u43, u44, u45, u46, u47, u48, u49, u50, u51, u52, u53, u54, u55, u56, u57, u58, u59, u60, u61, u62, u63, u64, u65, u66, u67, u68, u69, u70, u71, u72, u73, u74, u75, u76, u77, u78, u79, u80, u81, u82, u83, u84, u85, u86, u87, u88, u89, u90, u91, u92, u93, u94, u95, u96, u97, u98, u99, u100, u101, u102, u103, u104, u105, u106, u107, u108, u109, u110, u111, u112, u113, u114, u115, u116, u117, u118, u119, u120, u121, u122, u123, u124, u125, u126, u127, u128, u129, u130, u131, u132, u133, u134, u135, u136, u137, u138, u139, u140, u141, u142], []⟩ wr := by

  have _ := hc63; have _ := hev; have _ := hmax; have _ := hcap
  simp only [divX, divC, Tryz.f38, findLabel, Nat.reduceBEq, Bool.false_eq_true, if_true, if_false]
  have HCN := Lib.hid hcnt
  clear hcnt
  have HI := Lib.hid hI
  have HN := Lib.hid hn
  have HD := Lib.hid hD
  have HM := Lib.hid hM
  have hbr := hb.touch hI.t
  have HB := Lib.hid hbr
  clear hI hD hM hb hbr hev hn
  by_cases hlt : k < n
  · obtain ⟨blk, off, rfl, hblk, ⟨c, hc, hcell⟩, -⟩ := bat_at HB.out (by rw [HN.out]; exact hlt)
    have HC := Lib.hid hc
    clear hc
    have hd : decide ((k : Int) < (n : Int)) = true := by simp; omega
    obtain ⟨x, hx⟩ : ∃ x, (c.toNat : Int) = x := ⟨_, rfl⟩
    rw [hx] at hcell
    have HX := Lib.hid hx
    clear hx
    cases h10 : x != 10
    · have hc10 : c.toNat = 10 := by have := HX.out; simp at h10; omega
      have hik : i < k := by
        obtain ⟨⟨h1, h2, h3⟩, ⟨d, hd1, hd2⟩, -⟩ := HD.out
        by_cases e : i = k
        · subst e
          have := HC.out.symm.trans hd1
          injection this with this
          subst this
          omega
        · omega
      go_wp2
      go_step3
      show DG _ cap b w g M 0 _ _
      refine DG.mk (ts) (vl) (_) (_) (i) (k) ⟨rfl, rfl, by rw [HN.out]; rfl, rfl, rfl, rfl, rfl, rfl, (fun _ => rfl), ?le, ?il, (by have := HCN.out; show ts.length ≤ k; omega), HI.out, by show _ = _; rw [← from_shut HC.out hc10]; exact HD.out.2.2⟩ (by decide) ?mm
      case le => rw [HN.out]; exact (by omega)
      case il => rw [HN.out]; exact (fun _ => hi)
      case mm => rw [HN.out, ← HM.out]; exact mv_l0 (.inl rfl) hik (by omega)
    · have hc10 : ¬ c.toNat = 10 := by have := HX.out; simp at h10; omega
      go_wp2
      go_step3
      show DG _ cap b w g M 1 _ _
      refine DG.mk (ts) (vl) (_) (_) (i) (k + 1) ⟨rfl, rfl, by rw [HN.out]; rfl, rfl, rfl, rfl, rfl, by simp [slot], (fun _ => rfl), ?le, ?il, (by have := HCN.out; show ts.length ≤ i; omega), HI.out, ⟨HD.out.1.next HC.out (by simp [hc10]), HD.out.2.1, by rw [← from_within HC.out hc10]; exact HD.out.2.2⟩⟩ (by decide) ?mm
      case le => rw [HN.out]; exact (by omega)
      case il => rw [HN.out]; exact (fun _ => hi)
      case mm => rw [HN.out, ← HM.out]; exact mv_ll (.inl rfl) hlt
  · obtain rfl : k = n := by omega
    have hd : decide ((k : Int) < (k : Int)) = false := by simp
    go_wp2
    go_step3
    show DG _ cap b w g M 0 _ _
    refine DG.mk (ts) (vl) (_) (_) (i) (k) ⟨rfl, rfl, by rw [HN.out]; rfl, rfl, rfl, rfl, rfl, rfl, (fun _ => rfl), ?le, ?il, (by have := HCN.out; show ts.length ≤ k; omega), HI.out, by show _ = _; have := HD.out.2.2; rw [← HN.out, from_end] at this; rw [← HN.out, from_end]; exact this⟩ (by decide) ?mm
    case le => rw [HN.out]; exact (by omega)
    case il => rw [HN.out]; exact (fun _ => hi)
    case mm => rw [HN.out, ← HM.out]; exact mv_l0 (.inl rfl) hi (Nat.le_refl _)
end Go.Proofs.YtkmbobfjoaldgaaGreatDoor
