/-
  What package expr's pair does with a parser in memory. Conditions: what it calls does as the model says.
-/
import Derived.Test.YtkmbobfjoaldgaaGreatDoorQj
namespace Go.Proofs.YtkmbobfjoaldgaaGreatDoor
open Go.ChangeShapes Go.WideShapes Go.ChangeAt Go.RowKit
set_option maxRecDepth 100000
set_option maxHeartbeats 4000000

/-- What is assumed of binary at level lv and nesting d. -/
def BinOk (gp g n cp B : Nat) (ts : List Tk) (lv d D : Nat) (E : Nat → Rs) : Prop := ∀ (W : World) (k e : Nat), PS W gp g n cp ts k e → LV W B →
  Calls Tryz.prog 161 #[.pointer (some ⟨gp, 0, none⟩), .int .i64 (lv : Int), .int .i64 (d : Int)] W (XP W NoB gp g n cp ts (E k) k e D)
theorem pair_any {gp g n cp B d d1 D : Nat} {ts : List Tk} {E : Nat → Rs} (HE : BinOk gp g n cp B ts 0 d1 D E) (hd1 : d1 = d + 1) (hds : d ≤ 1000) (hD : D ≤ 10000) (hB : B ≤ gp) {w : World} {k e : Nat} (h : PS w gp g n cp ts k e) (hv : LV w B)
    {Q : Nat → Prop} {x : Ex} {a b : Int} {s : ByteArray} {A : Option Addr} {m c : Nat} (hx : ET w Q x a b s A m c) (hxd : x.depth ≤ D) (kd : Int) :
    Calls Tryz.prog 184 #[.pointer (some ⟨gp, 0, none⟩), .int .i64 kd, .agg #[.int .i64 a, .int .i64 b, .string s, .slice A m c], .int .i64 (d : Int)] w (XP w Q gp g n cp ts (pairL ts E kd x k) k e (D + 1)) := by
  have hwr : IntKind.i64.wrap ((d : Int) + 1) = (d1 : Int) := by rw [show (d : Int) + 1 = (d1 : Int) from by omega]; exact IntWalk.i64_in _ (by omega)
  have hgp := blk_lt h.blk
  obtain ⟨W0, hW0⟩ : ∃ W, (w.alloc (.cells #[.int .i64 a, .int .i64 b, .string s, .slice A m c] 44)).alloc (.cells #[.int .i64 0, .int .i64 0, .string ⟨#[]⟩, .slice none 0 0] 44) = W := ⟨_, rfl⟩
  have hT0 : Touch NoB w W0 := by rw [← hW0]; exact ((Touch.refl _ _).alloc _).alloc _
  have hb6 : XB W0 w.heap.size a b s A m c := by rw [← hW0]; exact (XB.new w a b s A m c rfl).old _
  have hb8 : XB W0 (w.heap.size + 1) 0 0 ⟨#[]⟩ none 0 0 := by rw [← hW0]; exact XB.new _ _ _ _ _ _ _ (by simp only [World.size_alloc])
  have HX1 := Lib.hid (expect_any (s := [44]) (h.touch hT0))
  have HV := Lib.hid (hv.touch0 hT0)
  have HB6 := Lib.hid hb6
  have HB8 := Lib.hid hb8
  have HT0 := Lib.hid hT0
  obtain ⟨R, hR⟩ : ∃ R : Nat → Prop, R = fun b => (Q b ∧ b < w.heap.size) ∨ w.heap.size + 2 ≤ b := ⟨_, rfl⟩
  have hx' : ET w R x a b s A m c := hx.via (fun b h1 h2 => by rw [hR]; exact .inl ⟨h1, h2⟩)
  have HR := Lib.hid hR
  have HXT := Lib.hid (And.intro hx' (And.intro hxd (And.intro (h.nox R) (And.intro ((h.touch hT0).nox R) hB))))
  have HE := Lib.hid HE
  have HK5 := Lib.hid h.tl.lt
  have HDD := Lib.hid hD
  have hs0 : W0.heap.size = w.heap.size + 1 + 1 := by rw [← hW0]; simp only [World.size_alloc]
  clear h hv hb6 hb8 hT0 hx hx' hR hd1 hxd hB hD hds
  go_enter Tryz.func184, Tryz.ntmps184
  go_wp2_with fail
  refine HX1.out.mono ?_
  rintro r w1 ⟨rfl, hp1, hT1⟩
  obtain ⟨k1, hk1⟩ : ∃ k1, (if acc (nxt ts k e) [44] = true then k + 1 else k) = k1 := ⟨_, rfl⟩
  obtain ⟨e1, he1⟩ : ∃ e1, (if acc (nxt ts k e) [44] = true then e else if e = 0 then 2 else e) = e1 := ⟨_, rfl⟩
  rw [hk1, he1] at hp1
  have HK1 := Lib.hid (And.intro hk1 he1)
  have HC1 := Lib.hid (HE.out w1 k1 e1 hp1 (HV.out.touchP hT1 HXT.out.2.2.2.2))
  have HT1 := Lib.hid (And.intro hT1 (And.intro (hp1.nox R) (HV.out.touchP hT1 HXT.out.2.2.2.2)))
  clear hk1 he1 hp1 hT1 HX1 HV
  go_wp2_with fail
  refine HC1.out.mono ?_
  rintro r w2 ⟨hT2, y, k2, e2, a2, b2, s2, A2, m2, c2, rfl, hy, hp2, ho2, hyd⟩
  obtain ⟨W2, hW2⟩ : ∃ W, w2.alloc (.cells #[.int .i64 a2, .int .i64 b2, .string s2, .slice A2 m2 c2] 44) = W := ⟨_, rfl⟩
  have hTA : Touch NoB w2 W2 := by rw [← hW2]; exact (Touch.refl _ _).alloc _
  have HX2 := Lib.hid (expect_any (s := [41]) (hp2.touch hTA))
  have HB9 := Lib.hid (show XB W2 w2.heap.size a2 b2 s2 A2 m2 c2 by rw [← hW2]; exact XB.new _ _ _ _ _ _ _ rfl)
  have hy' : ET w2 R y a2 b2 s2 A2 m2 c2 := hy.via (fun b h1 h2 => by rw [HR.out]; rcases h1 with h1 | h1; exact h1.elim; exact .inr (by have := HT1.out.1.size; omega))
  have HY := Lib.hid (And.intro (hy'.touch0 hTA) (And.intro hyd (And.intro ho2 ((hp2.touch hTA).nox R))))
  have HT2 := Lib.hid (show Touch (AtB gp) W0 W2 from HT1.out.1.same (hT2.same (Touch.anyB hTA)))
  have hs2 : w.heap.size + 1 < w2.heap.size := by have := HT1.out.1.size; have := hT2.size; omega
  clear hT2 hy hy' hp2 ho2 hyd hTA HC1
  go_wp2_with fail
  refine HX2.out.mono ?_
  rintro r w3 ⟨rfl, hp3, hT3⟩
  obtain ⟨k3, hk3⟩ : ∃ k3, (if acc (nxt ts k2 e2) [41] = true then k2 + 1 else k2) = k3 := ⟨_, rfl⟩
  obtain ⟨e3, he3⟩ : ∃ e3, (if acc (nxt ts k2 e2) [41] = true then e2 else if e2 = 0 then 2 else e2) = e3 := ⟨_, rfl⟩
  rw [hk3, he3] at hp3
  have HK3 := Lib.hid (And.intro hk3 he3)
  clear hk3 he3
  have hT03 : Touch (AtB gp) W0 w3 := HT2.out.same hT3
  obtain ⟨p60, p61, p62, p63, p64⟩ := (HB6.out.go hT03 (by omega)).cells
  obtain ⟨p90, p91, p92, p93, p94⟩ := (HB9.out.go hT3 (by omega)).cells
  have hx3 : ET w3 R x a b s A m c := (HXT.out.1.touch0 HT0.out).touch hT03 HXT.out.2.2.2.1
  have hy3 : ET w3 R y a2 b2 s2 A2 m2 c2 := HY.out.1.touch hT3 HY.out.2.2.2
  obtain ⟨W3, hW3⟩ : ∃ W, w3.alloc (.cells #[.int .i64 a, .int .i64 b, .string s, .slice A m c, .int .i64 a2, .int .i64 b2, .string s2, .slice A2 m2 c2] 44) = W := ⟨_, rfl⟩
  have hTB : Touch NoB w3 W3 := by rw [← hW3]; exact (Touch.refl _ _).alloc _
  have hR3 : R w3.heap.size := by rw [HR.out]; exact .inr (by have := hT03.size; omega)
  have het : ET W3 R (.two kd x y) kd 0 ⟨#[]⟩ (some ⟨w3.heap.size, 0, none⟩) 2 2 := by rw [← hW3]; exact hx3.mk2 hy3 kd rfl hR3
  have hdd : (Ex.two kd x y).depth ≤ D + 1 := by have := HXT.out.2.1; have := HY.out.2.1; simp only [Ex.depth]; omega
  have HF := Lib.hid (form_any (hp3.touch hTB) het (by have := HDD.out; omega))
  have HT3 := Lib.hid (And.intro (show Touch (AtB gp) W0 W3 from hT03.same (Touch.anyB hTB)) (And.intro het (And.intro hdd ((hp3.touch hTB).nox R))))
  clear hT3 hp3 hT03 hx3 hy3 hTB het hdd hR3
  go_wp2_with fail
  refine HF.out.mono ?_
  rintro r w4 ⟨rfl, hp4, hT4⟩
  obtain ⟨e4, he4⟩ : ∃ e4, (if e3 = 0 ∧ 40 < (Ex.two kd x y).depth then 4 else e3) = e4 := ⟨_, rfl⟩
  rw [he4] at hp4
  have hT04 : Touch (AtB gp) W0 w4 := HT3.out.1.same hT4
  have hb8 := HB8.out.go hT04 (by omega)
  obtain ⟨z0, z1, z2, z3, z4⟩ := hb8.cells
  obtain ⟨f0, f1, f2, f3⟩ := hb8.free
  have HE4 := Lib.hid he4
  have HP4 := Lib.hid (And.intro hp4 (And.intro (HT3.out.2.1.touch hT4 HT3.out.2.2.2) hT04))
  clear he4 hT04 hb8 hp4 hT4
  go_wp2
  have hTE := touch4 (F := AtB gp) ((Touch.anyB (F := AtB gp) HT0.out).same HP4.out.2.2) (.inr (show w.heap.size ≤ w.heap.size + 1 by omega)) (.int .i64 kd) (.int .i64 0) (.string ⟨#[]⟩) (.slice (some ⟨w3.heap.size, 0, none⟩) 2 2)
  have hTX := touch4 (F := fun b => b = w.heap.size + 1) (Touch.refl _ w4) (.inl rfl) (.int .i64 kd) (.int .i64 0) (.string ⟨#[]⟩) (.slice (some ⟨w3.heap.size, 0, none⟩) 2 2)
  refine bodyPost_ret (v := .agg #[.int .i64 kd, .int .i64 0, .string ⟨#[]⟩, .slice (some ⟨w3.heap.size, 0, none⟩) 2 2]) (by simp [results, Tryz.results184, go_sem, z0, z1, z2, z3]) rfl ⟨hTE, .two kd x y, k3, e4, _, _, _, _, _, _, rfl, ?_, HP4.out.1.touchX hTX (by omega) (by have := HK5.out; omega), out_pair HK1.out.1.symm HK1.out.2.symm HY.out.2.2.1 HK3.out.1.symm HK3.out.2.symm HE4.out.symm, HT3.out.2.2.1⟩
  exact (HP4.out.2.1.aside hTX (by rw [HR.out]; intro q; rcases q with q | q <;> omega)).via (fun b h1 _ => by rw [HR.out] at h1; rcases h1 with h1 | h1; exact .inl h1.1; exact .inr (by omega))
end Go.Proofs.YtkmbobfjoaldgaaGreatDoor
