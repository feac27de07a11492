/-
  What the document's own first does with a reader in memory: far. Conditions: what it calls does as the model says.
-/
import Derived.Test.YtnphaaahdlkmhaaGreatZs24
import Derived.Test.YtnphaaahdlkmhaaGreatZs7
import Derived.Test.YtnphaaahdlkmhaaGreatZs19
import Derived.Test.YtnphaaahdlkmhaaGreatZs9
import Derived.Test.YtnphaaahdlkmhaaGreatZs10
import Derived.KernelRfl
import Derived.Test.YtnphaaahdlkmhaaGreatZs18
import Derived.Maps.AppendAt
import Derived.Lib.AppendZeros
section
namespace Go.Proofs.YtnphaaahdlkmhaaGreat
open Go.ChangeShapes Go.WideShapes Go.ChangeAt Go.RowKit
set_option maxRecDepth 100000
set_option maxHeartbeats 4000000

theorem rfirst_far {gp g n cp d d1 D : Nat} {ts : List Tk} {E : Nat → Rs} (HE : RBinOk gp g n cp ts 0 d1 D E) (hd1 : d1 = d + 1) (hds : d ≤ 1000) (hD : D ≤ 9000) {w : World} {k : Nat} (h : RS w gp g n cp ts k 0) (h3 : (nxt ts k 0).kd ≠ 3) (h1 : (nxt ts k 0).kd ≠ 1) (cT : acc (nxt ts k 0) [116, 114, 117, 101] = false) (cF : acc (nxt ts k 0) [102, 97, 108, 115, 101] = false) (cS : acc (nxt ts k 0) [115, 101, 108, 102] = false) (cM : acc (nxt ts k 0) [116, 105, 109, 101] = false) (c39 : acc (nxt ts k 0) [39] = false) (cP : acc (nxt ts k 0) [40] = false) (hy : acc (nxt ts k 0) [102, 97, 114] = true) :
    Calls Tryz.prog 79 #[.pointer (some ⟨gp, 0, none⟩), .int .i64 (d : Int)] w (RP w NoB gp g n cp ts (primL ts E k) k 0 (D + 2)) := by
  have HOO := Lib.hid (fun (k1 e1 k2 e2 : Nat) (y : Ex) (hk1 : k1 = if acc (nxt ts (k + 1) 0) [40] = true then k + 1 + 1 else k + 1) (he1 : e1 = if acc (nxt ts (k + 1) 0) [40] = true then 0 else 2) (ho : Out (E k1) k1 e1 y k2 e2) => out_far h3 h1 c39 cT cF cS cM cP hy hk1 he1 ho)
  have hwr : IntKind.i64.wrap ((d : Int) + 1) = (d1 : Int) := by rw [show (d : Int) + 1 = (d1 : Int) from by omega]; exact IntWalk.i64_in _ (by omega)
  have HEE := Lib.hid (And.intro HE hD)
  clear hd1 hds hD HE
  obtain ⟨W0, hW0⟩ : ∃ W, w.alloc (.cells #[.int .i64 0, .int .i64 0, .string ⟨#[]⟩, .slice none 0 0] 44) = W := ⟨_, rfl⟩
  have hT0 : Touch NoB w W0 := by rw [← hW0]; exact (Touch.refl _ _).alloc _
  have hb4 : XB W0 w.heap.size 0 0 ⟨#[]⟩ none 0 0 := by rw [← hW0]; exact XB.new w _ _ _ _ _ _ rfl
  have hs0 : W0.heap.size = w.heap.size + 1 := by rw [← hW0]; simp only [World.size_alloc]
  have hgp := h.lt
  have hgl := h.tl.lt
  have HP := Lib.hid (h.touch hT0)
  have HB4 := Lib.hid hb4
  have HT0 := Lib.hid hT0
  have HN := Lib.hid (rnow_any (h.touch hT0))
  have hk3 : (((nxt ts k 0).kd : Int) == 3) = false := by rw [show (3 : Int) = ((3 : Nat) : Int) from rfl, eqq_nat]; simpa using h3
  have hk1 : (((nxt ts k 0).kd : Int) == 1) = false := by rw [show (1 : Int) = ((1 : Nat) : Int) from rfl, eqq_nat]; simpa using h1
  have HcT : Hid (∀ W, Touch NoB W0 W → Calls Tryz.prog 16 #[.pointer (some ⟨gp, 0, none⟩), .string ⟨#[116, 114, 117, 101]⟩] W fun x w' => x = .returned (.bool false) ∧ RS w' gp g n cp ts k 0 ∧ Touch NoB W w') := Lib.hid (fun W t => rtake_no (s := [116, 114, 117, 101]) ((h.touch hT0).touch t) cT)
  have HcF : Hid (∀ W, Touch NoB W0 W → Calls Tryz.prog 16 #[.pointer (some ⟨gp, 0, none⟩), .string ⟨#[102, 97, 108, 115, 101]⟩] W fun x w' => x = .returned (.bool false) ∧ RS w' gp g n cp ts k 0 ∧ Touch NoB W w') := Lib.hid (fun W t => rtake_no (s := [102, 97, 108, 115, 101]) ((h.touch hT0).touch t) cF)
  have HcS : Hid (∀ W, Touch NoB W0 W → Calls Tryz.prog 16 #[.pointer (some ⟨gp, 0, none⟩), .string ⟨#[115, 101, 108, 102]⟩] W fun x w' => x = .returned (.bool false) ∧ RS w' gp g n cp ts k 0 ∧ Touch NoB W w') := Lib.hid (fun W t => rtake_no (s := [115, 101, 108, 102]) ((h.touch hT0).touch t) cS)
  have HcM : Hid (∀ W, Touch NoB W0 W → Calls Tryz.prog 16 #[.pointer (some ⟨gp, 0, none⟩), .string ⟨#[116, 105, 109, 101]⟩] W fun x w' => x = .returned (.bool false) ∧ RS w' gp g n cp ts k 0 ∧ Touch NoB W w') := Lib.hid (fun W t => rtake_no (s := [116, 105, 109, 101]) ((h.touch hT0).touch t) cM)
  have Hc39 : Hid (∀ W, Touch NoB W0 W → Calls Tryz.prog 16 #[.pointer (some ⟨gp, 0, none⟩), .string ⟨#[39]⟩] W fun x w' => x = .returned (.bool false) ∧ RS w' gp g n cp ts k 0 ∧ Touch NoB W w') := Lib.hid (fun W t => rtake_no (s := [39]) ((h.touch hT0).touch t) c39)
  have HcP : Hid (∀ W, Touch NoB W0 W → Calls Tryz.prog 16 #[.pointer (some ⟨gp, 0, none⟩), .string ⟨#[40]⟩] W fun x w' => x = .returned (.bool false) ∧ RS w' gp g n cp ts k 0 ∧ Touch NoB W w') := Lib.hid (fun W t => rtake_no (s := [40]) ((h.touch hT0).touch t) cP)
  have HY : Hid (∀ W, Touch NoB W0 W → Calls Tryz.prog 16 #[.pointer (some ⟨gp, 0, none⟩), .string ⟨#[102, 97, 114]⟩] W fun x w' => x = .returned (.bool true) ∧ RS w' gp g n cp ts (k + 1) 0 ∧ Touch (AtB gp) W w') := Lib.hid (fun W t => rtake_yes (s := [102, 97, 114]) ((h.touch hT0).touch t) hy)
  obtain ⟨kd, hkd⟩ : ∃ kd, (nxt ts k 0).kd = kd := ⟨_, rfl⟩
  obtain ⟨nn, hnn⟩ : ∃ nn, (nxt ts k 0).n = nn := ⟨_, rfl⟩
  obtain ⟨pl, hpl⟩ : ∃ pl, (nxt ts k 0).pl = pl := ⟨_, rfl⟩
  obtain ⟨tx, htx⟩ : ∃ tx, bs (nxt ts k 0).tx = tx := ⟨_, rfl⟩
  simp only [hkd, hnn, hpl, htx] at HN
  rw [hkd] at hk3 hk1
  clear h hT0 hb4 hkd hnn hpl htx
  go_enter Tryz.func79, Tryz.ntmps79
  go_wp2_with fail
  refine HN.out.mono ?_
  rintro r w1 ⟨rfl, hT1⟩
  obtain ⟨W, hW⟩ : ∃ W, w1.alloc (.cells #[.int .i64 (kd : Int), .int .i64 (nn : Int), .int .i64 (pl : Int), .string tx] 52) = W := ⟨_, rfl⟩
  have hT2 : Touch NoB W0 W := by rw [← hW]; exact hT1.alloc _
  obtain ⟨q5, hq5⟩ : ∃ q5, w1.heap.size = q5 := ⟨_, rfl⟩
  have hs1 := hT1.size
  have hb : W.heap[q5]? = some (.cells #[.int .i64 (kd : Int), .int .i64 (nn : Int), .int .i64 (pl : Int), .string tx] 52 (0, 0)) := by rw [← hW]; exact alloc_blk _ _ _ hq5
  have d0 : W.cell? ⟨q5, 0, none⟩ = some (.int .i64 (kd : Int)) := cell_blk hb 0
  have hl5 := blk_lt hb
  have HB5 := Lib.hid hb
  have HT := Lib.hid hT2
  go_wp2_with fail
  refine (HcT.out _ HT.out).mono ?_
  rintro r U0 ⟨rfl, -, hT⟩
  have HT := Lib.hid (HT.out.same hT)
  clear hT d0 hb hT1 hT2
  go_wp2_with fail
  refine (HcF.out _ HT.out).mono ?_
  rintro r U1 ⟨rfl, -, hT⟩
  have HT := Lib.hid (HT.out.same hT)
  clear hT
  go_wp2_with fail
  refine (HcS.out _ HT.out).mono ?_
  rintro r U2 ⟨rfl, -, hT⟩
  have HT := Lib.hid (HT.out.same hT)
  clear hT
  go_wp2_with fail
  refine (HcM.out _ HT.out).mono ?_
  rintro r U3 ⟨rfl, -, hT⟩
  have HT := Lib.hid (HT.out.same hT)
  clear hT
  go_wp2_with fail
  refine (Hc39.out _ HT.out).mono ?_
  rintro r U4 ⟨rfl, -, hT⟩
  have HT := Lib.hid (HT.out.same hT)
  clear hT
  go_wp2_with fail
  refine (HcP.out _ HT.out).mono ?_
  rintro r U5 ⟨rfl, -, hT⟩
  have HT := Lib.hid (HT.out.same hT)
  clear hT
  go_wp2_with fail
  refine (HY.out _ HT.out).mono ?_
  rintro r V ⟨rfl, hp, hT⟩
  have HTV := Lib.hid (show Touch (AtB gp) W0 V from (Touch.anyB HT.out).same hT)
  have HX1 : Hid (Calls Tryz.prog 19 #[.pointer (some ⟨gp, 0, none⟩), .string ⟨#[40]⟩] V fun x w' => x = .returned (.tuple #[]) ∧
      RS w' gp g n cp ts (if acc (nxt ts (k + 1) 0) [40] = true then k + 1 + 1 else k + 1) (if acc (nxt ts (k + 1) 0) [40] = true then 0 else 2) ∧ Touch (AtB gp) V w') := Lib.hid ((rwant_any (s := [40]) hp).mono (fun x w' q => by simpa using q))
  clear hp hT
  go_wp2_with fail
  refine HX1.out.mono ?_
  rintro r V1 ⟨rfl, hp1, hT1'⟩
  obtain ⟨k1, hk1e⟩ : ∃ k1, (if acc (nxt ts (k + 1) 0) [40] = true then k + 1 + 1 else k + 1) = k1 := ⟨_, rfl⟩
  obtain ⟨e1, he1e⟩ : ∃ e1, (if acc (nxt ts (k + 1) 0) [40] = true then 0 else 2) = e1 := ⟨_, rfl⟩
  rw [hk1e, he1e] at hp1
  have HK1 := Lib.hid (And.intro hk1e.symm he1e.symm)
  have HC := Lib.hid (HEE.out.1 V1 k1 e1 hp1)
  have HTV1 := Lib.hid (HTV.out.same hT1')
  have hVs : w.heap.size + 1 ≤ V1.heap.size := by have := HTV1.out.size; omega
  clear hp1 hT1' hk1e he1e HX1
  go_wp2_with fail
  refine HC.out.mono ?_
  rintro r w6 ⟨hw6, y, k2, e2, a6, b6, s6, A6, m6, c6, rfl, hy6, hp6, ho6, hyd6⟩
  obtain ⟨W6, hW6⟩ : ∃ W, w6.alloc (.cells #[.int .i64 a6, .int .i64 b6, .string s6, .slice A6 m6 c6] 44) = W := ⟨_, rfl⟩
  have tA6 : Touch NoB w6 W6 := by rw [← hW6]; exact (Touch.refl _ _).alloc _
  obtain ⟨q6, hq6⟩ : ∃ q6, w6.heap.size = q6 := ⟨_, rfl⟩
  have hx6 : XB W6 q6 a6 b6 s6 A6 m6 c6 := by rw [← hW6]; exact XB.new _ _ _ _ _ _ _ hq6
  have hs6 := hw6.size
  have HX := Lib.hid (And.intro (hp6.touch tA6) (And.intro hx6 (And.intro ((hy6.via (R := fun b => w.heap.size < b) (fun b h1 _ => by rcases h1 with h1 | h1; exact h1.elim; exact (by omega : w.heap.size < b))).touch0 tA6) (And.intro ((hp6.touch tA6).nox (fun b => w.heap.size < b)) (And.intro hyd6 (HTV1.out.same (hw6.same (Touch.anyB tA6))))))))
  have HO2 := Lib.hid (HOO.out k1 e1 k2 e2 y HK1.out.1 HK1.out.2 ho6)
  have hq6w : w.heap.size < q6 := by omega
  have HXW : Hid (Calls Tryz.prog 19 #[.pointer (some ⟨gp, 0, none⟩), .string ⟨#[44]⟩] W6 fun x w' => x = .returned (.tuple #[]) ∧
      RS w' gp g n cp ts (if acc (nxt ts k2 e2) [44] = true then k2 + 1 else k2) (if acc (nxt ts k2 e2) [44] = true then e2 else if e2 = 0 then 2 else e2) ∧ Touch (AtB gp) W6 w') := Lib.hid (rwant_any (s := [44]) HX.out.1)
  clear hw6 hy6 hp6 ho6 hyd6 tA6 hx6 hs6
  go_wp2_with fail
  refine HXW.out.mono ?_
  rintro r U9 ⟨rfl, hp, hT⟩
  obtain ⟨k3, hk3e⟩ : ∃ k3, (if acc (nxt ts k2 e2) [44] = true then k2 + 1 else k2) = k3 := ⟨_, rfl⟩
  obtain ⟨e3, he3e⟩ : ∃ e3, (if acc (nxt ts k2 e2) [44] = true then e2 else if e2 = 0 then 2 else e2) = e3 := ⟨_, rfl⟩
  rw [hk3e, he3e] at hp
  have HK3 := Lib.hid (And.intro hk3e.symm he3e.symm)
  have HC2 := Lib.hid (HEE.out.1 U9 k3 e3 hp)
  have hsU := hT.size
  have hl6 := HX.out.2.1.cells.2.2.2.2
  have HTU := Lib.hid hT
  have HNU := Lib.hid (hp.nox (fun b => w.heap.size < b))
  clear hp hT hk3e he3e HXW
  go_wp2_with fail
  refine HC2.out.mono ?_
  rintro r w7 ⟨hw7, z, k4, e4, a7, b7, s7, A7, m7, c7, rfl, hy7, hp7, ho7, hyd7⟩
  obtain ⟨W7, hW7⟩ : ∃ W, w7.alloc (.cells #[.int .i64 a7, .int .i64 b7, .string s7, .slice A7 m7 c7] 44) = W := ⟨_, rfl⟩
  have tA7 : Touch NoB w7 W7 := by rw [← hW7]; exact (Touch.refl _ _).alloc _
  obtain ⟨q7, hq7⟩ : ∃ q7, w7.heap.size = q7 := ⟨_, rfl⟩
  have hx7 : XB W7 q7 a7 b7 s7 A7 m7 c7 := by rw [← hW7]; exact XB.new _ _ _ _ _ _ _ hq7
  have hs7 := hw7.size
  have hq7w : w.heap.size < q7 := by omega
  have HO := Lib.hid (fun (k5 e5 e6 : Nat) h5 h5e h6 => HO2.out (.two 19 y z) k5 e6 (out_pair (k := k2) (e := e2) (k1 := k3) (e1 := e3) (k2 := k4) (e2 := e4) (k3 := k5) (e3 := e5) (e4 := e6) HK3.out.1 HK3.out.2 ho7 h5 h5e h6))
  have HX5 := Lib.hid (show RS W7 gp g n cp ts k4 e4 ∧ XB W7 q6 a6 b6 s6 A6 m6 c6 ∧ XB W7 q7 a7 b7 s7 A7 m7 c7 ∧ ET W7 (fun b => w.heap.size < b) y a6 b6 s6 A6 m6 c6 ∧ ET W7 (fun b => w.heap.size < b) z a7 b7 s7 A7 m7 c7 ∧ NoX W7 (AtB gp) (fun b => w.heap.size < b) ∧ y.depth ≤ D ∧ z.depth ≤ D ∧ Touch (AtB gp) W0 W7 from
    ⟨hp7.touch tA7, ((HX.out.2.1.go HTU.out (by omega)).go (hw7.same (Touch.anyB tA7)) (by omega)), hx7, ((HX.out.2.2.1.touch HTU.out HX.out.2.2.2.1).touch (hw7.same (Touch.anyB tA7)) HNU.out), (hy7.via (fun b h1 _ => by rcases h1 with h1 | h1; exact h1.elim; exact (by omega : w.heap.size < b))).touch0 tA7, (hp7.touch tA7).nox _, HX.out.2.2.2.2.1, hyd7, (HX.out.2.2.2.2.2.same HTU.out).same (hw7.same (Touch.anyB tA7))⟩)
  clear hw7 hy7 hp7 ho7 hyd7 tA7 hx7 hs7 hsU
  have HX2 := Lib.hid (rwant_any (s := [41]) HX5.out.1)
  have HX2 : Hid (Calls Tryz.prog 19 #[.pointer (some ⟨gp, 0, none⟩), .string ⟨#[41]⟩] W7 fun x w' => x = .returned (.tuple #[]) ∧
      RS w' gp g n cp ts (if acc (nxt ts k4 e4) [41] = true then k4 + 1 else k4) (if acc (nxt ts k4 e4) [41] = true then e4 else if e4 = 0 then 2 else e4) ∧ Touch (AtB gp) W7 w') := HX2
  go_wp2_with fail
  refine HX2.out.mono ?_
  rintro r w8 ⟨rfl, hp8, hT8⟩
  obtain ⟨k5, hk5⟩ : ∃ k5, (if acc (nxt ts k4 e4) [41] = true then k4 + 1 else k4) = k5 := ⟨_, rfl⟩
  obtain ⟨e5, he5⟩ : ∃ e5, (if acc (nxt ts k4 e4) [41] = true then e4 else if e4 = 0 then 2 else e4) = e5 := ⟨_, rfl⟩
  rw [hk5, he5] at hp8
  have HK5 := Lib.hid (And.intro hk5.symm he5.symm)
  obtain ⟨u60, u61, u62, u63, u64⟩ := (HX5.out.2.1.go hT8 (by omega)).cells
  obtain ⟨u70, u71, u72, u73, u74⟩ := (HX5.out.2.2.1.go hT8 (by omega)).cells
  have hy8 := HX5.out.2.2.2.1.touch hT8 HX5.out.2.2.2.2.2.1
  have hz8 := HX5.out.2.2.2.2.1.touch hT8 HX5.out.2.2.2.2.2.1
  obtain ⟨W9, hW9⟩ : ∃ W, w8.alloc (.cells #[.int .i64 a6, .int .i64 b6, .string s6, .slice A6 m6 c6, .int .i64 a7, .int .i64 b7, .string s7, .slice A7 m7 c7] 44) = W := ⟨_, rfl⟩
  have t9 : Touch NoB w8 W9 := by rw [← hW9]; exact (Touch.refl _ _).alloc _
  obtain ⟨q9, hq9⟩ : ∃ q9, w8.heap.size = q9 := ⟨_, rfl⟩
  have hq9w : w.heap.size < q9 := by have := hT8.size; have := HX5.out.2.1.cells.2.2.2.2; omega
  have het : ET W9 (fun b => w.heap.size < b) (.two 19 y z) 19 0 ⟨#[]⟩ (some ⟨q9, 0, none⟩) 2 2 := by rw [← hW9]; exact hy8.mk2 hz8 19 hq9 hq9w
  have hdd : (Ex.two 19 y z).depth ≤ D + 1 := by have := HX5.out.2.2.2.2.2.2.1; have := HX5.out.2.2.2.2.2.2.2.1; simp only [Ex.depth]; omega
  have hp9 := hp8.touch t9
  have HF := Lib.hid (rmade_any hp9 het (by have := HEE.out.2; omega))
  obtain ⟨e6, he6⟩ : ∃ e6, (if e5 = 0 ∧ 40 < (Ex.two 19 y z).depth then 4 else e5) = e6 := ⟨_, rfl⟩
  rw [he6] at HF
  have HO6 := Lib.hid (And.intro (HO.out k5 e5 e6 HK5.out.1 HK5.out.2 he6.symm) hdd)
  have HT9 := Lib.hid (And.intro (show Touch (AtB gp) W0 W9 from HX5.out.2.2.2.2.2.2.2.2.same (hT8.same (Touch.anyB t9))) (And.intro het (hp9.nox (fun b => w.heap.size < b))))
  clear hp8 hT8 hk5 he5 hy8 hz8 t9 het hdd hp9 he6 HX2
  go_wp2_with fail
  refine HF.out.mono ?_
  rintro r V9 ⟨rfl, hp, hT⟩
  have HQ := Lib.hid (And.intro hp (HT9.out.1.same hT))
  have HZ := Lib.hid (HT9.out.2.1.touch hT HT9.out.2.2)
  clear hp hT
  have hb4 := HB4.out.go HQ.out.2 (by omega)
  obtain ⟨z0, z1, z2, z3, z4⟩ := hb4.cells
  obtain ⟨f0, f1, f2, f3⟩ := hb4.free
  clear hb4
  go_wp2
  have hTE := touch4 (F := AtB gp) ((Touch.anyB (F := AtB gp) HT0.out).same HQ.out.2) (.inr (Nat.le_refl w.heap.size)) (.int .i64 19) (.int .i64 0) (.string ⟨#[]⟩) (.slice (some ⟨q9, 0, none⟩) 2 2)
  have hTX := touch4 (F := fun b => b = w.heap.size) (Touch.refl _ V9) (.inl rfl) (.int .i64 19) (.int .i64 0) (.string ⟨#[]⟩) (.slice (some ⟨q9, 0, none⟩) 2 2)
  exact bodyPost_ret (v := .agg #[.int .i64 19, .int .i64 0, .string ⟨#[]⟩, .slice (some ⟨q9, 0, none⟩) 2 2]) (by simp [results, Tryz.results79, go_sem, z0, z1, z2, z3]) rfl ⟨hTE, .two 19 y z, k5, e6, _, _, _, _, _, _, rfl, (HZ.out.aside hTX (by omega)).via (fun b h1 _ => .inr (by omega)), HQ.out.1.touchX hTX hgp hgl, HO6.out.1, by have := HO6.out.2; omega⟩
end Go.Proofs.YtnphaaahdlkmhaaGreat
end
/-
  What the document's own Expr returns: what the parser over lists of tokens comes to. Conditions: numbers among the tokens are such.
-/
section
namespace Go.Proofs.YtnphaaahdlkmhaaGreat
open Go.ChangeShapes Go.WideShapes Go.ChangeAt Go.RowKit
set_option maxRecDepth 100000
set_option maxHeartbeats 4000000

theorem rfirst_any {gp g n cp d d1 D : Nat} {ts : List Tk} {E : Nat → Rs} (HE : RBinOk gp g n cp ts 0 d1 D E) (hd1 : d1 = d + 1) (hds : d ≤ 1000) (hD : D ≤ 9000) : RPriOk gp g n cp ts d (D + 2) (primL ts E) := by
  intro w k h
  by_cases h3 : (nxt ts k 0).kd = 3
  · exact rfirst_num HE hd1 hds hD h h3
  · by_cases h1 : (nxt ts k 0).kd = 1
    · exact rfirst_nam HE hd1 hds hD h h3 h1
    · cases cT : acc (nxt ts k 0) [116, 114, 117, 101]
      case true => exact rfirst_cT HE hd1 hds hD h h3 h1 cT
      case false =>
        cases cF : acc (nxt ts k 0) [102, 97, 108, 115, 101]
        case true => exact rfirst_cF HE hd1 hds hD h h3 h1 cT cF
        case false =>
          cases cS : acc (nxt ts k 0) [115, 101, 108, 102]
          case true => exact rfirst_cS HE hd1 hds hD h h3 h1 cT cF cS
          case false =>
            cases cM : acc (nxt ts k 0) [116, 105, 109, 101]
            case true => exact rfirst_cM HE hd1 hds hD h h3 h1 cT cF cS cM
            case false =>
              cases c39 : acc (nxt ts k 0) [39]
              case true => exact rfirst_sym HE hd1 hds hD h h3 h1 cT cF cS cM c39
              case false =>
                cases cP : acc (nxt ts k 0) [40]
                case true => exact rfirst_par HE hd1 hds hD h h3 h1 cT cF cS cM c39 cP
                case false =>
                  cases cR : acc (nxt ts k 0) [102, 97, 114]
                  case true => exact rfirst_far HE hd1 hds hD h h3 h1 cT cF cS cM c39 cP cR
                  case false => exact rfirst_none HE hd1 hds hD h h3 h1 cT cF cS cM c39 cP cR
theorem rbin_all {gp g n cp d D m : Nat} {ts : List Tk} (HU : RUnaOk gp g n cp ts d D (unaL ts m)) (hD1 : 41 ≤ D) (hD2 : D ≤ 8000) : RBinOk gp g n cp ts 0 d (D + 5) (binL ts (unaL ts m) 5) := by
  have h5 := rbin_single HU
  have h4 := rbin_level (lv := 4) (j := 0) (D1 := D + 1) h5 rfl rfl rfl hD1 (by omega) (fun k hk => ful_fwd ts m 0 k hk)
  have h3 := rbin_level (lv := 3) (j := 1) (D1 := D + 2) h4 rfl rfl rfl (by omega) (by omega) (fun k hk => ful_fwd ts m 1 k hk)
  have h2 := rbin_level (lv := 2) (j := 2) (D1 := D + 3) h3 rfl rfl rfl (by omega) (by omega) (fun k hk => ful_fwd ts m 2 k hk)
  have h1 := rbin_level (lv := 1) (j := 3) (D1 := D + 4) h2 rfl rfl rfl (by omega) (by omega) (fun k hk => ful_fwd ts m 3 k hk)
  exact rbin_level (lv := 0) (j := 4) (D1 := D + 5) h1 rfl rfl rfl (by omega) (by omega) (fun k hk => ful_fwd ts m 4 k hk)
theorem runa_all {gp g n cp : Nat} {ts : List Tk} (hnk : NumsOk ts) : ∀ (m d : Nat), m ≤ 40 → d + m = 41 → RUnaOk gp g n cp ts d (50 + 10 * m) (unaL ts m)
  | 0, d, _, hd => by
    obtain rfl : d = 41 := by omega
    exact runa_deep (by omega)
  | m + 1, d, hm, hd => by
    have ih := runa_all (gp := gp) (g := g) (n := n) (cp := cp) hnk m (d + 1) (by omega) (by omega)
    have hb := rbin_all ih (by omega) (by omega)
    exact runa_step ih (rfirst_any hb rfl (by omega) (by omega)) rfl (by omega) (by omega) (by omega) (by omega) hnk
theorem rtop_any {gp g n cp : Nat} {ts : List Tk} (hnk : NumsOk ts) : RBinOk gp g n cp ts 0 1 455 (binL ts (unaL ts 40) 5) :=
  rbin_all (runa_all hnk 40 1 (by omega) rfl) (by omega) (by omega)
end Go.Proofs.YtnphaaahdlkmhaaGreat
end
/-
  The document's own reader in memory, its calls told by states. Conditions: those that each theorem names.
-/
section
namespace Go.Proofs.YtnphaaahdlkmhaaGreat
open Go.ChangeShapes Go.WideShapes Go.ChangeAt Go.RowKit
set_option maxRecDepth 100000
set_option maxHeartbeats 4000000

/-- The document's reader in this state; L: the place of the end's token. -/
structure RT (w : World) (gp g n cp : Nat) (ts : List Tk) (L : Nat) (σ : St) : Prop where
  rs : RS w gp g n cp ts σ.1 σ.2
  en : EnT ts L
  le : σ.1 ≤ L
  ln : L < n
section
variable {w : World} {gp g n cp L : Nat} {ts : List Tk} {σ : St}
theorem RT.lt (h : RT w gp g n cp ts L σ) : gp < w.heap.size := h.rs.lt
theorem RT.touch {w' : World} (h : RT w gp g n cp ts L σ) (t : Touch NoB w w') : RT w' gp g n cp ts L σ := ⟨h.rs.touch t, h.en, h.le, h.ln⟩
theorem RT.touchX {w' : World} {s : Nat} (h : RT w gp g n cp ts L σ) (t : Touch (fun b => b = s) w w') (h1 : gp < s) (h2 : g < s) : RT w' gp g n cp ts L σ := ⟨h.rs.touchX t h1 h2, h.en, h.le, h.ln⟩
theorem t_fail (h : RT w gp g n cp ts L σ) (c : Nat) :
    Calls Tryz.prog 15 #[.pointer (some ⟨gp, 0, none⟩), .int .i64 (c : Int)] w fun x w' => x = .returned (.tuple #[]) ∧ RT w' gp g n cp ts L (failS c σ) ∧ Touch (AtB gp) w w' :=
  (rfail_any h.rs c).mono fun _ _ q => ⟨q.1, ⟨q.2.1, h.en, h.le, h.ln⟩, q.2.2⟩
theorem t_is (h : RT w gp g n cp ts L σ) (s : Bs) (he : σ.2 = 0) :
    Calls Tryz.prog 14 #[.pointer (some ⟨gp, 0, none⟩), .string (bs s)] w fun x w' => x = .returned (.bool (isS ts s σ)) ∧ Touch NoB w w' := by
  have := ris_any (s := s) h.rs
  unfold isS nxS
  rw [he]
  exact this
theorem t_take (h : RT w gp g n cp ts L σ) (s : Bs) :
    Calls Tryz.prog 16 #[.pointer (some ⟨gp, 0, none⟩), .string (bs s)] w fun x w' => x = .returned (.bool (isS ts s σ)) ∧ RT w' gp g n cp ts L (acS ts s σ) ∧ Touch (AtB gp) w w' := by
  have hL := acS_L h.en (s := s) h.le
  unfold acS at hL ⊢
  cases ha : isS ts s σ
  · rw [ha] at hL
    exact (rtake_no h.rs ha).mono fun x w' q => ⟨q.1, ⟨q.2.1, h.en, hL, h.ln⟩, Touch.anyB q.2.2⟩
  · rw [ha] at hL
    exact (rtake_yes h.rs ha).mono fun x w' q => ⟨q.1, ⟨q.2.1, h.en, hL, h.ln⟩, q.2.2⟩
theorem t_want (h : RT w gp g n cp ts L σ) (s : Bs) :
    Calls Tryz.prog 19 #[.pointer (some ⟨gp, 0, none⟩), .string (bs s)] w fun x w' => x = .returned (.tuple #[]) ∧ RT w' gp g n cp ts L (exS ts s σ) ∧ Touch (AtB gp) w w' :=
  (rwant_any (s := s) h.rs).mono fun _ _ q => ⟨q.1, ⟨q.2.1, h.en, exS_L h.en h.le, h.ln⟩, q.2.2⟩
theorem t_name (h : RT w gp g n cp ts L σ) :
    Calls Tryz.prog 18 #[.pointer (some ⟨gp, 0, none⟩)] w fun x w' => x = .returned (.string (bs (naV ts σ))) ∧ RT w' gp g n cp ts L (naS ts σ) ∧ Touch (AtB gp) w w' :=
  (rnm_any h.rs).mono fun _ _ q => ⟨q.1, ⟨q.2.1, h.en, naS_L h.en h.le, h.ln⟩, q.2.2⟩
theorem t_number (h : RT w gp g n cp ts L σ) :
    Calls Tryz.prog 32 #[.pointer (some ⟨gp, 0, none⟩)] w fun x w' => x = .returned (.int .i64 (nuV ts σ : Int)) ∧ RT w' gp g n cp ts L (nuS ts σ) ∧ Touch (AtB gp) w w' :=
  (rnumber_any h.rs).mono fun _ _ q => ⟨q.1, ⟨q.2.1, h.en, nuS_L h.en h.le, h.ln⟩, q.2.2⟩
theorem nuV_le' (hnk : NumsOk ts) (σ : St) : nuV ts σ ≤ 9223372036854775807 := by
  unfold nuV nxS numR
  split
  · rename_i hk
    have he : σ.2 = 0 := kd_zero hk (by decide)
    rw [he] at hk ⊢
    exact hnk.1 σ.1 _ (num_of hk)
  · omega
theorem t_signed (hnk : NumsOk ts) (h : RT w gp g n cp ts L σ) :
    Calls Tryz.prog 36 #[.pointer (some ⟨gp, 0, none⟩)] w fun x w' => x = .returned (.int .i64 (siV ts σ)) ∧ RT w' gp g n cp ts L (siS ts σ) ∧ Touch (AtB gp) w w' := by
  have HA : Hid (Calls Tryz.prog 16 #[.pointer (some ⟨gp, 0, none⟩), .string ⟨#[45]⟩] w fun x w' => x = .returned (.bool (isS ts [45] σ)) ∧ RT w' gp g n cp ts L (acS ts [45] σ) ∧ Touch (AtB gp) w w') := Lib.hid (t_take h [45])
  have HN := Lib.hid (fun (W : World) (q : RT W gp g n cp ts L (acS ts [45] σ)) => t_number q)
  have hmx : nuV ts (acS ts [45] σ) ≤ 9223372036854775807 := nuV_le' hnk _
  have e1 : isS ts [45] σ = false → nuV ts (acS ts [45] σ) = nuV ts σ := fun hi => by unfold acS; rw [hi]; rfl
  unfold siV siS
  obtain ⟨q, hq⟩ : ∃ q, nuV ts (acS ts [45] σ) = q := ⟨_, rfl⟩
  obtain ⟨t, ht⟩ : ∃ t, acS ts [45] σ = t := ⟨_, rfl⟩
  rw [hq] at HN hmx e1
  rw [hq]
  rw [ht] at HA HN ⊢
  have hng : IntKind.i64.wrap (-(q : Int)) = -(q : Int) := IntWalk.i64_in _ (by omega)
  clear h hq ht
  cases hi : isS ts [45] σ
  · rw [hi] at HA
    rw [← e1 hi]
    simp only [Bool.false_eq_true, if_false]
    clear e1 hi
    go_enter Tryz.func36, Tryz.ntmps36
    go_wp2_with fail
    refine HA.out.mono ?_
    rintro x w1 ⟨rfl, h1, h2⟩
    have HN := Lib.hid (HN.out w1 h1)
    have HT := Lib.hid h2
    clear h1 h2
    go_wp2_with fail
    refine HN.out.mono ?_
    rintro x w2 ⟨rfl, h1, h2⟩
    have HE := Lib.hid (And.intro h1 (HT.out.same h2))
    clear h1 h2
    go_wp2
    go_ret
    exact ⟨rfl, HE.out.1, HE.out.2⟩
  · rw [hi] at HA
    simp only [if_true]
    clear e1 hi
    go_enter Tryz.func36, Tryz.ntmps36
    go_wp2_with fail
    refine HA.out.mono ?_
    rintro x w1 ⟨rfl, h1, h2⟩
    have HN := Lib.hid (HN.out w1 h1)
    have HT := Lib.hid h2
    clear h1 h2
    go_wp2_with fail
    refine HN.out.mono ?_
    rintro x w2 ⟨rfl, h1, h2⟩
    have HE := Lib.hid (And.intro h1 (HT.out.same h2))
    clear h1 h2
    go_wp2
    go_ret
    exact ⟨rfl, HE.out.1, HE.out.2⟩
theorem t_expr (hnk : NumsOk ts) (h : RT w gp g n cp ts L σ) :
    Calls Tryz.prog 35 #[.pointer (some ⟨gp, 0, none⟩), .int .i64 0, .int .i64 1] w fun x w' => ∃ (y : Ex) (a b : Int) (s : ByteArray) (A : Option Addr) (m c : Nat),
      x = .returned (.agg #[.int .i64 a, .int .i64 b, .string s, .slice A m c]) ∧ ET w' (fun b => w.heap.size ≤ b) y a b s A m c ∧ RT w' gp g n cp ts L (eqS ts σ) ∧ ((eqS ts σ).2 = 0 → y = eqV ts σ) ∧ y.depth ≤ 455 ∧ Touch (AtB gp) w w' := by
  refine (rtop_any (gp := gp) (g := g) (n := n) (cp := cp) hnk w σ.1 σ.2 h.rs).mono ?_
  rintro x w' ⟨hT, y, k', e', a, b, s, A, m, c, rfl, het, hrs, ho, hd⟩
  have hk : σ.1 < ts.length := by have := h.le; have := h.ln; have := h.rs.len; omega
  have hpar : parL ts σ.1 = binL ts (unaL ts 40) 5 σ.1 := by unfold parL; rw [if_pos hk]
  have hst : (k', e') = eqS ts σ ∧ (e' = 0 → y = eqV ts σ) := by
    unfold Out at ho
    unfold eqS eqV
    by_cases he : σ.2 = 0
    · rw [if_pos he] at ho ⊢
      rw [if_pos he, hpar]
      cases hr : binL ts (unaL ts 40) 5 σ.1 with
      | ok z j =>
        rw [hr] at ho
        obtain ⟨rfl, rfl, rfl⟩ := ho
        exact ⟨rfl, fun _ => rfl⟩
      | er e2 j =>
        rw [hr] at ho
        obtain ⟨rfl, rfl, h0⟩ := ho
        exact ⟨rfl, fun h => absurd h h0⟩
    · rw [if_neg he] at ho ⊢
      obtain ⟨rfl, rfl⟩ := ho
      exact ⟨rfl, fun h => absurd h he⟩
  have hle := eqS_L h.en (σ := σ) h.le
  obtain ⟨h1, h2⟩ := hst
  rw [← h1] at hle ⊢
  exact ⟨y, a, b, s, A, m, c, rfl, het.via (fun b hb _ => by rcases hb with hb | hb; exact hb.elim; exact hb), ⟨hrs, h.en, hle, h.ln⟩, h2, hd, hT⟩
end
end Go.Proofs.YtnphaaahdlkmhaaGreat
end
/-
  What the program says of the types of nodes and expressions. No condition.
-/
section
namespace Go.Proofs.YtnphaaahdlkmhaaGreat
open Go.ChangeShapes Go.WideShapes Go.ChangeAt Go.RowKit
set_option maxRecDepth 100000

theorem info_nd' : ∃ i0, Tryz.prog.info? 62 = some i0 ∧ i0.zero = some (.agg #[.int .i64 0, .int .i64 0, .int .i64 0, .string ⟨#[]⟩, .int .i64 0, .int .i64 0, .string ⟨#[]⟩, .slice none 0 0, .slice none 0 0, .slice none 0 0]) ∧ i0.size = 10 ∧ i0.bytes = 144 := by
  have h : (Tryz.prog.info? 62).map (fun i => (i.zero, i.size, i.bytes)) = some (some (.agg #[.int .i64 0, .int .i64 0, .int .i64 0, .string ⟨#[]⟩, .int .i64 0, .int .i64 0, .string ⟨#[]⟩, .slice none 0 0, .slice none 0 0, .slice none 0 0]), 10, 144) := by kernel_rfl
  cases hi : Tryz.prog.info? 62 with
  | none => rw [hi] at h; cases h
  | some i0 =>
    rw [hi] at h
    simp only [Option.map_some, Option.some.injEq, Prod.mk.injEq] at h
    exact ⟨i0, rfl, h.1, h.2.1, h.2.2⟩
theorem info_ex' : ∃ i0, Tryz.prog.info? 44 = some i0 ∧ i0.zero = some (.agg #[.int .i64 0, .int .i64 0, .string ⟨#[]⟩, .slice none 0 0]) ∧ i0.size = 4 ∧ i0.bytes = 56 := by
  have h : (Tryz.prog.info? 44).map (fun i => (i.zero, i.size, i.bytes)) = some (some (.agg #[.int .i64 0, .int .i64 0, .string ⟨#[]⟩, .slice none 0 0]), 4, 56) := by kernel_rfl
  cases hi : Tryz.prog.info? 44 with
  | none => rw [hi] at h; cases h
  | some i0 =>
    rw [hi] at h
    simp only [Option.map_some, Option.some.injEq, Prod.mk.injEq] at h
    exact ⟨i0, rfl, h.1, h.2.1, h.2.2⟩
end Go.Proofs.YtnphaaahdlkmhaaGreat
end
/-
  The document's own reader: calls by their outcome; nodes loaded and stored whole; rows that grow by one element; what its node and braces are to leave. Conditions: those that each theorem names.
-/
section
namespace Go.Proofs.YtnphaaahdlkmhaaGreat
open Go.ChangeShapes Go.WideShapes Go.ChangeAt Go.RowKit
set_option maxRecDepth 100000
set_option maxHeartbeats 4000000

section
variable {w : World} {gp g n cp L : Nat} {ts : List Tk} {σ : St}
theorem t_no (h : RT w gp g n cp ts L σ) (s : Bs) (hi : isS ts s σ = false) :
    Calls Tryz.prog 16 #[.pointer (some ⟨gp, 0, none⟩), .string (bs s)] w fun x w' => x = .returned (.bool false) ∧ RT w' gp g n cp ts L σ ∧ Touch NoB w w' :=
  (rtake_no h.rs hi).mono fun _ _ q => ⟨q.1, ⟨q.2.1, h.en, h.le, h.ln⟩, q.2.2⟩
theorem t_yes (h : RT w gp g n cp ts L σ) (s : Bs) (hi : isS ts s σ = true) :
    Calls Tryz.prog 16 #[.pointer (some ⟨gp, 0, none⟩), .string (bs s)] w fun x w' => x = .returned (.bool true) ∧ RT w' gp g n cp ts L (σ.1 + 1, σ.2) ∧ Touch (AtB gp) w w' := by
  refine (t_take h s).mono fun x w' q => ?_
  rw [hi] at q
  have e : acS ts s σ = (σ.1 + 1, σ.2) := by unfold acS; rw [hi]; rfl
  rw [e] at q
  exact q
/-- The reader's cells. -/
theorem RT.cells (h : RT w gp g n cp ts L σ) : w.cell? ⟨gp, 1, none⟩ = some (.int .i64 (σ.1 : Int)) ∧ w.cell? ⟨gp, 2, none⟩ = some (.int .i64 (σ.2 : Int)) ∧ gp < w.heap.size := ⟨h.rs.cell1, h.rs.cell2, h.lt⟩
theorem isS_other {s s' : Bs} (h : isS ts s σ = true) (hne : s' ≠ s) : isS ts s' σ = false := by
  cases hb : isS ts s' σ with
  | false => rfl
  | true => exact absurd (acc_same hb h) hne
theorem isS_ok {s : Bs} (h : isS ts s σ = true) : σ.2 = 0 := acc_zero h
theorem isS_bad {s : Bs} (h : σ.2 ≠ 0) : isS ts s σ = false := acc_bad h
theorem exS_bd {s : Bs} (h : σ.2 ≠ 0) : exS ts s σ = σ := by
  unfold exS
  rw [isS_bad h]
  simp only [Bool.false_eq_true, if_false]
  rw [if_neg h]
theorem exS_ok {s : Bs} (h : (exS ts s σ).2 = 0) : σ.2 = 0 := by
  by_cases he : σ.2 = 0
  · exact he
  · rw [exS_bd he] at h; exact h
end
/-- The load and the store of a whole node: closed to the walk's simp. -/
def StoreNd (x y : Value) : Sem Unit := Instr.storeAt 62 x y
theorem storeNd_of (x y : Value) : Instr.storeAt 62 x y = StoreNd x y := rfl
theorem touch_setCells (b : Nat) : ∀ (vs : List Value) (o : Nat) (w0 w : World), Touch (fun k => k = b) w0 w → Touch (fun k => k = b) w0 (w.setCells b o vs)
  | [], _, _, _, h => h
  | v :: r, o, w0, w, h => by
    rw [World.setCells]
    exact touch_setCells b r (o + 1) w0 _ (h.setCell (p := ⟨b, o, none⟩) (.inl rfl) v)
theorem run_StoreNd (W : World) (b : Nat) (cs : List Value) (hl : cs.length = 10) (h1 : ∀ v ∈ cs, v.oneCell' = true) {us : Array Value} {T : TypeId} (hb : W.heap[b]? = some (.cells us T (0, 0))) (hu : us.size = 10) :
    ∃ W', (StoreNd (.pointer (some ⟨b, 0, none⟩)) (.agg cs.toArray)).run Tryz.prog W = .ok () W' ∧ W'.rangeAt b 0 cs ∧ Touch (fun k => k = b) W W' := by
  have ht : W.there b 0 cs.length := fun j hj => ⟨by rw [Lib.cell_of_heap hb]; simp; omega, free_blk hb _⟩
  refine ⟨_, ?_, World.rangeAt_setCells_same W b 0 cs ht, touch_setCells b cs 0 W W (Touch.refl _ _)⟩
  have := run_storeAt_mid W b 0 62 cs.toArray (by simpa using ht) (P := Tryz.prog) (by rw [List.size_toArray, hl]; exact size_nd) (all_oneCell_toArray h1)
  have e : cs.toArray.toList = cs := by simp
  rw [e] at this
  exact this
/-- A row of one's own, one element more. -/
theorem own_app {w : World} {base size bytes : Nat} {e S : TypeId} {i : TypeInfo} {z v : Value} {k : Nat} {xs : List Value} (hS : Tryz.prog.underlying S = some (.slice e)) (hi : Tryz.prog.info? e = some i) (hz : i.zero = some z) (hsz : i.size = size) (hby : i.bytes = bytes) (hzs : z.cells.size = size) (h0 : 0 < size) (hb : bytes ≤ 1000000)
    (h : w.ownsRow base e size v k xs) (hB : base ≤ w.heap.size) (l : List Value) (hl : l.length = size) (h1 : ∀ u ∈ l, u.oneCell' = true) (hk : k ≤ 100000) {W : World} (hW : w.alloc (.cells l.toArray e) = W) :
    ∃ gd cap w', (Builtin.append_ #[S, S] S #[v, .slice (some ⟨w.heap.size, 0, none⟩) 1 1]).run Tryz.prog W = .ok (.slice (some ⟨gd, 0, none⟩) (k + 1) cap) w' ∧ w'.ownsRow base e size (.slice (some ⟨gd, 0, none⟩) (k + 1) cap) (k + 1) (xs ++ l) ∧ Touch (fun b => v.ownBlock = some b) w w' ∧ (v.ownBlock = some gd ∨ w.heap.size ≤ gd) := by
  subst hW
  have t : Touch NoB w (w.alloc (.cells l.toArray e)) := (Touch.refl _ _).alloc _
  have h' : (w.alloc (.cells l.toArray e)).ownsRow base e size v k xs := row_touch h t (fun _ _ x => x)
  have hblk : (w.alloc (.cells l.toArray e)).heap[w.heap.size]? = some (.cells l.toArray e (0, 0)) := alloc_blk _ _ _ rfl
  have hnews : ∀ j u, l[j]? = some u → (w.alloc (.cells l.toArray e)).cell? ((⟨w.heap.size, 0, none⟩ : Addr).add j) = some u := by
    intro j u hu
    rw [add_plain, cell_of_row _ _ _ _ _ _ hblk, List.getElem?_toArray]
    simpa using hu
  obtain ⟨v', w', hrun, h2, h3, h4, h5⟩ := run_append_own_at (P := Tryz.prog) (w.alloc (.cells l.toArray e)) base S S e i z size bytes hS hi hz hsz hby hzs h0 v k xs h' ⟨w.heap.size, 0, none⟩ 1 1 l (by omega) hnews h1 (by unfold maxLen; omega) (by have := Nat.mul_le_mul (show k + 1 ≤ 100001 by omega) hb; omega) (Nat.le_trans hB t.size)
  have hne : v' ≠ .slice none 0 0 := fun e => by have := (h4.1 e).2; omega
  rcases h2.2 with ⟨he, -⟩ | ⟨gd, cap, cur, rfl, hr⟩
  · exact absurd he hne
  · refine ⟨gd, cap, w', hrun, h2, ?_, ?_⟩
    · have tg : Touch (fun b => v.ownBlock = some b) (w.alloc (.cells l.toArray e)) w' := (Touch.refl _ _).grown h3 (fun _ e => .inl e)
      exact (t.mono (fun _ x => x.elim)).same tg
    · rcases h5 with h5 | h5
      · exact .inl (h5.symm.trans (by simp [Value.ownBlock]) )
      · right
        have : gd = (w.alloc (.cells l.toArray e)).heap.size := by simpa [Value.ownBlock] using h5
        rw [this]
        exact t.size
/-- What node leaves. -/
def RNP (w : World) (gp g n cp : Nat) (ts : List Tk) (L D : Nat) (r : Nd × St) (x : Ending) (w' : World) : Prop :=
  Touch (AtB gp) w w' ∧ RT w' gp g n cp ts L r.2 ∧ ∃ (y : Nd) (e0 e1 : Int) (e2 : ByteArray) (A : Option Addr) (m c : Nat) (A1 : Option Addr) (c1 : Nat) (A2 : Option Addr) (c2 : Nat),
    x = .returned (.agg #[.int .i64 (y.kd : Int), .int .i64 (y.a : Int), .int .i64 (y.b : Int), .string (bs y.nm), .int .i64 e0, .int .i64 e1, .string e2, .slice A m c, .slice A1 y.ks.length c1, .slice A2 y.ws.length c2]) ∧
    NT w' (fun b => w.heap.size ≤ b) D y [.int .i64 (y.kd : Int), .int .i64 (y.a : Int), .int .i64 (y.b : Int), .string (bs y.nm), .int .i64 e0, .int .i64 e1, .string e2, .slice A m c, .slice A1 y.ks.length c1, .slice A2 y.ws.length c2] ∧ (r.2.2 = 0 → y = r.1)
def RNodeOk (gp g n cp : Nat) (ts : List Tk) (L d D : Nat) (sub : St → Nd × St) : Prop := ∀ (W : World) (σ : St), RT W gp g n cp ts L σ → g < W.heap.size →
  Calls Tryz.prog 20 #[.pointer (some ⟨gp, 0, none⟩), .int .i64 (d : Int)] W (RNP W gp g n cp ts L D (sub σ))
/-- What braces leaves. -/
def RBP (w : World) (gp g n cp : Nat) (ts : List Tk) (L D : Nat) (V : List Nd) (S : St) (x : Ending) (w' : World) : Prop :=
  Touch (AtB gp) w w' ∧ RT w' gp g n cp ts L S ∧ ∃ (l : List Nd) (xs : List Value) (A : Option Addr) (c : Nat), x = .returned (.slice A l.length c) ∧ SlAt w' (fun b => w.heap.size ≤ b) (.slice A l.length c) l.length xs ∧ LsAt (NT w' (fun b => w.heap.size ≤ b) D) l xs ∧ (S.2 = 0 → l = V)
theorem nt_one {w : World} {Q : Nat → Prop} {D : Nat} {y : Nd} {l : List Value} (h : NT w Q D y l) : ∀ u ∈ l, u.oneCell' = true := by
  cases D with
  | zero => exact h.elim
  | succ D =>
    obtain ⟨a, b, s, A, m, c, kv, wv, xs, ys, rfl, -, h2, -, h4, -⟩ := h
    obtain ⟨A1, c1, rfl, -⟩ := h2
    obtain ⟨A2, c2, rfl, -⟩ := h4
    intro u hu
    simp only [List.mem_cons, List.not_mem_nil, or_false] at hu
    rcases hu with rfl | rfl | rfl | rfl | rfl | rfl | rfl | rfl | rfl | rfl <;> rfl
end Go.Proofs.YtnphaaahdlkmhaaGreat
end
/-
  What the document's own braces does with a reader in memory. Conditions: what it calls does as the model says.
-/
section
namespace Go.Proofs.YtnphaaahdlkmhaaGreat
open Go.ChangeShapes Go.WideShapes Go.ChangeAt Go.RowKit
set_option maxRecDepth 100000
set_option maxHeartbeats 4000000

theorem braR_len {ts : List Tk} {sub : St → Nd × St} {f : Nat} {l : List Nd} {σ : St} (h : σ.2 = 0 ∧ (l.length = 0 ∨ isS ts [125] σ = false)) (hl : l.length < 16) : braR ts sub (f + 1) l σ = braR ts sub f (l ++ [(sub σ).1]) (sub σ).2 := by
  rw [braR, if_pos h, if_neg (by omega)]
/-- What stands at the loop. -/
structure BrRel (w : World) (gp g n cp : Nat) (ts : List Tk) (L D : Nat) (sub : St → Nd × St) (R0 : List Nd × St) (f : Nat) (lm : List Nd) (σ : St) (l : List Nd) (xs : List Value) (Q : Nat → Prop) (v : Value) (wr : World) : Prop where
  t : Touch (AtB gp) w wr
  rt : RT wr gp g n cp ts L σ
  row : wr.ownsRow w.heap.size 62 10 v l.length xs
  ls : LsAt (NT wr Q D) l xs
  hQ : ∀ k, Q k → w.heap.size ≤ k ∧ k < wr.heap.size ∧ v.ownBlock ≠ some k
  len : l.length = lm.length
  le : l.length + f = 17 ∧ l.length ≤ 16
  ok : σ.2 = 0 → l = lm
  md : braR ts sub f lm σ = R0
def BrRelV (w : World) (gp g n cp : Nat) (ts : List Tk) (L D : Nat) (sub : St → Nd × St) (R0 : List Nd × St) (v : Value) (wr : World) : Prop := ∃ f lm σ l xs Q, BrRel w gp g n cp ts L D sub R0 f lm σ l xs Q v wr ∧ ∃ A c, v = .slice A l.length c
/-- The reader, where only a row grows that is newer. -/
theorem rs_row {w w' : World} {gp g n cp k e : Nat} {ts : List Tk} {F : Nat → Prop} (h : RS w gp g n cp ts k e) (t : Touch F w w') (h1 : ¬ F gp) (h2 : ¬ F g) : RS w' gp g n cp ts k e := by
  obtain ⟨bad, hb, he⟩ := h.blk
  refine ⟨⟨bad, (t.block gp (blk_lt hb) h1).trans hb, he⟩, ?_, h.ne, h.len, h.le, h.small⟩
  refine ⟨Nat.lt_of_lt_of_le h.tl.lt t.size, fun k x hx => ?_⟩
  have e := fun j => t.cell (p := ⟨g, j, none⟩) h.tl.lt h2
  obtain ⟨a, b, c, d⟩ := h.tl.at_ k x hx
  exact ⟨(e _).trans a, (e _).trans b, (e _).trans c, (e _).trans d⟩
theorem RT.row {w w' : World} {gp g n cp L : Nat} {ts : List Tk} {σ : St} {F : Nat → Prop} (h : RT w gp g n cp ts L σ) (t : Touch F w w') (h1 : ¬ F gp) (h2 : ¬ F g) : RT w' gp g n cp ts L σ := ⟨rs_row h.rs t h1 h2, h.en, h.le, h.ln⟩
theorem br_fin {w wr w5 : World} {gp g n cp L D : Nat} {ts : List Tk} {sub : St → Nd × St} {R0 : List Nd × St} {f : Nat} {lm : List Nd} {σ : St} {l : List Nd} {xs : List Value} {Q : Nat → Prop} {A : Option Addr} {c : Nat} (h : BrRel w gp g n cp ts L D sub R0 f lm σ l xs Q (.slice A l.length c) wr) (t : Touch (AtB gp) wr w5) (hgp : gp < w.heap.size)
    (he : R0.1 = lm) (hok : R0.2.2 = 0 → σ.2 = 0) (hr : RT w5 gp g n cp ts L (exS ts [125] R0.2)) : RBP w gp g n cp ts L D R0.1 (exS ts [125] R0.2) (.returned (.slice A l.length c)) w5 := by
  have hq : ∀ k, Q k → ¬ AtB gp k := fun k hk f => by have := (h.hQ k hk).1; unfold AtB at f; omega
  have hrow := row_go h.row t hgp
  exact ⟨h.t.same t, hr, l, xs, A, c, rfl, (slat_own hrow).via (fun b hb _ => row_base hrow b hb), h.ls.mono (fun y ys hy => NT.via (fun b hb _ => (h.hQ b hb).1) D y ys (NT.touch t hq D y ys hy)), fun e => by rw [he]; exact h.ok (hok (exS_ok e))⟩
theorem braR_stop {ts : List Tk} {sub : St → Nd × St} {f : Nat} {l : List Nd} {σ : St} (h : ¬ (σ.2 = 0 ∧ (l.length = 0 ∨ isS ts [125] σ = false))) : braR ts sub f l σ = (l, σ) := by
  cases f with
  | zero => rfl
  | succ f => rw [braR, if_neg h]
theorem braR_many {ts : List Tk} {sub : St → Nd × St} {f : Nat} {l : List Nd} {σ : St} (h : σ.2 = 0 ∧ (l.length = 0 ∨ isS ts [125] σ = false)) (hl : 16 ≤ l.length) : braR ts sub (f + 1) l σ = (l, failS 9 σ) := by
  rw [braR, if_pos h, if_pos hl]
/-- One node more. -/
theorem br_next {w wr w4 w6 w8 : World} {gp g n cp L D : Nat} {ts : List Tk} {sub : St → Nd × St} {R0 : List Nd × St} {f f1 : Nat} {lm : List Nd} {σ : St} {l : List Nd} {xs ys : List Value} {Q : Nat → Prop} {v : Value} {A : Option Addr} {c m gd cap : Nat} {y : Nd} (h : BrRel w gp g n cp ts L D sub R0 f lm σ l xs Q v wr) (hv : v = .slice A l.length c) (hm : l.length = m) (t : Touch (AtB gp) wr w6) (hgp : gp < w.heap.size)
    (hown : w8.ownsRow w.heap.size 62 10 (.slice (some ⟨gd, 0, none⟩) (m + 1) cap) (m + 1) (xs ++ ys)) (TR : Touch (fun b => Value.ownBlock (.slice A m c) = some b) w6 w8) (hat : Value.ownBlock (.slice A m c) = some gd ∨ w6.heap.size ≤ gd)
    (hnt : NT w6 (fun b => w4.heap.size ≤ b) D y ys) (h4 : wr.heap.size ≤ w4.heap.size) (hr : RT w6 gp g n cp ts L (sub σ).2) (hyo : (sub σ).2.2 = 0 → y = (sub σ).1) (hf : f = f1 + 1) (hmd : σ.2 = 0 ∧ (lm.length = 0 ∨ isS ts [125] σ = false)) (hm16 : m < 16) (hgl : g < w.heap.size) :
    BrRelV w gp g n cp ts L D sub R0 (.slice (some ⟨gd, 0, none⟩) (m + 1) cap) w8 := by
  subst hv hm
  have hrow := row_go h.row t hgp
  have hs := h.t.size
  have hlen := h.len
  refine ⟨f1, lm ++ [(sub σ).1], (sub σ).2, l ++ [y], xs ++ ys, fun b => Q b ∨ (wr.heap.size ≤ b ∧ b < w6.heap.size), ⟨?_, ?_, ?_, ?_, ?_, ?_, ?_, ?_, ?_⟩, some ⟨gd, 0, none⟩, cap, by simp⟩
  · exact (h.t.same t).trans TR (fun k hk => .inr (row_base hrow k hk))
  · exact hr.row TR (fun e => by have := row_base hrow _ e; omega) (fun e => by have := row_base hrow _ e; omega)
  · simpa using hown
  · have h1 : LsAt (NT w6 (fun b => Q b ∨ (wr.heap.size ≤ b ∧ b < w6.heap.size)) D) l xs := h.ls.mono (fun z zs hz => NT.via (fun b hb _ => .inl hb) D z zs (NT.touch t (fun b hb f => by have := (h.hQ b hb).1; unfold AtB at f; omega) D z zs hz))
    have h2 : NT w6 (fun b => Q b ∨ (wr.heap.size ≤ b ∧ b < w6.heap.size)) D y ys := NT.via (fun b hb hlt => .inr ⟨by omega, hlt⟩) D y ys hnt
    refine (LsAt.snoc h1 h2).mono (fun z zs hz => NT.touch TR (fun b hb e => ?_) D z zs hz)
    rcases hb with hb | hb
    · exact (h.hQ b hb).2.2 e
    · have := (h.row.lt b e).2; omega
  · intro k hk
    have h6 := t.size
    have h8 := TR.size
    rcases hk with hk | hk
    · obtain ⟨q1, q2, q3⟩ := h.hQ k hk
      refine ⟨q1, by omega, fun e => ?_⟩
      have e1 : gd = k := by simpa [Value.ownBlock] using e
      subst e1
      rcases hat with e | e
      · exact q3 e
      · omega
    · refine ⟨by omega, by omega, fun e => ?_⟩
      have e1 : gd = k := by simpa [Value.ownBlock] using e
      subst e1
      rcases hat with e | e
      · have := (h.row.lt _ e).2; omega
      · omega
  · simp [hlen]
  · have := h.le; simp only [List.length_append, List.length_cons, List.length_nil]; omega
  · intro e
    rw [h.ok hmd.1, hyo e]
  · have := h.md
    rw [hf, braR_len hmd (by omega)] at this
    exact this
theorem rbra_any {gp g n cp L d D : Nat} {ts : List Tk} {sub : St → Nd × St} (HS : RNodeOk gp g n cp ts L d D sub) {w : World} {σ : St} (h : RT w gp g n cp ts L σ) (hg : g < w.heap.size) :
    Calls Tryz.prog 33 #[.pointer (some ⟨gp, 0, none⟩), .int .i64 (d : Int)] w (RBP w gp g n cp ts L D (braV ts sub σ) (braS ts sub σ)) := by
  have HW := Lib.hid (t_want h [123])
  have hgp := h.lt
  unfold braV braS
  obtain ⟨σ1, hσ1⟩ : ∃ s, exS ts [123] σ = s := ⟨_, rfl⟩
  rw [hσ1] at HW ⊢
  obtain ⟨R0, hR0⟩ : ∃ r, braR ts sub 17 [] σ1 = r := ⟨_, rfl⟩
  rw [hR0]
  have HR0 := Lib.hid hR0
  have HSS := Lib.hid HS
  clear h hσ1 hR0 HS
  go_enter Tryz.func33, Tryz.ntmps33
  go_wp2_with fail
  refine HW.out.mono ?_
  rintro x w1 ⟨rfl, hr, ht⟩
  have HE := Lib.hid (And.intro hr ht)
  clear hr ht
  go_wp2
  go_loopw [5] (fun v wr => BrRelV w gp g n cp ts L D sub R0 v wr) (fun v _ => 17 - (match v with | .slice _ k _ => k | _ => 0))
  case atStart => exact ⟨17, [], σ1, [], [], fun _ => False, ⟨HE.out.2, HE.out.1, ⟨by simp, .inl ⟨rfl, rfl⟩⟩, .nil, fun k hk => hk.elim, rfl, ⟨rfl, by simp⟩, fun _ => rfl, HR0.out⟩, none, 0, rfl⟩
  case round =>
    obtain ⟨f, lm, s, l, xs, Q, hb, A, c, rfl⟩ := hrel
    have HB := Lib.hid hb
    have hs1 := hb.t.size
    obtain ⟨c1, c2, cl⟩ := hb.rt.cells
    obtain ⟨m, hm⟩ : ∃ m, l.length = m := ⟨_, rfl⟩
    have hm17 : m ≤ 17 := by have := hb.le; omega
    have HX := Lib.hid (t_want hb.rt [125])
    rw [hm]
    clear hb
    by_cases he : s.2 = 0
    · have hee : ((s.2 : Int) == 0) = true := by rw [he]; rfl
      have hml : lm.length = m := by rw [← hm]; exact HB.out.len.symm
      by_cases hm0 : m = 0
      · have hmm : ((m : Int) == 0) = true := by rw [hm0]; rfl
        have hge : decide ((16 : Int) ≤ (m : Int)) = false := by simp; omega
        have HC := Lib.hid (HSS.out wr s HB.out.rt (by omega))
        have HMD := Lib.hid (show s.2 = 0 ∧ (lm.length = 0 ∨ isS ts [125] s = false) from ⟨he, .inl (by omega)⟩)
        clear HX
        go_wp2_with fail
        refine HC.out.mono ?_
        rintro x w6 ⟨ht6, hr6, y, e0, e1, e2, B, bm, bc, A1, d1, A2, d2, rfl, hnt, hyo⟩
        have hsz6 := ht6.size
        have tW : Touch (AtB gp) wr w6 := ht6
        have hrow := row_go HB.out.row tW hgp
        rw [hm] at hrow
        obtain ⟨i0, hi0, hz0, hz1, hz2⟩ := info_nd'
        obtain ⟨W7, hW7⟩ : ∃ W, w6.alloc (.cells #[.int .i64 (y.kd : Int), .int .i64 (y.a : Int), .int .i64 (y.b : Int), .string (bs y.nm), .int .i64 e0, .int .i64 e1, .string e2, .slice B bm bc, .slice A1 y.ks.length d1, .slice A2 y.ws.length d2] 62) = W := ⟨_, rfl⟩
        obtain ⟨gd, cap, w8, hrun, hown, TR, hat⟩ := own_app (S := 60) Tryz.underlying60 hi0 hz0 hz1 hz2 rfl (by decide) (by decide) hrow (by omega) [.int .i64 (y.kd : Int), .int .i64 (y.a : Int), .int .i64 (y.b : Int), .string (bs y.nm), .int .i64 e0, .int .i64 e1, .string e2, .slice B bm bc, .slice A1 y.ks.length d1, .slice A2 y.ws.length d2] rfl (nt_one hnt) (by omega) rfl
        have HA := Lib.hid hrun
        obtain ⟨f1, hf1⟩ : ∃ f1, f = f1 + 1 := ⟨f - 1, by have := HB.out.le; omega⟩
        have HN := Lib.hid (br_next HB.out rfl hm tW hgp hown TR hat hnt (Nat.le_refl _) hr6 hyo hf1 HMD.out (by omega) hg)
        clear hnt hyo hrow hrun hown TR hat hr6 ht6 tW hf1 HB HC HMD hi0 hz0 hz1 hz2
        obtain ⟨v5, hv5⟩ : ∃ v5, Value.slice A m c = v5 := ⟨_, rfl⟩
        rw [hv5] at HA ⊢
        clear hv5 hW7
        go_wp2_with (at_builtin; refine Lib.wpList_append_run _ rfl _ _ _ _ rfl _ _ rfl rfl _ _ HA.out ?_)
        go_roundw
        case rel => exact (by have h := HN.out; rw [hm0] at h; exact h)
        case measure => simp; omega
      · have hmm : ((m : Int) == 0) = false := by simp; omega
        have HI := Lib.hid (t_is HB.out.rt [125] he)
        cases hi : isS ts [125] s with
        | true =>
          rw [hi] at HI
          have hst : R0 = (lm, s) := HB.out.md.symm.trans (braR_stop (by rw [hi]; intro h; rcases h.2 with h | h; omega; cases h))
          have HST := Lib.hid hst
          clear hst
          go_wp2_with fail
          refine HI.out.mono ?_
          rintro x w4 ⟨rfl, hT4⟩
          have HX4 := Lib.hid (t_want (HB.out.rt.touch hT4) [125])
          have HT4 := Lib.hid hT4
          clear hT4 HX
          go_wp2_with fail
          refine HX4.out.mono ?_
          rintro x w5 ⟨rfl, hr5, ht5⟩
          have HF := Lib.hid (And.intro hr5 ht5)
          clear hr5 ht5
          go_wp2
          go_ret
          have hfin := br_fin HB.out ((Touch.anyB HT4.out).same HF.out.2) hgp (by rw [HST.out]) (by rw [HST.out]; exact fun h => h) (by rw [HST.out]; exact HF.out.1)
          rw [hm] at hfin
          exact hfin
        | false =>
          rw [hi] at HI
          have HMD := Lib.hid (show s.2 = 0 ∧ (lm.length = 0 ∨ isS ts [125] s = false) from ⟨he, .inr hi⟩)
          by_cases h16 : 16 ≤ m
          · have hge : decide ((16 : Int) ≤ (m : Int)) = true := by simp; omega
            obtain ⟨f1, hf1⟩ : ∃ f1, f = f1 + 1 := ⟨f - 1, by have := HB.out.le; omega⟩
            have hst : R0 = (lm, failS 9 s) := by have := HB.out.md; rw [hf1, braR_many HMD.out (by omega)] at this; exact this.symm
            have HST := Lib.hid hst
            clear hst hf1
            go_wp2_with fail
            refine HI.out.mono ?_
            rintro x w4 ⟨rfl, hT4⟩
            have HX4 := Lib.hid (t_fail (HB.out.rt.touch hT4) 9)
            have HT4 := Lib.hid hT4
            clear hT4 HX
            go_wp2_with fail
            refine HX4.out.mono ?_
            rintro x w6 ⟨rfl, hr6, ht6⟩
            have HX6 := Lib.hid (t_want hr6 [125])
            have HT6 := Lib.hid ((Touch.anyB HT4.out).same ht6)
            clear hr6 ht6
            go_wp2_with fail
            refine HX6.out.mono ?_
            rintro x w5 ⟨rfl, hr5, ht5⟩
            have HF := Lib.hid (And.intro hr5 ht5)
            clear hr5 ht5
            go_wp2
            go_ret
            have hfin := br_fin HB.out (HT6.out.same HF.out.2) hgp (by rw [HST.out]) (by rw [HST.out]; intro _; exact he) (by rw [HST.out]; exact HF.out.1)
            rw [hm] at hfin
            exact hfin
          · have hge : decide ((16 : Int) ≤ (m : Int)) = false := by simp; omega
            clear HX
            go_wp2_with fail
            refine HI.out.mono ?_
            rintro x w4 ⟨rfl, hT4⟩
            have HC := Lib.hid (HSS.out w4 s (HB.out.rt.touch hT4) (by have := hT4.size; omega))
            have HT4 := Lib.hid hT4
            have hsz4 := hT4.size
            clear hT4
            go_wp2_with fail
            refine HC.out.mono ?_
            rintro x w6 ⟨ht6, hr6, y, e0, e1, e2, B, bm, bc, A1, d1, A2, d2, rfl, hnt, hyo⟩
            have hsz6 := ht6.size
            have tW : Touch (AtB gp) wr w6 := (Touch.anyB HT4.out).same ht6
            have hrow := row_go HB.out.row tW hgp
            rw [hm] at hrow
            obtain ⟨i0, hi0, hz0, hz1, hz2⟩ := info_nd'
            obtain ⟨W7, hW7⟩ : ∃ W, w6.alloc (.cells #[.int .i64 (y.kd : Int), .int .i64 (y.a : Int), .int .i64 (y.b : Int), .string (bs y.nm), .int .i64 e0, .int .i64 e1, .string e2, .slice B bm bc, .slice A1 y.ks.length d1, .slice A2 y.ws.length d2] 62) = W := ⟨_, rfl⟩
            obtain ⟨gd, cap, w8, hrun, hown, TR, hat⟩ := own_app (S := 60) Tryz.underlying60 hi0 hz0 hz1 hz2 rfl (by decide) (by decide) hrow (by omega) [.int .i64 (y.kd : Int), .int .i64 (y.a : Int), .int .i64 (y.b : Int), .string (bs y.nm), .int .i64 e0, .int .i64 e1, .string e2, .slice B bm bc, .slice A1 y.ks.length d1, .slice A2 y.ws.length d2] rfl (nt_one hnt) (by omega) rfl
            have HA := Lib.hid hrun
            obtain ⟨f1, hf1⟩ : ∃ f1, f = f1 + 1 := ⟨f - 1, by have := HB.out.le; omega⟩
            have HN := Lib.hid (br_next HB.out rfl hm tW hgp hown TR hat hnt HT4.out.size hr6 hyo hf1 HMD.out (by omega) hg)
            clear hnt hyo hrow hrun hown TR hat hr6 ht6 tW hf1 HB HC HMD hi0 hz0 hz1 hz2
            obtain ⟨v5, hv5⟩ : ∃ v5, Value.slice A m c = v5 := ⟨_, rfl⟩
            rw [hv5] at HA ⊢
            clear hv5 hW7
            go_wp2_with (at_builtin; refine Lib.wpList_append_run _ rfl _ _ _ _ rfl _ _ rfl rfl _ _ HA.out ?_)
            go_roundw
            case rel => exact HN.out
            case measure => simp; omega
    · have hee : ((s.2 : Int) == 0) = false := by simp; omega
      have hst : R0 = (lm, s) := HB.out.md.symm.trans (braR_stop (fun h => he h.1))
      have HST := Lib.hid hst
      clear hst
      go_wp2_with fail
      refine HX.out.mono ?_
      rintro x w5 ⟨rfl, hr5, ht5⟩
      have HF := Lib.hid (And.intro hr5 ht5)
      clear hr5 ht5
      go_wp2
      go_ret
      have hfin := br_fin HB.out HF.out.2 hgp (by rw [HST.out]) (by rw [HST.out]; exact fun h => h) (by rw [HST.out]; exact HF.out.1)
      rw [hm] at hfin
      exact hfin
end Go.Proofs.YtnphaaahdlkmhaaGreat
end
