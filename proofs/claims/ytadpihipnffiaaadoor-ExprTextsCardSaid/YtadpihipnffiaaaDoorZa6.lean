/-
  What the document's own first does with a reader in memory: far. Conditions: what it calls does as the model says.
-/
import Derived.Test.YtadpihipnffiaaaDoorZa5
import Derived.Test.YtadpihipnffiaaaDoorQm
import Derived.Test.YtadpihipnffiaaaDoorQs
import Derived.Test.YtadpihipnffiaaaDoorQx
import Derived.Test.YtadpihipnffiaaaDoorLs
import Derived.Test.YtadpihipnffiaaaDoorQi
import Derived.Test.YtadpihipnffiaaaDoorQv
import Derived.Test.YtadpihipnffiaaaDoorQn
namespace Go.Proofs.YtadpihipnffiaaaDoor
open Go.ChangeShapes Go.WideShapes Go.ChangeAt Go.RowKit
set_option maxRecDepth 100000
set_option maxHeartbeats 4000000

theorem rfirst_far {gp g n cp d d1 D : Nat} {ts : List Tk} {E : Nat → Rs} (HE : RBinOk gp g n cp ts 0 d1 D E) (hd1 : d1 = d + 1) (hds : d ≤ 1000) (hD : D ≤ 9000) {w : World} {k : Nat} (h : RS w gp g n cp ts k 0) (h3 : (nxt ts k 0).kd ≠ 3) (h1 : (nxt ts k 0).kd ≠ 1) (cT : acc (nxt ts k 0) [116, 114, 117, 101] = false) (cF : acc (nxt ts k 0) [102, 97, 108, 115, 101] = false) (cS : acc (nxt ts k 0) [115, 101, 108, 102] = false) (cM : acc (nxt ts k 0) [116, 105, 109, 101] = false) (c39 : acc (nxt ts k 0) [39] = false) (cP : acc (nxt ts k 0) [40] = false) (hy : acc (nxt ts k 0) [102, 97, 114] = true) :
    Calls Tryd.prog 70 #[.pointer (some ⟨gp, 0, none⟩), .int .i64 (d : Int)] w (RP w NoB gp g n cp ts (primL ts E k) k 0 (D + 2)) := by
  have HOO := Lib.hid (fun (k1 e1 k2 e2 : Nat) (y : Ex) (hk1 : k1 = if acc (nxt ts (k + 1) 0) [40] = true then k + 1 + 1 else k + 1) (he1 : e1 = if acc (nxt ts (k + 1) 0) [40] = true then 0 else 2) (ho : Out (E k1) k1 e1 y k2 e2) => out_far h3 h1 c39 cT cF cS cM cP hy hk1 he1 ho)
  have hwr : IntKind.i64.wrap ((d : Int) + 1) = (d1 : Int) := by rw [show (d : Int) + 1 = (d1 : Int) from by omega]; exact IntWalk.i64_in _ (by omega)
  have HEE := Lib.hid (And.intro HE hD)
  clear hd1 hds hD HE
  obtain ⟨W0, hW0⟩ : ∃ W, w.alloc (.cells #[.int .i64 0, .int .i64 0, .string ⟨#[]⟩, .slice none 0 0] 29) = W := ⟨_, rfl⟩
  have hT0 : Touch NoB w W0 := by rw [← hW0]; exact (Touch.refl _ _).alloc _
  have hb4 : XB W0 w.heap.size 0 0 ⟨#[]⟩ none 0 0 := by rw [← hW0]; exact XB.new w _ _ _ _ _ _ rfl
  have hs0 : W0.heap.size = w.heap.size + 1 := by rw [← hW0]; simp only [World.size_alloc]
  have hgp := h.lt
  have hgl := h.tl.lt
  have HP := Lib.hid (h.touch hT0)
  have HB4 := Lib.hid hb4
  have HT0 := Lib.hid hT0
  have HN := Lib.hid (rnow_any (h.touch hT0))
  have hk3 : (((nxt ts k 0).kd : Int) == 3) = false := by rw [show (3 : Int) = ((3 : Nat) : Int) from rfl, eqq_nat]; simpa using h3
  have hk1 : (((nxt ts k 0).kd : Int) == 1) = false := by rw [show (1 : Int) = ((1 : Nat) : Int) from rfl, eqq_nat]; simpa using h1
  have HcT : Hid (∀ W, Touch NoB W0 W → Calls Tryd.prog 68 #[.pointer (some ⟨gp, 0, none⟩), .string ⟨#[116, 114, 117, 101]⟩] W fun x w' => x = .returned (.bool false) ∧ RS w' gp g n cp ts k 0 ∧ Touch NoB W w') := Lib.hid (fun W t => rtake_no (s := [116, 114, 117, 101]) ((h.touch hT0).touch t) cT)
  have HcF : Hid (∀ W, Touch NoB W0 W → Calls Tryd.prog 68 #[.pointer (some ⟨gp, 0, none⟩), .string ⟨#[102, 97, 108, 115, 101]⟩] W fun x w' => x = .returned (.bool false) ∧ RS w' gp g n cp ts k 0 ∧ Touch NoB W w') := Lib.hid (fun W t => rtake_no (s := [102, 97, 108, 115, 101]) ((h.touch hT0).touch t) cF)
  have HcS : Hid (∀ W, Touch NoB W0 W → Calls Tryd.prog 68 #[.pointer (some ⟨gp, 0, none⟩), .string ⟨#[115, 101, 108, 102]⟩] W fun x w' => x = .returned (.bool false) ∧ RS w' gp g n cp ts k 0 ∧ Touch NoB W w') := Lib.hid (fun W t => rtake_no (s := [115, 101, 108, 102]) ((h.touch hT0).touch t) cS)
  have HcM : Hid (∀ W, Touch NoB W0 W → Calls Tryd.prog 68 #[.pointer (some ⟨gp, 0, none⟩), .string ⟨#[116, 105, 109, 101]⟩] W fun x w' => x = .returned (.bool false) ∧ RS w' gp g n cp ts k 0 ∧ Touch NoB W w') := Lib.hid (fun W t => rtake_no (s := [116, 105, 109, 101]) ((h.touch hT0).touch t) cM)
  have Hc39 : Hid (∀ W, Touch NoB W0 W → Calls Tryd.prog 68 #[.pointer (some ⟨gp, 0, none⟩), .string ⟨#[39]⟩] W fun x w' => x = .returned (.bool false) ∧ RS w' gp g n cp ts k 0 ∧ Touch NoB W w') := Lib.hid (fun W t => rtake_no (s := [39]) ((h.touch hT0).touch t) c39)
  have HcP : Hid (∀ W, Touch NoB W0 W → Calls Tryd.prog 68 #[.pointer (some ⟨gp, 0, none⟩), .string ⟨#[40]⟩] W fun x w' => x = .returned (.bool false) ∧ RS w' gp g n cp ts k 0 ∧ Touch NoB W w') := Lib.hid (fun W t => rtake_no (s := [40]) ((h.touch hT0).touch t) cP)
  have HY : Hid (∀ W, Touch NoB W0 W → Calls Tryd.prog 68 #[.pointer (some ⟨gp, 0, none⟩), .string ⟨#[102, 97, 114]⟩] W fun x w' => x = .returned (.bool true) ∧ RS w' gp g n cp ts (k + 1) 0 ∧ Touch (AtB gp) W w') := Lib.hid (fun W t => rtake_yes (s := [102, 97, 114]) ((h.touch hT0).touch t) hy)
  obtain ⟨kd, hkd⟩ : ∃ kd, (nxt ts k 0).kd = kd := ⟨_, rfl⟩
  obtain ⟨nn, hnn⟩ : ∃ nn, (nxt ts k 0).n = nn := ⟨_, rfl⟩
  obtain ⟨pl, hpl⟩ : ∃ pl, (nxt ts k 0).pl = pl := ⟨_, rfl⟩
  obtain ⟨tx, htx⟩ : ∃ tx, bs (nxt ts k 0).tx = tx := ⟨_, rfl⟩
  simp only [hkd, hnn, hpl, htx] at HN
  rw [hkd] at hk3 hk1
  clear h hT0 hb4 hkd hnn hpl htx
  go_enter Tryd.func70, Tryd.ntmps70
  go_wp2_with fail
  refine HN.out.mono ?_
  rintro r w1 ⟨rfl, hT1⟩
  obtain ⟨W, hW⟩ : ∃ W, w1.alloc (.cells #[.int .i64 (kd : Int), .int .i64 (nn : Int), .int .i64 (pl : Int), .string tx] 59) = W := ⟨_, rfl⟩
  have hT2 : Touch NoB W0 W := by rw [← hW]; exact hT1.alloc _
  obtain ⟨q5, hq5⟩ : ∃ q5, w1.heap.size = q5 := ⟨_, rfl⟩
  have hs1 := hT1.size
  have hb : W.heap[q5]? = some (.cells #[.int .i64 (kd : Int), .int .i64 (nn : Int), .int .i64 (pl : Int), .string tx] 59 (0, 0)) := by rw [← hW]; exact alloc_blk _ _ _ hq5
  have d0 : W.cell? ⟨q5, 0, none⟩ = some (.int .i64 (kd : Int)) := cell_blk hb 0
  have hl5 := blk_lt hb
  have HB5 := Lib.hid hb
  have HT := Lib.hid hT2
  go_wp2_with fail
  refine (HcT.out _ HT.out).mono ?_
  rintro r U0 ⟨rfl, -, hT⟩
  have HT := Lib.hid (HT.out.same hT)
  clear hT d0 hb hT1 hT2
  go_wp2_with fail
  refine (HcF.out _ HT.out).mono ?_
  rintro r U1 ⟨rfl, -, hT⟩
  have HT := Lib.hid (HT.out.same hT)
  clear hT
  go_wp2_with fail
  refine (HcS.out _ HT.out).mono ?_
  rintro r U2 ⟨rfl, -, hT⟩
  have HT := Lib.hid (HT.out.same hT)
  clear hT
  go_wp2_with fail
  refine (HcM.out _ HT.out).mono ?_
  rintro r U3 ⟨rfl, -, hT⟩
  have HT := Lib.hid (HT.out.same hT)
  clear hT
  go_wp2_with fail
  refine (Hc39.out _ HT.out).mono ?_
  rintro r U4 ⟨rfl, -, hT⟩
  have HT := Lib.hid (HT.out.same hT)
  clear hT
  go_wp2_with fail
  refine (HcP.out _ HT.out).mono ?_
  rintro r U5 ⟨rfl, -, hT⟩
  have HT := Lib.hid (HT.out.same hT)
  clear hT
  go_wp2_with fail
  refine (HY.out _ HT.out).mono ?_
  rintro r V ⟨rfl, hp, hT⟩
  have HTV := Lib.hid (show Touch (AtB gp) W0 V from (Touch.anyB HT.out).same hT)
  have HX1 : Hid (Calls Tryd.prog 98 #[.pointer (some ⟨gp, 0, none⟩), .string ⟨#[40]⟩] V fun x w' => x = .returned (.tuple #[]) ∧
      RS w' gp g n cp ts (if acc (nxt ts (k + 1) 0) [40] = true then k + 1 + 1 else k + 1) (if acc (nxt ts (k + 1) 0) [40] = true then 0 else 2) ∧ Touch (AtB gp) V w') := Lib.hid ((rwant_any (s := [40]) hp).mono (fun x w' q => by simpa using q))
  clear hp hT
  go_wp2_with fail
  refine HX1.out.mono ?_
  rintro r V1 ⟨rfl, hp1, hT1'⟩
  obtain ⟨k1, hk1e⟩ : ∃ k1, (if acc (nxt ts (k + 1) 0) [40] = true then k + 1 + 1 else k + 1) = k1 := ⟨_, rfl⟩
  obtain ⟨e1, he1e⟩ : ∃ e1, (if acc (nxt ts (k + 1) 0) [40] = true then 0 else 2) = e1 := ⟨_, rfl⟩
  rw [hk1e, he1e] at hp1
  have HK1 := Lib.hid (And.intro hk1e.symm he1e.symm)
  have HC := Lib.hid (HEE.out.1 V1 k1 e1 hp1)
  have HTV1 := Lib.hid (HTV.out.same hT1')
  have hVs : w.heap.size + 1 ≤ V1.heap.size := by have := HTV1.out.size; omega
  clear hp1 hT1' hk1e he1e HX1
  go_wp2_with fail
  refine HC.out.mono ?_
  rintro r w6 ⟨hw6, y, k2, e2, a6, b6, s6, A6, m6, c6, rfl, hy6, hp6, ho6, hyd6⟩
  obtain ⟨W6, hW6⟩ : ∃ W, w6.alloc (.cells #[.int .i64 a6, .int .i64 b6, .string s6, .slice A6 m6 c6] 29) = W := ⟨_, rfl⟩
  have tA6 : Touch NoB w6 W6 := by rw [← hW6]; exact (Touch.refl _ _).alloc _
  obtain ⟨q6, hq6⟩ : ∃ q6, w6.heap.size = q6 := ⟨_, rfl⟩
  have hx6 : XB W6 q6 a6 b6 s6 A6 m6 c6 := by rw [← hW6]; exact XB.new _ _ _ _ _ _ _ hq6
  have hs6 := hw6.size
  have HX := Lib.hid (And.intro (hp6.touch tA6) (And.intro hx6 (And.intro ((hy6.via (R := fun b => w.heap.size < b) (fun b h1 _ => by rcases h1 with h1 | h1; exact h1.elim; exact (by omega : w.heap.size < b))).touch0 tA6) (And.intro ((hp6.touch tA6).nox (fun b => w.heap.size < b)) (And.intro hyd6 (HTV1.out.same (hw6.same (Touch.anyB tA6))))))))
  have HO2 := Lib.hid (HOO.out k1 e1 k2 e2 y HK1.out.1 HK1.out.2 ho6)
  have hq6w : w.heap.size < q6 := by omega
  have HXW : Hid (Calls Tryd.prog 98 #[.pointer (some ⟨gp, 0, none⟩), .string ⟨#[44]⟩] W6 fun x w' => x = .returned (.tuple #[]) ∧
      RS w' gp g n cp ts (if acc (nxt ts k2 e2) [44] = true then k2 + 1 else k2) (if acc (nxt ts k2 e2) [44] = true then e2 else if e2 = 0 then 2 else e2) ∧ Touch (AtB gp) W6 w') := Lib.hid (rwant_any (s := [44]) HX.out.1)
  clear hw6 hy6 hp6 ho6 hyd6 tA6 hx6 hs6
  go_wp2_with fail
  refine HXW.out.mono ?_
  rintro r U9 ⟨rfl, hp, hT⟩
  obtain ⟨k3, hk3e⟩ : ∃ k3, (if acc (nxt ts k2 e2) [44] = true then k2 + 1 else k2) = k3 := ⟨_, rfl⟩
  obtain ⟨e3, he3e⟩ : ∃ e3, (if acc (nxt ts k2 e2) [44] = true then e2 else if e2 = 0 then 2 else e2) = e3 := ⟨_, rfl⟩
  rw [hk3e, he3e] at hp
  have HK3 := Lib.hid (And.intro hk3e.symm he3e.symm)
  have HC2 := Lib.hid (HEE.out.1 U9 k3 e3 hp)
  have hsU := hT.size
  have hl6 := HX.out.2.1.cells.2.2.2.2
  have HTU := Lib.hid hT
  have HNU := Lib.hid (hp.nox (fun b => w.heap.size < b))
  clear hp hT hk3e he3e HXW
  go_wp2_with fail
  refine HC2.out.mono ?_
  rintro r w7 ⟨hw7, z, k4, e4, a7, b7, s7, A7, m7, c7, rfl, hy7, hp7, ho7, hyd7⟩
  obtain ⟨W7, hW7⟩ : ∃ W, w7.alloc (.cells #[.int .i64 a7, .int .i64 b7, .string s7, .slice A7 m7 c7] 29) = W := ⟨_, rfl⟩
  have tA7 : Touch NoB w7 W7 := by rw [← hW7]; exact (Touch.refl _ _).alloc _
  obtain ⟨q7, hq7⟩ : ∃ q7, w7.heap.size = q7 := ⟨_, rfl⟩
  have hx7 : XB W7 q7 a7 b7 s7 A7 m7 c7 := by rw [← hW7]; exact XB.new _ _ _ _ _ _ _ hq7
  have hs7 := hw7.size
  have hq7w : w.heap.size < q7 := by omega
  have HO := Lib.hid (fun (k5 e5 e6 : Nat) h5 h5e h6 => HO2.out (.two 19 y z) k5 e6 (out_pair (k := k2) (e := e2) (k1 := k3) (e1 := e3) (k2 := k4) (e2 := e4) (k3 := k5) (e3 := e5) (e4 := e6) HK3.out.1 HK3.out.2 ho7 h5 h5e h6))
  have HX5 := Lib.hid (show RS W7 gp g n cp ts k4 e4 ∧ XB W7 q6 a6 b6 s6 A6 m6 c6 ∧ XB W7 q7 a7 b7 s7 A7 m7 c7 ∧ ET W7 (fun b => w.heap.size < b) y a6 b6 s6 A6 m6 c6 ∧ ET W7 (fun b => w.heap.size < b) z a7 b7 s7 A7 m7 c7 ∧ NoX W7 (AtB gp) (fun b => w.heap.size < b) ∧ y.depth ≤ D ∧ z.depth ≤ D ∧ Touch (AtB gp) W0 W7 from
    ⟨hp7.touch tA7, ((HX.out.2.1.go HTU.out (by omega)).go (hw7.same (Touch.anyB tA7)) (by omega)), hx7, ((HX.out.2.2.1.touch HTU.out HX.out.2.2.2.1).touch (hw7.same (Touch.anyB tA7)) HNU.out), (hy7.via (fun b h1 _ => by rcases h1 with h1 | h1; exact h1.elim; exact (by omega : w.heap.size < b))).touch0 tA7, (hp7.touch tA7).nox _, HX.out.2.2.2.2.1, hyd7, (HX.out.2.2.2.2.2.same HTU.out).same (hw7.same (Touch.anyB tA7))⟩)
  clear hw7 hy7 hp7 ho7 hyd7 tA7 hx7 hs7 hsU
  have HX2 := Lib.hid (rwant_any (s := [41]) HX5.out.1)
  have HX2 : Hid (Calls Tryd.prog 98 #[.pointer (some ⟨gp, 0, none⟩), .string ⟨#[41]⟩] W7 fun x w' => x = .returned (.tuple #[]) ∧
      RS w' gp g n cp ts (if acc (nxt ts k4 e4) [41] = true then k4 + 1 else k4) (if acc (nxt ts k4 e4) [41] = true then e4 else if e4 = 0 then 2 else e4) ∧ Touch (AtB gp) W7 w') := HX2
  go_wp2_with fail
  refine HX2.out.mono ?_
  rintro r w8 ⟨rfl, hp8, hT8⟩
  obtain ⟨k5, hk5⟩ : ∃ k5, (if acc (nxt ts k4 e4) [41] = true then k4 + 1 else k4) = k5 := ⟨_, rfl⟩
  obtain ⟨e5, he5⟩ : ∃ e5, (if acc (nxt ts k4 e4) [41] = true then e4 else if e4 = 0 then 2 else e4) = e5 := ⟨_, rfl⟩
  rw [hk5, he5] at hp8
  have HK5 := Lib.hid (And.intro hk5.symm he5.symm)
  obtain ⟨u60, u61, u62, u63, u64⟩ := (HX5.out.2.1.go hT8 (by omega)).cells
  obtain ⟨u70, u71, u72, u73, u74⟩ := (HX5.out.2.2.1.go hT8 (by omega)).cells
  have hy8 := HX5.out.2.2.2.1.touch hT8 HX5.out.2.2.2.2.2.1
  have hz8 := HX5.out.2.2.2.2.1.touch hT8 HX5.out.2.2.2.2.2.1
  obtain ⟨W9, hW9⟩ : ∃ W, w8.alloc (.cells #[.int .i64 a6, .int .i64 b6, .string s6, .slice A6 m6 c6, .int .i64 a7, .int .i64 b7, .string s7, .slice A7 m7 c7] 29) = W := ⟨_, rfl⟩
  have t9 : Touch NoB w8 W9 := by rw [← hW9]; exact (Touch.refl _ _).alloc _
  obtain ⟨q9, hq9⟩ : ∃ q9, w8.heap.size = q9 := ⟨_, rfl⟩
  have hq9w : w.heap.size < q9 := by have := hT8.size; have := HX5.out.2.1.cells.2.2.2.2; omega
  have het : ET W9 (fun b => w.heap.size < b) (.two 19 y z) 19 0 ⟨#[]⟩ (some ⟨q9, 0, none⟩) 2 2 := by rw [← hW9]; exact hy8.mk2 hz8 19 hq9 hq9w
  have hdd : (Ex.two 19 y z).depth ≤ D + 1 := by have := HX5.out.2.2.2.2.2.2.1; have := HX5.out.2.2.2.2.2.2.2.1; simp only [Ex.depth]; omega
  have hp9 := hp8.touch t9
  have HF := Lib.hid (rmade_any hp9 het (by have := HEE.out.2; omega))
  obtain ⟨e6, he6⟩ : ∃ e6, (if e5 = 0 ∧ 40 < (Ex.two 19 y z).depth then 4 else e5) = e6 := ⟨_, rfl⟩
  rw [he6] at HF
  have HO6 := Lib.hid (And.intro (HO.out k5 e5 e6 HK5.out.1 HK5.out.2 he6.symm) hdd)
  have HT9 := Lib.hid (And.intro (show Touch (AtB gp) W0 W9 from HX5.out.2.2.2.2.2.2.2.2.same (hT8.same (Touch.anyB t9))) (And.intro het (hp9.nox (fun b => w.heap.size < b))))
  clear hp8 hT8 hk5 he5 hy8 hz8 t9 het hdd hp9 he6 HX2
  go_wp2_with fail
  refine HF.out.mono ?_
  rintro r V9 ⟨rfl, hp, hT⟩
  have HQ := Lib.hid (And.intro hp (HT9.out.1.same hT))
  have HZ := Lib.hid (HT9.out.2.1.touch hT HT9.out.2.2)
  clear hp hT
  have hb4 := HB4.out.go HQ.out.2 (by omega)
  obtain ⟨z0, z1, z2, z3, z4⟩ := hb4.cells
  obtain ⟨f0, f1, f2, f3⟩ := hb4.free
  clear hb4
  go_wp2
  have hTE := touch4 (F := AtB gp) ((Touch.anyB (F := AtB gp) HT0.out).same HQ.out.2) (.inr (Nat.le_refl w.heap.size)) (.int .i64 19) (.int .i64 0) (.string ⟨#[]⟩) (.slice (some ⟨q9, 0, none⟩) 2 2)
  have hTX := touch4 (F := fun b => b = w.heap.size) (Touch.refl _ V9) (.inl rfl) (.int .i64 19) (.int .i64 0) (.string ⟨#[]⟩) (.slice (some ⟨q9, 0, none⟩) 2 2)
  exact bodyPost_ret (v := .agg #[.int .i64 19, .int .i64 0, .string ⟨#[]⟩, .slice (some ⟨q9, 0, none⟩) 2 2]) (by simp [results, Tryd.results70, go_sem, z0, z1, z2, z3]) rfl ⟨hTE, .two 19 y z, k5, e6, _, _, _, _, _, _, rfl, (HZ.out.aside hTX (by omega)).via (fun b h1 _ => .inr (by omega)), HQ.out.1.touchX hTX hgp hgl, HO6.out.1, by have := HO6.out.2; omega⟩
end Go.Proofs.YtadpihipnffiaaaDoor

/-
  What the document's own Expr returns: what the parser over lists of tokens comes to. Conditions: numbers among the tokens are such.
-/
namespace Go.Proofs.YtadpihipnffiaaaDoor
open Go.ChangeShapes Go.WideShapes Go.ChangeAt Go.RowKit
set_option maxRecDepth 100000
set_option maxHeartbeats 4000000

theorem rfirst_any {gp g n cp d d1 D : Nat} {ts : List Tk} {E : Nat → Rs} (HE : RBinOk gp g n cp ts 0 d1 D E) (hd1 : d1 = d + 1) (hds : d ≤ 1000) (hD : D ≤ 9000) : RPriOk gp g n cp ts d (D + 2) (primL ts E) := by
  intro w k h
  by_cases h3 : (nxt ts k 0).kd = 3
  · exact rfirst_num HE hd1 hds hD h h3
  · by_cases h1 : (nxt ts k 0).kd = 1
    · exact rfirst_nam HE hd1 hds hD h h3 h1
    · cases cT : acc (nxt ts k 0) [116, 114, 117, 101]
      case true => exact rfirst_cT HE hd1 hds hD h h3 h1 cT
      case false =>
        cases cF : acc (nxt ts k 0) [102, 97, 108, 115, 101]
        case true => exact rfirst_cF HE hd1 hds hD h h3 h1 cT cF
        case false =>
          cases cS : acc (nxt ts k 0) [115, 101, 108, 102]
          case true => exact rfirst_cS HE hd1 hds hD h h3 h1 cT cF cS
          case false =>
            cases cM : acc (nxt ts k 0) [116, 105, 109, 101]
            case true => exact rfirst_cM HE hd1 hds hD h h3 h1 cT cF cS cM
            case false =>
              cases c39 : acc (nxt ts k 0) [39]
              case true => exact rfirst_sym HE hd1 hds hD h h3 h1 cT cF cS cM c39
              case false =>
                cases cP : acc (nxt ts k 0) [40]
                case true => exact rfirst_par HE hd1 hds hD h h3 h1 cT cF cS cM c39 cP
                case false =>
                  cases cR : acc (nxt ts k 0) [102, 97, 114]
                  case true => exact rfirst_far HE hd1 hds hD h h3 h1 cT cF cS cM c39 cP cR
                  case false => exact rfirst_none HE hd1 hds hD h h3 h1 cT cF cS cM c39 cP cR
theorem rbin_all {gp g n cp d D m : Nat} {ts : List Tk} (HU : RUnaOk gp g n cp ts d D (unaL ts m)) (hD1 : 41 ≤ D) (hD2 : D ≤ 8000) : RBinOk gp g n cp ts 0 d (D + 5) (binL ts (unaL ts m) 5) := by
  have h5 := rbin_single HU
  have h4 := rbin_level (lv := 4) (j := 0) (D1 := D + 1) h5 rfl rfl rfl hD1 (by omega) (fun k hk => ful_fwd ts m 0 k hk)
  have h3 := rbin_level (lv := 3) (j := 1) (D1 := D + 2) h4 rfl rfl rfl (by omega) (by omega) (fun k hk => ful_fwd ts m 1 k hk)
  have h2 := rbin_level (lv := 2) (j := 2) (D1 := D + 3) h3 rfl rfl rfl (by omega) (by omega) (fun k hk => ful_fwd ts m 2 k hk)
  have h1 := rbin_level (lv := 1) (j := 3) (D1 := D + 4) h2 rfl rfl rfl (by omega) (by omega) (fun k hk => ful_fwd ts m 3 k hk)
  exact rbin_level (lv := 0) (j := 4) (D1 := D + 5) h1 rfl rfl rfl (by omega) (by omega) (fun k hk => ful_fwd ts m 4 k hk)
theorem runa_all {gp g n cp : Nat} {ts : List Tk} (hnk : NumsOk ts) : ∀ (m d : Nat), m ≤ 40 → d + m = 41 → RUnaOk gp g n cp ts d (50 + 10 * m) (unaL ts m)
  | 0, d, _, hd => by
    obtain rfl : d = 41 := by omega
    exact runa_deep (by omega)
  | m + 1, d, hm, hd => by
    have ih := runa_all (gp := gp) (g := g) (n := n) (cp := cp) hnk m (d + 1) (by omega) (by omega)
    have hb := rbin_all ih (by omega) (by omega)
    exact runa_step ih (rfirst_any hb rfl (by omega) (by omega)) rfl (by omega) (by omega) (by omega) (by omega) hnk
theorem rtop_any {gp g n cp : Nat} {ts : List Tk} (hnk : NumsOk ts) : RBinOk gp g n cp ts 0 1 455 (binL ts (unaL ts 40) 5) :=
  rbin_all (runa_all hnk 40 1 (by omega) rfl) (by omega) (by omega)
theorem rexpr_any {w : World} {g n cp : Nat} {ts : List Tk} (ht : TL w g ts) (hn : ts.length = n) (hpos : 0 < n) (hmax : n ≤ 100000) (hnk : NumsOk ts) :
    Calls Tryd.prog 15 #[.slice (some ⟨g, 0, none⟩) n cp, .int .i64 0] w (ParPost w (parL ts 0)) := by
  obtain ⟨W0, hW0⟩ : ∃ W, (w.alloc (.cells #[.int .i64 0, .int .i64 0, .string ⟨#[]⟩, .slice none 0 0] 29)).alloc (.cells #[.slice (some ⟨g, 0, none⟩) n cp, .int .i64 0, .int .i64 0, .int .i64 0] 70) = W := ⟨_, rfl⟩
  have hT0 : Touch NoB w W0 := by rw [← hW0]; exact ((Touch.refl _ _).alloc _).alloc _
  have hb4 : XB W0 w.heap.size 0 0 ⟨#[]⟩ none 0 0 := by rw [← hW0]; exact (XB.new w _ _ _ _ _ _ rfl).old _
  have hgl := ht.lt
  have hps : RS W0 (w.heap.size + 1) g n cp ts 0 0 := ⟨⟨0, by rw [← hW0]; exact alloc_blk _ _ _ (by simp only [World.size_alloc]), fun h => absurd rfl h⟩, ht.touch hT0, by omega, hn, Nat.zero_le _, hmax⟩
  have HC := Lib.hid (rtop_any (gp := w.heap.size + 1) (g := g) (n := n) (cp := cp) hnk W0 0 0 hps)
  have HB4 := Lib.hid hb4
  have HT0 := Lib.hid hT0
  have hR : parL ts 0 = binL ts (unaL ts 40) 5 0 := by unfold parL; rw [if_pos (by omega)]
  rw [hR]
  obtain ⟨R0, hR0⟩ : ∃ R0, binL ts (unaL ts 40) 5 0 = R0 := ⟨_, rfl⟩
  rw [hR0] at HC ⊢
  have hle : decide ((n : Int) ≤ 0) = false := by simp; omega
  have hs0 : W0.heap.size = w.heap.size + 1 + 1 := by rw [← hW0]; simp only [World.size_alloc]
  have HS0 := Lib.hid hs0
  clear hb4 hT0 hps hnk hR hR0 ht hn hs0
  subst hW0
  go_enter Tryd.func15, Tryd.ntmps15
  go_wp2_with fail
  refine HC.out.mono ?_
  rintro r w2 ⟨hT2, y, k2, e2, a2, b2, s2, A2, m2, c2, rfl, hy, hp2, ho2, hyd⟩
  have hT02 : Touch NoB w w2 := HT0.out.trans hT2 (fun b hb => .inr (by unfold AtB at hb; omega))
  obtain ⟨bad, hbb, hbk⟩ := (hp2.touch ((Touch.refl NoB w2).alloc (.cells #[.int .i64 a2, .int .i64 b2, .string s2, .slice A2 m2 c2] 29))).blk
  have hp1 : (w2.alloc (.cells #[.int .i64 a2, .int .i64 b2, .string s2, .slice A2 m2 c2] 29)).cell? ⟨w.heap.size + 1, 1, none⟩ = some (.int .i64 (k2 : Int)) := cell_blk hbb 1
  have hp3 : (w2.alloc (.cells #[.int .i64 a2, .int .i64 b2, .string s2, .slice A2 m2 c2] 29)).cell? ⟨w.heap.size + 1, 2, none⟩ = some (.int .i64 (e2 : Int)) := cell_blk hbb 2
  have hp4 : (w2.alloc (.cells #[.int .i64 a2, .int .i64 b2, .string s2, .slice A2 m2 c2] 29)).cell? ⟨w.heap.size + 1, 3, none⟩ = some (.int .i64 (bad : Int)) := cell_blk hbb 3
  have hs2 := hT2.size
  have hs0 := HS0.out
  have hb5 := (HB4.out.go (gp := w.heap.size + 1) hT2 (by omega)).old (.cells #[.int .i64 a2, .int .i64 b2, .string s2, .slice A2 m2 c2] 29)
  obtain ⟨W2, hW2⟩ : ∃ W, w2.alloc (.cells #[.int .i64 a2, .int .i64 b2, .string s2, .slice A2 m2 c2] 29) = W := ⟨_, rfl⟩
  rw [hW2] at hp1 hp3 hp4 hb5
  have hTW : Touch NoB w W2 := by rw [← hW2]; exact hT02.alloc _
  have hx8 : XB W2 w2.heap.size a2 b2 s2 A2 m2 c2 := by rw [← hW2]; exact XB.new _ _ _ _ _ _ _ rfl
  have HY := Lib.hid (And.intro (hy.touch0 (show Touch NoB w2 W2 by rw [← hW2]; exact (Touch.refl _ _).alloc _)) (And.intro ho2 hTW))
  obtain ⟨z0, z1, z2, z3, z4⟩ := hb5.cells
  obtain ⟨f0, f1, f2, f3⟩ := hb5.free
  obtain ⟨p80, p81, p82, p83, p84⟩ := hx8.cells
  have hl1 : w.heap.size + 1 < W2.heap.size := by omega
  clear hT2 hy hp2 ho2 hyd hT02 hTW HC hbb
  have d1 : W2.drew.cell? ⟨w.heap.size + 1, 1, none⟩ = some (.int .i64 (k2 : Int)) := hp1
  have d2 : W2.drew.cell? ⟨w.heap.size + 1, 2, none⟩ = some (.int .i64 (e2 : Int)) := hp3
  have d3 : W2.drew.cell? ⟨w.heap.size + 1, 3, none⟩ = some (.int .i64 (bad : Int)) := hp4
  have d80 : W2.drew.cell? ⟨w2.heap.size, 0, none⟩ = some (.int .i64 a2) := p80
  have d81 : W2.drew.cell? ⟨w2.heap.size, 1, none⟩ = some (.int .i64 b2) := p81
  have d82 : W2.drew.cell? ⟨w2.heap.size, 2, none⟩ = some (.string s2) := p82
  have d83 : W2.drew.cell? ⟨w2.heap.size, 3, none⟩ = some (.slice A2 m2 c2) := p83
  have hnew : ∀ b, b = w.heap.size → NoB b ∨ w.heap.size ≤ b := fun b e => .inr (by omega)
  have hne1 : w.heap.size ≠ w2.heap.size := by omega
  have hne2 : w2.heap.size ≠ w.heap.size := by omega
  by_cases he : e2 = 0
  · subst he
    have hee : (((0 : Nat) : Int) != 0) = false := rfl
    have HOK : Hid (R0 = .ok y k2) := Lib.hid (by
      have ho := HY.out.2.1
      unfold Out at ho
      rw [if_pos rfl] at ho
      cases R0 with
      | ok z j => obtain ⟨rfl, rfl, -⟩ := ho; rfl
      | er e j => exact absurd ho.2.1.symm ho.2.2)
    go_wp2
    go_region
    go_wp2
    have hTX := touch4 (F := fun b => b = w.heap.size) (Touch.refl _ W2) (.inl rfl) (.int .i64 a2) (.int .i64 b2) (.string s2) (.slice A2 m2 c2)
    refine bodyPost_ret (v := .tuple #[.agg #[.int .i64 a2, .int .i64 b2, .string s2, .slice A2 m2 c2], .int .i64 (k2 : Int), .int .i64 0]) (by simp [results, Tryd.results15, go_sem, z0, z1, z2, z3]) rfl ?_
    rw [HOK.out]
    refine ⟨by repeat (first | with_reducible exact HY.out.2.2 | with_reducible refine Touch.drew ?_ | with_reducible refine Touch.setCell ?_ (hnew _ rfl) _), _, _, _, _, _, _, rfl, ?_⟩
    exact ET.touch0 (Touch.refl _ _).drew (((HY.out.1.via (R := fun b => w.heap.size + 1 ≤ b) (fun b h1 _ => by rcases h1 with h1 | h1; exact h1.elim; omega)).aside hTX (by omega)).via (fun b h1 _ => by omega))
  · have hee : ((e2 : Int) != 0) = true := by simp; omega
    obtain rfl := hbk he
    have HOK : Hid (R0 = .er e2 bad) := Lib.hid (by
      have ho := HY.out.2.1
      unfold Out at ho
      rw [if_pos rfl] at ho
      cases R0 with
      | ok z j => exact absurd ho.2.2 he
      | er e j => obtain ⟨rfl, rfl, -⟩ := ho; rfl)
    go_wp2
    go_region
    go_wp2
    refine bodyPost_ret (v := .tuple #[.agg #[.int .i64 0, .int .i64 0, .string ⟨#[]⟩, .slice none 0 0], .int .i64 (bad : Int), .int .i64 (e2 : Int)]) (by simp [results, Tryd.results15, go_sem, z0, z1, z2, z3]) rfl ?_
    rw [HOK.out]
    exact ⟨by repeat (first | with_reducible exact HY.out.2.2 | with_reducible refine Touch.drew ?_ | with_reducible refine Touch.setCell ?_ (hnew _ rfl) _), rfl⟩
end Go.Proofs.YtadpihipnffiaaaDoor

/-
  What Print writes of a valid expression is divided into tokens again: which ones. Lists alone; conditions: the expression is valid.
-/
namespace Go.Proofs.YtadpihipnffiaaaDoor
set_option maxRecDepth 100000

abbrev Wh := Nat × Nat × Bs
def Lx.wh : Lx → Option (List Wh)
  | .good ts => some (ts.map Tk.what)
  | .bad _ => none
theorem Lx.wh_cons (t : Tk) (x : Lx) : (Lx.cons t x).wh = x.wh.map (t.what :: ·) := by cases x <;> rfl
/-- What a text is divided into, whatever the places. -/
def lexW (l : Bs) : Option (List Wh) := (toksL (l.length + 1) 0 l).wh
theorem toks_wh : ∀ (f a a' : Nat) (l : Bs), (toksL f a l).wh = (toksL f a' l).wh
  | 0, a, a', l => rfl
  | f + 1, a, a', l => by
    simp only [toksL]
    cases hm : skipL false l with
    | nil => rfl
    | cons c r =>
      simp only
      cases ht : tokL (a + (l.length - (c :: r).length)) (c :: r) with
      | none => rw [tok_none (a' := a' + (l.length - (c :: r).length)) ht]; rfl
      | some x =>
        obtain ⟨t, n⟩ := x
        rw [tok_shift (a' := a' + (l.length - (c :: r).length)) ht]
        simp only [Lx.wh_cons]
        rw [toks_wh f _ (a' + (l.length - (c :: r).length) + n) ((c :: r).drop n)]
        rfl
theorem wh_of (f a : Nat) (l : Bs) (h : l.length < f) : (toksL f a l).wh = lexW l := by
  unfold lexW
  rw [toks_wh f a 0 l, toks_fuel f 0 l h (l.length + 1) (by omega)]
theorem lexW_tok {c : UInt8} {r : Bs} {t : Tk} {n : Nat} (hs : skipL false (c :: r) = c :: r) (h : tokL 0 (c :: r) = some (t, n)) : lexW (c :: r) = (lexW ((c :: r).drop n)).map (t.what :: ·) := by
  have hn := tok_len h
  unfold lexW
  rw [show (c :: r).length + 1 = (c :: r).length + 1 from rfl]
  simp only [toksL, hs, Nat.sub_self, Nat.add_zero]
  rw [h]
  simp only [Lx.wh_cons]
  rw [wh_of _ _ _ (by rw [List.length_drop]; have := hn; simp only [List.length_cons] at *; omega)]
  rfl
theorem lexW_nil : lexW [] = some [(0, 0, [])] := rfl
theorem lexW_blank (r : Bs) : lexW (32 :: r) = lexW r := by
  have hs : skipL false (32 :: r) = skipL false r := by simp [skipL, bB]
  unfold lexW
  rw [show (32 :: r : Bs).length + 1 = (r.length + 1) + 1 from rfl, toks_fuel (r.length + 1) 0 r (by omega) (r.length + 1 + 1) (by omega)]
  obtain ⟨g, hg⟩ : ∃ g, r.length + 1 = g := ⟨_, rfl⟩
  rw [hg]
  simp only [toksL, hs]
  cases hm : skipL false r with
  | nil => rfl
  | cons d q =>
    simp only
    cases ht : tokL (0 + ((32 :: r : Bs).length - (d :: q).length)) (d :: q) with
    | none => rw [tok_none (a' := 0 + (r.length - (d :: q).length)) ht]; rfl
    | some x =>
      obtain ⟨t, n⟩ := x
      rw [tok_shift (a' := 0 + (r.length - (d :: q).length)) ht]
      simp only [Lx.wh_cons]
      rw [toks_wh _ _ (0 + (r.length - (d :: q).length) + n) ((d :: q).drop n)]
      rfl
/-- What follows is no byte of a word. -/
def Gap (r : Bs) : Prop := ∀ d q, r = d :: q → bW d = false
theorem lexW_word {c : UInt8} {s r : Bs} (hs : (c :: s).all bW = true) (hc : bL c = true) (hk : kw.contains (c :: s) = true ∨ (c :: s).length ≤ 24) (hr : Gap r) :
    lexW (c :: s ++ r) = (lexW r).map ((if kw.contains (c :: s) = true then 2 else 1, 0, c :: s) :: ·) := by
  have htw : List.takeWhile bW (c :: (s ++ r)) = c :: s := take_word (w := c :: s) hs hr
  have hW : bW c = true := bW_L hc
  have ht : tokL 0 (c :: (s ++ r)) = some (⟨if kw.contains (c :: s) = true then 2 else 1, 0, 0, c :: s⟩, (c :: s).length) := by
    simp only [tokL]
    rw [if_neg (by rw [L_not_D hc]; simp), if_pos hc, htw]
    by_cases h1 : kw.contains (c :: s) = true
    · rw [if_pos h1, if_pos h1]
    · rw [if_neg h1, if_neg h1, if_pos (hk.resolve_left h1)]
  rw [List.cons_append, lexW_tok (bW_stay hW) ht]
  rw [show (c :: (s ++ r)).drop (c :: s).length = r from by rw [← List.cons_append, List.drop_left]]
  rfl
theorem lexW_num {c : UInt8} {s r : Bs} (hs : (c :: s).all bD = true) (hv : valL (c :: s) ≤ 9223372036854775807) (h0 : ¬ (c.toNat = 48 ∧ 1 < (c :: s).length)) (hr : Gap r) :
    lexW (c :: s ++ r) = (lexW r).map ((3, valL (c :: s), []) :: ·) := by
  have hWs := all_W_of_D hs
  have htw : List.takeWhile bW (c :: (s ++ r)) = c :: s := take_word (w := c :: s) hWs hr
  simp only [List.all_cons, Bool.and_eq_true] at hs
  have hW : bW c = true := bW_D hs.1
  have ht : tokL 0 (c :: (s ++ r)) = some (⟨3, valL (c :: s), 0, []⟩, (c :: s).length) := by
    simp only [tokL]
    rw [if_pos hs.1, htw, if_pos ⟨by simp only [List.all_cons, Bool.and_eq_true]; exact hs, hv, h0⟩]
  rw [List.cons_append, lexW_tok (bW_stay hW) ht]
  rw [show (c :: (s ++ r)).drop (c :: s).length = r from by rw [← List.cons_append, List.drop_left]]
  rfl
/-- A sign of one byte. -/
theorem lexW_sign {c : UInt8} {r : Bs} (hL : bL c = false) (hD : bD c = false) (hB : bB c = false) (hc : ¬ (c.toNat = 47 ∧ slash r = true)) (h1 : sgnL c r = 1) : lexW (c :: r) = (lexW r).map ((4, 0, [c]) :: ·) := by
  have ht : tokL 0 (c :: r) = some (⟨4, 0, 0, [c]⟩, 1) := by
    simp only [tokL]
    rw [if_neg (by simp [hD]), if_neg (by simp [hL]), h1]
    rfl
  rw [lexW_tok (skip_stay hB hc) ht]
  rfl
theorem lexW_same {r : Bs} : lexW (61 :: 61 :: r) = (lexW r).map ((4, 0, [61, 61]) :: ·) := by
  have ht : tokL 0 (61 :: 61 :: r) = some (⟨4, 0, 0, [61, 61]⟩, 2) := by
    have h2 : sgnL 61 (61 :: r) = 2 := by simp [sgnL, equal1]
    simp only [tokL]
    rw [if_neg (by decide), if_neg (by decide), h2]
    rfl
  rw [lexW_tok (skip_stay (by decide) (fun h => absurd h.1 (by decide))) ht]
  rfl
/-- Signs that never grow. -/
theorem lexW_one {c : UInt8} (hc : c ∈ [40, 41, 44, 39, 45, 43, 42]) (r : Bs) : lexW (c :: r) = (lexW r).map ((4, 0, [c]) :: ·) := by
  simp only [List.mem_cons, List.not_mem_nil, or_false] at hc
  rcases hc with rfl | rfl | rfl | rfl | rfl | rfl | rfl <;> exact lexW_sign (by decide) (by decide) (by decide) (fun h => absurd h.1 (by decide)) (by simp [sgnL])
theorem gap_cons {c : UInt8} (h : bW c = false) (r : Bs) : Gap (c :: r) := fun d q e => by injection e with e1 e2; subst e1; exact h
theorem dec_F : ∀ (f u : Nat), u < 10 ^ (f + 1) → Lib.decDigits u = decF f u
  | 0, u, h => by
    have h10 : u < 10 := by simpa using h
    rw [Lib.decDigits, dif_pos h10, decF, Nat.mod_eq_of_lt h10]
  | f + 1, u, h => by
    rw [Lib.decDigits, decF]
    by_cases h10 : u < 10
    · rw [dif_pos h10, if_neg (by omega), Nat.mod_eq_of_lt h10]
    · rw [dif_neg h10, if_pos (by omega), dec_F f (u / 10) (by
        rw [Nat.pow_succ] at h
        exact Nat.div_lt_of_lt_mul (by rw [Nat.mul_comm]; exact h))]
theorem lexW_dec {u : Nat} (hu : u ≤ 9223372036854775807) {r : Bs} (hr : Gap r) : lexW (Lib.decDigits u ++ r) = (lexW r).map ((3, u, []) :: ·) := by
  have h19 : u < 10 ^ (18 + 1) := Nat.lt_of_le_of_lt hu (by decide)
  rw [dec_F 18 u h19]
  obtain ⟨c, s, h1, h2⟩ := decF_head 18 u h19
  have hv := decF_val 18 u h19
  have hD := decF_D 18 u
  rw [h1] at hv hD ⊢
  rw [lexW_num hD (by rw [hv]; exact hu) h2 hr, hv]

/-- The tokens of an expression's text. -/
def tkW : Ex → List Wh
  | .leaf k n s => if k = 0 then (if n < 0 then [(4, 0, [45]), (3, n.natAbs, [])] else [(3, n.toNat, [])]) else if k = 1 then [(2, 0, truB (decide (n = 1)))] else if k = 2 then [(1, 0, s)] else if k = 3 then [(4, 0, [39]), (1, 0, s)] else [(2, 0, wordB k)]
  | .one k x => (2, 0, wordB k) :: tkW x
  | .two k x y => if k = 15 then (4, 0, [40]) :: (tkW x ++ (4, 0, [44]) :: (tkW y ++ [(4, 0, [41])])) else if k = 19 then (2, 0, [102, 97, 114]) :: (4, 0, [40]) :: (tkW x ++ (4, 0, [44]) :: (tkW y ++ [(4, 0, [41])]))
      else (4, 0, [40]) :: (tkW x ++ (if k = 12 ∨ k = 13 then 2 else 4, 0, wordB k) :: (tkW y ++ [(4, 0, [41])]))
theorem map_app (o : Option (List Wh)) (a b : List Wh) : (o.map (b ++ ·)).map (a ++ ·) = o.map ((a ++ b) ++ ·) := by cases o <;> simp
theorem map_con (o : Option (List Wh)) (t : Wh) (b : List Wh) : (o.map (b ++ ·)).map (t :: ·) = o.map ((t :: b) ++ ·) := by cases o <;> simp
theorem map_one (o : Option (List Wh)) (t : Wh) : o.map (t :: ·) = o.map ([t] ++ ·) := by cases o <;> simp
theorem nam_lexW {s r : Bs} (h : okN s = true) (hr : Gap r) : lexW (s ++ r) = (lexW r).map ((1, 0, s) :: ·) := by
  unfold okN nameB at h
  simp only [Bool.and_eq_true, decide_eq_true_eq, bs_size, Bool.not_eq_true'] at h
  obtain ⟨⟨⟨⟨h1, h24⟩, hl⟩, hall⟩, hw⟩ := h
  cases s with
  | nil => simp at h1
  | cons c s =>
    rw [bt_bs (c :: s) 0 c rfl, letB_b] at hl
    have hW : (c :: s).all bW = true := by
      rw [List.all_eq_true]
      intro x hx
      obtain ⟨i, hi⟩ := List.mem_iff_getElem?.1 hx
      have := List.all_eq_true.1 hall i (by rw [List.mem_range]; exact (List.getElem?_eq_some_iff.1 hi).1)
      rw [bt_bs (c :: s) i x hi, okB_b] at this
      exact this
    rw [wrd_bs] at hw
    have := lexW_word hW hl (.inr h24) hr
    rw [hw] at this
    exact this
theorem kw_lexW {s r : Bs} (h : s ∈ kw) (hr : Gap r) : lexW (s ++ r) = (lexW r).map ((2, 0, s) :: ·) := by
  have hk : ∀ s ∈ kw, s.all bW = true ∧ (match s with | [] => false | c :: _ => bL c) = true := by decide
  obtain ⟨h1, h2⟩ := hk s h
  cases s with
  | nil => simp at h2
  | cons c s =>
    have hc : kw.contains (c :: s) = true := List.contains_iff_mem.2 h
    have := lexW_word h1 h2 (.inl hc) hr
    rw [hc] at this
    exact this
theorem prt_lex : ∀ (x : Ex), vE x → ∀ (r : Bs), Gap r → lexW (prt x ++ r) = (lexW r).map (tkW x ++ ·)
  | .leaf k n s, hv, r, hr => by
    rcases hv with ⟨rfl, h1, h2, rfl⟩ | ⟨rfl, h1, rfl⟩ | ⟨h1, rfl, hs⟩ | ⟨h1, rfl, rfl⟩
    · simp only [prt, tkW, if_true]
      by_cases hn : n < 0
      · rw [if_pos hn, show Lib.itoa n = 45 :: Lib.decDigits n.natAbs from by unfold Lib.itoa; rw [if_pos hn], List.cons_append, lexW_one (by decide), lexW_dec (by omega) hr, map_one _ (3, _, _), map_con]
      · rw [if_neg hn, show Lib.itoa n = Lib.decDigits n.toNat from by unfold Lib.itoa; rw [if_neg hn], lexW_dec (by omega) hr, map_one]
    · rcases h1 with rfl | rfl
      · exact (kw_lexW (s := [102, 97, 108, 115, 101]) (by decide) hr).trans (map_one _ _)
      · exact (kw_lexW (s := [116, 114, 117, 101]) (by decide) hr).trans (map_one _ _)
    · rcases h1 with rfl | rfl
      · exact (nam_lexW hs hr).trans (map_one _ _)
      · show lexW (39 :: (s ++ r)) = _
        rw [lexW_one (by decide), nam_lexW hs hr, map_one _ (1, _, _), map_con]
        rfl
    · rcases h1 with rfl | rfl
      · exact (kw_lexW (s := [115, 101, 108, 102]) (by decide) hr).trans (map_one _ _)
      · exact (kw_lexW (s := [116, 105, 109, 101]) (by decide) hr).trans (map_one _ _)
  | .one k x, hv, r, hr => by
    obtain ⟨hk, hx⟩ := hv
    have ih := prt_lex x hx r hr
    have h32 : ∀ z, Gap (32 :: z) := gap_cons (by decide)
    simp only [prt, List.append_assoc, List.cons_append, List.nil_append]
    rcases hk with rfl | rfl | rfl | rfl <;> (rw [kw_lexW (by decide) (h32 _), lexW_blank, ih, map_con]; rfl)
  | .two k x y, hv, r, hr => by
    obtain ⟨hk, hx, hy⟩ := hv
    have h32 : ∀ z, Gap (32 :: z) := gap_cons (by decide)
    have h44 : ∀ z, Gap (44 :: z) := gap_cons (by decide)
    have h41 : ∀ z, Gap (41 :: z) := gap_cons (by decide)
    have h40 : ∀ z, Gap (40 :: z) := gap_cons (by decide)
    have iy : lexW (prt y ++ (41 :: r)) = (lexW r).map ((tkW y ++ [(4, 0, [41])]) ++ ·) := by
      rw [prt_lex y hy _ (h41 _), lexW_one (by decide), map_one, map_app]
    have hc : (k = 6 ∨ k = 7 ∨ k = 8 ∨ k = 9 ∨ k = 10 ∨ k = 11 ∨ k = 12 ∨ k = 13) ∨ k = 15 ∨ k = 19 := by omega
    rcases hc with hc | rfl | rfl
    · have ha : ahd k = [] := by unfold ahd; rw [if_neg (by omega)]
      have hb : btw k = [32] ++ wordB k ++ [32] := by unfold btw; rw [if_neg (by omega)]
      have hop : lexW (wordB k ++ (32 :: (prt y ++ (41 :: r)))) = (lexW (prt y ++ (41 :: r))).map ((if k = 12 ∨ k = 13 then 2 else 4, 0, wordB k) :: ·) := by
        rcases hc with rfl | rfl | rfl | rfl | rfl | rfl | rfl | rfl
        · show lexW (43 :: 32 :: _) = _; rw [lexW_one (by decide), lexW_blank]; rfl
        · show lexW (45 :: 32 :: _) = _; rw [lexW_one (by decide), lexW_blank]; rfl
        · show lexW (42 :: 32 :: _) = _; rw [lexW_one (by decide), lexW_blank]; rfl
        · show lexW (47 :: 32 :: _) = _; rw [lexW_sign (by decide) (by decide) (by decide) (by simp [slash]) (by simp [sgnL, equal1]), lexW_blank]; rfl
        · show lexW (61 :: 61 :: 32 :: _) = _; rw [lexW_same, lexW_blank]; rfl
        · show lexW (60 :: 32 :: _) = _; rw [lexW_sign (by decide) (by decide) (by decide) (by simp) (by simp [sgnL, equal1]), lexW_blank]; rfl
        · rw [kw_lexW (by decide) (h32 _), lexW_blank]; rfl
        · rw [kw_lexW (by decide) (h32 _), lexW_blank]; rfl
      have e : prt (.two k x y) ++ r = 40 :: (prt x ++ (32 :: (wordB k ++ (32 :: (prt y ++ (41 :: r)))))) := by simp [prt, ha, hb]
      have et : tkW (.two k x y) = (4, 0, [40]) :: (tkW x ++ (if k = 12 ∨ k = 13 then 2 else 4, 0, wordB k) :: (tkW y ++ [(4, 0, [41])])) := by
        simp only [tkW]; rw [if_neg (by omega), if_neg (by omega)]
      rw [e, et, lexW_one (by decide), prt_lex x hx _ (h32 _), lexW_blank, hop, iy]; cases lexW r <;> simp
    · have e : prt (.two 15 x y) ++ r = 40 :: (prt x ++ (44 :: 32 :: (prt y ++ (41 :: r)))) := by simp [prt, ahd, btw, wordB]
      have et : tkW (.two 15 x y) = (4, 0, [40]) :: (tkW x ++ (4, 0, [44]) :: (tkW y ++ [(4, 0, [41])])) := by simp [tkW]
      rw [e, et, lexW_one (by decide), prt_lex x hx _ (h44 _), lexW_one (by decide), lexW_blank, iy]; cases lexW r <;> simp
    · have e : prt (.two 19 x y) ++ r = [102, 97, 114] ++ (40 :: (prt x ++ (44 :: 32 :: (prt y ++ (41 :: r))))) := by simp [prt, ahd, btw, wordB]
      have et : tkW (.two 19 x y) = (2, 0, [102, 97, 114]) :: (4, 0, [40]) :: (tkW x ++ (4, 0, [44]) :: (tkW y ++ [(4, 0, [41])])) := by simp [tkW]
      rw [e, et, kw_lexW (by decide) (h40 _), lexW_one (by decide), prt_lex x hx _ (h44 _), lexW_one (by decide), lexW_blank, iy]; cases lexW r <;> simp
theorem prt_toks {x : Ex} (hv : vE x) : ∃ us, lexL (prt x) = .good us ∧ us.map Tk.what = tkW x ++ [(0, 0, [])] := by
  have h := prt_lex x hv [] (fun d q e => by cases e)
  rw [List.append_nil, lexW_nil] at h
  unfold lexW at h
  unfold lexL
  cases hl : toksL ((prt x).length + 1) 0 (prt x) with
  | bad p => rw [hl] at h; cases h
  | good us => rw [hl] at h; simp only [Lx.wh, Option.map_some, Option.some.injEq] at h; exact ⟨us, rfl, h⟩
end Go.Proofs.YtadpihipnffiaaaDoor

/-
  The parser over lists of tokens reads the text that Print writes of a valid expression as that expression. Lists alone; conditions: the expression is valid and no deeper than may be.
-/
namespace Go.Proofs.YtadpihipnffiaaaDoor
set_option maxRecDepth 100000

/-- At place k stand the tokens ws. -/
def Stands (us : List Tk) (k : Nat) (ws : List Wh) : Prop := ∀ (i : Nat) (t : Wh), ws[i]? = some t → (us[k + i]?).map Tk.what = some t
theorem Stands.head {us : List Tk} {k : Nat} {t : Wh} {ws : List Wh} (h : Stands us k (t :: ws)) : (us[k]?).map Tk.what = some t := h 0 t rfl
theorem Stands.tail {us : List Tk} {k : Nat} {t : Wh} {ws : List Wh} (h : Stands us k (t :: ws)) : Stands us (k + 1) ws := fun i u hi => by
  have := h (i + 1) u (by simpa using hi)
  rwa [show k + (i + 1) = k + 1 + i from by omega] at this
theorem Stands.left {us : List Tk} {k : Nat} {a b : List Wh} (h : Stands us k (a ++ b)) : Stands us k a := fun i u hi => h i u (by rw [List.getElem?_append_left (List.getElem?_eq_some_iff.1 hi).1]; exact hi)
theorem Stands.right {us : List Tk} {k : Nat} {a b : List Wh} (h : Stands us k (a ++ b)) : Stands us (k + a.length) b := fun i u hi => by
  have := h (a.length + i) u (by rw [List.getElem?_append_right (by omega), Nat.add_sub_cancel_left]; exact hi)
  rwa [← Nat.add_assoc] at this
def sgW' (t : Wh) (s : Bs) : Bool := (t.1 == 2 || t.1 == 4) && t.2.2 == s
theorem sg_at {us : List Tk} {k : Nat} {t : Wh} (h : (us[k]?).map Tk.what = some t) (s : Bs) : sg us k s = sgW' t s := by
  unfold sg
  cases hu : us[k]? with
  | none => rw [hu] at h; cases h
  | some u => rw [hu] at h; simp only [Option.map_some, Option.some.injEq] at h; subst h; rfl
theorem num_at {us : List Tk} {k : Nat} {t : Wh} (h : (us[k]?).map Tk.what = some t) : numAt us k = if t.1 = 3 then some t.2.1 else none := by
  unfold numAt
  cases hu : us[k]? with
  | none => rw [hu] at h; cases h
  | some u => rw [hu] at h; simp only [Option.map_some, Option.some.injEq] at h; subst h; rfl
theorem nam_at {us : List Tk} {k : Nat} {t : Wh} (h : (us[k]?).map Tk.what = some t) : nameAt us k = if t.1 = 1 then some t.2.2 else none := by
  unfold nameAt
  cases hu : us[k]? with
  | none => rw [hu] at h; cases h
  | some u => rw [hu] at h; simp only [Option.map_some, Option.some.injEq] at h; subst h; rfl
/-- No operator stands at place k. -/
def NoOp (us : List Tk) (k : Nat) : Prop := ∀ lv, opk us lv k = none
theorem noop_at {us : List Tk} {k : Nat} {t : Wh} (h : (us[k]?).map Tk.what = some t) (ht : t ∈ [((4 : Nat), (0 : Nat), ([41] : Bs)), (4, 0, [44]), (0, 0, [])]) : NoOp us k := by
  intro lv
  simp only [List.mem_cons, List.not_mem_nil, or_false] at ht
  unfold opk
  rcases ht with rfl | rfl | rfl <;> (split <;> simp [sg_at h, sgW'])
theorem bin_flat {us : List Tk} {u : Nat → Rs} {k i : Nat} {x : Ex} (hu : u k = .ok x i) : ∀ (j : Nat), (∀ lv, 4 < lv + j → lv ≤ 4 → opk us lv i = none) → binL us u j k = .ok x i
  | 0, _ => hu
  | j + 1, h => by
    unfold binL
    rw [bin_flat hu j (fun lv hl h4 => h lv (by omega) h4)]
    simp only
    have ho := h (4 - j) (by omega) (by omega)
    cases us.length - i with
    | zero => rfl
    | succ f => unfold loopL; rw [ho]
theorem loop_stop {us : List Tk} {lv : Nat} {sub : Nat → Rs} {x : Ex} {k : Nat} (h : opk us lv k = none) (f : Nat) : loopL us lv sub f x k = .ok x k := by
  cases f with
  | zero => rfl
  | succ f => unfold loopL; rw [h]
/-- Levels that are not reached any more. -/
theorem bin_up {us : List Tk} {u : Nat → Rs} {k i : Nat} {x : Ex} (hn : NoOp us i) {j0 : Nat} (h : binL us u j0 k = .ok x i) : ∀ (d : Nat), binL us u (j0 + d) k = .ok x i
  | 0 => h
  | d + 1 => by
    rw [← Nat.add_assoc]
    unfold binL
    rw [bin_up hn h d]
    exact loop_stop (hn _) _
theorem bin_two {us : List Tk} {u : Nat → Rs} {k i i2 lv : Nat} {kd : Int} {x y : Ex} (hlv : lv ≤ 4) (hx : u k = .ok x i) (hop : opk us lv i = some kd) (hno : ∀ l, lv < l → l ≤ 4 → opk us l i = none) (hy : u (i + 1) = .ok y i2) (hn : NoOp us i2) (hd : (Ex.two kd x y).depth ≤ 40) :
    binL us u 5 k = .ok (.two kd x y) i2 := by
  have h1 : binL us u (4 - lv) k = .ok x i := bin_flat hx (4 - lv) (fun l hl h4 => hno l (by omega) h4)
  have h2 : binL us u (4 - lv) (i + 1) = .ok y i2 := bin_flat hy (4 - lv) (fun l _ _ => hn l)
  have h3 : binL us u (4 - lv + 1) k = .ok (.two kd x y) i2 := by
    unfold binL
    rw [h1]
    simp only
    have hlt := opk_lt hop
    obtain ⟨f, hf⟩ : ∃ f, us.length - i = f + 1 := ⟨us.length - i - 1, by omega⟩
    rw [hf, show 4 - (4 - lv) = lv from by omega]
    unfold loopL
    rw [hop]
    simp only
    rw [h2]
    simp only [mk]
    rw [if_neg (by omega)]
    simp only
    rw [loop_stop (hn lv)]
    split <;> rfl
  have := bin_up hn h3 lv
  rwa [show 4 - lv + 1 + lv = 5 from by omega] at this
theorem op_at {us : List Tk} {k : Nat} {kd : Int} (hk : 6 ≤ kd ∧ kd ≤ 13) (h : (us[k]?).map Tk.what = some (if kd = 12 ∨ kd = 13 then 2 else 4, 0, wordB kd)) : ∃ lv, lv ≤ 4 ∧ opk us lv k = some kd ∧ ∀ l, lv < l → l ≤ 4 → opk us l k = none := by
  have hc : kd = 6 ∨ kd = 7 ∨ kd = 8 ∨ kd = 9 ∨ kd = 10 ∨ kd = 11 ∨ kd = 12 ∨ kd = 13 := by omega
  have hs := sg_at h
  have h5 : ∀ l : Nat, l ≤ 4 → l = 0 ∨ l = 1 ∨ l = 2 ∨ l = 3 ∨ l = 4 := by omega
  rcases hc with rfl | rfl | rfl | rfl | rfl | rfl | rfl | rfl
  · refine ⟨3, by omega, by simp [opk, hs, sgW', wordB], fun l hl h4 => ?_⟩; rcases h5 l h4 with rfl | rfl | rfl | rfl | rfl <;> first | omega | simp [opk, hs, sgW', wordB]
  · refine ⟨3, by omega, by simp [opk, hs, sgW', wordB], fun l hl h4 => ?_⟩; rcases h5 l h4 with rfl | rfl | rfl | rfl | rfl <;> first | omega | simp [opk, hs, sgW', wordB]
  · refine ⟨4, by omega, by simp [opk, hs, sgW', wordB], fun l hl h4 => by omega⟩
  · refine ⟨4, by omega, by simp [opk, hs, sgW', wordB], fun l hl h4 => by omega⟩
  · refine ⟨2, by omega, by simp [opk, hs, sgW', wordB], fun l hl h4 => ?_⟩; rcases h5 l h4 with rfl | rfl | rfl | rfl | rfl <;> first | omega | simp [opk, hs, sgW', wordB]
  · refine ⟨2, by omega, by simp [opk, hs, sgW', wordB], fun l hl h4 => ?_⟩; rcases h5 l h4 with rfl | rfl | rfl | rfl | rfl <;> first | omega | simp [opk, hs, sgW', wordB]
  · refine ⟨1, by omega, by simp [opk, hs, sgW', wordB], fun l hl h4 => ?_⟩; rcases h5 l h4 with rfl | rfl | rfl | rfl | rfl <;> first | omega | simp [opk, hs, sgW', wordB]
  · refine ⟨0, by omega, by simp [opk, hs, sgW', wordB], fun l hl h4 => ?_⟩; rcases h5 l h4 with rfl | rfl | rfl | rfl | rfl <;> first | omega | simp [opk, hs, sgW', wordB]
/-- What stands in parentheses, once its parts are read. -/
theorem par_una {us : List Tk} {m k : Nat} (h : (us[k]?).map Tk.what = some (4, 0, [40])) : unaL us (m + 1) k = match binL us (unaL us m) 5 (k + 1) with
    | .er e i => .er e i
    | .ok x i => if sg us i [41] = true then .ok x (i + 1) else pairL us (binL us (unaL us m) 5) 15 x i := by
  have hs := sg_at h
  have hn := num_at h
  have hm := nam_at h
  simp only [unaL, prek, primL, hs, hn, hm, sgW']
  simp
  cases binL us (unaL us m) 5 (k + 1) <;> rfl
theorem far_una {us : List Tk} {m k : Nat} (h : (us[k]?).map Tk.what = some (2, 0, [102, 97, 114])) : unaL us (m + 1) k = if sg us (k + 1) [40] = true then match binL us (unaL us m) 5 (k + 2) with
    | .er e i => .er e i
    | .ok x i => pairL us (binL us (unaL us m) 5) 19 x i
    else .er 2 (k + 1) := by
  have hs := sg_at h
  have hn := num_at h
  have hm := nam_at h
  simp only [unaL, prek, primL, hs, hn, hm, sgW']
  simp
  cases binL us (unaL us m) 5 (k + 2) <;> rfl
theorem sym_una {us : List Tk} {m k : Nat} (h : (us[k]?).map Tk.what = some (4, 0, [39])) : unaL us (m + 1) k = match nameAt us (k + 1) with
    | some s => .ok (.leaf 3 0 s) (k + 2)
    | none => .er 2 (k + 1) := by
  have hs := sg_at h
  have hn := num_at h
  have hm := nam_at h
  simp only [unaL, prek, primL, hs, hn, hm, sgW']
  simp
  cases nameAt us (k + 1) <;> rfl
theorem neg_una {us : List Tk} {m k : Nat} (h : (us[k]?).map Tk.what = some (4, 0, [45])) : unaL us (m + 1) k = match numAt us (k + 1) with
    | some n => .ok (.leaf 0 (-(n : Int)) []) (k + 2)
    | none => .er 2 (k + 1) := by
  have hs := sg_at h
  simp only [unaL, prek, hs, sgW']
  simp
  cases numAt us (k + 1) <;> rfl
theorem pre_una {us : List Tk} {m k : Nat} {kd : Int} (hk : kd = 14 ∨ kd = 16 ∨ kd = 17 ∨ kd = 18) (h : (us[k]?).map Tk.what = some (2, 0, wordB kd)) : unaL us (m + 1) k = match unaL us m (k + 1) with
    | .er e i => .er e i
    | .ok x i => mk (.one kd x) i := by
  have hs := sg_at h
  rcases hk with rfl | rfl | rfl | rfl <;> (simp only [unaL, prek, hs, sgW', wordB]; simp; cases unaL us m (k + 1) <;> rfl)
theorem leaf_una {us : List Tk} {m k : Nat} {t : Wh} {x : Ex} (h : (us[k]?).map Tk.what = some t) (ht : (t = (3, t.2.1, []) ∧ x = .leaf 0 t.2.1 []) ∨ (t = (1, 0, t.2.2) ∧ x = .leaf 2 0 t.2.2) ∨ (t = (2, 0, [116, 114, 117, 101]) ∧ x = .leaf 1 1 []) ∨ (t = (2, 0, [102, 97, 108, 115, 101]) ∧ x = .leaf 1 0 []) ∨ (t = (2, 0, [115, 101, 108, 102]) ∧ x = .leaf 4 0 []) ∨ (t = (2, 0, [116, 105, 109, 101]) ∧ x = .leaf 5 0 [])) :
    unaL us (m + 1) k = .ok x (k + 1) := by
  have hs := sg_at h
  have hn := num_at h
  have hm := nam_at h
  rcases ht with ⟨h1, rfl⟩ | ⟨h1, rfl⟩ | ⟨h1, rfl⟩ | ⟨h1, rfl⟩ | ⟨h1, rfl⟩ | ⟨h1, rfl⟩ <;> (rw [h1] at hs hn hm; simp only [unaL, prek, primL, hs, hn, hm, sgW']; simp)
theorem mk_ok {x : Ex} {k : Nat} (h : x.depth ≤ 40) : mk x k = .ok x k := by unfold mk; rw [if_neg (by omega)]
/-- An expression's tokens are read as that expression. -/
theorem una_read : ∀ (x : Ex), vE x → x.depth ≤ 40 → ∀ (us : List Tk) (m k : Nat), x.depth ≤ m → Stands us k (tkW x) → unaL us m k = .ok x (k + (tkW x).length)
  | .leaf kd n s, hv, _, us, m, k, hm, hs => by
    obtain ⟨m, rfl⟩ : ∃ q, m = q + 1 := ⟨m - 1, by simp only [Ex.depth] at hm; omega⟩
    rcases hv with ⟨rfl, h1, h2, rfl⟩ | ⟨rfl, h1, rfl⟩ | ⟨h1, rfl, hs2⟩ | ⟨h1, rfl, rfl⟩
    · simp only [tkW, if_true] at hs ⊢
      by_cases hn : n < 0
      · rw [if_pos hn] at hs ⊢
        rw [neg_una hs.head, num_at hs.tail.head]
        simp only [if_true, List.length_cons, List.length_nil]
        rw [show (-(n.natAbs : Int)) = n from by omega]
      · rw [if_neg hn] at hs ⊢
        rw [leaf_una hs.head (.inl ⟨rfl, rfl⟩)]
        simp only [List.length_cons, List.length_nil]
        rw [show ((n.toNat : Nat) : Int) = n from by omega]
    · rcases h1 with rfl | rfl
      · exact leaf_una hs.head (.inr (.inr (.inr (.inl ⟨rfl, rfl⟩))))
      · exact leaf_una hs.head (.inr (.inr (.inl ⟨rfl, rfl⟩)))
    · rcases h1 with rfl | rfl
      · exact leaf_una hs.head (.inr (.inl ⟨rfl, rfl⟩))
      · have hs' : Stands us k [(4, 0, [39]), (1, 0, s)] := hs
        rw [sym_una hs'.head, nam_at hs'.tail.head]
        simp [tkW]
    · rcases h1 with rfl | rfl
      · exact leaf_una hs.head (.inr (.inr (.inr (.inr (.inl ⟨rfl, rfl⟩)))))
      · exact leaf_una hs.head (.inr (.inr (.inr (.inr (.inr ⟨rfl, rfl⟩)))))
  | .one kd x, hv, hd, us, m, k, hm, hs => by
    obtain ⟨hk, hx⟩ := hv
    obtain ⟨m, rfl⟩ : ∃ q, m = q + 1 := ⟨m - 1, by simp only [Ex.depth] at hm; omega⟩
    have hs' : Stands us k ((2, 0, wordB kd) :: tkW x) := hs
    rw [pre_una hk hs'.head, una_read x hx (by simp only [Ex.depth] at hd; omega) us m (k + 1) (by simp only [Ex.depth] at hm; omega) hs'.tail]
    simp only
    rw [mk_ok hd]
    simp only [tkW, List.length_cons]
    congr 1
    omega
  | .two kd x y, hv, hd, us, m, k, hm, hs => by
    obtain ⟨hk, hx, hy⟩ := hv
    obtain ⟨m, rfl⟩ : ∃ q, m = q + 1 := ⟨m - 1, by simp only [Ex.depth] at hm; omega⟩
    have hdx : x.depth ≤ 40 := by simp only [Ex.depth] at hd; omega
    have hdy : y.depth ≤ 40 := by simp only [Ex.depth] at hd; omega
    have hmx : x.depth ≤ m := by simp only [Ex.depth] at hm; omega
    have hmy : y.depth ≤ m := by simp only [Ex.depth] at hm; omega
    have hc : (6 ≤ kd ∧ kd ≤ 13) ∨ kd = 15 ∨ kd = 19 := hk
    rcases hc with hc | rfl | rfl
    · have et : tkW (.two kd x y) = (4, 0, [40]) :: (tkW x ++ (if kd = 12 ∨ kd = 13 then 2 else 4, 0, wordB kd) :: (tkW y ++ [(4, 0, [41])])) := by
        simp only [tkW]; rw [if_neg (by omega), if_neg (by omega)]
      rw [et] at hs ⊢
      have s1 := hs.tail
      have s2 := s1.right
      have s3 := s2.tail
      have s4 := s3.right
      have rx := una_read x hx hdx us m (k + 1) hmx s1.left
      have ry := una_read y hy hdy us m _ hmy s3.left
      obtain ⟨lv, h4, ho, hno⟩ := op_at hc s2.head
      have hb := bin_two h4 rx ho hno ry (noop_at s4.head (by simp)) hd
      rw [par_una hs.head, hb]
      simp only
      rw [sg_at s4.head]
      simp only [sgW', List.length_cons, List.length_append, List.length_nil]
      simp
      omega
    · have et : tkW (.two 15 x y) = (4, 0, [40]) :: (tkW x ++ (4, 0, [44]) :: (tkW y ++ [(4, 0, [41])])) := by simp [tkW]
      rw [et] at hs ⊢
      have s1 := hs.tail
      have s2 := s1.right
      have s3 := s2.tail
      have s4 := s3.right
      have rx := bin_flat (una_read x hx hdx us m (k + 1) hmx s1.left) 5 (fun l _ _ => noop_at s2.head (by simp) l)
      have ry := bin_flat (una_read y hy hdy us m _ hmy s3.left) 5 (fun l _ _ => noop_at s4.head (by simp) l)
      rw [par_una hs.head, rx]
      simp only
      unfold pairL
      rw [sg_at s2.head, sg_at s2.head, ry]
      simp only [sgW']
      rw [sg_at s4.head]
      simp only [sgW']
      rw [mk_ok hd]
      simp
      omega
    · have et : tkW (.two 19 x y) = (2, 0, [102, 97, 114]) :: (4, 0, [40]) :: (tkW x ++ (4, 0, [44]) :: (tkW y ++ [(4, 0, [41])])) := by simp [tkW]
      rw [et] at hs ⊢
      have s0 := hs.tail
      have s1 := s0.tail
      have s2 := s1.right
      have s3 := s2.tail
      have s4 := s3.right
      have rx := bin_flat (una_read x hx hdx us m (k + 2) hmx s1.left) 5 (fun l _ _ => noop_at s2.head (by simp) l)
      have ry := bin_flat (una_read y hy hdy us m _ hmy s3.left) 5 (fun l _ _ => noop_at s4.head (by simp) l)
      rw [far_una hs.head, sg_at s0.head, rx]
      simp only
      unfold pairL
      rw [sg_at s2.head, ry]
      simp only [sgW']
      rw [sg_at s4.head]
      simp only [sgW']
      rw [mk_ok hd]
      simp
      omega
/-- The way back. -/
theorem read_back {x : Ex} (hv : vE x) (hd : x.depth ≤ 40) : ∃ us, lexL (prt x) = .good us ∧ parL us 0 = .ok x (us.length - 1) := by
  obtain ⟨us, h1, h2⟩ := prt_toks hv
  refine ⟨us, h1, ?_⟩
  have hl : us.length = (tkW x).length + 1 := by have := congrArg List.length h2; simpa using this
  have hst : Stands us 0 (tkW x ++ [(0, 0, [])]) := fun i t hi => by
    rw [← h2] at hi
    rw [List.getElem?_map] at hi
    rw [Nat.zero_add]
    exact hi
  have hr := una_read x hv hd us 40 0 hd hst.left
  rw [Nat.zero_add] at hr
  have he := hst.right.head
  rw [Nat.zero_add] at he
  unfold parL
  rw [if_pos (by omega), bin_flat hr 5 (fun l _ _ => noop_at he (by simp) l), hl]
  rfl
end Go.Proofs.YtadpihipnffiaaaDoor

/-
  What the parser over lists of tokens returns is a valid expression. Conditions: names and numbers among the tokens are such.
-/
namespace Go.Proofs.YtadpihipnffiaaaDoor
set_option maxRecDepth 100000

/-- Valid, and no deeper than may be. -/
def Rs.okv : Rs → Prop
  | .ok x _ => vE x ∧ x.depth ≤ 40
  | .er _ _ => True
theorem mk_okv {x : Ex} {k : Nat} (h : vE x) : (mk x k).okv := by
  unfold mk
  split
  · trivial
  · exact ⟨h, by omega⟩
theorem opk_kd {ts : List Tk} {lv k : Nat} {c : Int} (h : opk ts lv k = some c) : 6 ≤ c ∧ c ≤ 13 := by
  unfold opk at h
  split at h <;> repeat' split at h
  all_goals first | (cases h; done) | (injection h with h; omega)
theorem prek_kd {ts : List Tk} {k : Nat} {c : Int} (h : prek ts k = some c) : c = 14 ∨ c = 16 ∨ c = 17 ∨ c = 18 := by
  unfold prek at h
  repeat' split at h
  all_goals first | (cases h; done) | (injection h with h; omega)
theorem loop_okv {ts : List Tk} {lv : Nat} {sub : Nat → Rs} (hs : ∀ k, (sub k).okv) : ∀ (f : Nat) (x : Ex) (k : Nat), vE x ∧ x.depth ≤ 40 → (loopL ts lv sub f x k).okv
  | 0, x, k, h => h
  | f + 1, x, k, h => by
    unfold loopL
    cases ho : opk ts lv k with
    | none => exact h
    | some kd =>
      have h2 := hs (k + 1)
      simp only
      cases hr : sub (k + 1) with
      | er e j => trivial
      | ok y j =>
        rw [hr] at h2
        simp only
        have h3 := mk_okv (x := .two kd x y) (k := j) ⟨.inl (opk_kd ho), h.1, h2.1⟩
        cases hm : mk (.two kd x y) j with
        | er e i => trivial
        | ok z i =>
          rw [hm] at h3
          simp only
          split
          · exact h3
          · exact loop_okv hs f z i h3
theorem bin_okv {ts : List Tk} {u : Nat → Rs} (hu : ∀ k, (u k).okv) : ∀ (j k : Nat), (binL ts u j k).okv
  | 0, k => hu k
  | j + 1, k => by
    unfold binL
    have h2 := bin_okv (ts := ts) hu j k
    cases hr : binL ts u j k with
    | er e i => trivial
    | ok x i => rw [hr] at h2; exact loop_okv (bin_okv hu j) _ x i h2
theorem pair_okv {ts : List Tk} {E : Nat → Rs} (hE : ∀ k, (E k).okv) {kd : Int} (hk : kd = 15 ∨ kd = 19) {x : Ex} (hx : vE x) (j : Nat) : (pairL ts E kd x j).okv := by
  unfold pairL
  split
  · have h2 := hE (j + 1)
    cases hr : E (j + 1) with
    | er e i => trivial
    | ok y i =>
      rw [hr] at h2
      simp only
      split
      · exact mk_okv ⟨.inr hk, hx, h2.1⟩
      · trivial
  · trivial
theorem prim_okv {ts : List Tk} (hok : NamesOk ts) (hnk : NumsOk ts) {E : Nat → Rs} (hE : ∀ k, (E k).okv) (k : Nat) : (primL ts E k).okv := by
  unfold primL
  cases hn : numAt ts k with
  | some n => exact ⟨.inl ⟨rfl, by omega, by have := hnk.1 k n hn; omega, rfl⟩, by simp [Ex.depth]⟩
  | none =>
    simp only
    cases hs : nameAt ts k with
    | some s => exact ⟨.inr (.inr (.inl ⟨.inl rfl, rfl, hok k s hs⟩)), by simp [Ex.depth]⟩
    | none =>
      simp only
      split
      · cases hb : nameAt ts (k + 1) with
        | some s => exact ⟨.inr (.inr (.inl ⟨.inr rfl, rfl, hok _ s hb⟩)), by simp [Ex.depth]⟩
        | none => trivial
      · split
        · exact ⟨.inr (.inl ⟨rfl, .inr rfl, rfl⟩), by decide⟩
        · split
          · exact ⟨.inr (.inl ⟨rfl, .inl rfl, rfl⟩), by decide⟩
          · split
            · exact ⟨.inr (.inr (.inr ⟨.inl rfl, rfl, rfl⟩)), by decide⟩
            · split
              · exact ⟨.inr (.inr (.inr ⟨.inr rfl, rfl, rfl⟩)), by decide⟩
              · split
                · have h2 := hE (k + 1)
                  cases hr : E (k + 1) with
                  | er e i => trivial
                  | ok x i =>
                    rw [hr] at h2
                    simp only
                    split
                    · exact h2
                    · exact pair_okv hE (.inl rfl) h2.1 i
                · split
                  · split
                    · have h2 := hE (k + 2)
                      cases hr : E (k + 2) with
                      | er e i => trivial
                      | ok x i => rw [hr] at h2; exact pair_okv hE (.inr rfl) h2.1 i
                    · trivial
                  · trivial
theorem una_okv {ts : List Tk} (hok : NamesOk ts) (hnk : NumsOk ts) : ∀ (m k : Nat), (unaL ts m k).okv
  | 0, k => trivial
  | m + 1, k => by
    have ih := una_okv hok hnk m
    unfold unaL
    cases hp : prek ts k with
    | some kd =>
      have h2 := ih (k + 1)
      simp only
      cases hr : unaL ts m (k + 1) with
      | er e i => trivial
      | ok x i => rw [hr] at h2; exact mk_okv ⟨prek_kd hp, h2.1⟩
    | none =>
      simp only
      split
      · cases hb : numAt ts (k + 1) with
        | some n => exact ⟨.inl ⟨rfl, by have := hnk.1 _ n hb; omega, by omega, rfl⟩, by simp [Ex.depth]⟩
        | none => trivial
      · exact prim_okv hok hnk (bin_okv ih 5) k
theorem par_okv {ts : List Tk} (hok : NamesOk ts) (hnk : NumsOk ts) (k : Nat) : (parL ts k).okv := by
  unfold parL
  split
  · exact bin_okv (una_okv hok hnk 40) 5 k
  · trivial
end Go.Proofs.YtadpihipnffiaaaDoor
