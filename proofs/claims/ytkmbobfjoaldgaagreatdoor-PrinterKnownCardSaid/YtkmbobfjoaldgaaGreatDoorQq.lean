/-
  What package expr's primary does with a parser in memory: far. Conditions: names among the tokens are names; what it calls does as the model says.
-/
import Derived.Test.YtkmbobfjoaldgaaGreatDoorQm
namespace Go.Proofs.YtkmbobfjoaldgaaGreatDoor
open Go.ChangeShapes Go.WideShapes Go.ChangeAt Go.RowKit
set_option maxRecDepth 100000
set_option maxHeartbeats 4000000

theorem prim_far {gp g n cp B d d1 D : Nat} {ts : List Tk} {E : Nat → Rs} (HE : BinOk gp g n cp B ts 0 d1 D E) (hd1 : d1 = d + 1) (hds : d ≤ 1000) (hD : D ≤ 9000) (hB : B ≤ gp) (hok : NamesOk ts) {w : World} {k : Nat} (h : PS w gp g n cp ts k 0) (hv : LV w B) (h3 : (nxt ts k 0).kd ≠ 3) (h1 : (nxt ts k 0).kd ≠ 1) (c39 : acc (nxt ts k 0) [39] = false) (cT : acc (nxt ts k 0) [116, 114, 117, 101] = false) (cF : acc (nxt ts k 0) [102, 97, 108, 115, 101] = false) (cS : acc (nxt ts k 0) [115, 101, 108, 102] = false) (cM : acc (nxt ts k 0) [116, 105, 109, 101] = false) (cP : acc (nxt ts k 0) [40] = false) (hy : acc (nxt ts k 0) [102, 97, 114] = true) :
    Calls Tryz.prog 179 #[.pointer (some ⟨gp, 0, none⟩), .int .i64 (d : Int)] w (XP w NoB gp g n cp ts (primL ts E k) k 0 (D + 2)) := by
  have HOO := Lib.hid (fun (k1 e1 k2 e2 : Nat) (y : Ex) (hk1 : k1 = if acc (nxt ts (k + 1) 0) [40] = true then k + 1 + 1 else k + 1) (he1 : e1 = if acc (nxt ts (k + 1) 0) [40] = true then 0 else 2) (ho : Out (E k1) k1 e1 y k2 e2) => out_far h3 h1 c39 cT cF cS cM cP hy hk1 he1 ho)
  have hwr : IntKind.i64.wrap ((d : Int) + 1) = (d1 : Int) := by rw [show (d : Int) + 1 = (d1 : Int) from by omega]; exact IntWalk.i64_in _ (by omega)
  have HEE := Lib.hid (And.intro HE (And.intro hB (And.intro hD (And.intro hd1 hds))))
  have HV := Lib.hid hv
  have _ := hok
  clear hd1 hds hD hB HE hv
  obtain ⟨W0, hW0⟩ : ∃ W, w.alloc (.cells #[.int .i64 0, .int .i64 0, .string ⟨#[]⟩, .slice none 0 0] 44) = W := ⟨_, rfl⟩
  have hT0 : Touch NoB w W0 := by rw [← hW0]; exact (Touch.refl _ _).alloc _
  have hb4 : XB W0 w.heap.size 0 0 ⟨#[]⟩ none 0 0 := by rw [← hW0]; exact XB.new w _ _ _ _ _ _ rfl
  have hs0 : W0.heap.size = w.heap.size + 1 := by rw [← hW0]; simp only [World.size_alloc]
  have hgp := blk_lt h.blk
  have hgl := h.tl.lt
  have HP := Lib.hid (h.touch hT0)
  have HB4 := Lib.hid hb4
  have HT0 := Lib.hid hT0
  have HN := Lib.hid (fun (W : World) (t : Touch NoB W0 W) => next_any ((h.touch hT0).touch t))
  have hk3 : (((nxt ts k 0).kd : Int) == 3) = false := by rw [show (3 : Int) = ((3 : Nat) : Int) from rfl, eqq_nat]; simpa using h3
  have hk1 : (((nxt ts k 0).kd : Int) == 1) = false := by rw [show (1 : Int) = ((1 : Nat) : Int) from rfl, eqq_nat]; simpa using h1
  have Hc39 : Hid (∀ W, Touch NoB W0 W → Calls Tryz.prog 80 #[.pointer (some ⟨gp, 0, none⟩), .string ⟨#[39]⟩] W fun x w' => x = .returned (.bool false) ∧ PS w' gp g n cp ts k 0 ∧ Touch NoB W w') := Lib.hid (fun W t => accept_no (s := [39]) ((h.touch hT0).touch t) c39)
  have HcT : Hid (∀ W, Touch NoB W0 W → Calls Tryz.prog 80 #[.pointer (some ⟨gp, 0, none⟩), .string ⟨#[116, 114, 117, 101]⟩] W fun x w' => x = .returned (.bool false) ∧ PS w' gp g n cp ts k 0 ∧ Touch NoB W w') := Lib.hid (fun W t => accept_no (s := [116, 114, 117, 101]) ((h.touch hT0).touch t) cT)
  have HcF : Hid (∀ W, Touch NoB W0 W → Calls Tryz.prog 80 #[.pointer (some ⟨gp, 0, none⟩), .string ⟨#[102, 97, 108, 115, 101]⟩] W fun x w' => x = .returned (.bool false) ∧ PS w' gp g n cp ts k 0 ∧ Touch NoB W w') := Lib.hid (fun W t => accept_no (s := [102, 97, 108, 115, 101]) ((h.touch hT0).touch t) cF)
  have HcS : Hid (∀ W, Touch NoB W0 W → Calls Tryz.prog 80 #[.pointer (some ⟨gp, 0, none⟩), .string ⟨#[115, 101, 108, 102]⟩] W fun x w' => x = .returned (.bool false) ∧ PS w' gp g n cp ts k 0 ∧ Touch NoB W w') := Lib.hid (fun W t => accept_no (s := [115, 101, 108, 102]) ((h.touch hT0).touch t) cS)
  have HcM : Hid (∀ W, Touch NoB W0 W → Calls Tryz.prog 80 #[.pointer (some ⟨gp, 0, none⟩), .string ⟨#[116, 105, 109, 101]⟩] W fun x w' => x = .returned (.bool false) ∧ PS w' gp g n cp ts k 0 ∧ Touch NoB W w') := Lib.hid (fun W t => accept_no (s := [116, 105, 109, 101]) ((h.touch hT0).touch t) cM)
  have HcP : Hid (∀ W, Touch NoB W0 W → Calls Tryz.prog 80 #[.pointer (some ⟨gp, 0, none⟩), .string ⟨#[40]⟩] W fun x w' => x = .returned (.bool false) ∧ PS w' gp g n cp ts k 0 ∧ Touch NoB W w') := Lib.hid (fun W t => accept_no (s := [40]) ((h.touch hT0).touch t) cP)
  have HY : Hid (∀ W, Touch NoB W0 W → Calls Tryz.prog 80 #[.pointer (some ⟨gp, 0, none⟩), .string ⟨#[102, 97, 114]⟩] W fun x w' => x = .returned (.bool true) ∧ PS w' gp g n cp ts (k + 1) 0 ∧ Touch (AtB gp) W w') := Lib.hid (fun W t => accept_yes (s := [102, 97, 114]) ((h.touch hT0).touch t) hy)
  have hfd := fun (a b c d : Value) (W : World) => tok_kd a b c d W
  obtain ⟨kd, hkd⟩ : ∃ kd, (nxt ts k 0).kd = kd := ⟨_, rfl⟩
  obtain ⟨nn, hnn⟩ : ∃ nn, (nxt ts k 0).n = nn := ⟨_, rfl⟩
  obtain ⟨pl, hpl⟩ : ∃ pl, (nxt ts k 0).pl = pl := ⟨_, rfl⟩
  obtain ⟨tx, htx⟩ : ∃ tx, bs (nxt ts k 0).tx = tx := ⟨_, rfl⟩
  simp only [hkd, hnn, hpl, htx] at HN
  rw [hkd] at hk3 hk1
  clear h hT0 hb4 hkd hnn hpl htx
  go_enter Tryz.func179, Tryz.ntmps179
  go_wp2_with fail
  refine (HN.out _ (Touch.refl _ _)).mono ?_
  rintro r W1 ⟨rfl, hT⟩
  have HT := Lib.hid hT
  clear hT
  go_wp2_with fail
  refine (HN.out _ HT.out).mono ?_
  rintro r W2 ⟨rfl, hT⟩
  have HT := Lib.hid (HT.out.same hT)
  clear hT
  go_wp2_with fail
  refine (Hc39.out _ HT.out).mono ?_
  rintro r U0 ⟨rfl, -, hT⟩
  have HT := Lib.hid (HT.out.same hT)
  clear hT
  go_wp2_with fail
  refine (HcT.out _ HT.out).mono ?_
  rintro r U1 ⟨rfl, -, hT⟩
  have HT := Lib.hid (HT.out.same hT)
  clear hT
  go_wp2_with fail
  refine (HcF.out _ HT.out).mono ?_
  rintro r U2 ⟨rfl, -, hT⟩
  have HT := Lib.hid (HT.out.same hT)
  clear hT
  go_wp2_with fail
  refine (HcS.out _ HT.out).mono ?_
  rintro r U3 ⟨rfl, -, hT⟩
  have HT := Lib.hid (HT.out.same hT)
  clear hT
  go_wp2_with fail
  refine (HcM.out _ HT.out).mono ?_
  rintro r U4 ⟨rfl, -, hT⟩
  have HT := Lib.hid (HT.out.same hT)
  clear hT
  go_wp2_with fail
  refine (HcP.out _ HT.out).mono ?_
  rintro r U5 ⟨rfl, -, hT⟩
  have HT := Lib.hid (HT.out.same hT)
  clear hT
  go_wp2_with fail
  refine (HY.out _ HT.out).mono ?_
  rintro r V ⟨rfl, hp, hT⟩
  have hTV : Touch (AtB gp) W0 V := (Touch.anyB HT.out).same hT
  have HX1 : Hid (Calls Tryz.prog 83 #[.pointer (some ⟨gp, 0, none⟩), .string ⟨#[40]⟩] V fun x w' => x = .returned (.tuple #[]) ∧
      PS w' gp g n cp ts (if acc (nxt ts (k + 1) 0) [40] = true then k + 1 + 1 else k + 1) (if acc (nxt ts (k + 1) 0) [40] = true then 0 else 2) ∧ Touch (AtB gp) V w') := Lib.hid (expect_zero (s := [40]) hp)
  have HTV := Lib.hid hTV
  clear hp hT hTV
  go_wp2_with fail
  refine HX1.out.mono ?_
  rintro r w1 ⟨rfl, hp1, hT1⟩
  obtain ⟨k1, hk1⟩ : ∃ k1, (if acc (nxt ts (k + 1) 0) [40] = true then k + 1 + 1 else k + 1) = k1 := ⟨_, rfl⟩
  obtain ⟨e1, he1⟩ : ∃ e1, (if acc (nxt ts (k + 1) 0) [40] = true then 0 else 2) = e1 := ⟨_, rfl⟩
  rw [hk1, he1] at hp1
  have hT01 : Touch (AtB gp) W0 w1 := HTV.out.same hT1
  have hTw1 : Touch (AtB gp) w w1 := (Touch.anyB HT0.out).same hT01
  have HC := Lib.hid (HEE.out.1 w1 k1 e1 hp1 (HV.out.touchP hTw1 HEE.out.2.1))
  have HT1 := Lib.hid (And.intro hT01 (And.intro hk1.symm he1.symm))
  clear hk1 he1 hp1 hT1 hT01 hTw1 HX1
  go_wp2_with fail
  refine HC.out.mono ?_
  rintro r w2 ⟨hT2, y, k2, e2, a2, b2, s2, A2, m2, c2, rfl, hy2, hp2, ho2, hyd⟩
  have hT02 : Touch (AtB gp) W0 w2 := HT1.out.1.same hT2
  have HPR := Lib.hid (pair_any HEE.out.1 HEE.out.2.2.2.1 HEE.out.2.2.2.2 (by have := HEE.out.2.2.1; omega) HEE.out.2.1 hp2 (HV.out.touchP ((Touch.anyB HT0.out).same hT02) HEE.out.2.1) hy2 hyd 19)
  have HO2 := Lib.hid (HOO.out k1 e1 k2 e2 y HT1.out.2.1 HT1.out.2.2 ho2)
  have HT2 := Lib.hid (And.intro hT02 hT2.size)
  have hVs : w.heap.size < w1.heap.size := by have := HT1.out.1.size; omega
  clear hT2 hT02 hy2 hp2 ho2 hyd HC
  go_wp2_with fail
  refine HPR.out.mono ?_
  rintro r w4 ⟨hT4, z, k3, e3, a3, b3, s3, A3, m3, c3, rfl, hz, hp4, ho4, hzd⟩
  have HQ := Lib.hid (And.intro hp4 (HT2.out.1.same hT4))
  have hz' : ET w4 (fun b => NoB b ∨ w1.heap.size ≤ b) z a3 b3 s3 A3 m3 c3 := hz.via (fun b h1 _ => by rcases h1 with h1 | h1; exact h1; exact .inr (Nat.le_trans HT2.out.2 h1))
  have HZ := Lib.hid (And.intro hz' (And.intro (HO2.out z k3 e3 ho4) hzd))
  clear hp4 hT4 hz hz' ho4 hzd
  have hb4 := HB4.out.go HQ.out.2 (by omega)
  obtain ⟨z0, z1, z2, z3, z4⟩ := hb4.cells
  obtain ⟨f0, f1, f2, f3⟩ := hb4.free
  clear hb4
  go_wp2
  have hTE := touch4 (F := AtB gp) ((Touch.anyB (F := AtB gp) HT0.out).same HQ.out.2) (.inr (Nat.le_refl w.heap.size)) (.int .i64 a3) (.int .i64 b3) (.string s3) (.slice A3 m3 c3)
  have hTX := touch4 (F := fun b => b = w.heap.size) (Touch.refl _ w4) (.inl rfl) (.int .i64 a3) (.int .i64 b3) (.string s3) (.slice A3 m3 c3)
  exact bodyPost_ret (v := .agg #[.int .i64 a3, .int .i64 b3, .string s3, .slice A3 m3 c3]) (by simp [results, Tryz.results179, go_sem, z0, z1, z2, z3]) rfl ⟨hTE, z, k3, e3, _, _, _, _, _, _, rfl, (HZ.out.1.aside hTX (by intro q; rcases q with q | q; exact q.elim; omega)).via (fun b h1 _ => by rcases h1 with h1 | h1; exact h1.elim; exact .inr (by omega)), HQ.out.1.touchX hTX hgp hgl, HZ.out.2.1, by have := HZ.out.2.2; omega⟩
end Go.Proofs.YtkmbobfjoaldgaaGreatDoor
