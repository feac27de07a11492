/-
  What package expr's primary does with a parser in memory: parentheses. Conditions: names among the tokens are names; what it calls does as the model says.
-/
import Derived.Test.YtkmbobfjoaldgaaGreatDoorQm
namespace Go.Proofs.YtkmbobfjoaldgaaGreatDoor
open Go.ChangeShapes Go.WideShapes Go.ChangeAt Go.RowKit
set_option maxRecDepth 100000
set_option maxHeartbeats 4000000

theorem prim_par {gp g n cp B d d1 D : Nat} {ts : List Tk} {E : Nat → Rs} (HE : BinOk gp g n cp B ts 0 d1 D E) (hd1 : d1 = d + 1) (hds : d ≤ 1000) (hD : D ≤ 9000) (hB : B ≤ gp) (hok : NamesOk ts) {w : World} {k : Nat} (h : PS w gp g n cp ts k 0) (hv : LV w B) (h3 : (nxt ts k 0).kd ≠ 3) (h1 : (nxt ts k 0).kd ≠ 1) (c39 : acc (nxt ts k 0) [39] = false) (cT : acc (nxt ts k 0) [116, 114, 117, 101] = false) (cF : acc (nxt ts k 0) [102, 97, 108, 115, 101] = false) (cS : acc (nxt ts k 0) [115, 101, 108, 102] = false) (cM : acc (nxt ts k 0) [116, 105, 109, 101] = false) (hy : acc (nxt ts k 0) [40] = true) :
    Calls Tryz.prog 179 #[.pointer (some ⟨gp, 0, none⟩), .int .i64 (d : Int)] w (XP w NoB gp g n cp ts (primL ts E k) k 0 (D + 2)) := by
  have HOO := Lib.hid (fun (k2 e2 : Nat) (y : Ex) (ho : Out (E (k + 1)) (k + 1) 0 y k2 e2) => out_paren h3 h1 c39 cT cF cS cM hy ho)
  have hwr : IntKind.i64.wrap ((d : Int) + 1) = (d1 : Int) := by rw [show (d : Int) + 1 = (d1 : Int) from by omega]; exact IntWalk.i64_in _ (by omega)
  have HEE := Lib.hid (And.intro HE (And.intro hB (And.intro hD (And.intro hd1 hds))))
  have HV := Lib.hid hv
  have _ := hok
  clear hd1 hds hD hB HE hv
  obtain ⟨W0, hW0⟩ : ∃ W, w.alloc (.cells #[.int .i64 0, .int .i64 0, .string ⟨#[]⟩, .slice none 0 0] 44) = W := ⟨_, rfl⟩
  have hT0 : Touch NoB w W0 := by rw [← hW0]; exact (Touch.refl _ _).alloc _
  have hb4 : XB W0 w.heap.size 0 0 ⟨#[]⟩ none 0 0 := by rw [← hW0]; exact XB.new w _ _ _ _ _ _ rfl
  have hs0 : W0.heap.size = w.heap.size + 1 := by rw [← hW0]; simp only [World.size_alloc]
  have hgp := blk_lt h.blk
  have hgl := h.tl.lt
  have HP := Lib.hid (h.touch hT0)
  have HB4 := Lib.hid hb4
  have HT0 := Lib.hid hT0
  have HN := Lib.hid (fun (W : World) (t : Touch NoB W0 W) => next_any ((h.touch hT0).touch t))
  have hk3 : (((nxt ts k 0).kd : Int) == 3) = false := by rw [show (3 : Int) = ((3 : Nat) : Int) from rfl, eqq_nat]; simpa using h3
  have hk1 : (((nxt ts k 0).kd : Int) == 1) = false := by rw [show (1 : Int) = ((1 : Nat) : Int) from rfl, eqq_nat]; simpa using h1
  have Hc39 : Hid (∀ W, Touch NoB W0 W → Calls Tryz.prog 80 #[.pointer (some ⟨gp, 0, none⟩), .string ⟨#[39]⟩] W fun x w' => x = .returned (.bool false) ∧ PS w' gp g n cp ts k 0 ∧ Touch NoB W w') := Lib.hid (fun W t => accept_no (s := [39]) ((h.touch hT0).touch t) c39)
  have HcT : Hid (∀ W, Touch NoB W0 W → Calls Tryz.prog 80 #[.pointer (some ⟨gp, 0, none⟩), .string ⟨#[116, 114, 117, 101]⟩] W fun x w' => x = .returned (.bool false) ∧ PS w' gp g n cp ts k 0 ∧ Touch NoB W w') := Lib.hid (fun W t => accept_no (s := [116, 114, 117, 101]) ((h.touch hT0).touch t) cT)
  have HcF : Hid (∀ W, Touch NoB W0 W → Calls Tryz.prog 80 #[.pointer (some ⟨gp, 0, none⟩), .string ⟨#[102, 97, 108, 115, 101]⟩] W fun x w' => x = .returned (.bool false) ∧ PS w' gp g n cp ts k 0 ∧ Touch NoB W w') := Lib.hid (fun W t => accept_no (s := [102, 97, 108, 115, 101]) ((h.touch hT0).touch t) cF)
  have HcS : Hid (∀ W, Touch NoB W0 W → Calls Tryz.prog 80 #[.pointer (some ⟨gp, 0, none⟩), .string ⟨#[115, 101, 108, 102]⟩] W fun x w' => x = .returned (.bool false) ∧ PS w' gp g n cp ts k 0 ∧ Touch NoB W w') := Lib.hid (fun W t => accept_no (s := [115, 101, 108, 102]) ((h.touch hT0).touch t) cS)
  have HcM : Hid (∀ W, Touch NoB W0 W → Calls Tryz.prog 80 #[.pointer (some ⟨gp, 0, none⟩), .string ⟨#[116, 105, 109, 101]⟩] W fun x w' => x = .returned (.bool false) ∧ PS w' gp g n cp ts k 0 ∧ Touch NoB W w') := Lib.hid (fun W t => accept_no (s := [116, 105, 109, 101]) ((h.touch hT0).touch t) cM)
  have HY : Hid (∀ W, Touch NoB W0 W → Calls Tryz.prog 80 #[.pointer (some ⟨gp, 0, none⟩), .string ⟨#[40]⟩] W fun x w' => x = .returned (.bool true) ∧ PS w' gp g n cp ts (k + 1) 0 ∧ Touch (AtB gp) W w') := Lib.hid (fun W t => accept_yes (s := [40]) ((h.touch hT0).touch t) hy)
  have hfd := fun (a b c d : Value) (W : World) => tok_kd a b c d W
  obtain ⟨kd, hkd⟩ : ∃ kd, (nxt ts k 0).kd = kd := ⟨_, rfl⟩
  obtain ⟨nn, hnn⟩ : ∃ nn, (nxt ts k 0).n = nn := ⟨_, rfl⟩
  obtain ⟨pl, hpl⟩ : ∃ pl, (nxt ts k 0).pl = pl := ⟨_, rfl⟩
  obtain ⟨tx, htx⟩ : ∃ tx, bs (nxt ts k 0).tx = tx := ⟨_, rfl⟩
  simp only [hkd, hnn, hpl, htx] at HN
  rw [hkd] at hk3 hk1
  clear h hT0 hb4 hkd hnn hpl htx
  go_enter Tryz.func179, Tryz.ntmps179
  go_wp2_with fail
  refine (HN.out _ (Touch.refl _ _)).mono ?_
  rintro r W1 ⟨rfl, hT⟩
  have HT := Lib.hid hT
  clear hT
  go_wp2_with fail
  refine (HN.out _ HT.out).mono ?_
  rintro r W2 ⟨rfl, hT⟩
  have HT := Lib.hid (HT.out.same hT)
  clear hT
  go_wp2_with fail
  refine (Hc39.out _ HT.out).mono ?_
  rintro r U0 ⟨rfl, -, hT⟩
  have HT := Lib.hid (HT.out.same hT)
  clear hT
  go_wp2_with fail
  refine (HcT.out _ HT.out).mono ?_
  rintro r U1 ⟨rfl, -, hT⟩
  have HT := Lib.hid (HT.out.same hT)
  clear hT
  go_wp2_with fail
  refine (HcF.out _ HT.out).mono ?_
  rintro r U2 ⟨rfl, -, hT⟩
  have HT := Lib.hid (HT.out.same hT)
  clear hT
  go_wp2_with fail
  refine (HcS.out _ HT.out).mono ?_
  rintro r U3 ⟨rfl, -, hT⟩
  have HT := Lib.hid (HT.out.same hT)
  clear hT
  go_wp2_with fail
  refine (HcM.out _ HT.out).mono ?_
  rintro r U4 ⟨rfl, -, hT⟩
  have HT := Lib.hid (HT.out.same hT)
  clear hT
  go_wp2_with fail
  refine (HY.out _ HT.out).mono ?_
  rintro r V ⟨rfl, hp, hT⟩
  have hTV : Touch (AtB gp) W0 V := (Touch.anyB HT.out).same hT
  have hTwV : Touch (AtB gp) w V := (Touch.anyB HT0.out).same hTV
  have HC := Lib.hid (HEE.out.1 V (k + 1) 0 hp (HV.out.touchP hTwV HEE.out.2.1))
  have HTV := Lib.hid (And.intro hTV hTwV)
  clear hp hT hTV hTwV
  go_wp2_with fail
  refine HC.out.mono ?_
  rintro r w2 ⟨hT2, y, k2, e2, a2, b2, s2, A2, m2, c2, rfl, hy2, hp2, ho2, hyd⟩
  obtain ⟨W2, hW2⟩ : ∃ W, w2.alloc (.cells #[.int .i64 a2, .int .i64 b2, .string s2, .slice A2 m2 c2] 44) = W := ⟨_, rfl⟩
  have hTA : Touch NoB w2 W2 := by rw [← hW2]; exact (Touch.refl _ _).alloc _
  have hb5 : XB W2 w2.heap.size a2 b2 s2 A2 m2 c2 := by rw [← hW2]; exact XB.new _ _ _ _ _ _ _ rfl
  have hs2 : w.heap.size < w2.heap.size := by have := HTV.out.1.size; have := hT2.size; omega
  have HT2 := Lib.hid (show Touch (AtB gp) W0 W2 from HTV.out.1.same (hT2.same (Touch.anyB hTA)))
  have hVs : w.heap.size < V.heap.size := by have := HTV.out.1.size; omega
  have HVW := Lib.hid (show V.heap.size ≤ W2.heap.size from Nat.le_trans hT2.size hTA.size)
  have HB5 := Lib.hid hb5
  have HO2 := Lib.hid (And.intro (HOO.out k2 e2 y ho2) hyd)
  have hp2' := hp2.touch hTA
  have HX := Lib.hid (And.intro hp2' (And.intro (hy2.touch0 hTA) (hp2'.nox (fun b => NoB b ∨ V.heap.size ≤ b))))
  clear hT2 hy2 hp2 hp2' ho2 hyd hTA hb5
  cases ha : acc (nxt ts k2 e2) [41]
  · have HA : Hid (Calls Tryz.prog 80 #[.pointer (some ⟨gp, 0, none⟩), .string ⟨#[41]⟩] W2 fun x w' => x = .returned (.bool false) ∧ PS w' gp g n cp ts k2 e2 ∧ Touch NoB W2 w') := Lib.hid (accept_no (s := [41]) HX.out.1 ha)
    have HAF := Lib.hid ha
    clear ha
    go_wp2_with fail
    refine HA.out.mono ?_
    rintro r w3 ⟨rfl, hp3, hT3⟩
    have hT03 : Touch (AtB gp) W0 w3 := HT2.out.same (Touch.anyB hT3)
    obtain ⟨p50, p51, p52, p53, p54⟩ := (HB5.out.go (gp := gp) (Touch.anyB hT3) (by omega)).cells
    have HPR := Lib.hid (pair_any HEE.out.1 HEE.out.2.2.2.1 HEE.out.2.2.2.2 (by have := HEE.out.2.2.1; omega) HEE.out.2.1 hp3 (HV.out.touchP ((Touch.anyB HT0.out).same hT03) HEE.out.2.1) (HX.out.2.1.touch0 hT3) HO2.out.2 15)
    have HT3 := Lib.hid (And.intro hT03 (Nat.le_trans HVW.out hT3.size))
    clear hT3 hp3 hT03
    go_wp2_with fail
    refine HPR.out.mono ?_
    rintro r w4 ⟨hT4, z, k3, e3, a3, b3, s3, A3, m3, c3, rfl, hz, hp4, ho4, hzd⟩
    have HQ := Lib.hid (And.intro hp4 (HT3.out.1.same hT4))
    have hz' : ET w4 (fun b => NoB b ∨ V.heap.size ≤ b) z a3 b3 s3 A3 m3 c3 := hz.via (fun b h1 _ => by rcases h1 with h1 | h1; exact h1; exact .inr (Nat.le_trans HT3.out.2 h1))
    have HZ := Lib.hid (And.intro hz' (And.intro (HO2.out.1.2 z k3 e3 HAF.out ho4) hzd))
    clear hp4 hT4 hz hz' ho4 hzd
    have hb4 := HB4.out.go HQ.out.2 (by omega)
    obtain ⟨z0, z1, z2, z3, z4⟩ := hb4.cells
    obtain ⟨f0, f1, f2, f3⟩ := hb4.free
    clear hb4
    go_wp2
    have hTE := touch4 (F := AtB gp) ((Touch.anyB (F := AtB gp) HT0.out).same HQ.out.2) (.inr (Nat.le_refl w.heap.size)) (.int .i64 a3) (.int .i64 b3) (.string s3) (.slice A3 m3 c3)
    have hTX := touch4 (F := fun b => b = w.heap.size) (Touch.refl _ w4) (.inl rfl) (.int .i64 a3) (.int .i64 b3) (.string s3) (.slice A3 m3 c3)
    exact bodyPost_ret (v := .agg #[.int .i64 a3, .int .i64 b3, .string s3, .slice A3 m3 c3]) (by simp [results, Tryz.results179, go_sem, z0, z1, z2, z3]) rfl ⟨hTE, z, k3, e3, _, _, _, _, _, _, rfl, (HZ.out.1.aside hTX (by intro q; rcases q with q | q; exact q.elim; omega)).via (fun b h1 _ => by rcases h1 with h1 | h1; exact h1.elim; exact .inr (by omega)), HQ.out.1.touchX hTX hgp hgl, HZ.out.2.1, by have := HZ.out.2.2; omega⟩
  · have HA : Hid (Calls Tryz.prog 80 #[.pointer (some ⟨gp, 0, none⟩), .string ⟨#[41]⟩] W2 fun x w' => x = .returned (.bool true) ∧ PS w' gp g n cp ts (k2 + 1) e2 ∧ Touch (AtB gp) W2 w') := Lib.hid (accept_yes (s := [41]) HX.out.1 ha)
    have HOY := Lib.hid (HO2.out.1.1 ha)
    clear ha
    go_wp2_with fail
    refine HA.out.mono ?_
    rintro r w3 ⟨rfl, hp3, hT3⟩
    obtain ⟨p50, p51, p52, p53, p54⟩ := (HB5.out.go hT3 (by omega)).cells
    have HQ := Lib.hid (And.intro hp3 (HT2.out.same hT3))
    have HZ := Lib.hid (HX.out.2.1.touch hT3 HX.out.2.2)
    clear hT3 hp3
    have hb4 := HB4.out.go HQ.out.2 (by omega)
    obtain ⟨z0, z1, z2, z3, z4⟩ := hb4.cells
    obtain ⟨f0, f1, f2, f3⟩ := hb4.free
    clear hb4
    go_wp2
    have hTE := touch4 (F := AtB gp) ((Touch.anyB (F := AtB gp) HT0.out).same HQ.out.2) (.inr (Nat.le_refl w.heap.size)) (.int .i64 a2) (.int .i64 b2) (.string s2) (.slice A2 m2 c2)
    have hTX := touch4 (F := fun b => b = w.heap.size) (Touch.refl _ w3) (.inl rfl) (.int .i64 a2) (.int .i64 b2) (.string s2) (.slice A2 m2 c2)
    exact bodyPost_ret (v := .agg #[.int .i64 a2, .int .i64 b2, .string s2, .slice A2 m2 c2]) (by simp [results, Tryz.results179, go_sem, z0, z1, z2, z3]) rfl ⟨hTE, y, k2 + 1, e2, _, _, _, _, _, _, rfl, (HZ.out.aside hTX (by intro q; rcases q with q | q; exact q.elim; omega)).via (fun b h1 _ => by rcases h1 with h1 | h1; exact h1.elim; exact .inr (by omega)), HQ.out.1.touchX hTX hgp hgl, HOY.out, by have := HO2.out.2; omega⟩
end Go.Proofs.YtkmbobfjoaldgaaGreatDoor
