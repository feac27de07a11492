/-
  What package expr's primary does with a parser in memory: a symbol, parentheses, far. Conditions: names among the tokens are names; what it calls does as the model says.
-/
import Derived.Test.YtkmbobfjoaldgaaGreatDoorQl
namespace Go.Proofs.YtkmbobfjoaldgaaGreatDoor
open Go.ChangeShapes Go.WideShapes Go.ChangeAt Go.RowKit
set_option maxRecDepth 100000
set_option maxHeartbeats 4000000

theorem expect_zero {w : World} {gp g n cp : Nat} {ts : List Tk} {k : Nat} {s : Bs} (h : PS w gp g n cp ts k 0) :
    Calls Tryz.prog 83 #[.pointer (some ⟨gp, 0, none⟩), .string (bs s)] w fun x w' => x = .returned (.tuple #[]) ∧
      PS w' gp g n cp ts (if acc (nxt ts k 0) s = true then k + 1 else k) (if acc (nxt ts k 0) s = true then 0 else 2) ∧ Touch (AtB gp) w w' := (expect_any h).mono (fun x w' q => by simpa using q)
theorem out_paren {ts : List Tk} {E : Nat → Rs} {k k2 e2 : Nat} {y : Ex} (h3 : (nxt ts k 0).kd ≠ 3) (h1 : (nxt ts k 0).kd ≠ 1) (c39 : acc (nxt ts k 0) [39] = false) (cT : acc (nxt ts k 0) [116, 114, 117, 101] = false) (cF : acc (nxt ts k 0) [102, 97, 108, 115, 101] = false) (cS : acc (nxt ts k 0) [115, 101, 108, 102] = false) (cM : acc (nxt ts k 0) [116, 105, 109, 101] = false) (hy : acc (nxt ts k 0) [40] = true)
    (ho : Out (E (k + 1)) (k + 1) 0 y k2 e2) :
    (acc (nxt ts k2 e2) [41] = true → Out (primL ts E k) k 0 y (k2 + 1) e2) ∧ (∀ z k3 e3, acc (nxt ts k2 e2) [41] = false → Out (pairL ts E 15 y k2) k2 e2 z k3 e3 → Out (primL ts E k) k 0 z k3 e3) := by
  have hp : primL ts E k = match E (k + 1) with
        | .er e i => .er e i
        | .ok x i => if sg ts i [41] = true then .ok x (i + 1) else pairL ts E 15 x i := by
    unfold primL
    rw [num_nof h3, nam_nof h1]
    rw [acc_ok] at c39 cT cF cS cM hy
    simp only [c39, cT, cF, cS, cM, hy, if_true, Bool.false_eq_true, if_false]
    cases E (k + 1) <;> rfl
  rw [hp]
  unfold Out at ho
  rw [if_pos rfl] at ho
  constructor
  · intro ha
    have he := acc_zero ha
    subst he
    rw [acc_ok] at ha
    cases hE : E (k + 1) with
    | er e i => rw [hE] at ho; exact absurd ho.2.1.symm ho.2.2
    | ok x i =>
      rw [hE] at ho
      obtain ⟨rfl, rfl, -⟩ := ho
      simp only [ha, if_true]
      unfold Out
      rw [if_pos rfl]
      exact ⟨rfl, rfl, rfl⟩
  · intro z k3 e3 ha hz
    cases hE : E (k + 1) with
    | er e i =>
      rw [hE] at ho
      obtain ⟨rfl, rfl, h0⟩ := ho
      unfold Out at hz ⊢
      rw [if_neg h0] at hz
      rw [if_pos rfl]
      exact ⟨hz.1, hz.2, h0⟩
    | ok x i =>
      rw [hE] at ho
      obtain ⟨rfl, rfl, rfl⟩ := ho
      rw [acc_ok] at ha
      simp only [ha, Bool.false_eq_true, if_false]
      unfold Out at hz ⊢
      exact hz
theorem out_far {ts : List Tk} {E : Nat → Rs} {k k1 e1 k2 e2 : Nat} {y : Ex} (h3 : (nxt ts k 0).kd ≠ 3) (h1 : (nxt ts k 0).kd ≠ 1) (c39 : acc (nxt ts k 0) [39] = false) (cT : acc (nxt ts k 0) [116, 114, 117, 101] = false) (cF : acc (nxt ts k 0) [102, 97, 108, 115, 101] = false) (cS : acc (nxt ts k 0) [115, 101, 108, 102] = false) (cM : acc (nxt ts k 0) [116, 105, 109, 101] = false) (cP : acc (nxt ts k 0) [40] = false) (hy : acc (nxt ts k 0) [102, 97, 114] = true)
    (hk1 : k1 = if acc (nxt ts (k + 1) 0) [40] = true then k + 1 + 1 else k + 1) (he1 : e1 = if acc (nxt ts (k + 1) 0) [40] = true then 0 else 2)
    (ho : Out (E k1) k1 e1 y k2 e2) : ∀ z k3 e3, Out (pairL ts E 19 y k2) k2 e2 z k3 e3 → Out (primL ts E k) k 0 z k3 e3 := by
  have hp : primL ts E k = if sg ts (k + 1) [40] = true then match E (k + 2) with
          | .er e i => .er e i
          | .ok x i => pairL ts E 19 x i
        else .er 2 (k + 1) := by
    unfold primL
    rw [num_nof h3, nam_nof h1]
    rw [acc_ok] at c39 cT cF cS cM cP hy
    simp only [c39, cT, cF, cS, cM, cP, hy, if_true, Bool.false_eq_true, if_false]
    cases E (k + 2) <;> rfl
  rw [hp]
  intro z k3 e3 hz
  rw [acc_ok] at hk1 he1
  cases hc : sg ts (k + 1) [40]
  · rw [hc] at hk1 he1
    simp at hk1 he1
    subst hk1 he1
    unfold Out at ho
    rw [if_neg (by decide)] at ho
    obtain ⟨rfl, rfl⟩ := ho
    unfold Out at hz ⊢
    rw [if_neg (by decide)] at hz
    simp only [Bool.false_eq_true, if_false, if_true]
    exact ⟨hz.1, hz.2, by decide⟩
  · rw [hc] at hk1 he1
    simp only [if_true] at hk1 he1 ⊢
    subst hk1 he1
    unfold Out at ho
    rw [if_pos rfl] at ho
    cases hE : E (k + 2) with
    | er e i =>
      rw [show k + 1 + 1 = k + 2 from rfl, hE] at ho
      obtain ⟨rfl, rfl, h0⟩ := ho
      unfold Out at hz ⊢
      rw [if_neg h0] at hz
      rw [if_pos rfl]
      exact ⟨hz.1, hz.2, h0⟩
    | ok x i =>
      rw [show k + 1 + 1 = k + 2 from rfl, hE] at ho
      obtain ⟨rfl, rfl, rfl⟩ := ho
      exact hz
theorem prim_sym {gp g n cp B d d1 D : Nat} {ts : List Tk} {E : Nat → Rs} (HE : BinOk gp g n cp B ts 0 d1 D E) (hd1 : d1 = d + 1) (hds : d ≤ 1000) (hD : D ≤ 9000) (hB : B ≤ gp) (hok : NamesOk ts) {w : World} {k : Nat} (h : PS w gp g n cp ts k 0) (hv : LV w B) (h3 : (nxt ts k 0).kd ≠ 3) (h1 : (nxt ts k 0).kd ≠ 1) (hy : acc (nxt ts k 0) [39] = true) {s : Bs} (hn : nameAt ts (k + 1) = some s) :
    Calls Tryz.prog 179 #[.pointer (some ⟨gp, 0, none⟩), .int .i64 (d : Int)] w (XP w NoB gp g n cp ts (primL ts E k) k 0 (D + 2)) := by
  have _ := @HE; have _ := hd1; have _ := hv; have _ := hds; have _ := hok; have _ := hD; have _ := hB
  have HO : Hid (Out (primL ts E k) k 0 (.leaf 3 0 s) (k + 1 + 1) 0) := Lib.hid (by
    unfold Out primL
    rw [if_pos rfl, num_nof h3, nam_nof h1]
    have q := hy
    rw [acc_ok] at q
    simp only [q, if_true]
    simp only [hn]
    refine ⟨?_, ?_, ?_⟩ <;> first | trivial | decide)
  have HNm := Lib.hid (fun (W : World) (p : PS W gp g n cp ts (k + 1) 0) => name_yes p hn (hok _ _ hn))
  obtain ⟨sb, hsb⟩ : ∃ sb, bs s = sb := ⟨_, rfl⟩
  rw [hsb] at HNm
  have HSB := Lib.hid hsb
  clear hsb
  obtain ⟨W0, hW0⟩ : ∃ W, w.alloc (.cells #[.int .i64 0, .int .i64 0, .string ⟨#[]⟩, .slice none 0 0] 44) = W := ⟨_, rfl⟩
  have hT0 : Touch NoB w W0 := by rw [← hW0]; exact (Touch.refl _ _).alloc _
  have hb4 : XB W0 w.heap.size 0 0 ⟨#[]⟩ none 0 0 := by rw [← hW0]; exact XB.new w _ _ _ _ _ _ rfl
  have hs0 : W0.heap.size = w.heap.size + 1 := by rw [← hW0]; simp only [World.size_alloc]
  have hgp := blk_lt h.blk
  have hgl := h.tl.lt
  have HP := Lib.hid (h.touch hT0)
  have HB4 := Lib.hid hb4
  have HT0 := Lib.hid hT0
  have HN := Lib.hid (fun (W : World) (t : Touch NoB W0 W) => next_any ((h.touch hT0).touch t))
  have hk3 : (((nxt ts k 0).kd : Int) == 3) = false := by rw [show (3 : Int) = ((3 : Nat) : Int) from rfl, eqq_nat]; simpa using h3
  have hk1 : (((nxt ts k 0).kd : Int) == 1) = false := by rw [show (1 : Int) = ((1 : Nat) : Int) from rfl, eqq_nat]; simpa using h1
  have HY : Hid (∀ W, Touch NoB W0 W → Calls Tryz.prog 80 #[.pointer (some ⟨gp, 0, none⟩), .string ⟨#[39]⟩] W fun x w' => x = .returned (.bool true) ∧ PS w' gp g n cp ts (k + 1) 0 ∧ Touch (AtB gp) W w') := Lib.hid (fun W t => accept_yes (s := [39]) ((h.touch hT0).touch t) hy)
  have hfd := fun (a b c d : Value) (W : World) => tok_kd a b c d W
  obtain ⟨kd, hkd⟩ : ∃ kd, (nxt ts k 0).kd = kd := ⟨_, rfl⟩
  obtain ⟨nn, hnn⟩ : ∃ nn, (nxt ts k 0).n = nn := ⟨_, rfl⟩
  obtain ⟨pl, hpl⟩ : ∃ pl, (nxt ts k 0).pl = pl := ⟨_, rfl⟩
  obtain ⟨tx, htx⟩ : ∃ tx, bs (nxt ts k 0).tx = tx := ⟨_, rfl⟩
  simp only [hkd, hnn, hpl, htx] at HN
  rw [hkd] at hk3 hk1
  clear h hT0 hb4 hkd hnn hpl htx
  go_enter Tryz.func179, Tryz.ntmps179
  go_wp2_with fail
  refine (HN.out _ (Touch.refl _ _)).mono ?_
  rintro r W1 ⟨rfl, hT⟩
  have HT := Lib.hid hT
  clear hT
  go_wp2_with fail
  refine (HN.out _ HT.out).mono ?_
  rintro r W2 ⟨rfl, hT⟩
  have HT := Lib.hid (HT.out.same hT)
  clear hT
  go_wp2_with fail
  refine (HY.out _ HT.out).mono ?_
  rintro r V0 ⟨rfl, hp, hT⟩
  have HNM := Lib.hid (HNm.out V0 hp)
  have HQ0 := Lib.hid ((Touch.anyB HT.out).same hT)
  clear hp hT
  go_wp2_with fail
  refine HNM.out.mono ?_
  rintro r V ⟨rfl, hp, hT⟩
  have HQ := Lib.hid (And.intro hp (HQ0.out.same hT))
  clear hp hT
  have hb4 := HB4.out.go HQ.out.2 (by omega)
  obtain ⟨z0, z1, z2, z3, z4⟩ := hb4.cells
  obtain ⟨f0, f1, f2, f3⟩ := hb4.free
  clear hb4
  go_wp2
  have hTE := touch4 (F := AtB gp) ((Touch.anyB (F := AtB gp) HT0.out).same HQ.out.2) (.inr (Nat.le_refl w.heap.size)) (.int .i64 3) (.int .i64 0) (.string sb) (.slice none 0 0)
  have hTX := touch4 (F := fun b => b = w.heap.size) (Touch.refl _ V) (.inl rfl) (.int .i64 3) (.int .i64 0) (.string sb) (.slice none 0 0)
  exact bodyPost_ret (v := .agg #[.int .i64 3, .int .i64 0, .string sb, .slice none 0 0]) (by simp [results, Tryz.results179, go_sem, z0, z1, z2, z3]) rfl ⟨hTE, .leaf 3 0 s, k + 1 + 1, 0, _, _, _, _, _, _, rfl, ⟨rfl, rfl, HSB.out.symm, rfl, rfl, rfl⟩, HQ.out.1.touchX hTX hgp hgl, HO.out, by simp only [Ex.depth]; omega⟩
theorem prim_sym_no {gp g n cp B d d1 D : Nat} {ts : List Tk} {E : Nat → Rs} (HE : BinOk gp g n cp B ts 0 d1 D E) (hd1 : d1 = d + 1) (hds : d ≤ 1000) (hD : D ≤ 9000) (hB : B ≤ gp) (hok : NamesOk ts) {w : World} {k : Nat} (h : PS w gp g n cp ts k 0) (hv : LV w B) (h3 : (nxt ts k 0).kd ≠ 3) (h1 : (nxt ts k 0).kd ≠ 1) (hy : acc (nxt ts k 0) [39] = true) (hn : nameAt ts (k + 1) = none) :
    Calls Tryz.prog 179 #[.pointer (some ⟨gp, 0, none⟩), .int .i64 (d : Int)] w (XP w NoB gp g n cp ts (primL ts E k) k 0 (D + 2)) := by
  have _ := @HE; have _ := hd1; have _ := hv; have _ := hds; have _ := hok; have _ := hD; have _ := hB
  have HO : Hid (Out (primL ts E k) k 0 (.leaf 3 0 []) (k + 1) 2) := Lib.hid (by
    unfold Out primL
    rw [if_pos rfl, num_nof h3, nam_nof h1]
    have q := hy
    rw [acc_ok] at q
    simp only [q, if_true]
    simp only [hn]
    refine ⟨?_, ?_, ?_⟩ <;> first | trivial | decide)
  have HNm := Lib.hid (fun (W : World) (p : PS W gp g n cp ts (k + 1) 0) => name_no p hn)
  obtain ⟨W0, hW0⟩ : ∃ W, w.alloc (.cells #[.int .i64 0, .int .i64 0, .string ⟨#[]⟩, .slice none 0 0] 44) = W := ⟨_, rfl⟩
  have hT0 : Touch NoB w W0 := by rw [← hW0]; exact (Touch.refl _ _).alloc _
  have hb4 : XB W0 w.heap.size 0 0 ⟨#[]⟩ none 0 0 := by rw [← hW0]; exact XB.new w _ _ _ _ _ _ rfl
  have hs0 : W0.heap.size = w.heap.size + 1 := by rw [← hW0]; simp only [World.size_alloc]
  have hgp := blk_lt h.blk
  have hgl := h.tl.lt
  have HP := Lib.hid (h.touch hT0)
  have HB4 := Lib.hid hb4
  have HT0 := Lib.hid hT0
  have HN := Lib.hid (fun (W : World) (t : Touch NoB W0 W) => next_any ((h.touch hT0).touch t))
  have hk3 : (((nxt ts k 0).kd : Int) == 3) = false := by rw [show (3 : Int) = ((3 : Nat) : Int) from rfl, eqq_nat]; simpa using h3
  have hk1 : (((nxt ts k 0).kd : Int) == 1) = false := by rw [show (1 : Int) = ((1 : Nat) : Int) from rfl, eqq_nat]; simpa using h1
  have HY : Hid (∀ W, Touch NoB W0 W → Calls Tryz.prog 80 #[.pointer (some ⟨gp, 0, none⟩), .string ⟨#[39]⟩] W fun x w' => x = .returned (.bool true) ∧ PS w' gp g n cp ts (k + 1) 0 ∧ Touch (AtB gp) W w') := Lib.hid (fun W t => accept_yes (s := [39]) ((h.touch hT0).touch t) hy)
  have hfd := fun (a b c d : Value) (W : World) => tok_kd a b c d W
  obtain ⟨kd, hkd⟩ : ∃ kd, (nxt ts k 0).kd = kd := ⟨_, rfl⟩
  obtain ⟨nn, hnn⟩ : ∃ nn, (nxt ts k 0).n = nn := ⟨_, rfl⟩
  obtain ⟨pl, hpl⟩ : ∃ pl, (nxt ts k 0).pl = pl := ⟨_, rfl⟩
  obtain ⟨tx, htx⟩ : ∃ tx, bs (nxt ts k 0).tx = tx := ⟨_, rfl⟩
  simp only [hkd, hnn, hpl, htx] at HN
  rw [hkd] at hk3 hk1
  clear h hT0 hb4 hkd hnn hpl htx
  go_enter Tryz.func179, Tryz.ntmps179
  go_wp2_with fail
  refine (HN.out _ (Touch.refl _ _)).mono ?_
  rintro r W1 ⟨rfl, hT⟩
  have HT := Lib.hid hT
  clear hT
  go_wp2_with fail
  refine (HN.out _ HT.out).mono ?_
  rintro r W2 ⟨rfl, hT⟩
  have HT := Lib.hid (HT.out.same hT)
  clear hT
  go_wp2_with fail
  refine (HY.out _ HT.out).mono ?_
  rintro r V0 ⟨rfl, hp, hT⟩
  have HNM := Lib.hid (HNm.out V0 hp)
  have HQ0 := Lib.hid ((Touch.anyB HT.out).same hT)
  clear hp hT
  go_wp2_with fail
  refine HNM.out.mono ?_
  rintro r V ⟨rfl, hp, hT⟩
  have HQ := Lib.hid (And.intro hp (HQ0.out.same hT))
  clear hp hT
  have hb4 := HB4.out.go HQ.out.2 (by omega)
  obtain ⟨z0, z1, z2, z3, z4⟩ := hb4.cells
  obtain ⟨f0, f1, f2, f3⟩ := hb4.free
  clear hb4
  go_wp2
  have hTE := touch4 (F := AtB gp) ((Touch.anyB (F := AtB gp) HT0.out).same HQ.out.2) (.inr (Nat.le_refl w.heap.size)) (.int .i64 3) (.int .i64 0) (.string ⟨#[]⟩) (.slice none 0 0)
  have hTX := touch4 (F := fun b => b = w.heap.size) (Touch.refl _ V) (.inl rfl) (.int .i64 3) (.int .i64 0) (.string ⟨#[]⟩) (.slice none 0 0)
  exact bodyPost_ret (v := .agg #[.int .i64 3, .int .i64 0, .string ⟨#[]⟩, .slice none 0 0]) (by simp [results, Tryz.results179, go_sem, z0, z1, z2, z3]) rfl ⟨hTE, .leaf 3 0 [], k + 1, 2, _, _, _, _, _, _, rfl, ⟨rfl, rfl, rfl, rfl, rfl, rfl⟩, HQ.out.1.touchX hTX hgp hgl, HO.out, by simp only [Ex.depth]; omega⟩
end Go.Proofs.YtkmbobfjoaldgaaGreatDoor
