/-
  What package expr's primary does with a parser in memory, branch by branch. Conditions: names among the tokens are names; what it calls does as the model says.
-/
import Derived.Test.YtkmbobfjoaldgaaGreatDoorQk
namespace Go.Proofs.YtkmbobfjoaldgaaGreatDoor
open Go.ChangeShapes Go.WideShapes Go.ChangeAt Go.RowKit
set_option maxRecDepth 100000
set_option maxHeartbeats 4000000

/-- What is called a name among the tokens is one. -/
def NamesOk (ts : List Tk) : Prop := ∀ (k : Nat) (s : Bs), nameAt ts k = some s → okN s = true
theorem num_of {ts : List Tk} {k : Nat} (h : (nxt ts k 0).kd = 3) : numAt ts k = some (nxt ts k 0).n := by
  unfold numAt
  cases ht : ts[k]? with
  | none => simp [nxt, ht] at h
  | some t => rw [nxt_at ht] at h ⊢; simp [h]
theorem num_nof {ts : List Tk} {k : Nat} (h : (nxt ts k 0).kd ≠ 3) : numAt ts k = none := by
  unfold numAt
  cases ht : ts[k]? with
  | none => rfl
  | some t => rw [nxt_at ht] at h; simp [h]
theorem nam_of {ts : List Tk} {k : Nat} (h : (nxt ts k 0).kd = 1) : nameAt ts k = some (nxt ts k 0).tx := by
  unfold nameAt
  cases ht : ts[k]? with
  | none => simp [nxt, ht] at h
  | some t => rw [nxt_at ht] at h ⊢; simp [h]
theorem nam_nof {ts : List Tk} {k : Nat} (h : (nxt ts k 0).kd ≠ 1) : nameAt ts k = none := by
  unfold nameAt
  cases ht : ts[k]? with
  | none => rfl
  | some t => rw [nxt_at ht] at h; simp [h]
theorem tok_kd (a b c d : Value) (W : World) : (Instr.field 60 (.agg #[a, b, c, d]) 0).run Tryz.prog W = .ok a W := by kernel_rfl
theorem kd_zero {ts : List Tk} {k e c : Nat} (h : (nxt ts k e).kd = c) (hc : c ≠ 0) : e = 0 := by
  by_cases he : e = 0
  · exact he
  · rw [nxt_bad he] at h; exact absurd h.symm hc
theorem eqq_nat (a b : Nat) : ((a : Int) == (b : Int)) = (a == b) := by
  by_cases h : a = b
  · subst h; simp
  · have : ¬ (a : Int) = b := by omega
    have h1 : ((a : Int) == (b : Int)) = false := by simpa using this
    have h2 : (a == b) = false := by simpa using h
    rw [h1, h2]
theorem prim_num {gp g n cp B d d1 D : Nat} {ts : List Tk} {E : Nat → Rs} (HE : BinOk gp g n cp B ts 0 d1 D E) (hd1 : d1 = d + 1) (hds : d ≤ 1000) (hD : D ≤ 9000) (hB : B ≤ gp) (hok : NamesOk ts) {w : World} {k : Nat} (h : PS w gp g n cp ts k 0) (hv : LV w B) (h3 : (nxt ts k 0).kd = 3) :
    Calls Tryz.prog 179 #[.pointer (some ⟨gp, 0, none⟩), .int .i64 (d : Int)] w (XP w NoB gp g n cp ts (primL ts E k) k 0 (D + 2)) := by
  have _ := @HE; have _ := hd1; have _ := hv; have _ := hds; have _ := hok; have _ := hD; have _ := hB
  have hn := num_of h3
  have HNum := Lib.hid (fun W (t : Touch NoB w W) => number_yes (h.touch t) hn)
  have HO : Hid (Out (primL ts E k) k 0 (.leaf 0 (nxt ts k 0).n []) (k + 1) 0) := Lib.hid (by unfold Out primL; rw [if_pos rfl, hn]; exact ⟨rfl, rfl, rfl⟩)
  obtain ⟨m, hm⟩ : ∃ m, (nxt ts k 0).n = m := ⟨_, rfl⟩
  rw [hm] at HNum HO
  clear hn hm
  obtain ⟨W0, hW0⟩ : ∃ W, w.alloc (.cells #[.int .i64 0, .int .i64 0, .string ⟨#[]⟩, .slice none 0 0] 44) = W := ⟨_, rfl⟩
  have hT0 : Touch NoB w W0 := by rw [← hW0]; exact (Touch.refl _ _).alloc _
  have hb4 : XB W0 w.heap.size 0 0 ⟨#[]⟩ none 0 0 := by rw [← hW0]; exact XB.new w _ _ _ _ _ _ rfl
  have hs0 : W0.heap.size = w.heap.size + 1 := by rw [← hW0]; simp only [World.size_alloc]
  have hgp := blk_lt h.blk
  have hgl := h.tl.lt
  have HP := Lib.hid (h.touch hT0)
  have HB4 := Lib.hid hb4
  have HT0 := Lib.hid hT0
  have HN := Lib.hid (fun (W : World) (t : Touch NoB W0 W) => next_any ((h.touch hT0).touch t))
  have hk3 : (((nxt ts k 0).kd : Int) == 3) = true := by rw [show (3 : Int) = ((3 : Nat) : Int) from rfl, eqq_nat]; simpa using h3
  have hfd := fun (a b c d : Value) (W : World) => tok_kd a b c d W
  obtain ⟨kd, hkd⟩ : ∃ kd, (nxt ts k 0).kd = kd := ⟨_, rfl⟩
  obtain ⟨nn, hnn⟩ : ∃ nn, (nxt ts k 0).n = nn := ⟨_, rfl⟩
  obtain ⟨pl, hpl⟩ : ∃ pl, (nxt ts k 0).pl = pl := ⟨_, rfl⟩
  obtain ⟨tx, htx⟩ : ∃ tx, bs (nxt ts k 0).tx = tx := ⟨_, rfl⟩
  simp only [hkd, hnn, hpl, htx] at HN
  rw [hkd] at hk3
  clear h hT0 hb4 hkd hnn hpl htx
  go_enter Tryz.func179, Tryz.ntmps179
  go_wp2_with fail
  refine (HN.out _ (Touch.refl _ _)).mono ?_
  rintro r W1 ⟨rfl, hT⟩
  have HT := Lib.hid hT
  clear hT
  go_wp2_with fail
  refine (HNum.out _ (HT0.out.same HT.out)).mono ?_
  rintro r W2 ⟨rfl, hp, hT⟩
  have HQ := Lib.hid (And.intro hp ((Touch.anyB HT.out).same hT))
  clear hp hT
  have hb4 := HB4.out.go HQ.out.2 (by omega)
  obtain ⟨z0, z1, z2, z3, z4⟩ := hb4.cells
  obtain ⟨f0, f1, f2, f3⟩ := hb4.free
  clear hb4
  go_wp2
  have hTE := touch4 (F := AtB gp) ((Touch.anyB (F := AtB gp) HT0.out).same HQ.out.2) (.inr (Nat.le_refl w.heap.size)) (.int .i64 0) (.int .i64 (m : Int)) (.string ⟨#[]⟩) (.slice none 0 0)
  have hTX := touch4 (F := fun b => b = w.heap.size) (Touch.refl _ W2) (.inl rfl) (.int .i64 0) (.int .i64 (m : Int)) (.string ⟨#[]⟩) (.slice none 0 0)
  exact bodyPost_ret (v := .agg #[.int .i64 0, .int .i64 (m : Int), .string ⟨#[]⟩, .slice none 0 0]) (by simp [results, Tryz.results179, go_sem, z0, z1, z2, z3]) rfl ⟨hTE, .leaf 0 m [], k + 1, 0, _, _, _, _, _, _, rfl, ⟨rfl, rfl, rfl, rfl, rfl, rfl⟩, HQ.out.1.touchX hTX hgp hgl, HO.out, by simp only [Ex.depth]; omega⟩
theorem prim_nam {gp g n cp B d d1 D : Nat} {ts : List Tk} {E : Nat → Rs} (HE : BinOk gp g n cp B ts 0 d1 D E) (hd1 : d1 = d + 1) (hds : d ≤ 1000) (hD : D ≤ 9000) (hB : B ≤ gp) (hok : NamesOk ts) {w : World} {k : Nat} (h : PS w gp g n cp ts k 0) (hv : LV w B) (h3 : (nxt ts k 0).kd ≠ 3) (h1 : (nxt ts k 0).kd = 1) :
    Calls Tryz.prog 179 #[.pointer (some ⟨gp, 0, none⟩), .int .i64 (d : Int)] w (XP w NoB gp g n cp ts (primL ts E k) k 0 (D + 2)) := by
  have _ := @HE; have _ := hd1; have _ := hv; have _ := hds; have _ := hok; have _ := hD; have _ := hB
  have hn := nam_of h1
  have HNum := Lib.hid (fun W (t : Touch NoB w W) => name_yes (h.touch t) hn (hok k _ hn))
  have HO : Hid (Out (primL ts E k) k 0 (.leaf 2 0 (nxt ts k 0).tx) (k + 1) 0) := Lib.hid (by unfold Out primL; rw [if_pos rfl, num_nof h3, hn]; exact ⟨rfl, rfl, rfl⟩)
  obtain ⟨sx, hsx⟩ : ∃ sx, (nxt ts k 0).tx = sx := ⟨_, rfl⟩
  rw [hsx] at HNum HO
  obtain ⟨sb, hsb⟩ : ∃ sb, bs sx = sb := ⟨_, rfl⟩
  rw [hsb] at HNum
  have HSB := Lib.hid hsb
  clear hn hsx hsb
  obtain ⟨W0, hW0⟩ : ∃ W, w.alloc (.cells #[.int .i64 0, .int .i64 0, .string ⟨#[]⟩, .slice none 0 0] 44) = W := ⟨_, rfl⟩
  have hT0 : Touch NoB w W0 := by rw [← hW0]; exact (Touch.refl _ _).alloc _
  have hb4 : XB W0 w.heap.size 0 0 ⟨#[]⟩ none 0 0 := by rw [← hW0]; exact XB.new w _ _ _ _ _ _ rfl
  have hs0 : W0.heap.size = w.heap.size + 1 := by rw [← hW0]; simp only [World.size_alloc]
  have hgp := blk_lt h.blk
  have hgl := h.tl.lt
  have HP := Lib.hid (h.touch hT0)
  have HB4 := Lib.hid hb4
  have HT0 := Lib.hid hT0
  have HN := Lib.hid (fun (W : World) (t : Touch NoB W0 W) => next_any ((h.touch hT0).touch t))
  have hk3 : (((nxt ts k 0).kd : Int) == 3) = false := by rw [show (3 : Int) = ((3 : Nat) : Int) from rfl, eqq_nat]; simpa using h3
  have hk1 : (((nxt ts k 0).kd : Int) == 1) = true := by rw [show (1 : Int) = ((1 : Nat) : Int) from rfl, eqq_nat]; simpa using h1
  have hfd := fun (a b c d : Value) (W : World) => tok_kd a b c d W
  obtain ⟨kd, hkd⟩ : ∃ kd, (nxt ts k 0).kd = kd := ⟨_, rfl⟩
  obtain ⟨nn, hnn⟩ : ∃ nn, (nxt ts k 0).n = nn := ⟨_, rfl⟩
  obtain ⟨pl, hpl⟩ : ∃ pl, (nxt ts k 0).pl = pl := ⟨_, rfl⟩
  obtain ⟨tx, htx⟩ : ∃ tx, bs (nxt ts k 0).tx = tx := ⟨_, rfl⟩
  simp only [hkd, hnn, hpl, htx] at HN
  rw [hkd] at hk3 hk1
  clear h hT0 hb4 hkd hnn hpl htx
  go_enter Tryz.func179, Tryz.ntmps179
  go_wp2_with fail
  refine (HN.out _ (Touch.refl _ _)).mono ?_
  rintro r W1 ⟨rfl, hT⟩
  have HT := Lib.hid hT
  clear hT
  go_wp2_with fail
  refine (HN.out _ HT.out).mono ?_
  rintro r W2 ⟨rfl, hT⟩
  have HT := Lib.hid (HT.out.same hT)
  clear hT
  go_wp2_with fail
  refine (HNum.out _ (HT0.out.same HT.out)).mono ?_
  rintro r W3 ⟨rfl, hp, hT⟩
  have HQ := Lib.hid (And.intro hp ((Touch.anyB HT.out).same hT))
  clear hp hT
  have hb4 := HB4.out.go HQ.out.2 (by omega)
  obtain ⟨z0, z1, z2, z3, z4⟩ := hb4.cells
  obtain ⟨f0, f1, f2, f3⟩ := hb4.free
  clear hb4
  go_wp2
  have hTE := touch4 (F := AtB gp) ((Touch.anyB (F := AtB gp) HT0.out).same HQ.out.2) (.inr (Nat.le_refl w.heap.size)) (.int .i64 2) (.int .i64 0) (.string sb) (.slice none 0 0)
  have hTX := touch4 (F := fun b => b = w.heap.size) (Touch.refl _ W3) (.inl rfl) (.int .i64 2) (.int .i64 0) (.string sb) (.slice none 0 0)
  exact bodyPost_ret (v := .agg #[.int .i64 2, .int .i64 0, .string sb, .slice none 0 0]) (by simp [results, Tryz.results179, go_sem, z0, z1, z2, z3]) rfl ⟨hTE, .leaf 2 0 sx, k + 1, 0, _, _, _, _, _, _, rfl, ⟨rfl, rfl, HSB.out.symm, rfl, rfl, rfl⟩, HQ.out.1.touchX hTX hgp hgl, HO.out, by simp only [Ex.depth]; omega⟩
theorem prim_cT {gp g n cp B d d1 D : Nat} {ts : List Tk} {E : Nat → Rs} (HE : BinOk gp g n cp B ts 0 d1 D E) (hd1 : d1 = d + 1) (hds : d ≤ 1000) (hD : D ≤ 9000) (hB : B ≤ gp) (hok : NamesOk ts) {w : World} {k : Nat} (h : PS w gp g n cp ts k 0) (hv : LV w B) (h3 : (nxt ts k 0).kd ≠ 3) (h1 : (nxt ts k 0).kd ≠ 1) (c39 : acc (nxt ts k 0) [39] = false) (hy : acc (nxt ts k 0) [116, 114, 117, 101] = true) :
    Calls Tryz.prog 179 #[.pointer (some ⟨gp, 0, none⟩), .int .i64 (d : Int)] w (XP w NoB gp g n cp ts (primL ts E k) k 0 (D + 2)) := by
  have _ := @HE; have _ := hd1; have _ := hv; have _ := hds; have _ := hok; have _ := hD; have _ := hB
  have HO : Hid (Out (primL ts E k) k 0 (.leaf 1 1 []) (k + 1) 0) := Lib.hid (by
    unfold Out primL
    rw [if_pos rfl, num_nof h3, nam_nof h1]
    have q := hy
    rw [acc_ok] at q
    have q0 := c39
    rw [acc_ok] at q0
    simp only [q, q0, if_true, Bool.false_eq_true, if_false]
    refine ⟨?_, ?_, ?_⟩ <;> trivial)
  obtain ⟨W0, hW0⟩ : ∃ W, w.alloc (.cells #[.int .i64 0, .int .i64 0, .string ⟨#[]⟩, .slice none 0 0] 44) = W := ⟨_, rfl⟩
  have hT0 : Touch NoB w W0 := by rw [← hW0]; exact (Touch.refl _ _).alloc _
  have hb4 : XB W0 w.heap.size 0 0 ⟨#[]⟩ none 0 0 := by rw [← hW0]; exact XB.new w _ _ _ _ _ _ rfl
  have hs0 : W0.heap.size = w.heap.size + 1 := by rw [← hW0]; simp only [World.size_alloc]
  have hgp := blk_lt h.blk
  have hgl := h.tl.lt
  have HP := Lib.hid (h.touch hT0)
  have HB4 := Lib.hid hb4
  have HT0 := Lib.hid hT0
  have HN := Lib.hid (fun (W : World) (t : Touch NoB W0 W) => next_any ((h.touch hT0).touch t))
  have hk3 : (((nxt ts k 0).kd : Int) == 3) = false := by rw [show (3 : Int) = ((3 : Nat) : Int) from rfl, eqq_nat]; simpa using h3
  have hk1 : (((nxt ts k 0).kd : Int) == 1) = false := by rw [show (1 : Int) = ((1 : Nat) : Int) from rfl, eqq_nat]; simpa using h1
  have Hc39 : Hid (∀ W, Touch NoB W0 W → Calls Tryz.prog 80 #[.pointer (some ⟨gp, 0, none⟩), .string ⟨#[39]⟩] W fun x w' => x = .returned (.bool false) ∧ PS w' gp g n cp ts k 0 ∧ Touch NoB W w') := Lib.hid (fun W t => accept_no (s := [39]) ((h.touch hT0).touch t) c39)
  have HY : Hid (∀ W, Touch NoB W0 W → Calls Tryz.prog 80 #[.pointer (some ⟨gp, 0, none⟩), .string ⟨#[116, 114, 117, 101]⟩] W fun x w' => x = .returned (.bool true) ∧ PS w' gp g n cp ts (k + 1) 0 ∧ Touch (AtB gp) W w') := Lib.hid (fun W t => accept_yes (s := [116, 114, 117, 101]) ((h.touch hT0).touch t) hy)
  have hfd := fun (a b c d : Value) (W : World) => tok_kd a b c d W
  obtain ⟨kd, hkd⟩ : ∃ kd, (nxt ts k 0).kd = kd := ⟨_, rfl⟩
  obtain ⟨nn, hnn⟩ : ∃ nn, (nxt ts k 0).n = nn := ⟨_, rfl⟩
  obtain ⟨pl, hpl⟩ : ∃ pl, (nxt ts k 0).pl = pl := ⟨_, rfl⟩
  obtain ⟨tx, htx⟩ : ∃ tx, bs (nxt ts k 0).tx = tx := ⟨_, rfl⟩
  simp only [hkd, hnn, hpl, htx] at HN
  rw [hkd] at hk3 hk1
  clear h hT0 hb4 hkd hnn hpl htx
  go_enter Tryz.func179, Tryz.ntmps179
  go_wp2_with fail
  refine (HN.out _ (Touch.refl _ _)).mono ?_
  rintro r W1 ⟨rfl, hT⟩
  have HT := Lib.hid hT
  clear hT
  go_wp2_with fail
  refine (HN.out _ HT.out).mono ?_
  rintro r W2 ⟨rfl, hT⟩
  have HT := Lib.hid (HT.out.same hT)
  clear hT
  go_wp2_with fail
  refine (Hc39.out _ HT.out).mono ?_
  rintro r U0 ⟨rfl, -, hT⟩
  have HT := Lib.hid (HT.out.same hT)
  clear hT
  go_wp2_with fail
  refine (HY.out _ HT.out).mono ?_
  rintro r V ⟨rfl, hp, hT⟩
  have HQ := Lib.hid (And.intro hp ((Touch.anyB HT.out).same hT))
  clear hp hT
  have hb4 := HB4.out.go HQ.out.2 (by omega)
  obtain ⟨z0, z1, z2, z3, z4⟩ := hb4.cells
  obtain ⟨f0, f1, f2, f3⟩ := hb4.free
  clear hb4
  go_wp2
  have hTE := touch4 (F := AtB gp) ((Touch.anyB (F := AtB gp) HT0.out).same HQ.out.2) (.inr (Nat.le_refl w.heap.size)) (.int .i64 1) (.int .i64 1) (.string ⟨#[]⟩) (.slice none 0 0)
  have hTX := touch4 (F := fun b => b = w.heap.size) (Touch.refl _ V) (.inl rfl) (.int .i64 1) (.int .i64 1) (.string ⟨#[]⟩) (.slice none 0 0)
  exact bodyPost_ret (v := .agg #[.int .i64 1, .int .i64 1, .string ⟨#[]⟩, .slice none 0 0]) (by simp [results, Tryz.results179, go_sem, z0, z1, z2, z3]) rfl ⟨hTE, .leaf 1 1 [], k + 1, 0, _, _, _, _, _, _, rfl, ⟨rfl, rfl, rfl, rfl, rfl, rfl⟩, HQ.out.1.touchX hTX hgp hgl, HO.out, by simp only [Ex.depth]; omega⟩
theorem prim_cF {gp g n cp B d d1 D : Nat} {ts : List Tk} {E : Nat → Rs} (HE : BinOk gp g n cp B ts 0 d1 D E) (hd1 : d1 = d + 1) (hds : d ≤ 1000) (hD : D ≤ 9000) (hB : B ≤ gp) (hok : NamesOk ts) {w : World} {k : Nat} (h : PS w gp g n cp ts k 0) (hv : LV w B) (h3 : (nxt ts k 0).kd ≠ 3) (h1 : (nxt ts k 0).kd ≠ 1) (c39 : acc (nxt ts k 0) [39] = false) (cT : acc (nxt ts k 0) [116, 114, 117, 101] = false) (hy : acc (nxt ts k 0) [102, 97, 108, 115, 101] = true) :
    Calls Tryz.prog 179 #[.pointer (some ⟨gp, 0, none⟩), .int .i64 (d : Int)] w (XP w NoB gp g n cp ts (primL ts E k) k 0 (D + 2)) := by
  have _ := @HE; have _ := hd1; have _ := hv; have _ := hds; have _ := hok; have _ := hD; have _ := hB
  have HO : Hid (Out (primL ts E k) k 0 (.leaf 1 0 []) (k + 1) 0) := Lib.hid (by
    unfold Out primL
    rw [if_pos rfl, num_nof h3, nam_nof h1]
    have q := hy
    rw [acc_ok] at q
    have q0 := c39
    rw [acc_ok] at q0
    have q1 := cT
    rw [acc_ok] at q1
    simp only [q, q0, q1, if_true, Bool.false_eq_true, if_false]
    refine ⟨?_, ?_, ?_⟩ <;> trivial)
  obtain ⟨W0, hW0⟩ : ∃ W, w.alloc (.cells #[.int .i64 0, .int .i64 0, .string ⟨#[]⟩, .slice none 0 0] 44) = W := ⟨_, rfl⟩
  have hT0 : Touch NoB w W0 := by rw [← hW0]; exact (Touch.refl _ _).alloc _
  have hb4 : XB W0 w.heap.size 0 0 ⟨#[]⟩ none 0 0 := by rw [← hW0]; exact XB.new w _ _ _ _ _ _ rfl
  have hs0 : W0.heap.size = w.heap.size + 1 := by rw [← hW0]; simp only [World.size_alloc]
  have hgp := blk_lt h.blk
  have hgl := h.tl.lt
  have HP := Lib.hid (h.touch hT0)
  have HB4 := Lib.hid hb4
  have HT0 := Lib.hid hT0
  have HN := Lib.hid (fun (W : World) (t : Touch NoB W0 W) => next_any ((h.touch hT0).touch t))
  have hk3 : (((nxt ts k 0).kd : Int) == 3) = false := by rw [show (3 : Int) = ((3 : Nat) : Int) from rfl, eqq_nat]; simpa using h3
  have hk1 : (((nxt ts k 0).kd : Int) == 1) = false := by rw [show (1 : Int) = ((1 : Nat) : Int) from rfl, eqq_nat]; simpa using h1
  have Hc39 : Hid (∀ W, Touch NoB W0 W → Calls Tryz.prog 80 #[.pointer (some ⟨gp, 0, none⟩), .string ⟨#[39]⟩] W fun x w' => x = .returned (.bool false) ∧ PS w' gp g n cp ts k 0 ∧ Touch NoB W w') := Lib.hid (fun W t => accept_no (s := [39]) ((h.touch hT0).touch t) c39)
  have HcT : Hid (∀ W, Touch NoB W0 W → Calls Tryz.prog 80 #[.pointer (some ⟨gp, 0, none⟩), .string ⟨#[116, 114, 117, 101]⟩] W fun x w' => x = .returned (.bool false) ∧ PS w' gp g n cp ts k 0 ∧ Touch NoB W w') := Lib.hid (fun W t => accept_no (s := [116, 114, 117, 101]) ((h.touch hT0).touch t) cT)
  have HY : Hid (∀ W, Touch NoB W0 W → Calls Tryz.prog 80 #[.pointer (some ⟨gp, 0, none⟩), .string ⟨#[102, 97, 108, 115, 101]⟩] W fun x w' => x = .returned (.bool true) ∧ PS w' gp g n cp ts (k + 1) 0 ∧ Touch (AtB gp) W w') := Lib.hid (fun W t => accept_yes (s := [102, 97, 108, 115, 101]) ((h.touch hT0).touch t) hy)
  have hfd := fun (a b c d : Value) (W : World) => tok_kd a b c d W
  obtain ⟨kd, hkd⟩ : ∃ kd, (nxt ts k 0).kd = kd := ⟨_, rfl⟩
  obtain ⟨nn, hnn⟩ : ∃ nn, (nxt ts k 0).n = nn := ⟨_, rfl⟩
  obtain ⟨pl, hpl⟩ : ∃ pl, (nxt ts k 0).pl = pl := ⟨_, rfl⟩
  obtain ⟨tx, htx⟩ : ∃ tx, bs (nxt ts k 0).tx = tx := ⟨_, rfl⟩
  simp only [hkd, hnn, hpl, htx] at HN
  rw [hkd] at hk3 hk1
  clear h hT0 hb4 hkd hnn hpl htx
  go_enter Tryz.func179, Tryz.ntmps179
  go_wp2_with fail
  refine (HN.out _ (Touch.refl _ _)).mono ?_
  rintro r W1 ⟨rfl, hT⟩
  have HT := Lib.hid hT
  clear hT
  go_wp2_with fail
  refine (HN.out _ HT.out).mono ?_
  rintro r W2 ⟨rfl, hT⟩
  have HT := Lib.hid (HT.out.same hT)
  clear hT
  go_wp2_with fail
  refine (Hc39.out _ HT.out).mono ?_
  rintro r U0 ⟨rfl, -, hT⟩
  have HT := Lib.hid (HT.out.same hT)
  clear hT
  go_wp2_with fail
  refine (HcT.out _ HT.out).mono ?_
  rintro r U1 ⟨rfl, -, hT⟩
  have HT := Lib.hid (HT.out.same hT)
  clear hT
  go_wp2_with fail
  refine (HY.out _ HT.out).mono ?_
  rintro r V ⟨rfl, hp, hT⟩
  have HQ := Lib.hid (And.intro hp ((Touch.anyB HT.out).same hT))
  clear hp hT
  have hb4 := HB4.out.go HQ.out.2 (by omega)
  obtain ⟨z0, z1, z2, z3, z4⟩ := hb4.cells
  obtain ⟨f0, f1, f2, f3⟩ := hb4.free
  clear hb4
  go_wp2
  have hTE := touch4 (F := AtB gp) ((Touch.anyB (F := AtB gp) HT0.out).same HQ.out.2) (.inr (Nat.le_refl w.heap.size)) (.int .i64 1) (.int .i64 0) (.string ⟨#[]⟩) (.slice none 0 0)
  have hTX := touch4 (F := fun b => b = w.heap.size) (Touch.refl _ V) (.inl rfl) (.int .i64 1) (.int .i64 0) (.string ⟨#[]⟩) (.slice none 0 0)
  exact bodyPost_ret (v := .agg #[.int .i64 1, .int .i64 0, .string ⟨#[]⟩, .slice none 0 0]) (by simp [results, Tryz.results179, go_sem, z0, z1, z2, z3]) rfl ⟨hTE, .leaf 1 0 [], k + 1, 0, _, _, _, _, _, _, rfl, ⟨rfl, rfl, rfl, rfl, rfl, rfl⟩, HQ.out.1.touchX hTX hgp hgl, HO.out, by simp only [Ex.depth]; omega⟩
theorem prim_cS {gp g n cp B d d1 D : Nat} {ts : List Tk} {E : Nat → Rs} (HE : BinOk gp g n cp B ts 0 d1 D E) (hd1 : d1 = d + 1) (hds : d ≤ 1000) (hD : D ≤ 9000) (hB : B ≤ gp) (hok : NamesOk ts) {w : World} {k : Nat} (h : PS w gp g n cp ts k 0) (hv : LV w B) (h3 : (nxt ts k 0).kd ≠ 3) (h1 : (nxt ts k 0).kd ≠ 1) (c39 : acc (nxt ts k 0) [39] = false) (cT : acc (nxt ts k 0) [116, 114, 117, 101] = false) (cF : acc (nxt ts k 0) [102, 97, 108, 115, 101] = false) (hy : acc (nxt ts k 0) [115, 101, 108, 102] = true) :
    Calls Tryz.prog 179 #[.pointer (some ⟨gp, 0, none⟩), .int .i64 (d : Int)] w (XP w NoB gp g n cp ts (primL ts E k) k 0 (D + 2)) := by
  have _ := @HE; have _ := hd1; have _ := hv; have _ := hds; have _ := hok; have _ := hD; have _ := hB
  have HO : Hid (Out (primL ts E k) k 0 (.leaf 4 0 []) (k + 1) 0) := Lib.hid (by
    unfold Out primL
    rw [if_pos rfl, num_nof h3, nam_nof h1]
    have q := hy
    rw [acc_ok] at q
    have q0 := c39
    rw [acc_ok] at q0
    have q1 := cT
    rw [acc_ok] at q1
    have q2 := cF
    rw [acc_ok] at q2
    simp only [q, q0, q1, q2, if_true, Bool.false_eq_true, if_false]
    refine ⟨?_, ?_, ?_⟩ <;> trivial)
  obtain ⟨W0, hW0⟩ : ∃ W, w.alloc (.cells #[.int .i64 0, .int .i64 0, .string ⟨#[]⟩, .slice none 0 0] 44) = W := ⟨_, rfl⟩
  have hT0 : Touch NoB w W0 := by rw [← hW0]; exact (Touch.refl _ _).alloc _
  have hb4 : XB W0 w.heap.size 0 0 ⟨#[]⟩ none 0 0 := by rw [← hW0]; exact XB.new w _ _ _ _ _ _ rfl
  have hs0 : W0.heap.size = w.heap.size + 1 := by rw [← hW0]; simp only [World.size_alloc]
  have hgp := blk_lt h.blk
  have hgl := h.tl.lt
  have HP := Lib.hid (h.touch hT0)
  have HB4 := Lib.hid hb4
  have HT0 := Lib.hid hT0
  have HN := Lib.hid (fun (W : World) (t : Touch NoB W0 W) => next_any ((h.touch hT0).touch t))
  have hk3 : (((nxt ts k 0).kd : Int) == 3) = false := by rw [show (3 : Int) = ((3 : Nat) : Int) from rfl, eqq_nat]; simpa using h3
  have hk1 : (((nxt ts k 0).kd : Int) == 1) = false := by rw [show (1 : Int) = ((1 : Nat) : Int) from rfl, eqq_nat]; simpa using h1
  have Hc39 : Hid (∀ W, Touch NoB W0 W → Calls Tryz.prog 80 #[.pointer (some ⟨gp, 0, none⟩), .string ⟨#[39]⟩] W fun x w' => x = .returned (.bool false) ∧ PS w' gp g n cp ts k 0 ∧ Touch NoB W w') := Lib.hid (fun W t => accept_no (s := [39]) ((h.touch hT0).touch t) c39)
  have HcT : Hid (∀ W, Touch NoB W0 W → Calls Tryz.prog 80 #[.pointer (some ⟨gp, 0, none⟩), .string ⟨#[116, 114, 117, 101]⟩] W fun x w' => x = .returned (.bool false) ∧ PS w' gp g n cp ts k 0 ∧ Touch NoB W w') := Lib.hid (fun W t => accept_no (s := [116, 114, 117, 101]) ((h.touch hT0).touch t) cT)
  have HcF : Hid (∀ W, Touch NoB W0 W → Calls Tryz.prog 80 #[.pointer (some ⟨gp, 0, none⟩), .string ⟨#[102, 97, 108, 115, 101]⟩] W fun x w' => x = .returned (.bool false) ∧ PS w' gp g n cp ts k 0 ∧ Touch NoB W w') := Lib.hid (fun W t => accept_no (s := [102, 97, 108, 115, 101]) ((h.touch hT0).touch t) cF)
  have HY : Hid (∀ W, Touch NoB W0 W → Calls Tryz.prog 80 #[.pointer (some ⟨gp, 0, none⟩), .string ⟨#[115, 101, 108, 102]⟩] W fun x w' => x = .returned (.bool true) ∧ PS w' gp g n cp ts (k + 1) 0 ∧ Touch (AtB gp) W w') := Lib.hid (fun W t => accept_yes (s := [115, 101, 108, 102]) ((h.touch hT0).touch t) hy)
  have hfd := fun (a b c d : Value) (W : World) => tok_kd a b c d W
  obtain ⟨kd, hkd⟩ : ∃ kd, (nxt ts k 0).kd = kd := ⟨_, rfl⟩
  obtain ⟨nn, hnn⟩ : ∃ nn, (nxt ts k 0).n = nn := ⟨_, rfl⟩
  obtain ⟨pl, hpl⟩ : ∃ pl, (nxt ts k 0).pl = pl := ⟨_, rfl⟩
  obtain ⟨tx, htx⟩ : ∃ tx, bs (nxt ts k 0).tx = tx := ⟨_, rfl⟩
  simp only [hkd, hnn, hpl, htx] at HN
  rw [hkd] at hk3 hk1
  clear h hT0 hb4 hkd hnn hpl htx
  go_enter Tryz.func179, Tryz.ntmps179
  go_wp2_with fail
  refine (HN.out _ (Touch.refl _ _)).mono ?_
  rintro r W1 ⟨rfl, hT⟩
  have HT := Lib.hid hT
  clear hT
  go_wp2_with fail
  refine (HN.out _ HT.out).mono ?_
  rintro r W2 ⟨rfl, hT⟩
  have HT := Lib.hid (HT.out.same hT)
  clear hT
  go_wp2_with fail
  refine (Hc39.out _ HT.out).mono ?_
  rintro r U0 ⟨rfl, -, hT⟩
  have HT := Lib.hid (HT.out.same hT)
  clear hT
  go_wp2_with fail
  refine (HcT.out _ HT.out).mono ?_
  rintro r U1 ⟨rfl, -, hT⟩
  have HT := Lib.hid (HT.out.same hT)
  clear hT
  go_wp2_with fail
  refine (HcF.out _ HT.out).mono ?_
  rintro r U2 ⟨rfl, -, hT⟩
  have HT := Lib.hid (HT.out.same hT)
  clear hT
  go_wp2_with fail
  refine (HY.out _ HT.out).mono ?_
  rintro r V ⟨rfl, hp, hT⟩
  have HQ := Lib.hid (And.intro hp ((Touch.anyB HT.out).same hT))
  clear hp hT
  have hb4 := HB4.out.go HQ.out.2 (by omega)
  obtain ⟨z0, z1, z2, z3, z4⟩ := hb4.cells
  obtain ⟨f0, f1, f2, f3⟩ := hb4.free
  clear hb4
  go_wp2
  have hTE := touch4 (F := AtB gp) ((Touch.anyB (F := AtB gp) HT0.out).same HQ.out.2) (.inr (Nat.le_refl w.heap.size)) (.int .i64 4) (.int .i64 0) (.string ⟨#[]⟩) (.slice none 0 0)
  have hTX := touch4 (F := fun b => b = w.heap.size) (Touch.refl _ V) (.inl rfl) (.int .i64 4) (.int .i64 0) (.string ⟨#[]⟩) (.slice none 0 0)
  exact bodyPost_ret (v := .agg #[.int .i64 4, .int .i64 0, .string ⟨#[]⟩, .slice none 0 0]) (by simp [results, Tryz.results179, go_sem, z0, z1, z2, z3]) rfl ⟨hTE, .leaf 4 0 [], k + 1, 0, _, _, _, _, _, _, rfl, ⟨rfl, rfl, rfl, rfl, rfl, rfl⟩, HQ.out.1.touchX hTX hgp hgl, HO.out, by simp only [Ex.depth]; omega⟩
theorem prim_cM {gp g n cp B d d1 D : Nat} {ts : List Tk} {E : Nat → Rs} (HE : BinOk gp g n cp B ts 0 d1 D E) (hd1 : d1 = d + 1) (hds : d ≤ 1000) (hD : D ≤ 9000) (hB : B ≤ gp) (hok : NamesOk ts) {w : World} {k : Nat} (h : PS w gp g n cp ts k 0) (hv : LV w B) (h3 : (nxt ts k 0).kd ≠ 3) (h1 : (nxt ts k 0).kd ≠ 1) (c39 : acc (nxt ts k 0) [39] = false) (cT : acc (nxt ts k 0) [116, 114, 117, 101] = false) (cF : acc (nxt ts k 0) [102, 97, 108, 115, 101] = false) (cS : acc (nxt ts k 0) [115, 101, 108, 102] = false) (hy : acc (nxt ts k 0) [116, 105, 109, 101] = true) :
    Calls Tryz.prog 179 #[.pointer (some ⟨gp, 0, none⟩), .int .i64 (d : Int)] w (XP w NoB gp g n cp ts (primL ts E k) k 0 (D + 2)) := by
  have _ := @HE; have _ := hd1; have _ := hv; have _ := hds; have _ := hok; have _ := hD; have _ := hB
  have HO : Hid (Out (primL ts E k) k 0 (.leaf 5 0 []) (k + 1) 0) := Lib.hid (by
    unfold Out primL
    rw [if_pos rfl, num_nof h3, nam_nof h1]
    have q := hy
    rw [acc_ok] at q
    have q0 := c39
    rw [acc_ok] at q0
    have q1 := cT
    rw [acc_ok] at q1
    have q2 := cF
    rw [acc_ok] at q2
    have q3 := cS
    rw [acc_ok] at q3
    simp only [q, q0, q1, q2, q3, if_true, Bool.false_eq_true, if_false]
    refine ⟨?_, ?_, ?_⟩ <;> trivial)
  obtain ⟨W0, hW0⟩ : ∃ W, w.alloc (.cells #[.int .i64 0, .int .i64 0, .string ⟨#[]⟩, .slice none 0 0] 44) = W := ⟨_, rfl⟩
  have hT0 : Touch NoB w W0 := by rw [← hW0]; exact (Touch.refl _ _).alloc _
  have hb4 : XB W0 w.heap.size 0 0 ⟨#[]⟩ none 0 0 := by rw [← hW0]; exact XB.new w _ _ _ _ _ _ rfl
  have hs0 : W0.heap.size = w.heap.size + 1 := by rw [← hW0]; simp only [World.size_alloc]
  have hgp := blk_lt h.blk
  have hgl := h.tl.lt
  have HP := Lib.hid (h.touch hT0)
  have HB4 := Lib.hid hb4
  have HT0 := Lib.hid hT0
  have HN := Lib.hid (fun (W : World) (t : Touch NoB W0 W) => next_any ((h.touch hT0).touch t))
  have hk3 : (((nxt ts k 0).kd : Int) == 3) = false := by rw [show (3 : Int) = ((3 : Nat) : Int) from rfl, eqq_nat]; simpa using h3
  have hk1 : (((nxt ts k 0).kd : Int) == 1) = false := by rw [show (1 : Int) = ((1 : Nat) : Int) from rfl, eqq_nat]; simpa using h1
  have Hc39 : Hid (∀ W, Touch NoB W0 W → Calls Tryz.prog 80 #[.pointer (some ⟨gp, 0, none⟩), .string ⟨#[39]⟩] W fun x w' => x = .returned (.bool false) ∧ PS w' gp g n cp ts k 0 ∧ Touch NoB W w') := Lib.hid (fun W t => accept_no (s := [39]) ((h.touch hT0).touch t) c39)
  have HcT : Hid (∀ W, Touch NoB W0 W → Calls Tryz.prog 80 #[.pointer (some ⟨gp, 0, none⟩), .string ⟨#[116, 114, 117, 101]⟩] W fun x w' => x = .returned (.bool false) ∧ PS w' gp g n cp ts k 0 ∧ Touch NoB W w') := Lib.hid (fun W t => accept_no (s := [116, 114, 117, 101]) ((h.touch hT0).touch t) cT)
  have HcF : Hid (∀ W, Touch NoB W0 W → Calls Tryz.prog 80 #[.pointer (some ⟨gp, 0, none⟩), .string ⟨#[102, 97, 108, 115, 101]⟩] W fun x w' => x = .returned (.bool false) ∧ PS w' gp g n cp ts k 0 ∧ Touch NoB W w') := Lib.hid (fun W t => accept_no (s := [102, 97, 108, 115, 101]) ((h.touch hT0).touch t) cF)
  have HcS : Hid (∀ W, Touch NoB W0 W → Calls Tryz.prog 80 #[.pointer (some ⟨gp, 0, none⟩), .string ⟨#[115, 101, 108, 102]⟩] W fun x w' => x = .returned (.bool false) ∧ PS w' gp g n cp ts k 0 ∧ Touch NoB W w') := Lib.hid (fun W t => accept_no (s := [115, 101, 108, 102]) ((h.touch hT0).touch t) cS)
  have HY : Hid (∀ W, Touch NoB W0 W → Calls Tryz.prog 80 #[.pointer (some ⟨gp, 0, none⟩), .string ⟨#[116, 105, 109, 101]⟩] W fun x w' => x = .returned (.bool true) ∧ PS w' gp g n cp ts (k + 1) 0 ∧ Touch (AtB gp) W w') := Lib.hid (fun W t => accept_yes (s := [116, 105, 109, 101]) ((h.touch hT0).touch t) hy)
  have hfd := fun (a b c d : Value) (W : World) => tok_kd a b c d W
  obtain ⟨kd, hkd⟩ : ∃ kd, (nxt ts k 0).kd = kd := ⟨_, rfl⟩
  obtain ⟨nn, hnn⟩ : ∃ nn, (nxt ts k 0).n = nn := ⟨_, rfl⟩
  obtain ⟨pl, hpl⟩ : ∃ pl, (nxt ts k 0).pl = pl := ⟨_, rfl⟩
  obtain ⟨tx, htx⟩ : ∃ tx, bs (nxt ts k 0).tx = tx := ⟨_, rfl⟩
  simp only [hkd, hnn, hpl, htx] at HN
  rw [hkd] at hk3 hk1
  clear h hT0 hb4 hkd hnn hpl htx
  go_enter Tryz.func179, Tryz.ntmps179
  go_wp2_with fail
  refine (HN.out _ (Touch.refl _ _)).mono ?_
  rintro r W1 ⟨rfl, hT⟩
  have HT := Lib.hid hT
  clear hT
  go_wp2_with fail
  refine (HN.out _ HT.out).mono ?_
  rintro r W2 ⟨rfl, hT⟩
  have HT := Lib.hid (HT.out.same hT)
  clear hT
  go_wp2_with fail
  refine (Hc39.out _ HT.out).mono ?_
  rintro r U0 ⟨rfl, -, hT⟩
  have HT := Lib.hid (HT.out.same hT)
  clear hT
  go_wp2_with fail
  refine (HcT.out _ HT.out).mono ?_
  rintro r U1 ⟨rfl, -, hT⟩
  have HT := Lib.hid (HT.out.same hT)
  clear hT
  go_wp2_with fail
  refine (HcF.out _ HT.out).mono ?_
  rintro r U2 ⟨rfl, -, hT⟩
  have HT := Lib.hid (HT.out.same hT)
  clear hT
  go_wp2_with fail
  refine (HcS.out _ HT.out).mono ?_
  rintro r U3 ⟨rfl, -, hT⟩
  have HT := Lib.hid (HT.out.same hT)
  clear hT
  go_wp2_with fail
  refine (HY.out _ HT.out).mono ?_
  rintro r V ⟨rfl, hp, hT⟩
  have HQ := Lib.hid (And.intro hp ((Touch.anyB HT.out).same hT))
  clear hp hT
  have hb4 := HB4.out.go HQ.out.2 (by omega)
  obtain ⟨z0, z1, z2, z3, z4⟩ := hb4.cells
  obtain ⟨f0, f1, f2, f3⟩ := hb4.free
  clear hb4
  go_wp2
  have hTE := touch4 (F := AtB gp) ((Touch.anyB (F := AtB gp) HT0.out).same HQ.out.2) (.inr (Nat.le_refl w.heap.size)) (.int .i64 5) (.int .i64 0) (.string ⟨#[]⟩) (.slice none 0 0)
  have hTX := touch4 (F := fun b => b = w.heap.size) (Touch.refl _ V) (.inl rfl) (.int .i64 5) (.int .i64 0) (.string ⟨#[]⟩) (.slice none 0 0)
  exact bodyPost_ret (v := .agg #[.int .i64 5, .int .i64 0, .string ⟨#[]⟩, .slice none 0 0]) (by simp [results, Tryz.results179, go_sem, z0, z1, z2, z3]) rfl ⟨hTE, .leaf 5 0 [], k + 1, 0, _, _, _, _, _, _, rfl, ⟨rfl, rfl, rfl, rfl, rfl, rfl⟩, HQ.out.1.touchX hTX hgp hgl, HO.out, by simp only [Ex.depth]; omega⟩
theorem prim_none {gp g n cp B d d1 D : Nat} {ts : List Tk} {E : Nat → Rs} (HE : BinOk gp g n cp B ts 0 d1 D E) (hd1 : d1 = d + 1) (hds : d ≤ 1000) (hD : D ≤ 9000) (hB : B ≤ gp) (hok : NamesOk ts) {w : World} {k e : Nat} (h : PS w gp g n cp ts k e) (hv : LV w B) (h3 : (nxt ts k e).kd ≠ 3) (h1 : (nxt ts k e).kd ≠ 1) (c39 : acc (nxt ts k e) [39] = false) (cT : acc (nxt ts k e) [116, 114, 117, 101] = false) (cF : acc (nxt ts k e) [102, 97, 108, 115, 101] = false) (cS : acc (nxt ts k e) [115, 101, 108, 102] = false) (cM : acc (nxt ts k e) [116, 105, 109, 101] = false) (cP : acc (nxt ts k e) [40] = false) (cR : acc (nxt ts k e) [102, 97, 114] = false) :
    Calls Tryz.prog 179 #[.pointer (some ⟨gp, 0, none⟩), .int .i64 (d : Int)] w (XP w NoB gp g n cp ts (primL ts E k) k e (D + 2)) := by
  have _ := @HE; have _ := hd1; have _ := hv; have _ := hds; have _ := hok; have _ := hD; have _ := hB
  have HO : Hid (Out (primL ts E k) k e (.leaf 0 0 []) k (if e = 0 then 2 else e)) := Lib.hid (by
    unfold Out
    by_cases he : e = 0
    · subst he
      unfold primL
      rw [if_pos rfl, num_nof h3, nam_nof h1]
      have q0 := c39
      rw [acc_ok] at q0
      have q1 := cT
      rw [acc_ok] at q1
      have q2 := cF
      rw [acc_ok] at q2
      have q3 := cS
      rw [acc_ok] at q3
      have q4 := cM
      rw [acc_ok] at q4
      have q5 := cP
      rw [acc_ok] at q5
      have q6 := cR
      rw [acc_ok] at q6
      simp only [q0, q1, q2, q3, q4, q5, q6, Bool.false_eq_true, if_false]
      refine ⟨?_, ?_, ?_⟩ <;> first | trivial | decide
    · rw [if_neg he, if_neg he]; exact ⟨rfl, rfl⟩)
  obtain ⟨e9, he9⟩ : ∃ e9, (if e = 0 then 2 else e) = e9 := ⟨_, rfl⟩
  rw [he9] at HO
  have HFL : Hid (∀ W, Touch NoB w W → Calls Tryz.prog 44 #[.pointer (some ⟨gp, 0, none⟩), .int .i64 2] W fun x w' => x = .returned (.tuple #[]) ∧ PS w' gp g n cp ts k e9 ∧ Touch (AtB gp) W w') := Lib.hid (fun W t => by rw [← he9]; exact fail_any (h.touch t) 2)
  clear he9
  obtain ⟨W0, hW0⟩ : ∃ W, w.alloc (.cells #[.int .i64 0, .int .i64 0, .string ⟨#[]⟩, .slice none 0 0] 44) = W := ⟨_, rfl⟩
  have hT0 : Touch NoB w W0 := by rw [← hW0]; exact (Touch.refl _ _).alloc _
  have hb4 : XB W0 w.heap.size 0 0 ⟨#[]⟩ none 0 0 := by rw [← hW0]; exact XB.new w _ _ _ _ _ _ rfl
  have hs0 : W0.heap.size = w.heap.size + 1 := by rw [← hW0]; simp only [World.size_alloc]
  have hgp := blk_lt h.blk
  have hgl := h.tl.lt
  have HP := Lib.hid (h.touch hT0)
  have HB4 := Lib.hid hb4
  have HT0 := Lib.hid hT0
  have HN := Lib.hid (fun (W : World) (t : Touch NoB W0 W) => next_any ((h.touch hT0).touch t))
  have hk3 : (((nxt ts k e).kd : Int) == 3) = false := by rw [show (3 : Int) = ((3 : Nat) : Int) from rfl, eqq_nat]; simpa using h3
  have hk1 : (((nxt ts k e).kd : Int) == 1) = false := by rw [show (1 : Int) = ((1 : Nat) : Int) from rfl, eqq_nat]; simpa using h1
  have Hc39 : Hid (∀ W, Touch NoB W0 W → Calls Tryz.prog 80 #[.pointer (some ⟨gp, 0, none⟩), .string ⟨#[39]⟩] W fun x w' => x = .returned (.bool false) ∧ PS w' gp g n cp ts k e ∧ Touch NoB W w') := Lib.hid (fun W t => accept_no (s := [39]) ((h.touch hT0).touch t) c39)
  have HcT : Hid (∀ W, Touch NoB W0 W → Calls Tryz.prog 80 #[.pointer (some ⟨gp, 0, none⟩), .string ⟨#[116, 114, 117, 101]⟩] W fun x w' => x = .returned (.bool false) ∧ PS w' gp g n cp ts k e ∧ Touch NoB W w') := Lib.hid (fun W t => accept_no (s := [116, 114, 117, 101]) ((h.touch hT0).touch t) cT)
  have HcF : Hid (∀ W, Touch NoB W0 W → Calls Tryz.prog 80 #[.pointer (some ⟨gp, 0, none⟩), .string ⟨#[102, 97, 108, 115, 101]⟩] W fun x w' => x = .returned (.bool false) ∧ PS w' gp g n cp ts k e ∧ Touch NoB W w') := Lib.hid (fun W t => accept_no (s := [102, 97, 108, 115, 101]) ((h.touch hT0).touch t) cF)
  have HcS : Hid (∀ W, Touch NoB W0 W → Calls Tryz.prog 80 #[.pointer (some ⟨gp, 0, none⟩), .string ⟨#[115, 101, 108, 102]⟩] W fun x w' => x = .returned (.bool false) ∧ PS w' gp g n cp ts k e ∧ Touch NoB W w') := Lib.hid (fun W t => accept_no (s := [115, 101, 108, 102]) ((h.touch hT0).touch t) cS)
  have HcM : Hid (∀ W, Touch NoB W0 W → Calls Tryz.prog 80 #[.pointer (some ⟨gp, 0, none⟩), .string ⟨#[116, 105, 109, 101]⟩] W fun x w' => x = .returned (.bool false) ∧ PS w' gp g n cp ts k e ∧ Touch NoB W w') := Lib.hid (fun W t => accept_no (s := [116, 105, 109, 101]) ((h.touch hT0).touch t) cM)
  have HcP : Hid (∀ W, Touch NoB W0 W → Calls Tryz.prog 80 #[.pointer (some ⟨gp, 0, none⟩), .string ⟨#[40]⟩] W fun x w' => x = .returned (.bool false) ∧ PS w' gp g n cp ts k e ∧ Touch NoB W w') := Lib.hid (fun W t => accept_no (s := [40]) ((h.touch hT0).touch t) cP)
  have HcR : Hid (∀ W, Touch NoB W0 W → Calls Tryz.prog 80 #[.pointer (some ⟨gp, 0, none⟩), .string ⟨#[102, 97, 114]⟩] W fun x w' => x = .returned (.bool false) ∧ PS w' gp g n cp ts k e ∧ Touch NoB W w') := Lib.hid (fun W t => accept_no (s := [102, 97, 114]) ((h.touch hT0).touch t) cR)
  have hfd := fun (a b c d : Value) (W : World) => tok_kd a b c d W
  obtain ⟨kd, hkd⟩ : ∃ kd, (nxt ts k e).kd = kd := ⟨_, rfl⟩
  obtain ⟨nn, hnn⟩ : ∃ nn, (nxt ts k e).n = nn := ⟨_, rfl⟩
  obtain ⟨pl, hpl⟩ : ∃ pl, (nxt ts k e).pl = pl := ⟨_, rfl⟩
  obtain ⟨tx, htx⟩ : ∃ tx, bs (nxt ts k e).tx = tx := ⟨_, rfl⟩
  simp only [hkd, hnn, hpl, htx] at HN
  rw [hkd] at hk3 hk1
  clear h hT0 hb4 hkd hnn hpl htx
  go_enter Tryz.func179, Tryz.ntmps179
  go_wp2_with fail
  refine (HN.out _ (Touch.refl _ _)).mono ?_
  rintro r W1 ⟨rfl, hT⟩
  have HT := Lib.hid hT
  clear hT
  go_wp2_with fail
  refine (HN.out _ HT.out).mono ?_
  rintro r W2 ⟨rfl, hT⟩
  have HT := Lib.hid (HT.out.same hT)
  clear hT
  go_wp2_with fail
  refine (Hc39.out _ HT.out).mono ?_
  rintro r U0 ⟨rfl, -, hT⟩
  have HT := Lib.hid (HT.out.same hT)
  clear hT
  go_wp2_with fail
  refine (HcT.out _ HT.out).mono ?_
  rintro r U1 ⟨rfl, -, hT⟩
  have HT := Lib.hid (HT.out.same hT)
  clear hT
  go_wp2_with fail
  refine (HcF.out _ HT.out).mono ?_
  rintro r U2 ⟨rfl, -, hT⟩
  have HT := Lib.hid (HT.out.same hT)
  clear hT
  go_wp2_with fail
  refine (HcS.out _ HT.out).mono ?_
  rintro r U3 ⟨rfl, -, hT⟩
  have HT := Lib.hid (HT.out.same hT)
  clear hT
  go_wp2_with fail
  refine (HcM.out _ HT.out).mono ?_
  rintro r U4 ⟨rfl, -, hT⟩
  have HT := Lib.hid (HT.out.same hT)
  clear hT
  go_wp2_with fail
  refine (HcP.out _ HT.out).mono ?_
  rintro r U5 ⟨rfl, -, hT⟩
  have HT := Lib.hid (HT.out.same hT)
  clear hT
  go_wp2_with fail
  refine (HcR.out _ HT.out).mono ?_
  rintro r U6 ⟨rfl, -, hT⟩
  have HT := Lib.hid (HT.out.same hT)
  clear hT
  go_wp2_with fail
  refine (HFL.out _ (HT0.out.same HT.out)).mono ?_
  rintro r V ⟨rfl, hp, hT⟩
  have HQ := Lib.hid (And.intro hp ((Touch.anyB HT.out).same hT))
  clear hp hT
  have hb4 := HB4.out.go HQ.out.2 (by omega)
  obtain ⟨z0, z1, z2, z3, z4⟩ := hb4.cells
  obtain ⟨f0, f1, f2, f3⟩ := hb4.free
  clear hb4
  go_wp2
  have hTE := touch4 (F := AtB gp) ((Touch.anyB (F := AtB gp) HT0.out).same HQ.out.2) (.inr (Nat.le_refl w.heap.size)) (.int .i64 0) (.int .i64 0) (.string ⟨#[]⟩) (.slice none 0 0)
  have hTX := touch4 (F := fun b => b = w.heap.size) (Touch.refl _ V) (.inl rfl) (.int .i64 0) (.int .i64 0) (.string ⟨#[]⟩) (.slice none 0 0)
  exact bodyPost_ret (v := .agg #[.int .i64 0, .int .i64 0, .string ⟨#[]⟩, .slice none 0 0]) (by simp [results, Tryz.results179, go_sem, z0, z1, z2, z3]) rfl ⟨hTE, .leaf 0 0 [], k, e9, _, _, _, _, _, _, rfl, ⟨rfl, rfl, rfl, rfl, rfl, rfl⟩, HQ.out.1.touchX hTX hgp hgl, HO.out, by simp only [Ex.depth]; omega⟩
end Go.Proofs.YtkmbobfjoaldgaaGreatDoor
