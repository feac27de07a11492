/-
  What the document's own first does with a reader in memory: the simple branches. Conditions: what it calls does as the model says.
-/
import Derived.Test.YtnphaaahdlkmhaaGreatZs23
import Derived.Test.YtnphaaahdlkmhaaGreatZs7
section
namespace Go.Proofs.YtnphaaahdlkmhaaGreat
open Go.ChangeShapes Go.WideShapes Go.ChangeAt Go.RowKit
set_option maxRecDepth 100000
set_option maxHeartbeats 4000000

theorem rfirst_num {gp g n cp d d1 D : Nat} {ts : List Tk} {E : Nat → Rs} (HE : RBinOk gp g n cp ts 0 d1 D E) (hd1 : d1 = d + 1) (hds : d ≤ 1000) (hD : D ≤ 9000) {w : World} {k : Nat} (h : RS w gp g n cp ts k 0) (h3 : (nxt ts k 0).kd = 3) :
    Calls Tryz.prog 79 #[.pointer (some ⟨gp, 0, none⟩), .int .i64 (d : Int)] w (RP w NoB gp g n cp ts (primL ts E k) k 0 (D + 2)) := by
  have _ := @HE; have _ := hd1; have _ := hds; have _ := hD
  have HO : Hid (Out (primL ts E k) k 0 (.leaf 0 (nxt ts k 0).n []) (k + 1) 0) := Lib.hid (by unfold Out primL; rw [if_pos rfl, num_of h3]; exact ⟨rfl, rfl, rfl⟩)
  obtain ⟨W0, hW0⟩ : ∃ W, w.alloc (.cells #[.int .i64 0, .int .i64 0, .string ⟨#[]⟩, .slice none 0 0] 44) = W := ⟨_, rfl⟩
  have hT0 : Touch NoB w W0 := by rw [← hW0]; exact (Touch.refl _ _).alloc _
  have hb4 : XB W0 w.heap.size 0 0 ⟨#[]⟩ none 0 0 := by rw [← hW0]; exact XB.new w _ _ _ _ _ _ rfl
  have hs0 : W0.heap.size = w.heap.size + 1 := by rw [← hW0]; simp only [World.size_alloc]
  have hgp := h.lt
  have hgl := h.tl.lt
  have HP := Lib.hid (h.touch hT0)
  have HB4 := Lib.hid hb4
  have HT0 := Lib.hid hT0
  have HN := Lib.hid (rnow_any (h.touch hT0))
  have hk3 : (((nxt ts k 0).kd : Int) == 3) = true := by rw [show (3 : Int) = ((3 : Nat) : Int) from rfl, eqq_nat]; simpa using h3
  have hlt : k < n := by
    by_cases hl : k < n
    · exact hl
    · have := h.le
      have e : k = ts.length := by rw [h.len]; omega
      rw [e, nxt_end] at h3; exact absurd h3 (by decide)
  have hsm := h.small
  obtain ⟨k1, hkk⟩ : ∃ k1, k + 1 = k1 := ⟨_, rfl⟩
  have hkw : IntKind.i64.wrap ((k : Int) + 1) = (k1 : Int) := by rw [show (k : Int) + 1 = (k1 : Int) from by omega]; exact IntWalk.i64_in _ (by omega)
  have hk1n : k1 ≤ n := by omega
  rw [hkk] at HO
  obtain ⟨kd, hkd⟩ : ∃ kd, (nxt ts k 0).kd = kd := ⟨_, rfl⟩
  obtain ⟨nn, hnn⟩ : ∃ nn, (nxt ts k 0).n = nn := ⟨_, rfl⟩
  obtain ⟨pl, hpl⟩ : ∃ pl, (nxt ts k 0).pl = pl := ⟨_, rfl⟩
  obtain ⟨tx, htx⟩ : ∃ tx, bs (nxt ts k 0).tx = tx := ⟨_, rfl⟩
  simp only [hkd, hnn, hpl, htx] at HN
  rw [hkd] at hk3
  clear h hT0 hb4 hkd hpl htx hkk hlt
  rw [hnn] at HO
  clear hnn
  go_enter Tryz.func79, Tryz.ntmps79
  go_wp2_with fail
  refine HN.out.mono ?_
  rintro r w1 ⟨rfl, hT1⟩
  obtain ⟨W, hW⟩ : ∃ W, w1.alloc (.cells #[.int .i64 (kd : Int), .int .i64 (nn : Int), .int .i64 (pl : Int), .string tx] 52) = W := ⟨_, rfl⟩
  have hT2 : Touch NoB W0 W := by rw [← hW]; exact hT1.alloc _
  obtain ⟨q5, hq5⟩ : ∃ q5, w1.heap.size = q5 := ⟨_, rfl⟩
  have hs1 := hT1.size
  have hb : W.heap[q5]? = some (.cells #[.int .i64 (kd : Int), .int .i64 (nn : Int), .int .i64 (pl : Int), .string tx] 52 (0, 0)) := by rw [← hW]; exact alloc_blk _ _ _ hq5
  have d0 : W.cell? ⟨q5, 0, none⟩ = some (.int .i64 (kd : Int)) := cell_blk hb 0
  have hl5 := blk_lt hb
  have HB5 := Lib.hid hb
  have HT := Lib.hid hT2
  have hp2 := HP.out.touch hT2
  have c1 : W.cell? ⟨gp, 1, none⟩ = some (.int .i64 (k : Int)) := hp2.cell1
  have q1 : W.frozen? ⟨gp, 1, none⟩ = false := hp2.free1
  obtain ⟨V, hV⟩ : ∃ V, W.setCell ⟨gp, 1, none⟩ (.int .i64 (k1 : Int)) = V := ⟨_, rfl⟩
  have t3 : Touch (AtB gp) W V := by rw [← hV]; exact touch_set (gp := gp) (Touch.refl _ W) 1 _
  have hb3 : V.heap[q5]? = some (.cells #[.int .i64 (kd : Int), .int .i64 (nn : Int), .int .i64 (pl : Int), .string tx] 52 (0, 0)) := (t3.block _ hl5 (by unfold AtB; omega)).trans hb
  have e1 : V.cell? ⟨q5, 1, none⟩ = some (.int .i64 (nn : Int)) := cell_blk hb3 1
  have e3 : V.cell? ⟨q5, 3, none⟩ = some (.string tx) := cell_blk hb3 3
  have hl53 := blk_lt hb3
  have HQ := Lib.hid (And.intro (show RS V gp g n cp ts k1 0 by rw [← hV]; exact hp2.setk k1 hk1n) (show Touch (AtB gp) W0 V from (Touch.anyB hT2).same t3))
  clear hp2 hb hb3 t3 hT1 hT2
  have hb4 := HB4.out.go HQ.out.2 (by omega)
  obtain ⟨z0, z1, z2, z3, z4⟩ := hb4.cells
  obtain ⟨f0, f1, f2, f3⟩ := hb4.free
  clear hb4
  go_wp2
  have hTE := touch4 (F := AtB gp) ((Touch.anyB (F := AtB gp) HT0.out).same HQ.out.2) (.inr (Nat.le_refl w.heap.size)) (.int .i64 0) (.int .i64 (nn : Int)) (.string ⟨#[]⟩) (.slice none 0 0)
  have hTX := touch4 (F := fun b => b = w.heap.size) (Touch.refl _ V) (.inl rfl) (.int .i64 0) (.int .i64 (nn : Int)) (.string ⟨#[]⟩) (.slice none 0 0)
  exact bodyPost_ret (v := .agg #[.int .i64 0, .int .i64 (nn : Int), .string ⟨#[]⟩, .slice none 0 0]) (by simp [results, Tryz.results79, go_sem, z0, z1, z2, z3]) rfl ⟨hTE, .leaf 0 nn [], k1, 0, _, _, _, _, _, _, rfl, ⟨rfl, rfl, rfl, rfl, rfl, rfl⟩, HQ.out.1.touchX hTX hgp hgl, HO.out, by simp only [Ex.depth]; omega⟩
theorem rfirst_nam {gp g n cp d d1 D : Nat} {ts : List Tk} {E : Nat → Rs} (HE : RBinOk gp g n cp ts 0 d1 D E) (hd1 : d1 = d + 1) (hds : d ≤ 1000) (hD : D ≤ 9000) {w : World} {k : Nat} (h : RS w gp g n cp ts k 0) (h3 : (nxt ts k 0).kd ≠ 3) (h1 : (nxt ts k 0).kd = 1) :
    Calls Tryz.prog 79 #[.pointer (some ⟨gp, 0, none⟩), .int .i64 (d : Int)] w (RP w NoB gp g n cp ts (primL ts E k) k 0 (D + 2)) := by
  have _ := @HE; have _ := hd1; have _ := hds; have _ := hD
  have HO : Hid (Out (primL ts E k) k 0 (.leaf 2 0 (nxt ts k 0).tx) (k + 1) 0) := Lib.hid (by unfold Out primL; rw [if_pos rfl, num_nof h3, nam_of h1]; exact ⟨rfl, rfl, rfl⟩)
  obtain ⟨W0, hW0⟩ : ∃ W, w.alloc (.cells #[.int .i64 0, .int .i64 0, .string ⟨#[]⟩, .slice none 0 0] 44) = W := ⟨_, rfl⟩
  have hT0 : Touch NoB w W0 := by rw [← hW0]; exact (Touch.refl _ _).alloc _
  have hb4 : XB W0 w.heap.size 0 0 ⟨#[]⟩ none 0 0 := by rw [← hW0]; exact XB.new w _ _ _ _ _ _ rfl
  have hs0 : W0.heap.size = w.heap.size + 1 := by rw [← hW0]; simp only [World.size_alloc]
  have hgp := h.lt
  have hgl := h.tl.lt
  have HP := Lib.hid (h.touch hT0)
  have HB4 := Lib.hid hb4
  have HT0 := Lib.hid hT0
  have HN := Lib.hid (rnow_any (h.touch hT0))
  have hk3 : (((nxt ts k 0).kd : Int) == 3) = false := by rw [show (3 : Int) = ((3 : Nat) : Int) from rfl, eqq_nat]; simpa using h3
  have hk1 : (((nxt ts k 0).kd : Int) == 1) = true := by rw [show (1 : Int) = ((1 : Nat) : Int) from rfl, eqq_nat]; simpa using h1
  have hlt : k < n := by
    by_cases hl : k < n
    · exact hl
    · have := h.le
      have e : k = ts.length := by rw [h.len]; omega
      rw [e, nxt_end] at h1; exact absurd h1 (by decide)
  have hsm := h.small
  obtain ⟨k1, hkk⟩ : ∃ k1, k + 1 = k1 := ⟨_, rfl⟩
  have hkw : IntKind.i64.wrap ((k : Int) + 1) = (k1 : Int) := by rw [show (k : Int) + 1 = (k1 : Int) from by omega]; exact IntWalk.i64_in _ (by omega)
  have hk1n : k1 ≤ n := by omega
  rw [hkk] at HO
  obtain ⟨kd, hkd⟩ : ∃ kd, (nxt ts k 0).kd = kd := ⟨_, rfl⟩
  obtain ⟨nn, hnn⟩ : ∃ nn, (nxt ts k 0).n = nn := ⟨_, rfl⟩
  obtain ⟨pl, hpl⟩ : ∃ pl, (nxt ts k 0).pl = pl := ⟨_, rfl⟩
  obtain ⟨tx, htx⟩ : ∃ tx, bs (nxt ts k 0).tx = tx := ⟨_, rfl⟩
  simp only [hkd, hnn, hpl, htx] at HN
  rw [hkd] at hk3 hk1
  clear h hT0 hb4 hkd hpl hnn hkk hlt
  have HTX := Lib.hid htx
  clear htx
  go_enter Tryz.func79, Tryz.ntmps79
  go_wp2_with fail
  refine HN.out.mono ?_
  rintro r w1 ⟨rfl, hT1⟩
  obtain ⟨W, hW⟩ : ∃ W, w1.alloc (.cells #[.int .i64 (kd : Int), .int .i64 (nn : Int), .int .i64 (pl : Int), .string tx] 52) = W := ⟨_, rfl⟩
  have hT2 : Touch NoB W0 W := by rw [← hW]; exact hT1.alloc _
  obtain ⟨q5, hq5⟩ : ∃ q5, w1.heap.size = q5 := ⟨_, rfl⟩
  have hs1 := hT1.size
  have hb : W.heap[q5]? = some (.cells #[.int .i64 (kd : Int), .int .i64 (nn : Int), .int .i64 (pl : Int), .string tx] 52 (0, 0)) := by rw [← hW]; exact alloc_blk _ _ _ hq5
  have d0 : W.cell? ⟨q5, 0, none⟩ = some (.int .i64 (kd : Int)) := cell_blk hb 0
  have hl5 := blk_lt hb
  have HB5 := Lib.hid hb
  have HT := Lib.hid hT2
  have hp2 := HP.out.touch hT2
  have c1 : W.cell? ⟨gp, 1, none⟩ = some (.int .i64 (k : Int)) := hp2.cell1
  have q1 : W.frozen? ⟨gp, 1, none⟩ = false := hp2.free1
  obtain ⟨V, hV⟩ : ∃ V, W.setCell ⟨gp, 1, none⟩ (.int .i64 (k1 : Int)) = V := ⟨_, rfl⟩
  have t3 : Touch (AtB gp) W V := by rw [← hV]; exact touch_set (gp := gp) (Touch.refl _ W) 1 _
  have hb3 : V.heap[q5]? = some (.cells #[.int .i64 (kd : Int), .int .i64 (nn : Int), .int .i64 (pl : Int), .string tx] 52 (0, 0)) := (t3.block _ hl5 (by unfold AtB; omega)).trans hb
  have e1 : V.cell? ⟨q5, 1, none⟩ = some (.int .i64 (nn : Int)) := cell_blk hb3 1
  have e3 : V.cell? ⟨q5, 3, none⟩ = some (.string tx) := cell_blk hb3 3
  have hl53 := blk_lt hb3
  have HQ := Lib.hid (And.intro (show RS V gp g n cp ts k1 0 by rw [← hV]; exact hp2.setk k1 hk1n) (show Touch (AtB gp) W0 V from (Touch.anyB hT2).same t3))
  clear hp2 hb hb3 t3 hT1 hT2
  have hb4 := HB4.out.go HQ.out.2 (by omega)
  obtain ⟨z0, z1, z2, z3, z4⟩ := hb4.cells
  obtain ⟨f0, f1, f2, f3⟩ := hb4.free
  clear hb4
  go_wp2
  have hTE := touch4 (F := AtB gp) ((Touch.anyB (F := AtB gp) HT0.out).same HQ.out.2) (.inr (Nat.le_refl w.heap.size)) (.int .i64 2) (.int .i64 0) (.string tx) (.slice none 0 0)
  have hTX := touch4 (F := fun b => b = w.heap.size) (Touch.refl _ V) (.inl rfl) (.int .i64 2) (.int .i64 0) (.string tx) (.slice none 0 0)
  exact bodyPost_ret (v := .agg #[.int .i64 2, .int .i64 0, .string tx, .slice none 0 0]) (by simp [results, Tryz.results79, go_sem, z0, z1, z2, z3]) rfl ⟨hTE, .leaf 2 0 (nxt ts k 0).tx, k1, 0, _, _, _, _, _, _, rfl, ⟨rfl, rfl, HTX.out.symm, rfl, rfl, rfl⟩, HQ.out.1.touchX hTX hgp hgl, HO.out, by simp only [Ex.depth]; omega⟩
theorem rfirst_cT {gp g n cp d d1 D : Nat} {ts : List Tk} {E : Nat → Rs} (HE : RBinOk gp g n cp ts 0 d1 D E) (hd1 : d1 = d + 1) (hds : d ≤ 1000) (hD : D ≤ 9000) {w : World} {k : Nat} (h : RS w gp g n cp ts k 0) (h3 : (nxt ts k 0).kd ≠ 3) (h1 : (nxt ts k 0).kd ≠ 1) (hy : acc (nxt ts k 0) [116, 114, 117, 101] = true) :
    Calls Tryz.prog 79 #[.pointer (some ⟨gp, 0, none⟩), .int .i64 (d : Int)] w (RP w NoB gp g n cp ts (primL ts E k) k 0 (D + 2)) := by
  have _ := @HE; have _ := hd1; have _ := hds; have _ := hD
  have c39 : acc (nxt ts k 0) [39] = false := by cases hc : acc (nxt ts k 0) [39]; rfl; exact absurd (acc_same hc hy) (by decide)
  have HO : Hid (Out (primL ts E k) k 0 (.leaf 1 1 []) (k + 1) 0) := Lib.hid (by
    have hy' := hy
    have c39' := c39
    rw [acc_ok] at c39'
    rw [acc_ok] at hy'
    unfold Out primL
    rw [if_pos rfl, num_nof h3, nam_nof h1]
    simp only [c39', hy', if_true, Bool.false_eq_true, if_false]
    exact ⟨trivial, trivial, trivial⟩)
  clear c39
  obtain ⟨W0, hW0⟩ : ∃ W, w.alloc (.cells #[.int .i64 0, .int .i64 0, .string ⟨#[]⟩, .slice none 0 0] 44) = W := ⟨_, rfl⟩
  have hT0 : Touch NoB w W0 := by rw [← hW0]; exact (Touch.refl _ _).alloc _
  have hb4 : XB W0 w.heap.size 0 0 ⟨#[]⟩ none 0 0 := by rw [← hW0]; exact XB.new w _ _ _ _ _ _ rfl
  have hs0 : W0.heap.size = w.heap.size + 1 := by rw [← hW0]; simp only [World.size_alloc]
  have hgp := h.lt
  have hgl := h.tl.lt
  have HP := Lib.hid (h.touch hT0)
  have HB4 := Lib.hid hb4
  have HT0 := Lib.hid hT0
  have HN := Lib.hid (rnow_any (h.touch hT0))
  have hk3 : (((nxt ts k 0).kd : Int) == 3) = false := by rw [show (3 : Int) = ((3 : Nat) : Int) from rfl, eqq_nat]; simpa using h3
  have hk1 : (((nxt ts k 0).kd : Int) == 1) = false := by rw [show (1 : Int) = ((1 : Nat) : Int) from rfl, eqq_nat]; simpa using h1
  have HY : Hid (∀ W, Touch NoB W0 W → Calls Tryz.prog 16 #[.pointer (some ⟨gp, 0, none⟩), .string ⟨#[116, 114, 117, 101]⟩] W fun x w' => x = .returned (.bool true) ∧ RS w' gp g n cp ts (k + 1) 0 ∧ Touch (AtB gp) W w') := Lib.hid (fun W t => rtake_yes (s := [116, 114, 117, 101]) ((h.touch hT0).touch t) hy)
  obtain ⟨kd, hkd⟩ : ∃ kd, (nxt ts k 0).kd = kd := ⟨_, rfl⟩
  obtain ⟨nn, hnn⟩ : ∃ nn, (nxt ts k 0).n = nn := ⟨_, rfl⟩
  obtain ⟨pl, hpl⟩ : ∃ pl, (nxt ts k 0).pl = pl := ⟨_, rfl⟩
  obtain ⟨tx, htx⟩ : ∃ tx, bs (nxt ts k 0).tx = tx := ⟨_, rfl⟩
  simp only [hkd, hnn, hpl, htx] at HN
  rw [hkd] at hk3 hk1
  clear h hT0 hb4 hkd hnn hpl htx
  go_enter Tryz.func79, Tryz.ntmps79
  go_wp2_with fail
  refine HN.out.mono ?_
  rintro r w1 ⟨rfl, hT1⟩
  obtain ⟨W, hW⟩ : ∃ W, w1.alloc (.cells #[.int .i64 (kd : Int), .int .i64 (nn : Int), .int .i64 (pl : Int), .string tx] 52) = W := ⟨_, rfl⟩
  have hT2 : Touch NoB W0 W := by rw [← hW]; exact hT1.alloc _
  obtain ⟨q5, hq5⟩ : ∃ q5, w1.heap.size = q5 := ⟨_, rfl⟩
  have hs1 := hT1.size
  have hb : W.heap[q5]? = some (.cells #[.int .i64 (kd : Int), .int .i64 (nn : Int), .int .i64 (pl : Int), .string tx] 52 (0, 0)) := by rw [← hW]; exact alloc_blk _ _ _ hq5
  have d0 : W.cell? ⟨q5, 0, none⟩ = some (.int .i64 (kd : Int)) := cell_blk hb 0
  have hl5 := blk_lt hb
  have HB5 := Lib.hid hb
  have HT := Lib.hid hT2
  go_wp2_with fail
  refine (HY.out _ HT.out).mono ?_
  rintro r V ⟨rfl, hp, hT⟩
  have HQ := Lib.hid (And.intro hp ((Touch.anyB HT.out).same hT))
  clear hp hT
  have hb4 := HB4.out.go HQ.out.2 (by omega)
  obtain ⟨z0, z1, z2, z3, z4⟩ := hb4.cells
  obtain ⟨f0, f1, f2, f3⟩ := hb4.free
  clear hb4
  go_wp2
  have hTE := touch4 (F := AtB gp) ((Touch.anyB (F := AtB gp) HT0.out).same HQ.out.2) (.inr (Nat.le_refl w.heap.size)) (.int .i64 1) (.int .i64 1) (.string ⟨#[]⟩) (.slice none 0 0)
  have hTX := touch4 (F := fun b => b = w.heap.size) (Touch.refl _ V) (.inl rfl) (.int .i64 1) (.int .i64 1) (.string ⟨#[]⟩) (.slice none 0 0)
  exact bodyPost_ret (v := .agg #[.int .i64 1, .int .i64 1, .string ⟨#[]⟩, .slice none 0 0]) (by simp [results, Tryz.results79, go_sem, z0, z1, z2, z3]) rfl ⟨hTE, .leaf 1 1 [], (k + 1), 0, _, _, _, _, _, _, rfl, ⟨rfl, rfl, rfl, rfl, rfl, rfl⟩, HQ.out.1.touchX hTX hgp hgl, HO.out, by simp only [Ex.depth]; omega⟩
theorem rfirst_cF {gp g n cp d d1 D : Nat} {ts : List Tk} {E : Nat → Rs} (HE : RBinOk gp g n cp ts 0 d1 D E) (hd1 : d1 = d + 1) (hds : d ≤ 1000) (hD : D ≤ 9000) {w : World} {k : Nat} (h : RS w gp g n cp ts k 0) (h3 : (nxt ts k 0).kd ≠ 3) (h1 : (nxt ts k 0).kd ≠ 1) (cT : acc (nxt ts k 0) [116, 114, 117, 101] = false) (hy : acc (nxt ts k 0) [102, 97, 108, 115, 101] = true) :
    Calls Tryz.prog 79 #[.pointer (some ⟨gp, 0, none⟩), .int .i64 (d : Int)] w (RP w NoB gp g n cp ts (primL ts E k) k 0 (D + 2)) := by
  have _ := @HE; have _ := hd1; have _ := hds; have _ := hD
  have c39 : acc (nxt ts k 0) [39] = false := by cases hc : acc (nxt ts k 0) [39]; rfl; exact absurd (acc_same hc hy) (by decide)
  have HO : Hid (Out (primL ts E k) k 0 (.leaf 1 0 []) (k + 1) 0) := Lib.hid (by
    have hy' := hy
    have c39' := c39
    rw [acc_ok] at c39'
    have cT' := cT
    rw [acc_ok] at cT'
    rw [acc_ok] at hy'
    unfold Out primL
    rw [if_pos rfl, num_nof h3, nam_nof h1]
    simp only [c39', cT', hy', if_true, Bool.false_eq_true, if_false]
    exact ⟨trivial, trivial, trivial⟩)
  clear c39
  obtain ⟨W0, hW0⟩ : ∃ W, w.alloc (.cells #[.int .i64 0, .int .i64 0, .string ⟨#[]⟩, .slice none 0 0] 44) = W := ⟨_, rfl⟩
  have hT0 : Touch NoB w W0 := by rw [← hW0]; exact (Touch.refl _ _).alloc _
  have hb4 : XB W0 w.heap.size 0 0 ⟨#[]⟩ none 0 0 := by rw [← hW0]; exact XB.new w _ _ _ _ _ _ rfl
  have hs0 : W0.heap.size = w.heap.size + 1 := by rw [← hW0]; simp only [World.size_alloc]
  have hgp := h.lt
  have hgl := h.tl.lt
  have HP := Lib.hid (h.touch hT0)
  have HB4 := Lib.hid hb4
  have HT0 := Lib.hid hT0
  have HN := Lib.hid (rnow_any (h.touch hT0))
  have hk3 : (((nxt ts k 0).kd : Int) == 3) = false := by rw [show (3 : Int) = ((3 : Nat) : Int) from rfl, eqq_nat]; simpa using h3
  have hk1 : (((nxt ts k 0).kd : Int) == 1) = false := by rw [show (1 : Int) = ((1 : Nat) : Int) from rfl, eqq_nat]; simpa using h1
  have HcT : Hid (∀ W, Touch NoB W0 W → Calls Tryz.prog 16 #[.pointer (some ⟨gp, 0, none⟩), .string ⟨#[116, 114, 117, 101]⟩] W fun x w' => x = .returned (.bool false) ∧ RS w' gp g n cp ts k 0 ∧ Touch NoB W w') := Lib.hid (fun W t => rtake_no (s := [116, 114, 117, 101]) ((h.touch hT0).touch t) cT)
  have HY : Hid (∀ W, Touch NoB W0 W → Calls Tryz.prog 16 #[.pointer (some ⟨gp, 0, none⟩), .string ⟨#[102, 97, 108, 115, 101]⟩] W fun x w' => x = .returned (.bool true) ∧ RS w' gp g n cp ts (k + 1) 0 ∧ Touch (AtB gp) W w') := Lib.hid (fun W t => rtake_yes (s := [102, 97, 108, 115, 101]) ((h.touch hT0).touch t) hy)
  obtain ⟨kd, hkd⟩ : ∃ kd, (nxt ts k 0).kd = kd := ⟨_, rfl⟩
  obtain ⟨nn, hnn⟩ : ∃ nn, (nxt ts k 0).n = nn := ⟨_, rfl⟩
  obtain ⟨pl, hpl⟩ : ∃ pl, (nxt ts k 0).pl = pl := ⟨_, rfl⟩
  obtain ⟨tx, htx⟩ : ∃ tx, bs (nxt ts k 0).tx = tx := ⟨_, rfl⟩
  simp only [hkd, hnn, hpl, htx] at HN
  rw [hkd] at hk3 hk1
  clear h hT0 hb4 hkd hnn hpl htx
  go_enter Tryz.func79, Tryz.ntmps79
  go_wp2_with fail
  refine HN.out.mono ?_
  rintro r w1 ⟨rfl, hT1⟩
  obtain ⟨W, hW⟩ : ∃ W, w1.alloc (.cells #[.int .i64 (kd : Int), .int .i64 (nn : Int), .int .i64 (pl : Int), .string tx] 52) = W := ⟨_, rfl⟩
  have hT2 : Touch NoB W0 W := by rw [← hW]; exact hT1.alloc _
  obtain ⟨q5, hq5⟩ : ∃ q5, w1.heap.size = q5 := ⟨_, rfl⟩
  have hs1 := hT1.size
  have hb : W.heap[q5]? = some (.cells #[.int .i64 (kd : Int), .int .i64 (nn : Int), .int .i64 (pl : Int), .string tx] 52 (0, 0)) := by rw [← hW]; exact alloc_blk _ _ _ hq5
  have d0 : W.cell? ⟨q5, 0, none⟩ = some (.int .i64 (kd : Int)) := cell_blk hb 0
  have hl5 := blk_lt hb
  have HB5 := Lib.hid hb
  have HT := Lib.hid hT2
  go_wp2_with fail
  refine (HcT.out _ HT.out).mono ?_
  rintro r U0 ⟨rfl, -, hT⟩
  have HT := Lib.hid (HT.out.same hT)
  clear hT d0 hb hT1 hT2
  go_wp2_with fail
  refine (HY.out _ HT.out).mono ?_
  rintro r V ⟨rfl, hp, hT⟩
  have HQ := Lib.hid (And.intro hp ((Touch.anyB HT.out).same hT))
  clear hp hT
  have hb4 := HB4.out.go HQ.out.2 (by omega)
  obtain ⟨z0, z1, z2, z3, z4⟩ := hb4.cells
  obtain ⟨f0, f1, f2, f3⟩ := hb4.free
  clear hb4
  go_wp2
  have hTE := touch4 (F := AtB gp) ((Touch.anyB (F := AtB gp) HT0.out).same HQ.out.2) (.inr (Nat.le_refl w.heap.size)) (.int .i64 1) (.int .i64 0) (.string ⟨#[]⟩) (.slice none 0 0)
  have hTX := touch4 (F := fun b => b = w.heap.size) (Touch.refl _ V) (.inl rfl) (.int .i64 1) (.int .i64 0) (.string ⟨#[]⟩) (.slice none 0 0)
  exact bodyPost_ret (v := .agg #[.int .i64 1, .int .i64 0, .string ⟨#[]⟩, .slice none 0 0]) (by simp [results, Tryz.results79, go_sem, z0, z1, z2, z3]) rfl ⟨hTE, .leaf 1 0 [], (k + 1), 0, _, _, _, _, _, _, rfl, ⟨rfl, rfl, rfl, rfl, rfl, rfl⟩, HQ.out.1.touchX hTX hgp hgl, HO.out, by simp only [Ex.depth]; omega⟩
theorem rfirst_cS {gp g n cp d d1 D : Nat} {ts : List Tk} {E : Nat → Rs} (HE : RBinOk gp g n cp ts 0 d1 D E) (hd1 : d1 = d + 1) (hds : d ≤ 1000) (hD : D ≤ 9000) {w : World} {k : Nat} (h : RS w gp g n cp ts k 0) (h3 : (nxt ts k 0).kd ≠ 3) (h1 : (nxt ts k 0).kd ≠ 1) (cT : acc (nxt ts k 0) [116, 114, 117, 101] = false) (cF : acc (nxt ts k 0) [102, 97, 108, 115, 101] = false) (hy : acc (nxt ts k 0) [115, 101, 108, 102] = true) :
    Calls Tryz.prog 79 #[.pointer (some ⟨gp, 0, none⟩), .int .i64 (d : Int)] w (RP w NoB gp g n cp ts (primL ts E k) k 0 (D + 2)) := by
  have _ := @HE; have _ := hd1; have _ := hds; have _ := hD
  have c39 : acc (nxt ts k 0) [39] = false := by cases hc : acc (nxt ts k 0) [39]; rfl; exact absurd (acc_same hc hy) (by decide)
  have HO : Hid (Out (primL ts E k) k 0 (.leaf 4 0 []) (k + 1) 0) := Lib.hid (by
    have hy' := hy
    have c39' := c39
    rw [acc_ok] at c39'
    have cT' := cT
    rw [acc_ok] at cT'
    have cF' := cF
    rw [acc_ok] at cF'
    rw [acc_ok] at hy'
    unfold Out primL
    rw [if_pos rfl, num_nof h3, nam_nof h1]
    simp only [c39', cT', cF', hy', if_true, Bool.false_eq_true, if_false]
    exact ⟨trivial, trivial, trivial⟩)
  clear c39
  obtain ⟨W0, hW0⟩ : ∃ W, w.alloc (.cells #[.int .i64 0, .int .i64 0, .string ⟨#[]⟩, .slice none 0 0] 44) = W := ⟨_, rfl⟩
  have hT0 : Touch NoB w W0 := by rw [← hW0]; exact (Touch.refl _ _).alloc _
  have hb4 : XB W0 w.heap.size 0 0 ⟨#[]⟩ none 0 0 := by rw [← hW0]; exact XB.new w _ _ _ _ _ _ rfl
  have hs0 : W0.heap.size = w.heap.size + 1 := by rw [← hW0]; simp only [World.size_alloc]
  have hgp := h.lt
  have hgl := h.tl.lt
  have HP := Lib.hid (h.touch hT0)
  have HB4 := Lib.hid hb4
  have HT0 := Lib.hid hT0
  have HN := Lib.hid (rnow_any (h.touch hT0))
  have hk3 : (((nxt ts k 0).kd : Int) == 3) = false := by rw [show (3 : Int) = ((3 : Nat) : Int) from rfl, eqq_nat]; simpa using h3
  have hk1 : (((nxt ts k 0).kd : Int) == 1) = false := by rw [show (1 : Int) = ((1 : Nat) : Int) from rfl, eqq_nat]; simpa using h1
  have HcT : Hid (∀ W, Touch NoB W0 W → Calls Tryz.prog 16 #[.pointer (some ⟨gp, 0, none⟩), .string ⟨#[116, 114, 117, 101]⟩] W fun x w' => x = .returned (.bool false) ∧ RS w' gp g n cp ts k 0 ∧ Touch NoB W w') := Lib.hid (fun W t => rtake_no (s := [116, 114, 117, 101]) ((h.touch hT0).touch t) cT)
  have HcF : Hid (∀ W, Touch NoB W0 W → Calls Tryz.prog 16 #[.pointer (some ⟨gp, 0, none⟩), .string ⟨#[102, 97, 108, 115, 101]⟩] W fun x w' => x = .returned (.bool false) ∧ RS w' gp g n cp ts k 0 ∧ Touch NoB W w') := Lib.hid (fun W t => rtake_no (s := [102, 97, 108, 115, 101]) ((h.touch hT0).touch t) cF)
  have HY : Hid (∀ W, Touch NoB W0 W → Calls Tryz.prog 16 #[.pointer (some ⟨gp, 0, none⟩), .string ⟨#[115, 101, 108, 102]⟩] W fun x w' => x = .returned (.bool true) ∧ RS w' gp g n cp ts (k + 1) 0 ∧ Touch (AtB gp) W w') := Lib.hid (fun W t => rtake_yes (s := [115, 101, 108, 102]) ((h.touch hT0).touch t) hy)
  obtain ⟨kd, hkd⟩ : ∃ kd, (nxt ts k 0).kd = kd := ⟨_, rfl⟩
  obtain ⟨nn, hnn⟩ : ∃ nn, (nxt ts k 0).n = nn := ⟨_, rfl⟩
  obtain ⟨pl, hpl⟩ : ∃ pl, (nxt ts k 0).pl = pl := ⟨_, rfl⟩
  obtain ⟨tx, htx⟩ : ∃ tx, bs (nxt ts k 0).tx = tx := ⟨_, rfl⟩
  simp only [hkd, hnn, hpl, htx] at HN
  rw [hkd] at hk3 hk1
  clear h hT0 hb4 hkd hnn hpl htx
  go_enter Tryz.func79, Tryz.ntmps79
  go_wp2_with fail
  refine HN.out.mono ?_
  rintro r w1 ⟨rfl, hT1⟩
  obtain ⟨W, hW⟩ : ∃ W, w1.alloc (.cells #[.int .i64 (kd : Int), .int .i64 (nn : Int), .int .i64 (pl : Int), .string tx] 52) = W := ⟨_, rfl⟩
  have hT2 : Touch NoB W0 W := by rw [← hW]; exact hT1.alloc _
  obtain ⟨q5, hq5⟩ : ∃ q5, w1.heap.size = q5 := ⟨_, rfl⟩
  have hs1 := hT1.size
  have hb : W.heap[q5]? = some (.cells #[.int .i64 (kd : Int), .int .i64 (nn : Int), .int .i64 (pl : Int), .string tx] 52 (0, 0)) := by rw [← hW]; exact alloc_blk _ _ _ hq5
  have d0 : W.cell? ⟨q5, 0, none⟩ = some (.int .i64 (kd : Int)) := cell_blk hb 0
  have hl5 := blk_lt hb
  have HB5 := Lib.hid hb
  have HT := Lib.hid hT2
  go_wp2_with fail
  refine (HcT.out _ HT.out).mono ?_
  rintro r U0 ⟨rfl, -, hT⟩
  have HT := Lib.hid (HT.out.same hT)
  clear hT d0 hb hT1 hT2
  go_wp2_with fail
  refine (HcF.out _ HT.out).mono ?_
  rintro r U1 ⟨rfl, -, hT⟩
  have HT := Lib.hid (HT.out.same hT)
  clear hT
  go_wp2_with fail
  refine (HY.out _ HT.out).mono ?_
  rintro r V ⟨rfl, hp, hT⟩
  have HQ := Lib.hid (And.intro hp ((Touch.anyB HT.out).same hT))
  clear hp hT
  have hb4 := HB4.out.go HQ.out.2 (by omega)
  obtain ⟨z0, z1, z2, z3, z4⟩ := hb4.cells
  obtain ⟨f0, f1, f2, f3⟩ := hb4.free
  clear hb4
  go_wp2
  have hTE := touch4 (F := AtB gp) ((Touch.anyB (F := AtB gp) HT0.out).same HQ.out.2) (.inr (Nat.le_refl w.heap.size)) (.int .i64 4) (.int .i64 0) (.string ⟨#[]⟩) (.slice none 0 0)
  have hTX := touch4 (F := fun b => b = w.heap.size) (Touch.refl _ V) (.inl rfl) (.int .i64 4) (.int .i64 0) (.string ⟨#[]⟩) (.slice none 0 0)
  exact bodyPost_ret (v := .agg #[.int .i64 4, .int .i64 0, .string ⟨#[]⟩, .slice none 0 0]) (by simp [results, Tryz.results79, go_sem, z0, z1, z2, z3]) rfl ⟨hTE, .leaf 4 0 [], (k + 1), 0, _, _, _, _, _, _, rfl, ⟨rfl, rfl, rfl, rfl, rfl, rfl⟩, HQ.out.1.touchX hTX hgp hgl, HO.out, by simp only [Ex.depth]; omega⟩
theorem rfirst_cM {gp g n cp d d1 D : Nat} {ts : List Tk} {E : Nat → Rs} (HE : RBinOk gp g n cp ts 0 d1 D E) (hd1 : d1 = d + 1) (hds : d ≤ 1000) (hD : D ≤ 9000) {w : World} {k : Nat} (h : RS w gp g n cp ts k 0) (h3 : (nxt ts k 0).kd ≠ 3) (h1 : (nxt ts k 0).kd ≠ 1) (cT : acc (nxt ts k 0) [116, 114, 117, 101] = false) (cF : acc (nxt ts k 0) [102, 97, 108, 115, 101] = false) (cS : acc (nxt ts k 0) [115, 101, 108, 102] = false) (hy : acc (nxt ts k 0) [116, 105, 109, 101] = true) :
    Calls Tryz.prog 79 #[.pointer (some ⟨gp, 0, none⟩), .int .i64 (d : Int)] w (RP w NoB gp g n cp ts (primL ts E k) k 0 (D + 2)) := by
  have _ := @HE; have _ := hd1; have _ := hds; have _ := hD
  have c39 : acc (nxt ts k 0) [39] = false := by cases hc : acc (nxt ts k 0) [39]; rfl; exact absurd (acc_same hc hy) (by decide)
  have HO : Hid (Out (primL ts E k) k 0 (.leaf 5 0 []) (k + 1) 0) := Lib.hid (by
    have hy' := hy
    have c39' := c39
    rw [acc_ok] at c39'
    have cT' := cT
    rw [acc_ok] at cT'
    have cF' := cF
    rw [acc_ok] at cF'
    have cS' := cS
    rw [acc_ok] at cS'
    rw [acc_ok] at hy'
    unfold Out primL
    rw [if_pos rfl, num_nof h3, nam_nof h1]
    simp only [c39', cT', cF', cS', hy', if_true, Bool.false_eq_true, if_false]
    exact ⟨trivial, trivial, trivial⟩)
  clear c39
  obtain ⟨W0, hW0⟩ : ∃ W, w.alloc (.cells #[.int .i64 0, .int .i64 0, .string ⟨#[]⟩, .slice none 0 0] 44) = W := ⟨_, rfl⟩
  have hT0 : Touch NoB w W0 := by rw [← hW0]; exact (Touch.refl _ _).alloc _
  have hb4 : XB W0 w.heap.size 0 0 ⟨#[]⟩ none 0 0 := by rw [← hW0]; exact XB.new w _ _ _ _ _ _ rfl
  have hs0 : W0.heap.size = w.heap.size + 1 := by rw [← hW0]; simp only [World.size_alloc]
  have hgp := h.lt
  have hgl := h.tl.lt
  have HP := Lib.hid (h.touch hT0)
  have HB4 := Lib.hid hb4
  have HT0 := Lib.hid hT0
  have HN := Lib.hid (rnow_any (h.touch hT0))
  have hk3 : (((nxt ts k 0).kd : Int) == 3) = false := by rw [show (3 : Int) = ((3 : Nat) : Int) from rfl, eqq_nat]; simpa using h3
  have hk1 : (((nxt ts k 0).kd : Int) == 1) = false := by rw [show (1 : Int) = ((1 : Nat) : Int) from rfl, eqq_nat]; simpa using h1
  have HcT : Hid (∀ W, Touch NoB W0 W → Calls Tryz.prog 16 #[.pointer (some ⟨gp, 0, none⟩), .string ⟨#[116, 114, 117, 101]⟩] W fun x w' => x = .returned (.bool false) ∧ RS w' gp g n cp ts k 0 ∧ Touch NoB W w') := Lib.hid (fun W t => rtake_no (s := [116, 114, 117, 101]) ((h.touch hT0).touch t) cT)
  have HcF : Hid (∀ W, Touch NoB W0 W → Calls Tryz.prog 16 #[.pointer (some ⟨gp, 0, none⟩), .string ⟨#[102, 97, 108, 115, 101]⟩] W fun x w' => x = .returned (.bool false) ∧ RS w' gp g n cp ts k 0 ∧ Touch NoB W w') := Lib.hid (fun W t => rtake_no (s := [102, 97, 108, 115, 101]) ((h.touch hT0).touch t) cF)
  have HcS : Hid (∀ W, Touch NoB W0 W → Calls Tryz.prog 16 #[.pointer (some ⟨gp, 0, none⟩), .string ⟨#[115, 101, 108, 102]⟩] W fun x w' => x = .returned (.bool false) ∧ RS w' gp g n cp ts k 0 ∧ Touch NoB W w') := Lib.hid (fun W t => rtake_no (s := [115, 101, 108, 102]) ((h.touch hT0).touch t) cS)
  have HY : Hid (∀ W, Touch NoB W0 W → Calls Tryz.prog 16 #[.pointer (some ⟨gp, 0, none⟩), .string ⟨#[116, 105, 109, 101]⟩] W fun x w' => x = .returned (.bool true) ∧ RS w' gp g n cp ts (k + 1) 0 ∧ Touch (AtB gp) W w') := Lib.hid (fun W t => rtake_yes (s := [116, 105, 109, 101]) ((h.touch hT0).touch t) hy)
  obtain ⟨kd, hkd⟩ : ∃ kd, (nxt ts k 0).kd = kd := ⟨_, rfl⟩
  obtain ⟨nn, hnn⟩ : ∃ nn, (nxt ts k 0).n = nn := ⟨_, rfl⟩
  obtain ⟨pl, hpl⟩ : ∃ pl, (nxt ts k 0).pl = pl := ⟨_, rfl⟩
  obtain ⟨tx, htx⟩ : ∃ tx, bs (nxt ts k 0).tx = tx := ⟨_, rfl⟩
  simp only [hkd, hnn, hpl, htx] at HN
  rw [hkd] at hk3 hk1
  clear h hT0 hb4 hkd hnn hpl htx
  go_enter Tryz.func79, Tryz.ntmps79
  go_wp2_with fail
  refine HN.out.mono ?_
  rintro r w1 ⟨rfl, hT1⟩
  obtain ⟨W, hW⟩ : ∃ W, w1.alloc (.cells #[.int .i64 (kd : Int), .int .i64 (nn : Int), .int .i64 (pl : Int), .string tx] 52) = W := ⟨_, rfl⟩
  have hT2 : Touch NoB W0 W := by rw [← hW]; exact hT1.alloc _
  obtain ⟨q5, hq5⟩ : ∃ q5, w1.heap.size = q5 := ⟨_, rfl⟩
  have hs1 := hT1.size
  have hb : W.heap[q5]? = some (.cells #[.int .i64 (kd : Int), .int .i64 (nn : Int), .int .i64 (pl : Int), .string tx] 52 (0, 0)) := by rw [← hW]; exact alloc_blk _ _ _ hq5
  have d0 : W.cell? ⟨q5, 0, none⟩ = some (.int .i64 (kd : Int)) := cell_blk hb 0
  have hl5 := blk_lt hb
  have HB5 := Lib.hid hb
  have HT := Lib.hid hT2
  go_wp2_with fail
  refine (HcT.out _ HT.out).mono ?_
  rintro r U0 ⟨rfl, -, hT⟩
  have HT := Lib.hid (HT.out.same hT)
  clear hT d0 hb hT1 hT2
  go_wp2_with fail
  refine (HcF.out _ HT.out).mono ?_
  rintro r U1 ⟨rfl, -, hT⟩
  have HT := Lib.hid (HT.out.same hT)
  clear hT
  go_wp2_with fail
  refine (HcS.out _ HT.out).mono ?_
  rintro r U2 ⟨rfl, -, hT⟩
  have HT := Lib.hid (HT.out.same hT)
  clear hT
  go_wp2_with fail
  refine (HY.out _ HT.out).mono ?_
  rintro r V ⟨rfl, hp, hT⟩
  have HQ := Lib.hid (And.intro hp ((Touch.anyB HT.out).same hT))
  clear hp hT
  have hb4 := HB4.out.go HQ.out.2 (by omega)
  obtain ⟨z0, z1, z2, z3, z4⟩ := hb4.cells
  obtain ⟨f0, f1, f2, f3⟩ := hb4.free
  clear hb4
  go_wp2
  have hTE := touch4 (F := AtB gp) ((Touch.anyB (F := AtB gp) HT0.out).same HQ.out.2) (.inr (Nat.le_refl w.heap.size)) (.int .i64 5) (.int .i64 0) (.string ⟨#[]⟩) (.slice none 0 0)
  have hTX := touch4 (F := fun b => b = w.heap.size) (Touch.refl _ V) (.inl rfl) (.int .i64 5) (.int .i64 0) (.string ⟨#[]⟩) (.slice none 0 0)
  exact bodyPost_ret (v := .agg #[.int .i64 5, .int .i64 0, .string ⟨#[]⟩, .slice none 0 0]) (by simp [results, Tryz.results79, go_sem, z0, z1, z2, z3]) rfl ⟨hTE, .leaf 5 0 [], (k + 1), 0, _, _, _, _, _, _, rfl, ⟨rfl, rfl, rfl, rfl, rfl, rfl⟩, HQ.out.1.touchX hTX hgp hgl, HO.out, by simp only [Ex.depth]; omega⟩
theorem rfirst_sym {gp g n cp d d1 D : Nat} {ts : List Tk} {E : Nat → Rs} (HE : RBinOk gp g n cp ts 0 d1 D E) (hd1 : d1 = d + 1) (hds : d ≤ 1000) (hD : D ≤ 9000) {w : World} {k : Nat} (h : RS w gp g n cp ts k 0) (h3 : (nxt ts k 0).kd ≠ 3) (h1 : (nxt ts k 0).kd ≠ 1) (cT : acc (nxt ts k 0) [116, 114, 117, 101] = false) (cF : acc (nxt ts k 0) [102, 97, 108, 115, 101] = false) (cS : acc (nxt ts k 0) [115, 101, 108, 102] = false) (cM : acc (nxt ts k 0) [116, 105, 109, 101] = false) (hy : acc (nxt ts k 0) [39] = true) :
    Calls Tryz.prog 79 #[.pointer (some ⟨gp, 0, none⟩), .int .i64 (d : Int)] w (RP w NoB gp g n cp ts (primL ts E k) k 0 (D + 2)) := by
  have _ := @HE; have _ := hd1; have _ := hds; have _ := hD
  have HO : Hid (Out (primL ts E k) k 0 (.leaf 3 0 (namR (nxt ts (k + 1) 0))) (stepK (nxt ts (k + 1) 0) 1 (k + 1)) (stepE (nxt ts (k + 1) 0) 1 0)) := Lib.hid (by
    have hy' := hy
    rw [acc_ok] at hy'
    unfold Out primL namR stepK stepE
    rw [if_pos rfl, num_nof h3, nam_nof h1]
    simp only [hy', if_true]
    by_cases hk : (nxt ts (k + 1) 0).kd = 1
    · rw [nam_of hk, if_pos hk, if_pos hk, if_pos hk]; exact ⟨rfl, rfl, rfl⟩
    · rw [nam_nof hk, if_neg hk, if_neg hk, if_neg hk]; exact ⟨rfl, rfl, by decide⟩)
  obtain ⟨W0, hW0⟩ : ∃ W, w.alloc (.cells #[.int .i64 0, .int .i64 0, .string ⟨#[]⟩, .slice none 0 0] 44) = W := ⟨_, rfl⟩
  have hT0 : Touch NoB w W0 := by rw [← hW0]; exact (Touch.refl _ _).alloc _
  have hb4 : XB W0 w.heap.size 0 0 ⟨#[]⟩ none 0 0 := by rw [← hW0]; exact XB.new w _ _ _ _ _ _ rfl
  have hs0 : W0.heap.size = w.heap.size + 1 := by rw [← hW0]; simp only [World.size_alloc]
  have hgp := h.lt
  have hgl := h.tl.lt
  have HP := Lib.hid (h.touch hT0)
  have HB4 := Lib.hid hb4
  have HT0 := Lib.hid hT0
  have HN := Lib.hid (rnow_any (h.touch hT0))
  have hk3 : (((nxt ts k 0).kd : Int) == 3) = false := by rw [show (3 : Int) = ((3 : Nat) : Int) from rfl, eqq_nat]; simpa using h3
  have hk1 : (((nxt ts k 0).kd : Int) == 1) = false := by rw [show (1 : Int) = ((1 : Nat) : Int) from rfl, eqq_nat]; simpa using h1
  have HcT : Hid (∀ W, Touch NoB W0 W → Calls Tryz.prog 16 #[.pointer (some ⟨gp, 0, none⟩), .string ⟨#[116, 114, 117, 101]⟩] W fun x w' => x = .returned (.bool false) ∧ RS w' gp g n cp ts k 0 ∧ Touch NoB W w') := Lib.hid (fun W t => rtake_no (s := [116, 114, 117, 101]) ((h.touch hT0).touch t) cT)
  have HcF : Hid (∀ W, Touch NoB W0 W → Calls Tryz.prog 16 #[.pointer (some ⟨gp, 0, none⟩), .string ⟨#[102, 97, 108, 115, 101]⟩] W fun x w' => x = .returned (.bool false) ∧ RS w' gp g n cp ts k 0 ∧ Touch NoB W w') := Lib.hid (fun W t => rtake_no (s := [102, 97, 108, 115, 101]) ((h.touch hT0).touch t) cF)
  have HcS : Hid (∀ W, Touch NoB W0 W → Calls Tryz.prog 16 #[.pointer (some ⟨gp, 0, none⟩), .string ⟨#[115, 101, 108, 102]⟩] W fun x w' => x = .returned (.bool false) ∧ RS w' gp g n cp ts k 0 ∧ Touch NoB W w') := Lib.hid (fun W t => rtake_no (s := [115, 101, 108, 102]) ((h.touch hT0).touch t) cS)
  have HcM : Hid (∀ W, Touch NoB W0 W → Calls Tryz.prog 16 #[.pointer (some ⟨gp, 0, none⟩), .string ⟨#[116, 105, 109, 101]⟩] W fun x w' => x = .returned (.bool false) ∧ RS w' gp g n cp ts k 0 ∧ Touch NoB W w') := Lib.hid (fun W t => rtake_no (s := [116, 105, 109, 101]) ((h.touch hT0).touch t) cM)
  have HY : Hid (∀ W, Touch NoB W0 W → Calls Tryz.prog 16 #[.pointer (some ⟨gp, 0, none⟩), .string ⟨#[39]⟩] W fun x w' => x = .returned (.bool true) ∧ RS w' gp g n cp ts (k + 1) 0 ∧ Touch (AtB gp) W w') := Lib.hid (fun W t => rtake_yes (s := [39]) ((h.touch hT0).touch t) hy)
  obtain ⟨kd, hkd⟩ : ∃ kd, (nxt ts k 0).kd = kd := ⟨_, rfl⟩
  obtain ⟨nn, hnn⟩ : ∃ nn, (nxt ts k 0).n = nn := ⟨_, rfl⟩
  obtain ⟨pl, hpl⟩ : ∃ pl, (nxt ts k 0).pl = pl := ⟨_, rfl⟩
  obtain ⟨tx, htx⟩ : ∃ tx, bs (nxt ts k 0).tx = tx := ⟨_, rfl⟩
  simp only [hkd, hnn, hpl, htx] at HN
  rw [hkd] at hk3 hk1
  clear h hT0 hb4 hkd hnn hpl htx
  go_enter Tryz.func79, Tryz.ntmps79
  go_wp2_with fail
  refine HN.out.mono ?_
  rintro r w1 ⟨rfl, hT1⟩
  obtain ⟨W, hW⟩ : ∃ W, w1.alloc (.cells #[.int .i64 (kd : Int), .int .i64 (nn : Int), .int .i64 (pl : Int), .string tx] 52) = W := ⟨_, rfl⟩
  have hT2 : Touch NoB W0 W := by rw [← hW]; exact hT1.alloc _
  obtain ⟨q5, hq5⟩ : ∃ q5, w1.heap.size = q5 := ⟨_, rfl⟩
  have hs1 := hT1.size
  have hb : W.heap[q5]? = some (.cells #[.int .i64 (kd : Int), .int .i64 (nn : Int), .int .i64 (pl : Int), .string tx] 52 (0, 0)) := by rw [← hW]; exact alloc_blk _ _ _ hq5
  have d0 : W.cell? ⟨q5, 0, none⟩ = some (.int .i64 (kd : Int)) := cell_blk hb 0
  have hl5 := blk_lt hb
  have HB5 := Lib.hid hb
  have HT := Lib.hid hT2
  go_wp2_with fail
  refine (HcT.out _ HT.out).mono ?_
  rintro r U0 ⟨rfl, -, hT⟩
  have HT := Lib.hid (HT.out.same hT)
  clear hT d0 hb hT1 hT2
  go_wp2_with fail
  refine (HcF.out _ HT.out).mono ?_
  rintro r U1 ⟨rfl, -, hT⟩
  have HT := Lib.hid (HT.out.same hT)
  clear hT
  go_wp2_with fail
  refine (HcS.out _ HT.out).mono ?_
  rintro r U2 ⟨rfl, -, hT⟩
  have HT := Lib.hid (HT.out.same hT)
  clear hT
  go_wp2_with fail
  refine (HcM.out _ HT.out).mono ?_
  rintro r U3 ⟨rfl, -, hT⟩
  have HT := Lib.hid (HT.out.same hT)
  clear hT
  go_wp2_with fail
  refine (HY.out _ HT.out).mono ?_
  rintro r V ⟨rfl, hp, hT⟩
  have HNM := Lib.hid (rnm_any hp)
  have hk2 := HO.out
  obtain ⟨k2, hk2e⟩ : ∃ k2, stepK (nxt ts (k + 1) 0) 1 (k + 1) = k2 := ⟨_, rfl⟩
  obtain ⟨e2, he2⟩ : ∃ e2, stepE (nxt ts (k + 1) 0) 1 0 = e2 := ⟨_, rfl⟩
  obtain ⟨nm, hnm⟩ : ∃ nm, namR (nxt ts (k + 1) 0) = nm := ⟨_, rfl⟩
  rw [hk2e, he2, hnm] at HNM hk2
  obtain ⟨sm, hsm⟩ : ∃ sm, bs nm = sm := ⟨_, rfl⟩
  rw [hsm] at HNM
  have HO2 := Lib.hid (And.intro hk2 hsm)
  have HTV := Lib.hid (show Touch (AtB gp) W0 V from (Touch.anyB HT.out).same hT)
  clear hp hT hk2 hk2e he2 hnm hsm
  go_wp2_with fail
  refine HNM.out.mono ?_
  rintro r V2 ⟨rfl, hp, hT⟩
  have HQ := Lib.hid (And.intro hp (HTV.out.same hT))
  clear hp hT
  have hb4 := HB4.out.go HQ.out.2 (by omega)
  obtain ⟨z0, z1, z2, z3, z4⟩ := hb4.cells
  obtain ⟨f0, f1, f2, f3⟩ := hb4.free
  clear hb4
  go_wp2
  have hTE := touch4 (F := AtB gp) ((Touch.anyB (F := AtB gp) HT0.out).same HQ.out.2) (.inr (Nat.le_refl w.heap.size)) (.int .i64 3) (.int .i64 0) (.string sm) (.slice none 0 0)
  have hTX := touch4 (F := fun b => b = w.heap.size) (Touch.refl _ V2) (.inl rfl) (.int .i64 3) (.int .i64 0) (.string sm) (.slice none 0 0)
  exact bodyPost_ret (v := .agg #[.int .i64 3, .int .i64 0, .string sm, .slice none 0 0]) (by simp [results, Tryz.results79, go_sem, z0, z1, z2, z3]) rfl ⟨hTE, .leaf 3 0 nm, k2, e2, _, _, _, _, _, _, rfl, ⟨rfl, rfl, HO2.out.2.symm, rfl, rfl, rfl⟩, HQ.out.1.touchX hTX hgp hgl, HO2.out.1, by simp only [Ex.depth]; omega⟩
theorem rfirst_none {gp g n cp d d1 D : Nat} {ts : List Tk} {E : Nat → Rs} (HE : RBinOk gp g n cp ts 0 d1 D E) (hd1 : d1 = d + 1) (hds : d ≤ 1000) (hD : D ≤ 9000) {w : World} {k : Nat} (h : RS w gp g n cp ts k 0) (h3 : (nxt ts k 0).kd ≠ 3) (h1 : (nxt ts k 0).kd ≠ 1) (cT : acc (nxt ts k 0) [116, 114, 117, 101] = false) (cF : acc (nxt ts k 0) [102, 97, 108, 115, 101] = false) (cS : acc (nxt ts k 0) [115, 101, 108, 102] = false) (cM : acc (nxt ts k 0) [116, 105, 109, 101] = false) (c39 : acc (nxt ts k 0) [39] = false) (cP : acc (nxt ts k 0) [40] = false) (cR : acc (nxt ts k 0) [102, 97, 114] = false) :
    Calls Tryz.prog 79 #[.pointer (some ⟨gp, 0, none⟩), .int .i64 (d : Int)] w (RP w NoB gp g n cp ts (primL ts E k) k 0 (D + 2)) := by
  have _ := @HE; have _ := hd1; have _ := hds; have _ := hD
  have HO : Hid (Out (primL ts E k) k 0 (.leaf 0 0 []) k 2) := Lib.hid (by
    have c39' := c39
    rw [acc_ok] at c39'
    have cT' := cT
    rw [acc_ok] at cT'
    have cF' := cF
    rw [acc_ok] at cF'
    have cS' := cS
    rw [acc_ok] at cS'
    have cM' := cM
    rw [acc_ok] at cM'
    have cP' := cP
    rw [acc_ok] at cP'
    have cR' := cR
    rw [acc_ok] at cR'
    unfold Out primL
    rw [if_pos rfl, num_nof h3, nam_nof h1]
    simp only [c39', cT', cF', cS', cM', cP', cR', Bool.false_eq_true, if_false]
    exact ⟨trivial, trivial, by decide⟩)
  obtain ⟨W0, hW0⟩ : ∃ W, w.alloc (.cells #[.int .i64 0, .int .i64 0, .string ⟨#[]⟩, .slice none 0 0] 44) = W := ⟨_, rfl⟩
  have hT0 : Touch NoB w W0 := by rw [← hW0]; exact (Touch.refl _ _).alloc _
  have hb4 : XB W0 w.heap.size 0 0 ⟨#[]⟩ none 0 0 := by rw [← hW0]; exact XB.new w _ _ _ _ _ _ rfl
  have hs0 : W0.heap.size = w.heap.size + 1 := by rw [← hW0]; simp only [World.size_alloc]
  have hgp := h.lt
  have hgl := h.tl.lt
  have HP := Lib.hid (h.touch hT0)
  have HB4 := Lib.hid hb4
  have HT0 := Lib.hid hT0
  have HN := Lib.hid (rnow_any (h.touch hT0))
  have HF := Lib.hid (fun (W : World) (t : Touch NoB W0 W) => rfail_yes ((h.touch hT0).touch t) 2)
  have hk3 : (((nxt ts k 0).kd : Int) == 3) = false := by rw [show (3 : Int) = ((3 : Nat) : Int) from rfl, eqq_nat]; simpa using h3
  have hk1 : (((nxt ts k 0).kd : Int) == 1) = false := by rw [show (1 : Int) = ((1 : Nat) : Int) from rfl, eqq_nat]; simpa using h1
  have HcT : Hid (∀ W, Touch NoB W0 W → Calls Tryz.prog 16 #[.pointer (some ⟨gp, 0, none⟩), .string ⟨#[116, 114, 117, 101]⟩] W fun x w' => x = .returned (.bool false) ∧ RS w' gp g n cp ts k 0 ∧ Touch NoB W w') := Lib.hid (fun W t => rtake_no (s := [116, 114, 117, 101]) ((h.touch hT0).touch t) cT)
  have HcF : Hid (∀ W, Touch NoB W0 W → Calls Tryz.prog 16 #[.pointer (some ⟨gp, 0, none⟩), .string ⟨#[102, 97, 108, 115, 101]⟩] W fun x w' => x = .returned (.bool false) ∧ RS w' gp g n cp ts k 0 ∧ Touch NoB W w') := Lib.hid (fun W t => rtake_no (s := [102, 97, 108, 115, 101]) ((h.touch hT0).touch t) cF)
  have HcS : Hid (∀ W, Touch NoB W0 W → Calls Tryz.prog 16 #[.pointer (some ⟨gp, 0, none⟩), .string ⟨#[115, 101, 108, 102]⟩] W fun x w' => x = .returned (.bool false) ∧ RS w' gp g n cp ts k 0 ∧ Touch NoB W w') := Lib.hid (fun W t => rtake_no (s := [115, 101, 108, 102]) ((h.touch hT0).touch t) cS)
  have HcM : Hid (∀ W, Touch NoB W0 W → Calls Tryz.prog 16 #[.pointer (some ⟨gp, 0, none⟩), .string ⟨#[116, 105, 109, 101]⟩] W fun x w' => x = .returned (.bool false) ∧ RS w' gp g n cp ts k 0 ∧ Touch NoB W w') := Lib.hid (fun W t => rtake_no (s := [116, 105, 109, 101]) ((h.touch hT0).touch t) cM)
  have Hc39 : Hid (∀ W, Touch NoB W0 W → Calls Tryz.prog 16 #[.pointer (some ⟨gp, 0, none⟩), .string ⟨#[39]⟩] W fun x w' => x = .returned (.bool false) ∧ RS w' gp g n cp ts k 0 ∧ Touch NoB W w') := Lib.hid (fun W t => rtake_no (s := [39]) ((h.touch hT0).touch t) c39)
  have HcP : Hid (∀ W, Touch NoB W0 W → Calls Tryz.prog 16 #[.pointer (some ⟨gp, 0, none⟩), .string ⟨#[40]⟩] W fun x w' => x = .returned (.bool false) ∧ RS w' gp g n cp ts k 0 ∧ Touch NoB W w') := Lib.hid (fun W t => rtake_no (s := [40]) ((h.touch hT0).touch t) cP)
  have HcR : Hid (∀ W, Touch NoB W0 W → Calls Tryz.prog 16 #[.pointer (some ⟨gp, 0, none⟩), .string ⟨#[102, 97, 114]⟩] W fun x w' => x = .returned (.bool false) ∧ RS w' gp g n cp ts k 0 ∧ Touch NoB W w') := Lib.hid (fun W t => rtake_no (s := [102, 97, 114]) ((h.touch hT0).touch t) cR)
  obtain ⟨kd, hkd⟩ : ∃ kd, (nxt ts k 0).kd = kd := ⟨_, rfl⟩
  obtain ⟨nn, hnn⟩ : ∃ nn, (nxt ts k 0).n = nn := ⟨_, rfl⟩
  obtain ⟨pl, hpl⟩ : ∃ pl, (nxt ts k 0).pl = pl := ⟨_, rfl⟩
  obtain ⟨tx, htx⟩ : ∃ tx, bs (nxt ts k 0).tx = tx := ⟨_, rfl⟩
  simp only [hkd, hnn, hpl, htx] at HN
  rw [hkd] at hk3 hk1
  clear h hT0 hb4 hkd hnn hpl htx
  go_enter Tryz.func79, Tryz.ntmps79
  go_wp2_with fail
  refine HN.out.mono ?_
  rintro r w1 ⟨rfl, hT1⟩
  obtain ⟨W, hW⟩ : ∃ W, w1.alloc (.cells #[.int .i64 (kd : Int), .int .i64 (nn : Int), .int .i64 (pl : Int), .string tx] 52) = W := ⟨_, rfl⟩
  have hT2 : Touch NoB W0 W := by rw [← hW]; exact hT1.alloc _
  obtain ⟨q5, hq5⟩ : ∃ q5, w1.heap.size = q5 := ⟨_, rfl⟩
  have hs1 := hT1.size
  have hb : W.heap[q5]? = some (.cells #[.int .i64 (kd : Int), .int .i64 (nn : Int), .int .i64 (pl : Int), .string tx] 52 (0, 0)) := by rw [← hW]; exact alloc_blk _ _ _ hq5
  have d0 : W.cell? ⟨q5, 0, none⟩ = some (.int .i64 (kd : Int)) := cell_blk hb 0
  have hl5 := blk_lt hb
  have HB5 := Lib.hid hb
  have HT := Lib.hid hT2
  go_wp2_with fail
  refine (HcT.out _ HT.out).mono ?_
  rintro r U0 ⟨rfl, -, hT⟩
  have HT := Lib.hid (HT.out.same hT)
  clear hT d0 hb hT1 hT2
  go_wp2_with fail
  refine (HcF.out _ HT.out).mono ?_
  rintro r U1 ⟨rfl, -, hT⟩
  have HT := Lib.hid (HT.out.same hT)
  clear hT
  go_wp2_with fail
  refine (HcS.out _ HT.out).mono ?_
  rintro r U2 ⟨rfl, -, hT⟩
  have HT := Lib.hid (HT.out.same hT)
  clear hT
  go_wp2_with fail
  refine (HcM.out _ HT.out).mono ?_
  rintro r U3 ⟨rfl, -, hT⟩
  have HT := Lib.hid (HT.out.same hT)
  clear hT
  go_wp2_with fail
  refine (Hc39.out _ HT.out).mono ?_
  rintro r U4 ⟨rfl, -, hT⟩
  have HT := Lib.hid (HT.out.same hT)
  clear hT
  go_wp2_with fail
  refine (HcP.out _ HT.out).mono ?_
  rintro r U5 ⟨rfl, -, hT⟩
  have HT := Lib.hid (HT.out.same hT)
  clear hT
  go_wp2_with fail
  refine (HcR.out _ HT.out).mono ?_
  rintro r U6 ⟨rfl, -, hT⟩
  have HT := Lib.hid (HT.out.same hT)
  clear hT
  have HF := Lib.hid (HF.out _ HT.out)
  go_wp2_with fail
  refine HF.out.mono ?_
  rintro r V ⟨rfl, hp, hT⟩
  have HQ := Lib.hid (And.intro hp ((Touch.anyB HT.out).same hT))
  clear hp hT
  have hb4 := HB4.out.go HQ.out.2 (by omega)
  obtain ⟨z0, z1, z2, z3, z4⟩ := hb4.cells
  obtain ⟨f0, f1, f2, f3⟩ := hb4.free
  clear hb4
  go_wp2
  have hTE := touch4 (F := AtB gp) ((Touch.anyB (F := AtB gp) HT0.out).same HQ.out.2) (.inr (Nat.le_refl w.heap.size)) (.int .i64 0) (.int .i64 0) (.string ⟨#[]⟩) (.slice none 0 0)
  have hTX := touch4 (F := fun b => b = w.heap.size) (Touch.refl _ V) (.inl rfl) (.int .i64 0) (.int .i64 0) (.string ⟨#[]⟩) (.slice none 0 0)
  exact bodyPost_ret (v := .agg #[.int .i64 0, .int .i64 0, .string ⟨#[]⟩, .slice none 0 0]) (by simp [results, Tryz.results79, go_sem, z0, z1, z2, z3]) rfl ⟨hTE, .leaf 0 0 [], k, 2, _, _, _, _, _, _, rfl, ⟨rfl, rfl, rfl, rfl, rfl, rfl⟩, HQ.out.1.touchX hTX hgp hgl, HO.out, by simp only [Ex.depth]; omega⟩
end Go.Proofs.YtnphaaahdlkmhaaGreat
end
/-
  What the document's own first does with a reader in memory: parentheses. Conditions: what it calls does as the model says.
-/
section
namespace Go.Proofs.YtnphaaahdlkmhaaGreat
open Go.ChangeShapes Go.WideShapes Go.ChangeAt Go.RowKit
set_option maxRecDepth 100000
set_option maxHeartbeats 4000000

theorem rfirst_par {gp g n cp d d1 D : Nat} {ts : List Tk} {E : Nat → Rs} (HE : RBinOk gp g n cp ts 0 d1 D E) (hd1 : d1 = d + 1) (hds : d ≤ 1000) (hD : D ≤ 9000) {w : World} {k : Nat} (h : RS w gp g n cp ts k 0) (h3 : (nxt ts k 0).kd ≠ 3) (h1 : (nxt ts k 0).kd ≠ 1) (cT : acc (nxt ts k 0) [116, 114, 117, 101] = false) (cF : acc (nxt ts k 0) [102, 97, 108, 115, 101] = false) (cS : acc (nxt ts k 0) [115, 101, 108, 102] = false) (cM : acc (nxt ts k 0) [116, 105, 109, 101] = false) (c39 : acc (nxt ts k 0) [39] = false) (hy : acc (nxt ts k 0) [40] = true) :
    Calls Tryz.prog 79 #[.pointer (some ⟨gp, 0, none⟩), .int .i64 (d : Int)] w (RP w NoB gp g n cp ts (primL ts E k) k 0 (D + 2)) := by
  have c39 : acc (nxt ts k 0) [39] = false := c39
  have HOO := Lib.hid (fun (k2 e2 : Nat) (y : Ex) (ho : Out (E (k + 1)) (k + 1) 0 y k2 e2) => out_paren h3 h1 c39 cT cF cS cM hy ho)
  have hwr : IntKind.i64.wrap ((d : Int) + 1) = (d1 : Int) := by rw [show (d : Int) + 1 = (d1 : Int) from by omega]; exact IntWalk.i64_in _ (by omega)
  have HEE := Lib.hid (And.intro HE hD)
  clear hd1 hds hD HE
  obtain ⟨W0, hW0⟩ : ∃ W, w.alloc (.cells #[.int .i64 0, .int .i64 0, .string ⟨#[]⟩, .slice none 0 0] 44) = W := ⟨_, rfl⟩
  have hT0 : Touch NoB w W0 := by rw [← hW0]; exact (Touch.refl _ _).alloc _
  have hb4 : XB W0 w.heap.size 0 0 ⟨#[]⟩ none 0 0 := by rw [← hW0]; exact XB.new w _ _ _ _ _ _ rfl
  have hs0 : W0.heap.size = w.heap.size + 1 := by rw [← hW0]; simp only [World.size_alloc]
  have hgp := h.lt
  have hgl := h.tl.lt
  have HP := Lib.hid (h.touch hT0)
  have HB4 := Lib.hid hb4
  have HT0 := Lib.hid hT0
  have HN := Lib.hid (rnow_any (h.touch hT0))
  have hk3 : (((nxt ts k 0).kd : Int) == 3) = false := by rw [show (3 : Int) = ((3 : Nat) : Int) from rfl, eqq_nat]; simpa using h3
  have hk1 : (((nxt ts k 0).kd : Int) == 1) = false := by rw [show (1 : Int) = ((1 : Nat) : Int) from rfl, eqq_nat]; simpa using h1
  have HcT : Hid (∀ W, Touch NoB W0 W → Calls Tryz.prog 16 #[.pointer (some ⟨gp, 0, none⟩), .string ⟨#[116, 114, 117, 101]⟩] W fun x w' => x = .returned (.bool false) ∧ RS w' gp g n cp ts k 0 ∧ Touch NoB W w') := Lib.hid (fun W t => rtake_no (s := [116, 114, 117, 101]) ((h.touch hT0).touch t) cT)
  have HcF : Hid (∀ W, Touch NoB W0 W → Calls Tryz.prog 16 #[.pointer (some ⟨gp, 0, none⟩), .string ⟨#[102, 97, 108, 115, 101]⟩] W fun x w' => x = .returned (.bool false) ∧ RS w' gp g n cp ts k 0 ∧ Touch NoB W w') := Lib.hid (fun W t => rtake_no (s := [102, 97, 108, 115, 101]) ((h.touch hT0).touch t) cF)
  have HcS : Hid (∀ W, Touch NoB W0 W → Calls Tryz.prog 16 #[.pointer (some ⟨gp, 0, none⟩), .string ⟨#[115, 101, 108, 102]⟩] W fun x w' => x = .returned (.bool false) ∧ RS w' gp g n cp ts k 0 ∧ Touch NoB W w') := Lib.hid (fun W t => rtake_no (s := [115, 101, 108, 102]) ((h.touch hT0).touch t) cS)
  have HcM : Hid (∀ W, Touch NoB W0 W → Calls Tryz.prog 16 #[.pointer (some ⟨gp, 0, none⟩), .string ⟨#[116, 105, 109, 101]⟩] W fun x w' => x = .returned (.bool false) ∧ RS w' gp g n cp ts k 0 ∧ Touch NoB W w') := Lib.hid (fun W t => rtake_no (s := [116, 105, 109, 101]) ((h.touch hT0).touch t) cM)
  have Hc39 : Hid (∀ W, Touch NoB W0 W → Calls Tryz.prog 16 #[.pointer (some ⟨gp, 0, none⟩), .string ⟨#[39]⟩] W fun x w' => x = .returned (.bool false) ∧ RS w' gp g n cp ts k 0 ∧ Touch NoB W w') := Lib.hid (fun W t => rtake_no (s := [39]) ((h.touch hT0).touch t) c39)
  have HY : Hid (∀ W, Touch NoB W0 W → Calls Tryz.prog 16 #[.pointer (some ⟨gp, 0, none⟩), .string ⟨#[40]⟩] W fun x w' => x = .returned (.bool true) ∧ RS w' gp g n cp ts (k + 1) 0 ∧ Touch (AtB gp) W w') := Lib.hid (fun W t => rtake_yes (s := [40]) ((h.touch hT0).touch t) hy)
  obtain ⟨kd, hkd⟩ : ∃ kd, (nxt ts k 0).kd = kd := ⟨_, rfl⟩
  obtain ⟨nn, hnn⟩ : ∃ nn, (nxt ts k 0).n = nn := ⟨_, rfl⟩
  obtain ⟨pl, hpl⟩ : ∃ pl, (nxt ts k 0).pl = pl := ⟨_, rfl⟩
  obtain ⟨tx, htx⟩ : ∃ tx, bs (nxt ts k 0).tx = tx := ⟨_, rfl⟩
  simp only [hkd, hnn, hpl, htx] at HN
  rw [hkd] at hk3 hk1
  clear h hT0 hb4 hkd hnn hpl htx
  go_enter Tryz.func79, Tryz.ntmps79
  go_wp2_with fail
  refine HN.out.mono ?_
  rintro r w1 ⟨rfl, hT1⟩
  obtain ⟨W, hW⟩ : ∃ W, w1.alloc (.cells #[.int .i64 (kd : Int), .int .i64 (nn : Int), .int .i64 (pl : Int), .string tx] 52) = W := ⟨_, rfl⟩
  have hT2 : Touch NoB W0 W := by rw [← hW]; exact hT1.alloc _
  obtain ⟨q5, hq5⟩ : ∃ q5, w1.heap.size = q5 := ⟨_, rfl⟩
  have hs1 := hT1.size
  have hb : W.heap[q5]? = some (.cells #[.int .i64 (kd : Int), .int .i64 (nn : Int), .int .i64 (pl : Int), .string tx] 52 (0, 0)) := by rw [← hW]; exact alloc_blk _ _ _ hq5
  have d0 : W.cell? ⟨q5, 0, none⟩ = some (.int .i64 (kd : Int)) := cell_blk hb 0
  have hl5 := blk_lt hb
  have HB5 := Lib.hid hb
  have HT := Lib.hid hT2
  go_wp2_with fail
  refine (HcT.out _ HT.out).mono ?_
  rintro r U0 ⟨rfl, -, hT⟩
  have HT := Lib.hid (HT.out.same hT)
  clear hT d0 hb hT1 hT2
  go_wp2_with fail
  refine (HcF.out _ HT.out).mono ?_
  rintro r U1 ⟨rfl, -, hT⟩
  have HT := Lib.hid (HT.out.same hT)
  clear hT
  go_wp2_with fail
  refine (HcS.out _ HT.out).mono ?_
  rintro r U2 ⟨rfl, -, hT⟩
  have HT := Lib.hid (HT.out.same hT)
  clear hT
  go_wp2_with fail
  refine (HcM.out _ HT.out).mono ?_
  rintro r U3 ⟨rfl, -, hT⟩
  have HT := Lib.hid (HT.out.same hT)
  clear hT
  go_wp2_with fail
  refine (Hc39.out _ HT.out).mono ?_
  rintro r U4 ⟨rfl, -, hT⟩
  have HT := Lib.hid (HT.out.same hT)
  clear hT
  go_wp2_with fail
  refine (HY.out _ HT.out).mono ?_
  rintro r V ⟨rfl, hp, hT⟩
  have hTV : Touch (AtB gp) W0 V := (Touch.anyB HT.out).same hT
  have HC := Lib.hid (HEE.out.1 V (k + 1) 0 hp)
  have HTV := Lib.hid hTV
  have hVs : w.heap.size + 1 ≤ V.heap.size := by have := hTV.size; omega
  clear hp hT hTV
  go_wp2_with fail
  refine HC.out.mono ?_
  rintro r w6 ⟨hw6, y, k2, e2, a6, b6, s6, A6, m6, c6, rfl, hy6, hp6, ho6, hyd6⟩
  obtain ⟨W6, hW6⟩ : ∃ W, w6.alloc (.cells #[.int .i64 a6, .int .i64 b6, .string s6, .slice A6 m6 c6] 44) = W := ⟨_, rfl⟩
  have tA6 : Touch NoB w6 W6 := by rw [← hW6]; exact (Touch.refl _ _).alloc _
  obtain ⟨q6, hq6⟩ : ∃ q6, w6.heap.size = q6 := ⟨_, rfl⟩
  have hx6 : XB W6 q6 a6 b6 s6 A6 m6 c6 := by rw [← hW6]; exact XB.new _ _ _ _ _ _ _ hq6
  have hs6 := hw6.size
  have HX := Lib.hid (And.intro (hp6.touch tA6) (And.intro hx6 (And.intro ((hy6.via (R := fun b => w.heap.size < b) (fun b h1 _ => by rcases h1 with h1 | h1; exact h1.elim; exact (by omega : w.heap.size < b))).touch0 tA6) (And.intro ((hp6.touch tA6).nox (fun b => w.heap.size < b)) (And.intro hyd6 (HTV.out.same (hw6.same (Touch.anyB tA6))))))))
  have HO2 := Lib.hid (And.intro (HOO.out k2 e2 y ho6) ho6)
  have hq6w : w.heap.size < q6 := by omega
  clear hw6 hy6 hp6 ho6 hyd6 tA6 hx6 hs6
  cases ha : acc (nxt ts k2 e2) [44]
  · have HA : Hid (Calls Tryz.prog 16 #[.pointer (some ⟨gp, 0, none⟩), .string ⟨#[44]⟩] W6 fun x w' => x = .returned (.bool false) ∧ RS w' gp g n cp ts k2 e2 ∧ Touch NoB W6 w') := Lib.hid (rtake_no (s := [44]) HX.out.1 ha)
    have HOF : Hid (Out (primL ts E k) k 0 y (if acc (nxt ts k2 e2) [41] = true then k2 + 1 else k2) (if acc (nxt ts k2 e2) [41] = true then e2 else if e2 = 0 then 2 else e2)) := Lib.hid (by
      cases hb : acc (nxt ts k2 e2) [41]
      · simp only [Bool.false_eq_true, if_false]
        refine HO2.out.1.2 y k2 _ hb ?_
        by_cases he : e2 = 0
        · subst he
          rw [acc_ok] at ha
          unfold Out pairL
          rw [if_pos rfl, ha]
          simp
        · rw [if_neg he]; exact Out.bad he
      · simp only [if_true]
        exact HO2.out.1.1 hb)
    clear ha
    go_wp2_with fail
    refine HA.out.mono ?_
    rintro r w7 ⟨rfl, hp7, hT7⟩
    have HWA : Hid (Calls Tryz.prog 19 #[.pointer (some ⟨gp, 0, none⟩), .string ⟨#[41]⟩] w7 fun x w' => x = .returned (.tuple #[]) ∧
      RS w' gp g n cp ts (if acc (nxt ts k2 e2) [41] = true then k2 + 1 else k2) (if acc (nxt ts k2 e2) [41] = true then e2 else if e2 = 0 then 2 else e2) ∧ Touch (AtB gp) w7 w') := Lib.hid (rwant_any (s := [41]) hp7)
    obtain ⟨k5, hk5⟩ : ∃ k5, (if acc (nxt ts k2 e2) [41] = true then k2 + 1 else k2) = k5 := ⟨_, rfl⟩
    obtain ⟨e5, he5⟩ : ∃ e5, (if acc (nxt ts k2 e2) [41] = true then e2 else if e2 = 0 then 2 else e2) = e5 := ⟨_, rfl⟩
    rw [hk5, he5] at HWA HOF
    have HT7 := Lib.hid hT7
    clear hp7 hT7 hk5 he5
    go_wp2_with fail
    refine HWA.out.mono ?_
    rintro r V9 ⟨rfl, hp, hT⟩
    have hT69 : Touch (AtB gp) W6 V9 := (Touch.anyB HT7.out).same hT
    obtain ⟨u60, u61, u62, u63, u64⟩ := (HX.out.2.1.go hT69 (by omega)).cells
    have HQ := Lib.hid (And.intro hp (HX.out.2.2.2.2.2.same hT69))
    have HZ := Lib.hid (HX.out.2.2.1.touch hT69 HX.out.2.2.2.1)
    clear hp hT hT69
    have hb4 := HB4.out.go HQ.out.2 (by omega)
    obtain ⟨z0, z1, z2, z3, z4⟩ := hb4.cells
    obtain ⟨f0, f1, f2, f3⟩ := hb4.free
    clear hb4
    go_wp2
    have hTE := touch4 (F := AtB gp) ((Touch.anyB (F := AtB gp) HT0.out).same HQ.out.2) (.inr (Nat.le_refl w.heap.size)) (.int .i64 a6) (.int .i64 b6) (.string s6) (.slice A6 m6 c6)
    have hTX := touch4 (F := fun b => b = w.heap.size) (Touch.refl _ V9) (.inl rfl) (.int .i64 a6) (.int .i64 b6) (.string s6) (.slice A6 m6 c6)
    exact bodyPost_ret (v := .agg #[.int .i64 a6, .int .i64 b6, .string s6, .slice A6 m6 c6]) (by simp [results, Tryz.results79, go_sem, z0, z1, z2, z3]) rfl ⟨hTE, y, k5, e5, _, _, _, _, _, _, rfl, (HZ.out.aside hTX (by omega)).via (fun b h1 _ => .inr (by omega)), HQ.out.1.touchX hTX hgp hgl, HOF.out, by have := HX.out.2.2.2.2.1; omega⟩
  · obtain rfl := acc_zero ha
    have HA : Hid (Calls Tryz.prog 16 #[.pointer (some ⟨gp, 0, none⟩), .string ⟨#[44]⟩] W6 fun x w' => x = .returned (.bool true) ∧ RS w' gp g n cp ts (k2 + 1) 0 ∧ Touch (AtB gp) W6 w') := Lib.hid (rtake_yes (s := [44]) HX.out.1 ha)
    have HAA := Lib.hid ha
    clear ha
    go_wp2_with fail
    refine HA.out.mono ?_
    rintro r U9 ⟨rfl, hp, hT⟩
    have HC2 := Lib.hid (HEE.out.1 U9 (k2 + 1) 0 hp)
    have hsU := hT.size
    have hl6 := HX.out.2.1.cells.2.2.2.2
    have HTU := Lib.hid hT
    have HNU := Lib.hid (hp.nox (fun b => w.heap.size < b))
    clear hp hT
    go_wp2_with fail
    refine HC2.out.mono ?_
    rintro r w7 ⟨hw7, z, k4, e4, a7, b7, s7, A7, m7, c7, rfl, hy7, hp7, ho7, hyd7⟩
    obtain ⟨W7, hW7⟩ : ∃ W, w7.alloc (.cells #[.int .i64 a7, .int .i64 b7, .string s7, .slice A7 m7 c7] 44) = W := ⟨_, rfl⟩
    have tA7 : Touch NoB w7 W7 := by rw [← hW7]; exact (Touch.refl _ _).alloc _
    obtain ⟨q7, hq7⟩ : ∃ q7, w7.heap.size = q7 := ⟨_, rfl⟩
    have hx7 : XB W7 q7 a7 b7 s7 A7 m7 c7 := by rw [← hW7]; exact XB.new _ _ _ _ _ _ _ hq7
    have hs7 := hw7.size
    have hq7w : w.heap.size < q7 := by omega
    have HO := Lib.hid (fun (k5 e5 e6 : Nat) h5 h5e h6 => HO2.out.1.2 (.two 15 y z) k5 e6 (by
      cases hb : acc (nxt ts k2 0) [41]
      · rfl
      · exact absurd (acc_same HAA.out hb) (by decide)) (out_pair (k := k2) (e := 0) (k1 := k2 + 1) (e1 := 0) (k2 := k4) (e2 := e4) (k3 := k5) (e3 := e5) (e4 := e6) (by rw [if_pos HAA.out]) (by rw [if_pos HAA.out]) ho7 h5 h5e h6))
    have HX5 := Lib.hid (show RS W7 gp g n cp ts k4 e4 ∧ XB W7 q6 a6 b6 s6 A6 m6 c6 ∧ XB W7 q7 a7 b7 s7 A7 m7 c7 ∧ ET W7 (fun b => w.heap.size < b) y a6 b6 s6 A6 m6 c6 ∧ ET W7 (fun b => w.heap.size < b) z a7 b7 s7 A7 m7 c7 ∧ NoX W7 (AtB gp) (fun b => w.heap.size < b) ∧ y.depth ≤ D ∧ z.depth ≤ D ∧ Touch (AtB gp) W0 W7 from
      ⟨hp7.touch tA7, ((HX.out.2.1.go HTU.out (by omega)).go (hw7.same (Touch.anyB tA7)) (by omega)), hx7, ((HX.out.2.2.1.touch HTU.out HX.out.2.2.2.1).touch (hw7.same (Touch.anyB tA7)) HNU.out), (hy7.via (fun b h1 _ => by rcases h1 with h1 | h1; exact h1.elim; exact (by omega : w.heap.size < b))).touch0 tA7, (hp7.touch tA7).nox _, HX.out.2.2.2.2.1, hyd7, (HX.out.2.2.2.2.2.same HTU.out).same (hw7.same (Touch.anyB tA7))⟩)
    clear hw7 hy7 hp7 ho7 hyd7 tA7 hx7 hs7 hsU
    have HX2 := Lib.hid (rwant_any (s := [41]) HX5.out.1)
    have HX2 : Hid (Calls Tryz.prog 19 #[.pointer (some ⟨gp, 0, none⟩), .string ⟨#[41]⟩] W7 fun x w' => x = .returned (.tuple #[]) ∧
        RS w' gp g n cp ts (if acc (nxt ts k4 e4) [41] = true then k4 + 1 else k4) (if acc (nxt ts k4 e4) [41] = true then e4 else if e4 = 0 then 2 else e4) ∧ Touch (AtB gp) W7 w') := HX2
    go_wp2_with fail
    refine HX2.out.mono ?_
    rintro r w8 ⟨rfl, hp8, hT8⟩
    obtain ⟨k5, hk5⟩ : ∃ k5, (if acc (nxt ts k4 e4) [41] = true then k4 + 1 else k4) = k5 := ⟨_, rfl⟩
    obtain ⟨e5, he5⟩ : ∃ e5, (if acc (nxt ts k4 e4) [41] = true then e4 else if e4 = 0 then 2 else e4) = e5 := ⟨_, rfl⟩
    rw [hk5, he5] at hp8
    have HK5 := Lib.hid (And.intro hk5.symm he5.symm)
    obtain ⟨u60, u61, u62, u63, u64⟩ := (HX5.out.2.1.go hT8 (by omega)).cells
    obtain ⟨u70, u71, u72, u73, u74⟩ := (HX5.out.2.2.1.go hT8 (by omega)).cells
    have hy8 := HX5.out.2.2.2.1.touch hT8 HX5.out.2.2.2.2.2.1
    have hz8 := HX5.out.2.2.2.2.1.touch hT8 HX5.out.2.2.2.2.2.1
    obtain ⟨W9, hW9⟩ : ∃ W, w8.alloc (.cells #[.int .i64 a6, .int .i64 b6, .string s6, .slice A6 m6 c6, .int .i64 a7, .int .i64 b7, .string s7, .slice A7 m7 c7] 44) = W := ⟨_, rfl⟩
    have t9 : Touch NoB w8 W9 := by rw [← hW9]; exact (Touch.refl _ _).alloc _
    obtain ⟨q9, hq9⟩ : ∃ q9, w8.heap.size = q9 := ⟨_, rfl⟩
    have hq9w : w.heap.size < q9 := by have := hT8.size; have := HX5.out.2.1.cells.2.2.2.2; omega
    have het : ET W9 (fun b => w.heap.size < b) (.two 15 y z) 15 0 ⟨#[]⟩ (some ⟨q9, 0, none⟩) 2 2 := by rw [← hW9]; exact hy8.mk2 hz8 15 hq9 hq9w
    have hdd : (Ex.two 15 y z).depth ≤ D + 1 := by have := HX5.out.2.2.2.2.2.2.1; have := HX5.out.2.2.2.2.2.2.2.1; simp only [Ex.depth]; omega
    have hp9 := hp8.touch t9
    have HF := Lib.hid (rmade_any hp9 het (by have := HEE.out.2; omega))
    obtain ⟨e6, he6⟩ : ∃ e6, (if e5 = 0 ∧ 40 < (Ex.two 15 y z).depth then 4 else e5) = e6 := ⟨_, rfl⟩
    rw [he6] at HF
    have HO6 := Lib.hid (And.intro (HO.out k5 e5 e6 HK5.out.1 HK5.out.2 he6.symm) hdd)
    have HT9 := Lib.hid (And.intro (show Touch (AtB gp) W0 W9 from HX5.out.2.2.2.2.2.2.2.2.same (hT8.same (Touch.anyB t9))) (And.intro het (hp9.nox (fun b => w.heap.size < b))))
    clear hp8 hT8 hk5 he5 hy8 hz8 t9 het hdd hp9 he6 HX2
    go_wp2_with fail
    refine HF.out.mono ?_
    rintro r V9 ⟨rfl, hp, hT⟩
    have HQ := Lib.hid (And.intro hp (HT9.out.1.same hT))
    have HZ := Lib.hid (HT9.out.2.1.touch hT HT9.out.2.2)
    clear hp hT
    have hb4 := HB4.out.go HQ.out.2 (by omega)
    obtain ⟨z0, z1, z2, z3, z4⟩ := hb4.cells
    obtain ⟨f0, f1, f2, f3⟩ := hb4.free
    clear hb4
    go_wp2
    have hTE := touch4 (F := AtB gp) ((Touch.anyB (F := AtB gp) HT0.out).same HQ.out.2) (.inr (Nat.le_refl w.heap.size)) (.int .i64 15) (.int .i64 0) (.string ⟨#[]⟩) (.slice (some ⟨q9, 0, none⟩) 2 2)
    have hTX := touch4 (F := fun b => b = w.heap.size) (Touch.refl _ V9) (.inl rfl) (.int .i64 15) (.int .i64 0) (.string ⟨#[]⟩) (.slice (some ⟨q9, 0, none⟩) 2 2)
    exact bodyPost_ret (v := .agg #[.int .i64 15, .int .i64 0, .string ⟨#[]⟩, .slice (some ⟨q9, 0, none⟩) 2 2]) (by simp [results, Tryz.results79, go_sem, z0, z1, z2, z3]) rfl ⟨hTE, .two 15 y z, k5, e6, _, _, _, _, _, _, rfl, (HZ.out.aside hTX (by omega)).via (fun b h1 _ => .inr (by omega)), HQ.out.1.touchX hTX hgp hgl, HO6.out.1, by have := HO6.out.2; omega⟩
end Go.Proofs.YtnphaaahdlkmhaaGreat
end
