/-
  CheckNames: the declaration that is told of a program that can't be run. No condition.
-/
import Derived.Test.YtbikpbmknneabaaGreatZs41
import Derived.Test.YtbikpbmknneabaaGreatZs40
import Derived.KernelRfl
section
namespace Go.Proofs.YtbikpbmknneabaaGreat
open Go.ChangeShapes Go.WideShapes Go.ChangeAt Go.RowKit Go.Maps
set_option maxRecDepth 100000
set_option maxHeartbeats 4000000


def cnA : Array Value := #[.string ⟨#[107, 101, 121, 32, 111, 119, 110, 32, 97, 32, 105, 110, 116, 59, 32, 107, 101, 121, 32, 111, 119, 110, 32, 98, 32, 105, 110, 116, 59, 32, 107, 101, 121, 32, 111, 119, 110, 32, 97, 32, 98, 111, 111, 108, 59]⟩, .string ⟨#[116, 114, 101, 101, 32, 116, 32, 123, 32, 111, 107, 59, 32, 125, 32, 116, 114, 101, 101, 32, 117, 32, 123, 32, 105, 102, 32, 49, 59, 32, 125, 32, 116, 114, 101, 101, 32, 118, 32, 123, 32, 105, 102, 32, 50, 59, 32, 125]⟩, .string ⟨#[116, 114, 101, 101, 32, 116, 32, 123, 32, 117, 115, 101, 32, 117, 59, 32, 125, 32, 116, 114, 101, 101, 32, 117, 32, 123, 32, 117, 115, 101, 32, 118, 59, 32, 125, 32, 116, 114, 101, 101, 32, 118, 32, 123, 32, 117, 115, 101, 32, 117, 59, 32, 125]⟩, .string ⟨#[100, 111, 109, 97, 105, 110, 32, 100, 32, 123, 32, 103, 111, 97, 108, 32, 120, 32, 61, 61, 32, 49, 59, 32, 125, 32, 116, 114, 101, 101, 32, 116, 32, 123, 32, 105, 102, 32, 49, 59, 32, 125]⟩, .string ⟨#[116, 114, 101, 101, 32, 116, 32, 123, 32, 105, 102, 32, 49, 59, 32, 125, 32, 116, 114, 101, 101, 32, 116, 32, 123, 32, 111, 107, 59, 32, 125]⟩, .string ⟨#[116, 114, 101, 101, 32, 116, 32, 123, 32, 112, 108, 97, 110, 32, 101, 59, 32, 125, 32, 100, 111, 109, 97, 105, 110, 32, 100, 32, 123, 32, 125]⟩, .string ⟨#[107, 101, 121, 32, 111, 119, 110, 32, 113, 32, 98, 111, 111, 108, 59, 32, 100, 111, 109, 97, 105, 110, 32, 101, 32, 123, 32, 125, 32, 100, 111, 109, 97, 105, 110, 32, 100, 32, 123, 32, 118, 97, 114, 32, 113, 32, 48, 32, 49, 59, 32, 125]⟩, .string ⟨#[116, 114, 101, 101, 32, 97, 32, 123, 32, 115, 101, 113, 32, 123, 32, 117, 115, 101, 32, 98, 59, 32, 117, 115, 101, 32, 99, 59, 32, 125, 32, 125, 32, 116, 114, 101, 101, 32, 98, 32, 123, 32, 111, 107, 59, 32, 125, 32, 116, 114, 101, 101, 32, 99, 32, 123, 32, 114, 101, 112, 101, 97, 116, 32, 48, 32, 111, 107, 59, 32, 125]⟩]
def cnW : Array Value := #[.string ⟨#[97]⟩, .string ⟨#[117]⟩, .string ⟨#[117]⟩, .string ⟨#[100]⟩, .string ⟨#[116]⟩, .string ⟨#[116]⟩, .string ⟨#[100]⟩, .string ⟨#[99]⟩]
theorem cnA_eq : cnA.toList = cnP.map (fun p => Value.string (bs p.1)) := by kernel_rfl
theorem cnW_eq : cnW.toList = cnP.map (fun p => Value.string (bs p.2)) := by kernel_rfl
theorem cn_out (k : Int) (w : World) (h : k < 0 ∨ 8 ≤ k) : Calls Tryz.prog 5 #[.int .i64 k] w fun e w' => e = .returned (.bool true) ∧ Touch NoB w w' := by
  have HA := Lib.hid (alive13_any w)
  rcases h with h | h
  · have h0 : decide (k < 0) = true := by simpa using h
    go_enter Tryz.func5, Tryz.ntmps5
    go_wp2_with fail
    refine HA.out.mono ?_
    rintro e w1 ⟨rfl, hT1⟩
    have HT := Lib.hid hT1
    clear hT1
    go_wp2
    go_ret
    exact ⟨rfl, (HT.out.alloc _).alloc _⟩
  · have h0 : decide (k < 0) = false := by simp; omega
    have h1 : decide (8 ≤ k) = true := by simpa using h
    go_enter Tryz.func5, Tryz.ntmps5
    go_wp2_with fail
    refine HA.out.mono ?_
    rintro e w1 ⟨rfl, hT1⟩
    have HT := Lib.hid hT1
    clear hT1
    go_wp2
    go_ret
    exact ⟨rfl, (HT.out.alloc _).alloc _⟩
theorem cn_in (i : Nat) (w : World) (h : i < 8) : Calls Tryz.prog 5 #[.int .i64 (i : Int)] w fun e w' => e = .returned (.bool true) ∧ Touch NoB w w' := by
  have HA := Lib.hid (alive13_any w)
  have HN := Lib.hid (fun n w => num13_any n w)
  obtain ⟨p, hp⟩ : ∃ p, cnP[i]? = some p := ⟨_, List.getElem?_eq_getElem (show i < cnP.length from h)⟩
  obtain ⟨hpl, g, x, hpa, hfit, hck, hxn, hxe⟩ := cn_at hp
  obtain ⟨s, hs⟩ : ∃ s, bs p.1 = s := ⟨_, rfl⟩
  have hsl : s.size = p.1.length := by rw [← hs, bs_size]
  have hsd : s.data.toList = p.1 := by rw [← hs, bs_list]
  have h0 : decide ((i : Int) < 0) = false := by simp
  have h1 : decide ((8 : Int) ≤ (i : Int)) = false := by simp; omega
  have hi : (i : Int) < 8 := by omega
  have HPA := Lib.hid (fun W cap A hc1 hB => parse13 hpa hsl hpl W cap A hc1 hB)
  obtain ⟨x1, x2⟩ := x
  simp only at hxn hxe
  obtain ⟨pw, hpw⟩ : ∃ z, bs p.2 = z := ⟨_, rfl⟩
  rw [hpw] at hxe
  have hxe := hxe.symm
  subst hxe
  have hne : (x2 != 0) = true := by simpa using hxn
  have HCK := Lib.hid (fun (W : World) (Q : Nat → Prop) (v1 v2 v3 : Value) hP hC => check_any g (pw, x2) (w := W) (Q := Q) (v1 := v1) (v2 := v2) (v3 := v3) hP hC hfit hck)
  simp only at HCK
  have hcA : ∀ (W : World) (q : Nat), W.heap.size = q → (W.alloc (.cells cnA 9)).cell? ⟨q, i, none⟩ = some (.string s) := fun W q hq => by
    rw [cell_of_row _ q i cnA 9 _ (alloc_blk W cnA 9 hq)]
    rw [← Array.getElem?_toList, cnA_eq, List.getElem?_map, hp, ← hs]
    rfl
  have hcW : ∀ (W : World) (q : Nat), W.heap.size = q → (W.alloc (.cells cnW 9)).cell? ⟨q, i, none⟩ = some (.string pw) := fun W q hq => by
    rw [cell_of_row _ q i cnW 9 _ (alloc_blk W cnW 9 hq)]
    rw [← Array.getElem?_toList, cnW_eq, List.getElem?_map, hp, ← hpw]
    rfl
  have HCA := Lib.hid hcA
  have HCW := Lib.hid hcW
  have HSD := Lib.hid (And.intro hsd (And.intro hpl hsl))
  clear hp hpa hfit hck hs hcA hcW hsd h hpl hsl
  go_enter Tryz.func5, Tryz.ntmps5
  go_wp2_with fail
  refine HA.out.mono ?_
  rintro e w1 ⟨rfl, hT1⟩
  go_upto_region 4 with fail
  obtain ⟨W1, hW1⟩ : ∃ W, W = w1.alloc (.cells cnA 9 (0, 0)) := ⟨_, rfl⟩
  obtain ⟨W2, hW2⟩ : ∃ W, W = W1.alloc (.cells cnW 9 (0, 0)) := ⟨_, rfl⟩
  show Code.wp _ _ _ _ ((w1.alloc (.cells cnA 9 (0, 0))).alloc (.cells cnW 9 (0, 0)))
  rw [← hW1, ← hW2]
  have t1 : Touch NoB w1 W1 := by rw [hW1]; exact (Touch.refl _ _).alloc _
  have t2 : Touch NoB W1 W2 := by rw [hW2]; exact (Touch.refl _ _).alloc _
  have hs1 : W1.heap.size = w1.heap.size + 1 := by rw [hW1]; simp only [World.size_alloc]
  have ca0 : W1.cell? ⟨w1.heap.size, i, none⟩ = some (.string s) := by rw [hW1]; exact HCA.out w1 _ rfl
  have ca : W2.cell? ⟨w1.heap.size, i, none⟩ = some (.string s) := (t2.cell (p := ⟨w1.heap.size, i, none⟩) (by simp only; omega) (fun z => z)).trans ca0
  have cw : W2.cell? ⟨w1.heap.size + 1, i, none⟩ = some (.string pw) := by rw [hW2]; exact HCW.out W1 _ hs1
  have hsz2 : W2.heap.size = w1.heap.size + 2 := by rw [hW2]; simp only [World.size_alloc]; omega
  obtain ⟨cap, W3, hcv, hc1, hc2, hT3, hB3⟩ := conv_any s (by have := HSD.out.2; omega) W2
  rw [HSD.out.1] at hB3
  have HT := Lib.hid ((hT1.same t1).same (t2.same hT3))
  have HQ := Lib.hid (HPA.out W3 cap _ hc1 hB3)
  have HC2 := Lib.hid (And.intro cw (And.intro hT3 hsz2))
  clear hT1 t1 t2 ca0 hc1 hc2 hT3 hB3 cw hW1 hW2 hsz2 hs1
  go_wp2_with fail
  refine HQ.out.mono ?_
  rintro r w4 ⟨A1, n1, c1, A2, n2, c2, A3, n3, c3, rfl, hP, hC, hT4⟩
  have HP := Lib.hid (fun W (t : Touch NoB w4 W) => HCK.out W _ _ _ _ (hP.touch t (fun b _ f => f)) hC)
  have HT4 := Lib.hid (And.intro (HT.out.same hT4) (HC2.out.2.1.same hT4))
  clear hP hC hT4 ca hcv
  go_wp2_with fail
  refine (HP.out _ (by repeat (first | with_reducible exact Touch.refl NoB _ | with_reducible refine Touch.drew ?_ | with_reducible refine Touch.alloc ?_ _))).mono ?_
  rintro r w5 ⟨rfl, hT5⟩
  have t5 := Touch.same (F := NoB) (a := w4) (by repeat (first | with_reducible exact Touch.refl NoB _ | with_reducible refine Touch.drew ?_ | with_reducible refine Touch.alloc ?_ _)) hT5
  have cw5 : w5.cell? ⟨w1.heap.size + 1, i, none⟩ = some (.string pw) := ((HT4.out.2.same t5).cell (p := ⟨w1.heap.size + 1, i, none⟩) (by have := HC2.out.2.2; simp only; omega) (fun z => z)).trans HC2.out.1
  have cl5 : w1.heap.size + 1 < w5.heap.size := by have := (HT4.out.2.same t5).size; have := HC2.out.2.2; omega
  have HT5 := Lib.hid (HT4.out.1.same t5)
  clear hT5 t5
  go_wp2_with (first | (go_at_call 9; refine (HN.out _ _).mono ?_; rintro e w' ⟨rfl, rfl⟩) | fail)
  go_ret
  exact ⟨rfl, HT5.out⟩
theorem cn_any (k : Int) (w : World) : Calls Tryz.prog 5 #[.int .i64 k] w fun e w' => e = .returned (.bool true) ∧ Touch NoB w w' := by
  by_cases h : k < 0 ∨ 8 ≤ k
  · exact cn_out k w h
  · obtain ⟨i, rfl⟩ : ∃ i : Nat, k = (i : Int) := ⟨k.toNat, by omega⟩
    exact cn_in i w (by omega)
end Go.Proofs.YtbikpbmknneabaaGreat
end
/-
  CheckMany: the text of trees that use each other, as it is built. Conditions: those that each theorem names.
-/
section
namespace Go.Proofs.YtbikpbmknneabaaGreat
open Go.ChangeShapes Go.WideShapes Go.ChangeAt Go.RowKit Go.Maps
set_option maxRecDepth 100000
set_option maxHeartbeats 4000000

def tA : Bs := [116, 114, 101, 101, 32, 116]
def tB : Bs := [32, 123, 32, 115, 101, 113, 32, 123, 32]
def tC : Bs := [125, 32, 125, 32]
def tD : Bs := [32, 123, 32, 111, 107, 59, 32, 125]
def uA : Bs := [117, 115, 101, 32, 116]
def uB : Bs := [59, 32]
def nmT (i : Nat) : Bs := [UInt8.ofNat (97 + i)]
def useR (X : Bs) (i : Nat) : Nat → Bs
  | 0 => X
  | k + 1 => useR X i k ++ uA ++ nmT (i + 1) ++ uB
def preR (n : Nat) : Nat → Bs
  | 0 => []
  | i + 1 => useR (preR n i ++ tA ++ nmT i ++ tB) i n ++ tC
def manyT (n m : Nat) : Bs := preR n m ++ tA ++ nmT m ++ tD
def cntT (n : Nat) : Nat → Nat
  | 0 => 1
  | m + 1 => 1 + n * cntT n m
theorem useR_len (X : Bs) (i : Nat) : ∀ k, (useR X i k).length = X.length + 8 * k
  | 0 => rfl
  | k + 1 => by
    have h := useR_len X i k
    show (useR X i k ++ uA ++ nmT (i + 1) ++ uB).length = _
    simp only [List.length_append, h, uA, uB, nmT, List.length_cons, List.length_nil]
    omega
theorem preR_len (n : Nat) : ∀ i, (preR n i).length = i * (20 + 8 * n)
  | 0 => by rw [Nat.zero_mul]; rfl
  | i + 1 => by
    have h := preR_len n i
    have e : (preR n (i + 1)).length = (preR n i).length + (20 + 8 * n) := by
      show (useR (preR n i ++ tA ++ nmT i ++ tB) i n ++ tC).length = _
      rw [List.length_append, useR_len, List.length_append, List.length_append, List.length_append]
      show (preR n i).length + 6 + 1 + 9 + 8 * n + 4 = _
      omega
    rw [e, h]
    exact (Nat.succ_mul i (20 + 8 * n)).symm
theorem cname_any (i : Nat) (h : i < 8) (w : World) : Calls Tryz.prog 10 #[.int .i64 (i : Int)] w fun e w' => e = .returned (.string (bs (nmT i))) ∧ w = w' := by
  have hc : i = 0 ∨ i = 1 ∨ i = 2 ∨ i = 3 ∨ i = 4 ∨ i = 5 ∨ i = 6 ∨ i = 7 := by omega
  clear h
  rcases hc with rfl | rfl | rfl | rfl | rfl | rfl | rfl | rfl
  all_goals
    go_enter Tryz.func10, Tryz.ntmps10
    go_wp2
    go_ret
    exact ⟨rfl, rfl⟩
end Go.Proofs.YtbikpbmknneabaaGreat
end
/-
  What a given family of CheckMany is to come to over lists. Lists alone.
-/
section
namespace Go.Proofs.YtbikpbmknneabaaGreat
set_option maxRecDepth 100000

def cmQ (n m : Nat) (x : ByteArray × Int) : Bool := decide (x.2 = if 4000 < cntT n m then 9 else 0)
def cmB (n m : Nat) : Bool := ckOf (manyT n m) (cmQ n m) && decide (cntT n m ≤ 1000000000)
end Go.Proofs.YtbikpbmknneabaaGreat
end
/-
  What the families of CheckMany of 1 trees come to over lists. Lists alone.
-/
section
namespace Go.Proofs.YtbikpbmknneabaaGreat
set_option maxRecDepth 100000

theorem cm1_1 : cmB 1 1 = true := by decide +kernel
theorem cm1_2 : cmB 2 1 = true := by decide +kernel
theorem cm1_3 : cmB 3 1 = true := by decide +kernel
theorem cm1_4 : cmB 4 1 = true := by decide +kernel
theorem cm1_5 : cmB 5 1 = true := by decide +kernel
theorem cm1_6 : cmB 6 1 = true := by decide +kernel
theorem cm1_7 : cmB 7 1 = true := by decide +kernel
theorem cm1_8 : cmB 8 1 = true := by decide +kernel
theorem cm1_9 : cmB 9 1 = true := by decide +kernel
theorem cm1_10 : cmB 10 1 = true := by decide +kernel
theorem cm1_11 : cmB 11 1 = true := by decide +kernel
theorem cm1_12 : cmB 12 1 = true := by decide +kernel
theorem cm1_13 : cmB 13 1 = true := by decide +kernel
theorem cm1_14 : cmB 14 1 = true := by decide +kernel
theorem cm1_15 : cmB 15 1 = true := by decide +kernel
theorem cm1_16 : cmB 16 1 = true := by decide +kernel
theorem cm1 {n : Nat} (h1 : 1 ≤ n) (h2 : n ≤ 16) : cmB n 1 = true := by
  have hc : n = 1 ∨ n = 2 ∨ n = 3 ∨ n = 4 ∨ n = 5 ∨ n = 6 ∨ n = 7 ∨ n = 8 ∨ n = 9 ∨ n = 10 ∨ n = 11 ∨ n = 12 ∨ n = 13 ∨ n = 14 ∨ n = 15 ∨ n = 16 := by omega
  rcases hc with rfl | rfl | rfl | rfl | rfl | rfl | rfl | rfl | rfl | rfl | rfl | rfl | rfl | rfl | rfl | rfl
  · exact cm1_1
  · exact cm1_2
  · exact cm1_3
  · exact cm1_4
  · exact cm1_5
  · exact cm1_6
  · exact cm1_7
  · exact cm1_8
  · exact cm1_9
  · exact cm1_10
  · exact cm1_11
  · exact cm1_12
  · exact cm1_13
  · exact cm1_14
  · exact cm1_15
  · exact cm1_16
end Go.Proofs.YtbikpbmknneabaaGreat
end
/-
  What the families of CheckMany of 2 trees come to over lists. Lists alone.
-/
section
namespace Go.Proofs.YtbikpbmknneabaaGreat
set_option maxRecDepth 100000

theorem cm2_1 : cmB 1 2 = true := by decide +kernel
theorem cm2_2 : cmB 2 2 = true := by decide +kernel
theorem cm2_3 : cmB 3 2 = true := by decide +kernel
theorem cm2_4 : cmB 4 2 = true := by decide +kernel
theorem cm2_5 : cmB 5 2 = true := by decide +kernel
theorem cm2_6 : cmB 6 2 = true := by decide +kernel
theorem cm2_7 : cmB 7 2 = true := by decide +kernel
theorem cm2_8 : cmB 8 2 = true := by decide +kernel
theorem cm2_9 : cmB 9 2 = true := by decide +kernel
theorem cm2_10 : cmB 10 2 = true := by decide +kernel
theorem cm2_11 : cmB 11 2 = true := by decide +kernel
theorem cm2_12 : cmB 12 2 = true := by decide +kernel
theorem cm2_13 : cmB 13 2 = true := by decide +kernel
theorem cm2_14 : cmB 14 2 = true := by decide +kernel
theorem cm2_15 : cmB 15 2 = true := by decide +kernel
theorem cm2_16 : cmB 16 2 = true := by decide +kernel
theorem cm2 {n : Nat} (h1 : 1 ≤ n) (h2 : n ≤ 16) : cmB n 2 = true := by
  have hc : n = 1 ∨ n = 2 ∨ n = 3 ∨ n = 4 ∨ n = 5 ∨ n = 6 ∨ n = 7 ∨ n = 8 ∨ n = 9 ∨ n = 10 ∨ n = 11 ∨ n = 12 ∨ n = 13 ∨ n = 14 ∨ n = 15 ∨ n = 16 := by omega
  rcases hc with rfl | rfl | rfl | rfl | rfl | rfl | rfl | rfl | rfl | rfl | rfl | rfl | rfl | rfl | rfl | rfl
  · exact cm2_1
  · exact cm2_2
  · exact cm2_3
  · exact cm2_4
  · exact cm2_5
  · exact cm2_6
  · exact cm2_7
  · exact cm2_8
  · exact cm2_9
  · exact cm2_10
  · exact cm2_11
  · exact cm2_12
  · exact cm2_13
  · exact cm2_14
  · exact cm2_15
  · exact cm2_16
end Go.Proofs.YtbikpbmknneabaaGreat
end
