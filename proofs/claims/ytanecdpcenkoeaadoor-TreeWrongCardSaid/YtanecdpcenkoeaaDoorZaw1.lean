/-
  TreeWrong: given texts are no programs, and where. Conditions: the listed variables read as they are laid.
-/
import Derived.Test.YtanecdpcenkoeaaDoorZa7
import Derived.KernelRfl
namespace Go.Proofs.YtanecdpcenkoeaaDoor
open Go.ChangeShapes Go.WideShapes Go.ChangeAt Go.RowKit
set_option maxRecDepth 100000
set_option maxHeartbeats 8000000

/-! ### TreeWrong -/
def wrA : Array Value := #[.string ⟨#[120]⟩, .string ⟨#[116, 114, 101, 101]⟩, .string ⟨#[116, 114, 101, 101, 32, 116]⟩, .string ⟨#[116, 114, 101, 101, 32, 116, 32, 123]⟩, .string ⟨#[116, 114, 101, 101, 32, 116, 32, 123, 32, 125]⟩, .string ⟨#[116, 114, 101, 101, 32, 116, 32, 123, 32, 111, 107, 32, 125]⟩, .string ⟨#[116, 114, 101, 101, 32, 116, 32, 123, 32, 111, 107, 59, 32, 111, 107, 59, 32, 125]⟩, .string ⟨#[116, 114, 101, 101, 32, 115, 101, 113, 32, 123, 32, 111, 107, 59, 32, 125]⟩, .string ⟨#[116, 114, 101, 101, 32, 116, 32, 123, 32, 115, 101, 113, 32, 123, 32, 125, 32, 125]⟩, .string ⟨#[116, 114, 101, 101, 32, 116, 32, 123, 32, 112, 97, 114, 32, 49, 32, 123, 32, 111, 107, 59, 32, 125, 32, 125]⟩, .string ⟨#[116, 114, 101, 101, 32, 116, 32, 123, 32, 110, 111, 116, 32, 125]⟩, .string ⟨#[116, 114, 101, 101, 32, 116, 32, 123, 32, 114, 101, 112, 101, 97, 116, 32, 111, 107, 59, 32, 125]⟩, .string ⟨#[116, 114, 101, 101, 32, 116, 32, 123, 32, 105, 102, 32, 59, 32, 125]⟩, .string ⟨#[116, 114, 101, 101, 32, 116, 32, 123, 32, 115, 101, 116, 32, 97, 32, 61, 32, 49, 59, 32, 125]⟩, .string ⟨#[116, 114, 101, 101, 32, 116, 32, 123, 32, 100, 111, 32, 115, 101, 113, 59, 32, 125]⟩, .string ⟨#[116, 114, 101, 101, 32, 116, 32, 123, 32, 112, 105, 99, 107, 32, 123, 32, 111, 107, 59, 32, 125, 32, 125]⟩, .string ⟨#[116, 114, 101, 101, 32, 116, 32, 123, 32, 112, 105, 99, 107, 32, 123, 32, 49, 32, 111, 107, 59, 32, 125, 32, 125]⟩, .string ⟨#[107, 101, 121, 32, 97, 32, 105, 110, 116, 59]⟩, .string ⟨#[107, 101, 121, 32, 111, 119, 110, 32, 97, 59]⟩, .string ⟨#[107, 101, 121, 32, 111, 119, 110, 32, 97, 32, 114, 101, 97, 108, 59]⟩, .string ⟨#[100, 111, 109, 97, 105, 110, 32, 100, 32, 123, 32, 97, 99, 116, 32, 97, 32, 123, 32, 125, 32, 125]⟩, .string ⟨#[100, 111, 109, 97, 105, 110, 32, 100, 32, 123, 32, 97, 99, 116, 32, 97, 32, 99, 111, 115, 116, 32, 49, 32, 123, 32, 103, 111, 97, 108, 32, 97, 32, 61, 61, 32, 49, 59, 32, 125, 32, 125]⟩, .string ⟨#[100, 111, 109, 97, 105, 110, 32, 100, 32, 123, 32, 118, 97, 114, 32, 97, 32, 49, 59, 32, 125]⟩, .string ⟨#[100, 111, 109, 97, 105, 110, 32, 100, 32, 123, 32, 103, 111, 97, 108, 32, 97, 32, 61, 32, 49, 59, 32, 125]⟩, .string ⟨#[100, 111, 109, 97, 105, 110, 32, 100, 32, 123, 32, 97, 99, 116, 32, 97, 32, 99, 111, 115, 116, 32, 49, 32, 123, 32, 109, 97, 107, 101, 32, 97, 32, 49, 59, 32, 125, 32, 125]⟩, .string ⟨#[100, 111, 109, 97, 105, 110, 32, 100, 32, 123, 32, 97, 99, 116, 32, 97, 32, 99, 111, 115, 116, 32, 45, 32, 49, 32, 123, 32, 125, 32, 125]⟩, .string ⟨#[116, 114, 101, 101, 32, 116, 32, 123, 32, 105, 102, 32, 97, 32, 61, 61, 32, 98, 32, 61, 61, 32, 99, 59, 32, 125]⟩, .string ⟨#[116, 114, 101, 101, 32, 116, 32, 123, 32, 115, 101, 116, 32, 97, 32, 58, 61, 32, 40, 49, 59, 32, 125]⟩, .string ⟨#[107, 101, 121, 32, 111, 119, 110, 32, 97, 32, 105, 110, 116]⟩]
def wrW : Array Value := #[.int .i64 0, .int .i64 4, .int .i64 6, .int .i64 8, .int .i64 9, .int .i64 12, .int .i64 13, .int .i64 5, .int .i64 15, .int .i64 15, .int .i64 13, .int .i64 16, .int .i64 12, .int .i64 15, .int .i64 12, .int .i64 16, .int .i64 18, .int .i64 4, .int .i64 9, .int .i64 10, .int .i64 17, .int .i64 26, .int .i64 18, .int .i64 18, .int .i64 33, .int .i64 22, .int .i64 19, .int .i64 20, .int .i64 13]
theorem wrA_eq : wrA.toList = wrP.map (fun p => Value.string (bs p.1)) := by kernel_rfl
theorem wrW_eq : wrW.toList = wrP.map (fun p => Value.int .i64 (p.2 : Int)) := by kernel_rfl
theorem twrong_out (k : Int) (w : World) (h : k < 0 ∨ 29 ≤ k) (hev : E2 w) : Calls Tryd.prog 6 #[.int .i64 k] w fun e w' => e = .returned (.bool true) ∧ Touch NoB w w' := by
  have HA := Lib.hid (alive_any w hev)
  clear hev
  rcases h with h | h
  · have h0 : decide (k < 0) = true := by simpa using h
    go_enter Tryd.func6, Tryd.ntmps6
    go_wp2_with fail
    refine HA.out.mono ?_
    rintro e w1 ⟨rfl, hT1⟩
    have HT := Lib.hid hT1
    clear hT1
    go_wp2
    go_ret
    exact ⟨rfl, (HT.out.alloc _).alloc _⟩
  · have h0 : decide (k < 0) = false := by simp; omega
    have h1 : decide (29 ≤ k) = true := by simpa using h
    go_enter Tryd.func6, Tryd.ntmps6
    go_wp2_with fail
    refine HA.out.mono ?_
    rintro e w1 ⟨rfl, hT1⟩
    have HT := Lib.hid hT1
    clear hT1
    go_wp2
    go_ret
    exact ⟨rfl, (HT.out.alloc _).alloc _⟩
theorem twrong_in (i : Nat) (w : World) (h : i < 29) (hev : E2 w) : Calls Tryd.prog 6 #[.int .i64 (i : Int)] w fun e w' => e = .returned (.bool true) ∧ Touch NoB w w' := by
  have HA := Lib.hid (alive_any w hev)
  have HN := Lib.hid (fun n w => num11_any n w)
  obtain ⟨p, hp⟩ : ∃ p, wrP[i]? = some p := ⟨_, List.getElem?_eq_getElem (show i < wrP.length from h)⟩
  obtain ⟨hpa, hpl⟩ := wrP_at hp
  obtain ⟨s, hs⟩ : ∃ s, bs p.1 = s := ⟨_, rfl⟩
  have hsl : s.size = p.1.length := by rw [← hs, bs_size]
  have hsd : s.data.toList = p.1 := by rw [← hs, bs_list]
  have h0 : decide ((i : Int) < 0) = false := by simp
  have h1 : decide ((29 : Int) ≤ (i : Int)) = false := by simp; omega
  have hi : (i : Int) < 29 := by omega
  have HPA := Lib.hid (fun (W : World) (cap : Nat) (A : Option Addr) (hc1 : s.size ≤ cap) (hc2 : cap ≤ 9223372036854775807) (hB : BAt W A p.1) (hE : E2 W) => parse_e2 (w := W) (n := s.size) hsl.symm (by omega) hc1 hc2 hB hE)
  unfold PaPost at HPA
  rw [hpa] at HPA
  obtain ⟨pw, hpw⟩ : ∃ z, p.2 = z := ⟨_, rfl⟩
  rw [hpw] at HPA
  have hcA : ∀ (W : World) (q : Nat), W.heap.size = q → (W.alloc (.cells wrA 9)).cell? ⟨q, i, none⟩ = some (.string s) := fun W q hq => by
    rw [cell_of_row _ q i wrA 9 _ (alloc_blk W wrA 9 hq)]
    rw [← Array.getElem?_toList, wrA_eq, List.getElem?_map, hp, ← hs]
    rfl
  have hcW : ∀ (W : World) (q : Nat), W.heap.size = q → (W.alloc (.cells wrW 3)).cell? ⟨q, i, none⟩ = some (.int .i64 (pw : Int)) := fun W q hq => by
    rw [cell_of_row _ q i wrW 3 _ (alloc_blk W wrW 3 hq)]
    rw [← Array.getElem?_toList, wrW_eq, List.getElem?_map, hp, ← hpw]
    rfl
  have HCA := Lib.hid hcA
  have HCW := Lib.hid hcW
  have HE := Lib.hid hev
  have HSD := Lib.hid (And.intro hsd (And.intro hpl hsl))
  clear hp hpa hs hpw hcA hcW hev hsd h hpl hsl
  go_enter Tryd.func6, Tryd.ntmps6
  go_wp2_with fail
  refine HA.out.mono ?_
  rintro e w1 ⟨rfl, hT1⟩
  go_upto_region 4 with fail
  obtain ⟨W1, hW1⟩ : ∃ W, W = w1.alloc (.cells wrA 9 (0, 0)) := ⟨_, rfl⟩
  obtain ⟨W2, hW2⟩ : ∃ W, W = W1.alloc (.cells wrW 3 (0, 0)) := ⟨_, rfl⟩
  show Code.wp _ _ _ _ ((w1.alloc (.cells wrA 9 (0, 0))).alloc (.cells wrW 3 (0, 0)))
  rw [← hW1, ← hW2]
  have t1 : Touch NoB w1 W1 := by rw [hW1]; exact (Touch.refl _ _).alloc _
  have t2 : Touch NoB W1 W2 := by rw [hW2]; exact (Touch.refl _ _).alloc _
  have hs1 : W1.heap.size = w1.heap.size + 1 := by rw [hW1]; simp only [World.size_alloc]
  have ca0 : W1.cell? ⟨w1.heap.size, i, none⟩ = some (.string s) := by rw [hW1]; exact HCA.out w1 _ rfl
  have ca : W2.cell? ⟨w1.heap.size, i, none⟩ = some (.string s) := (t2.cell (p := ⟨w1.heap.size, i, none⟩) (by simp only; omega) (fun z => z)).trans ca0
  have cw : W2.cell? ⟨w1.heap.size + 1, i, none⟩ = some (.int .i64 (pw : Int)) := by rw [hW2]; exact HCW.out W1 _ hs1
  have hsz2 : W2.heap.size = w1.heap.size + 2 := by rw [hW2]; simp only [World.size_alloc]; omega
  obtain ⟨cap, W3, hcv, hc1, hc2, hT3, hB3⟩ := conv_any s (by have := HSD.out.2; omega) W2
  rw [HSD.out.1] at hB3
  have HT := Lib.hid ((hT1.same t1).same (t2.same hT3))
  have HQ := Lib.hid (HPA.out W3 cap _ hc1 hc2 hB3 (HE.out.touch HT.out))
  have HC2 := Lib.hid (And.intro cw (And.intro hT3 hsz2))
  clear hT1 t1 t2 ca0 hc1 hc2 hT3 hB3 cw hW1 hW2 hsz2 hs1
  go_wp2_with fail
  refine HQ.out.mono ?_
  rintro r w4 ⟨hT4, rfl⟩
  have t4 : Touch NoB w4 (w4.alloc (.cells #[.slice none 0 0, .slice none 0 0, .slice none 0 0] 28)) := (Touch.refl _ _).alloc _
  have cw4 : (w4.alloc (.cells #[.slice none 0 0, .slice none 0 0, .slice none 0 0] 28)).cell? ⟨w1.heap.size + 1, i, none⟩ = some (.int .i64 (pw : Int)) := ((HC2.out.2.1.same (hT4.same t4)).cell (p := ⟨w1.heap.size + 1, i, none⟩) (by have := HC2.out.2.2; simp only; omega) (fun z => z)).trans HC2.out.1
  have cw5 : w4.cell? ⟨w1.heap.size + 1, i, none⟩ = some (.int .i64 (pw : Int)) := ((HC2.out.2.1.same hT4).cell (p := ⟨w1.heap.size + 1, i, none⟩) (by have := HC2.out.2.2; simp only; omega) (fun z => z)).trans HC2.out.1
  have HT4 := Lib.hid (And.intro (HT.out.same (hT4.same t4)) (HT.out.same hT4))
  clear hT4 t4
  go_wp2_with (first | (go_at_call 10; refine (HN.out _ _).mono ?_; rintro e w' ⟨rfl, rfl⟩))
  go_ret
  first
    | exact ⟨rfl, HT4.out.1⟩
    | exact ⟨rfl, HT4.out.2⟩
theorem twrong_any (k : Int) (w : World) (hev : E2 w) : Calls Tryd.prog 6 #[.int .i64 k] w fun e w' => e = .returned (.bool true) ∧ Touch NoB w w' := by
  by_cases h : k < 0 ∨ 29 ≤ k
  · exact twrong_out k w h hev
  · obtain ⟨i, rfl⟩ : ∃ i : Nat, k = (i : Int) := ⟨k.toNat, by omega⟩
    exact twrong_in i w (by omega) hev
end Go.Proofs.YtanecdpcenkoeaaDoor
