/-
  TreeMany: how many there may be of each thing. Conditions: the listed variables read as they are laid.
-/
import Derived.Test.YtanecdpcenkoeaaDoorZa7
import Derived.Test.YtanecdpcenkoeaaDoorZam6
namespace Go.Proofs.YtanecdpcenkoeaaDoor
open Go.ChangeShapes Go.WideShapes Go.ChangeAt Go.RowKit
set_option maxRecDepth 100000
set_option maxHeartbeats 8000000

theorem bs_sum2 (x y : Bs) : bs x ++ bs y = bs (x ++ y) := by
  apply ByteArray.ext
  simp [bs, ByteArray.data_append]
theorem sum_run2 (x y : Bs) (h : x.length + y.length ≤ 5000) {sx sy sz : ByteArray} (hx : bs x = sx) (hy : bs y = sy) (hz : bs (x ++ y) = sz) (W : World) : (Op.stringOp .add sx sy).run Tryd.prog W = .ok (.string sz) W := by
  subst hx hy hz
  have h1 : (bs x).size = x.length := bs_size x
  have h2 : (bs y).size = y.length := bs_size y
  exact (run_string_add_sum (P := Tryd.prog) (w := W) _ _ (by omega)).trans (by rw [bs_sum2])
theorem lt_of_cell {w : World} {b i : Nat} {v : Value} (h : w.cell? ⟨b, i, none⟩ = some v) : b < w.heap.size := World.block_lt_of_cell? w ⟨b, i, none⟩ h
/-- The text ahead of item i. -/
def mnS (c : Nat) : Nat → Bs
  | 0 => mnH c
  | i + 1 => mnS c i ++ mnI c
theorem mnS_flat (c : Nat) : ∀ n, mnS c n = mnH c ++ (List.replicate n (mnI c)).flatten
  | 0 => by simp [mnS]
  | n + 1 => by rw [mnS, mnS_flat c n, List.replicate_succ', List.flatten_append]; simp
theorem mn_len {c : Nat} (hc : c < 8) : (mnH c).length ≤ 30 ∧ (mnI c).length ≤ 30 ∧ (mnT c).length ≤ 30 ∧ mnM c ≤ 100 := by
  have hc8 : c = 0 ∨ c = 1 ∨ c = 2 ∨ c = 3 ∨ c = 4 ∨ c = 5 ∨ c = 6 ∨ c = 7 := by omega
  rcases hc8 with rfl | rfl | rfl | rfl | rfl | rfl | rfl | rfl <;> decide
theorem mnS_len {c : Nat} : ∀ i, (mnS c i).length = (mnH c).length + i * (mnI c).length
  | 0 => by simp [mnS]
  | i + 1 => by rw [mnS, List.length_append, mnS_len i, Nat.succ_mul]; omega
def mnMa : Array Value := #[.int .i64 16, .int .i64 16, .int .i64 8, .int .i64 20, .int .i64 8, .int .i64 8, .int .i64 8, .int .i64 100]
def mnIa : Array Value := #[.string ⟨#[111, 107, 59, 32]⟩, .string ⟨#[49, 58, 32, 111, 107, 59, 32]⟩, .string ⟨#[118, 97, 114, 32, 118, 32, 48, 32, 49, 59, 32]⟩, .string ⟨#[97, 99, 116, 32, 97, 32, 99, 111, 115, 116, 32, 49, 32, 123, 32, 125, 32]⟩, .string ⟨#[103, 111, 97, 108, 32, 118, 32, 62, 61, 32, 49, 59, 32]⟩, .string ⟨#[110, 101, 101, 100, 32, 118, 32, 62, 61, 32, 49, 59, 32]⟩, .string ⟨#[109, 97, 107, 101, 32, 118, 32, 61, 32, 49, 59, 32]⟩, .string ⟨#[107, 101, 121, 32, 111, 119, 110, 32, 107, 32, 105, 110, 116, 59, 32]⟩]
def mnHa : Array Value := #[.string ⟨#[116, 114, 101, 101, 32, 116, 32, 123, 32, 115, 101, 108, 32, 123, 32]⟩, .string ⟨#[116, 114, 101, 101, 32, 116, 32, 123, 32, 112, 105, 99, 107, 32, 123, 32]⟩, .string ⟨#[100, 111, 109, 97, 105, 110, 32, 100, 32, 123, 32]⟩, .string ⟨#[100, 111, 109, 97, 105, 110, 32, 100, 32, 123, 32]⟩, .string ⟨#[100, 111, 109, 97, 105, 110, 32, 100, 32, 123, 32]⟩, .string ⟨#[100, 111, 109, 97, 105, 110, 32, 100, 32, 123, 32, 97, 99, 116, 32, 97, 32, 99, 111, 115, 116, 32, 49, 32, 123, 32]⟩, .string ⟨#[100, 111, 109, 97, 105, 110, 32, 100, 32, 123, 32, 97, 99, 116, 32, 97, 32, 99, 111, 115, 116, 32, 49, 32, 123, 32]⟩, .string ⟨#[]⟩]
def mnTa : Array Value := #[.string ⟨#[125, 32, 125]⟩, .string ⟨#[125, 32, 125]⟩, .string ⟨#[125]⟩, .string ⟨#[125]⟩, .string ⟨#[125]⟩, .string ⟨#[125, 32, 125]⟩, .string ⟨#[125, 32, 125]⟩, .string ⟨#[]⟩]
theorem mn_arr {c : Nat} (hc : c < 8) : mnMa[c]? = some (.int .i64 (mnM c : Int)) ∧ mnIa[c]? = some (.string (bs (mnI c))) ∧ mnHa[c]? = some (.string (bs (mnH c))) ∧ mnTa[c]? = some (.string (bs (mnT c))) := by
  have hc8 : c = 0 ∨ c = 1 ∨ c = 2 ∨ c = 3 ∨ c = 4 ∨ c = 5 ∨ c = 6 ∨ c = 7 := by omega
  rcases hc8 with rfl | rfl | rfl | rfl | rfl | rfl | rfl | rfl <;> exact ⟨rfl, rfl, rfl, rfl⟩
/-- What Parse returns of such a text. -/
theorem mnpost {w w' : World} {c n : Nat} {x : Ending} (hc : c < 8) (h0 : 1 ≤ n) (hn : n ≤ 110) (h : PaPost w (mnX c n) x w') : Touch NoB w w' ∧
    ((mnM c < n ∧ x = .returned (.tuple #[.agg #[.slice none 0 0, .slice none 0 0, .slice none 0 0], .int .i64 (mnA c : Int), .int .i64 9])) ∨
     (n ≤ mnM c ∧ ∃ (x1 : Option Addr) (l1 c1 : Nat) (x2 : Option Addr) (l2 c2 : Nat) (x3 : Option Addr) (l3 c3 k : Nat), x = .returned (.tuple #[.agg #[.slice x1 l1 c1, .slice x2 l2 c2, .slice x3 l3 c3], .int .i64 (k : Int), .int .i64 0]))) := by
  obtain ⟨hT, h⟩ := h
  have hd := mn_at hc h0 hn
  cases hp : parP (mnX c n) with
  | er e k =>
    rw [hp] at h hd
    simp only [Pr.mn, Bool.and_eq_true, decide_eq_true_eq] at hd
    obtain ⟨⟨h1, rfl⟩, rfl⟩ := hd
    exact ⟨hT, .inl ⟨h1, h⟩⟩
  | ok p =>
    rw [hp] at h hd
    simp only [Pr.mn, decide_eq_true_eq] at hd
    obtain ⟨v1, v2, v3, rfl, hpg⟩ := h
    obtain ⟨x1, l1, c1, x2, l2, c2, x3, l3, c3, rfl, rfl, rfl⟩ := pg_form hpg
    exact ⟨hT, .inr ⟨hd, x1, l1, c1, x2, l2, c2, x3, l3, c3, _, rfl⟩⟩
theorem tmany_out (c n : Int) (w : World) (h : c < 0 ∨ 7 < c ∨ n < 1 ∨ 110 < n) (hev : E2 w) : Calls Tryd.prog 5 #[.int .i64 c, .int .i64 n] w fun e w' => e = .returned (.bool true) ∧ Touch NoB w w' := by
  have HA := Lib.hid (alive_any w hev)
  clear hev
  have h' : c < 0 ∨ (¬ c < 0 ∧ 7 < c) ∨ (¬ c < 0 ∧ ¬ 7 < c ∧ n < 1) ∨ (¬ c < 0 ∧ ¬ 7 < c ∧ ¬ n < 1 ∧ 110 < n) := by omega
  rcases h' with h1 | ⟨h1, h2⟩ | ⟨h1, h2, h3⟩ | ⟨h1, h2, h3, h4⟩
  all_goals
    clear h
    go_enter Tryd.func5, Tryd.ntmps5
    go_wp2_with fail
    refine HA.out.mono ?_
    rintro e w1 ⟨rfl, hT1⟩
    have HT := Lib.hid hT1
    clear hT1
    go_wp2
    go_ret
    exact ⟨rfl, HT.out⟩
def MnRel (c n : Nat) (w : World) (v10 v11 v12 : Value) (wr : World) : Prop := ∃ i : Nat, i ≤ n ∧ v10 = .string (bs (mnS c i)) ∧ v11 = .int .i64 ((if i ≤ mnM c then 0 else mnA c : Nat) : Int) ∧ v12 = .int .i64 i ∧ wr = w
theorem tmany_in (c n : Nat) (w : World) (hc : c < 8) (h0 : 1 ≤ n) (hn : n ≤ 110) (hev : E2 w) : Calls Tryd.prog 5 #[.int .i64 (c : Int), .int .i64 (n : Int)] w fun e w' => e = .returned (.bool true) ∧ Touch NoB w w' := by
  have HA := Lib.hid (alive_any w hev)
  have HE := Lib.hid hev
  have HN := Lib.hid (fun n w => num11_any n w)
  have HPL := Lib.hid (fun (W : World) (cap : Nat) (A : Option Addr) (m : Nat) (hm : (mnX c n).length = m) (hmx : m ≤ 65536) (hc1 : m ≤ cap) (hc2 : cap ≤ 9223372036854775807) (hB : BAt W A (mnX c n)) (hE : E2 W) => (parse_e2 hm hmx hc1 hc2 hB hE).mono (fun x w' hx => mnpost hc h0 hn hx))
  have HAR := Lib.hid (mn_arr hc)
  have HLN := Lib.hid (mn_len hc)
  have hc0 : decide ((c : Int) < 0) = false := by simp
  have hc1 : decide ((7 : Int) < (c : Int)) = false := by simp; omega
  have hn0 : decide ((n : Int) < 1) = false := by simp; omega
  have hn1 : decide ((110 : Int) < (n : Int)) = false := by simp; omega
  have hc8 : (c : Int) < 8 := by omega
  have HX := Lib.hid (show mnX c n = mnS c n ++ mnT c by rw [mnS_flat]; rfl)
  clear hev
  go_enter Tryd.func5, Tryd.ntmps5
  go_wp2_with fail
  refine HA.out.mono ?_
  rintro e w1 ⟨rfl, hT1⟩
  have HT1 := Lib.hid hT1
  clear hT1
  go_upto_region 8 with fail
  obtain ⟨Wa, hWa⟩ : ∃ W, W = w1.alloc (.cells mnMa 3 (0, 0)) := ⟨_, rfl⟩
  obtain ⟨Wb, hWb⟩ : ∃ W, W = Wa.alloc (.cells mnIa 9 (0, 0)) := ⟨_, rfl⟩
  obtain ⟨Wc, hWc⟩ : ∃ W, W = Wb.alloc (.cells mnHa 9 (0, 0)) := ⟨_, rfl⟩
  obtain ⟨W, hWd⟩ : ∃ W, W = Wc.alloc (.cells mnTa 9 (0, 0)) := ⟨_, rfl⟩
  show Code.wp _ _ _ _ ((((w1.alloc (.cells mnMa 3 (0, 0))).alloc (.cells mnIa 9 (0, 0))).alloc (.cells mnHa 9 (0, 0))).alloc (.cells mnTa 9 (0, 0)))
  rw [← hWa, ← hWb, ← hWc, ← hWd]
  have sa : Wa.heap.size = w1.heap.size + 1 := by rw [hWa]; simp only [World.size_alloc]
  have sb : Wb.heap.size = w1.heap.size + 2 := by rw [hWb]; simp only [World.size_alloc]; omega
  have sc : Wc.heap.size = w1.heap.size + 3 := by rw [hWc]; simp only [World.size_alloc]; omega
  have ta : Touch NoB w1 Wa := by rw [hWa]; exact (Touch.refl _ _).alloc _
  have tb : Touch NoB Wa Wb := by rw [hWb]; exact (Touch.refl _ _).alloc _
  have tc : Touch NoB Wb Wc := by rw [hWc]; exact (Touch.refl _ _).alloc _
  have td : Touch NoB Wc W := by rw [hWd]; exact (Touch.refl _ _).alloc _
  have cm : W.cell? ⟨w1.heap.size, c, none⟩ = some (.int .i64 (mnM c : Int)) := ((tb.same (tc.same td)).cell (p := ⟨w1.heap.size, c, none⟩) (by simp only; omega) (fun z => z)).trans (by rw [hWa, cell_of_row _ _ c mnMa 3 _ (alloc_blk w1 mnMa 3 rfl)]; exact HAR.out.1)
  have ci : W.cell? ⟨w1.heap.size + 1, c, none⟩ = some (.string (bs (mnI c))) := ((tc.same td).cell (p := ⟨w1.heap.size + 1, c, none⟩) (by simp only; omega) (fun z => z)).trans (by rw [hWb, cell_of_row _ _ c mnIa 9 _ (alloc_blk Wa mnIa 9 sa)]; exact HAR.out.2.1)
  have ch : W.cell? ⟨w1.heap.size + 2, c, none⟩ = some (.string (bs (mnH c))) := (td.cell (p := ⟨w1.heap.size + 2, c, none⟩) (by simp only; omega) (fun z => z)).trans (by rw [hWc, cell_of_row _ _ c mnHa 9 _ (alloc_blk Wb mnHa 9 sb)]; exact HAR.out.2.2.1)
  have ct : W.cell? ⟨w1.heap.size + 3, c, none⟩ = some (.string (bs (mnT c))) := by rw [hWd, cell_of_row _ _ c mnTa 9 _ (alloc_blk Wc mnTa 9 sc)]; exact HAR.out.2.2.2
  have HT := Lib.hid ((HT1.out.same ta).same (tb.same (tc.same td)))
  clear hWa hWb hWc hWd sa sb sc ta tb tc td
  obtain ⟨mM, hmM⟩ : ∃ z, mnM c = z := ⟨_, rfl⟩
  obtain ⟨sI, hsI⟩ : ∃ z, bs (mnI c) = z := ⟨_, rfl⟩
  obtain ⟨sH, hsH⟩ : ∃ z, bs (mnH c) = z := ⟨_, rfl⟩
  obtain ⟨sT, hsT⟩ : ∃ z, bs (mnT c) = z := ⟨_, rfl⟩
  rw [hmM] at cm
  rw [hsI] at ci
  rw [hsH] at ch
  rw [hsT] at ct
  have HM := Lib.hid (And.intro hmM (And.intro hsI (And.intro hsH hsT)))
  clear hmM hsI hsH hsT
  go_wp2
  go_loopw [10, 11, 12] (fun v10 v11 v12 wr => MnRel c n W v10 v11 v12 wr) (fun _ _ v12 _ => n - (intOf v12).toNat)
  case atStart => exact ⟨0, Nat.zero_le _, by rw [← HM.out.2.2.1]; rfl, by rw [if_pos (Nat.zero_le _)]; rfl, rfl, rfl⟩
  case round =>
    obtain ⟨i, hi, rfl, rfl, rfl, rfl⟩ := hrel
    by_cases hlt : i < n
    · have l1 := mnS_len (c := c) i
      have l2 := HLN.out
      have l3 : i * (mnI c).length ≤ 110 * 30 := Nat.mul_le_mul (by omega) l2.2.1
      obtain ⟨s1, hs1⟩ : ∃ s, bs (mnS c i) = s := ⟨_, rfl⟩
      obtain ⟨t1, ht1⟩ : ∃ s, bs (mnS c (i + 1)) = s := ⟨_, rfl⟩
      have r1 := sum_run2 (mnS c i) (mnI c) (by omega) hs1 HM.out.2.1 ht1
      have hsz : s1.size = (mnH c).length + i * (mnI c).length := by rw [← hs1, bs_size, l1]
      obtain ⟨a0, ha0⟩ : ∃ z, (if i ≤ mnM c then 0 else mnA c : Nat) = z := ⟨_, rfl⟩
      rw [hs1, ha0]
      have HZ := Lib.hid (And.intro ht1 (And.intro ha0 hsz))
      clear hs1 ht1 l1 l2 l3 ha0 hsz
      by_cases he : i = mM
      · have hee : ((i : Int) == (mM : Int)) = true := by rw [he]; simp
        go_wp2
        go_roundw
        case rel =>
          refine ⟨i + 1, by omega, by rw [HZ.out.1], ?_, by go_num, rfl⟩
          have h1 := HM.out.1
          rw [if_neg (by omega), HZ.out.2.2]
          unfold mnA
          rw [h1, ← he]
        case measure => simp [intOf]; omega
      · have hee : ((i : Int) == (mM : Int)) = false := by simp; omega
        go_wp2
        go_roundw
        case rel =>
          refine ⟨i + 1, by omega, by rw [HZ.out.1], ?_, by go_num, rfl⟩
          have h1 := HM.out.1
          rw [← HZ.out.2.1]
          by_cases h2 : i ≤ mnM c
          · rw [if_pos h2, if_pos (by omega)]
          · rw [if_neg h2, if_neg (by omega)]
        case measure => simp [intOf]; omega
    · obtain rfl : i = n := by omega
      clear hlt
      have l1 := mnS_len (c := c) i
      have l2 := HLN.out
      have l3 : i * (mnI c).length ≤ 110 * 30 := Nat.mul_le_mul (by omega) l2.2.1
      obtain ⟨s1, hs1⟩ : ∃ s, bs (mnS c i) = s := ⟨_, rfl⟩
      obtain ⟨z1, hz1⟩ : ∃ s, bs (mnS c i ++ mnT c) = s := ⟨_, rfl⟩
      have r1 := sum_run2 (mnS c i) (mnT c) (by omega) hs1 HM.out.2.2.2 hz1
      have hzl : z1.size = (mnX c i).length := by rw [← hz1, bs_size, HX.out]
      have hln : (mnX c i).length ≤ 5000 := by rw [HX.out, List.length_append]; omega
      obtain ⟨cap, W1, hcv, hc1, hc2, hT2, hB1⟩ := conv_any z1 (by omega) wr
      rw [show z1.data.toList = mnX c i by rw [← hz1, bs_list, HX.out]] at hB1
      have HPA := Lib.hid (HPL.out W1 cap _ z1.size hzl.symm (by omega) hc1 hc2 hB1 (HE.out.touch (HT.out.same hT2)))
      have HT2 := Lib.hid (And.intro hT2 (HT.out.same hT2))
      have h1 := HM.out.1
      obtain ⟨a0, ha0⟩ : ∃ z, (if i ≤ mnM c then 0 else mnA c : Nat) = z := ⟨_, rfl⟩
      rw [hs1, ha0]
      have HL9 := Lib.hid (And.intro l1 (And.intro h1 ha0))
      clear hs1 hz1 hzl hln hc1 hc2 hT2 hB1 l1 l2 l3 ha0 h1
      have cm1 : W1.cell? ⟨w1.heap.size, c, none⟩ = some (.int .i64 (mM : Int)) := (HT2.out.1.cell (p := ⟨w1.heap.size, c, none⟩) (lt_of_cell cm) (fun z => z)).trans cm
      go_wp2_with fail
      refine HPA.out.mono ?_
      rintro e w3 ⟨hT4, ⟨h40, rfl⟩ | ⟨h40, x1, l1, d1, x2, l2, d2, x3, l3, d3, k, rfl⟩⟩
      · have cm3 : (w3.alloc (.cells #[.slice none 0 0, .slice none 0 0, .slice none 0 0] 28)).cell? ⟨w1.heap.size, c, none⟩ = some (.int .i64 (mM : Int)) := ((hT4.alloc _).cell (p := ⟨w1.heap.size, c, none⟩) (lt_of_cell cm1) (fun z => z)).trans cm1
        have cm4 : w3.cell? ⟨w1.heap.size, c, none⟩ = some (.int .i64 (mM : Int)) := (hT4.cell (p := ⟨w1.heap.size, c, none⟩) (lt_of_cell cm1) (fun z => z)).trans cm1
        have HT4 := Lib.hid (And.intro (HT2.out.2.same hT4) (((HT2.out.2.same hT4).alloc (.cells #[.slice none 0 0, .slice none 0 0, .slice none 0 0] 28))))
        clear hT4
        have h1 := HL9.out.2.1
        have h41 : decide ((mM : Int) < (i : Int)) = true := by simp; omega
        have hat : ((mnA c : Int) == (a0 : Int)) = true := by rw [← HL9.out.2.2, if_neg (by omega)]; simp
        have h42 : mM < i := by omega
        clear h1 h40
        go_wp2_with (first | (go_at_call 10; refine (HN.out _ _).mono ?_; rintro e w' ⟨rfl, rfl⟩))
        go_ret
        first
          | exact ⟨rfl, HT4.out.1⟩
          | exact ⟨rfl, HT4.out.2⟩
      · have cm3 : (w3.alloc (.cells #[.slice x1 l1 d1, .slice x2 l2 d2, .slice x3 l3 d3] 28)).cell? ⟨w1.heap.size, c, none⟩ = some (.int .i64 (mM : Int)) := ((hT4.alloc _).cell (p := ⟨w1.heap.size, c, none⟩) (lt_of_cell cm1) (fun z => z)).trans cm1
        have cm4 : w3.cell? ⟨w1.heap.size, c, none⟩ = some (.int .i64 (mM : Int)) := (hT4.cell (p := ⟨w1.heap.size, c, none⟩) (lt_of_cell cm1) (fun z => z)).trans cm1
        have HT4 := Lib.hid (And.intro (HT2.out.2.same hT4) (((HT2.out.2.same hT4).alloc (.cells #[.slice x1 l1 d1, .slice x2 l2 d2, .slice x3 l3 d3] 28))))
        clear hT4
        have h1 := HL9.out.2.1
        have h41 : decide ((mM : Int) < (i : Int)) = false := by simp; omega
        have h42 : ¬ mM < i := by omega
        clear h1 h40
        go_wp2_with (first | (go_at_call 10; refine (HN.out _ _).mono ?_; rintro e w' ⟨rfl, rfl⟩))
        go_ret
        first
          | exact ⟨rfl, HT4.out.1⟩
          | exact ⟨rfl, HT4.out.2⟩
theorem tmany_any (c n : Int) (w : World) (hev : E2 w) : Calls Tryd.prog 5 #[.int .i64 c, .int .i64 n] w fun e w' => e = .returned (.bool true) ∧ Touch NoB w w' := by
  by_cases h : c < 0 ∨ 7 < c ∨ n < 1 ∨ 110 < n
  · exact tmany_out c n w h hev
  · obtain ⟨i, rfl⟩ : ∃ i : Nat, n = (i : Int) := ⟨n.toNat, by omega⟩
    obtain ⟨j, rfl⟩ : ∃ j : Nat, c = (j : Int) := ⟨c.toNat, by omega⟩
    exact tmany_in j i w (by omega) (by omega) (by omega) hev
end Go.Proofs.YtanecdpcenkoeaaDoor
