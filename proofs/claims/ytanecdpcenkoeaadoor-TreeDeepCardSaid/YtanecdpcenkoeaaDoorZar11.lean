/-
  TreeDeep: how deep nodes may stand in one another. Conditions: the listed variables read as they are laid.
-/
import Derived.Test.YtanecdpcenkoeaaDoorZa7
import Derived.Test.YtanecdpcenkoeaaDoorZar10
namespace Go.Proofs.YtanecdpcenkoeaaDoor
open Go.ChangeShapes Go.WideShapes Go.ChangeAt Go.RowKit
set_option maxRecDepth 100000
set_option maxHeartbeats 8000000

theorem bs_sum (x y : Bs) : bs x ++ bs y = bs (x ++ y) := by
  apply ByteArray.ext
  simp [bs, ByteArray.data_append]
theorem sum_run (x y : Bs) (h : x.length + y.length ≤ 5000) {sx sy sz : ByteArray} (hx : bs x = sx) (hy : bs y = sy) (hz : bs (x ++ y) = sz) (W : World) : (Op.stringOp .add sx sy).run Tryd.prog W = .ok (.string sz) W := by
  subst hx hy hz
  have h1 : (bs x).size = x.length := bs_size x
  have h2 : (bs y).size = y.length := bs_size y
  exact (run_string_add_sum (P := Tryd.prog) (w := W) _ _ (by omega)).trans (by rw [bs_sum])
def rp (p : Bs) : Nat → Bs
  | 0 => []
  | i + 1 => rp p i ++ p
theorem rp_flat (p : Bs) : ∀ n, rp p n = (List.replicate n p).flatten
  | 0 => rfl
  | n + 1 => by rw [List.replicate_succ', List.flatten_append, ← rp_flat p n]; simp [rp]
theorem rp_len (p : Bs) (hp : p.length ≤ 10) : ∀ i, (rp p i).length ≤ 10 * i
  | 0 => by simp [rp]
  | i + 1 => by have := rp_len p hp i; simp only [rp, List.length_append]; omega
theorem dpx_at {c n : Nat} (hc : c < 4) (hn : n ≤ 80) : (parP (dpX c n)).dp n = true := by
  have q : ∀ (k : Nat), (List.range 27).all (fun i => (parP (dpX c (k + i))).dp (k + i)) = true → k ≤ n → n < k + 27 → (parP (dpX c n)).dp n = true := by
    intro k h h1 h2
    have := List.all_eq_true.1 h (n - k) (List.mem_range.2 (by omega))
    rw [show k + (n - k) = n by omega] at this
    exact this
  have hk : n < 27 ∨ (27 ≤ n ∧ n < 54) ∨ (54 ≤ n ∧ n < 81) := by omega
  have hc4 : c = 0 ∨ c = 1 ∨ c = 2 ∨ c = 3 := by omega
  rcases hc4 with rfl | rfl | rfl | rfl
  · rcases hk with hk | hk | hk
    · exact q 0 dp_0_0 (by omega) (by omega)
    · exact q 27 dp_0_27 (by omega) (by omega)
    · exact q 54 dp_0_54 (by omega) (by omega)
  · rcases hk with hk | hk | hk
    · exact q 0 dp_1_0 (by omega) (by omega)
    · exact q 27 dp_1_27 (by omega) (by omega)
    · exact q 54 dp_1_54 (by omega) (by omega)
  · rcases hk with hk | hk | hk
    · exact q 0 dp_2_0 (by omega) (by omega)
    · exact q 27 dp_2_27 (by omega) (by omega)
    · exact q 54 dp_2_54 (by omega) (by omega)
  · rcases hk with hk | hk | hk
    · exact q 0 dp_3_0 (by omega) (by omega)
    · exact q 27 dp_3_27 (by omega) (by omega)
    · exact q 54 dp_3_54 (by omega) (by omega)
/-- What Parse returns of such a text. -/
theorem dpost {w w' : World} {c n : Nat} {x : Ending} (hc : c < 4) (hn : n ≤ 80) (h : PaPost w (dpX c n) x w') : Touch NoB w w' ∧
    ((39 < n ∧ ∃ (k : Nat), x = .returned (.tuple #[.agg #[.slice none 0 0, .slice none 0 0, .slice none 0 0], .int .i64 (k : Int), .int .i64 4])) ∨
     (n ≤ 39 ∧ ∃ (x1 : Option Addr) (l1 c1 : Nat) (A : Option Addr) (c' : Nat) (x3 : Option Addr) (l3 c3 k : Nat), x = .returned (.tuple #[.agg #[.slice x1 l1 c1, .slice A 1 c', .slice x3 l3 c3], .int .i64 (k : Int), .int .i64 0]))) := by
  obtain ⟨hT, h⟩ := h
  have hd := dpx_at hc hn
  cases hp : parP (dpX c n) with
  | er e k =>
    rw [hp] at h hd
    simp only [Pr.dp, Bool.and_eq_true, decide_eq_true_eq] at hd
    obtain ⟨h1, rfl⟩ := hd
    exact ⟨hT, .inl ⟨h1, k, h⟩⟩
  | ok p =>
    rw [hp] at h hd
    simp only [Pr.dp, Bool.and_eq_true, decide_eq_true_eq] at hd
    obtain ⟨v1, v2, v3, rfl, hpg0⟩ := h
    have hpg := hpg0
    obtain ⟨u1, u2, u3, xs, ys, e, -, ⟨A, c', rfl, -⟩, -⟩ := hpg
    simp only [List.cons.injEq] at e
    obtain ⟨-, rfl, -, -⟩ := e
    obtain ⟨x1, l1, c1, -, -, -, x3, l3, c3, rfl, -, rfl⟩ := pg_form hpg0
    exact ⟨hT, .inr ⟨hd.1, x1, l1, c1, A, c', x3, l3, c3, _, by rw [hd.2]⟩⟩
theorem tdeep_out (n c : Int) (w : World) (h : n < 0 ∨ 80 < n ∨ c < 0 ∨ 3 < c) (hev : E2 w) : Calls Tryd.prog 4 #[.int .i64 n, .int .i64 c] w fun e w' => e = .returned (.bool true) ∧ Touch NoB w w' := by
  have HA := Lib.hid (alive_any w hev)
  clear hev
  have h' : n < 0 ∨ (¬ n < 0 ∧ 80 < n) ∨ (¬ n < 0 ∧ ¬ 80 < n ∧ c < 0) ∨ (¬ n < 0 ∧ ¬ 80 < n ∧ ¬ c < 0 ∧ 3 < c) := by omega
  rcases h' with h1 | ⟨h1, h2⟩ | ⟨h1, h2, h3⟩ | ⟨h1, h2, h3, h4⟩
  all_goals
    clear h
    go_enter Tryd.func4, Tryd.ntmps4
    go_wp2_with fail
    refine HA.out.mono ?_
    rintro e w1 ⟨rfl, hT1⟩
    have HT := Lib.hid hT1
    clear hT1
    go_wp2
    go_ret
    exact ⟨rfl, HT.out⟩
def DdRel (hp tp : Bs) (n : Nat) (w : World) (v4 v5 v6 : Value) (wr : World) : Prop := ∃ i : Nat, i ≤ n ∧ v4 = .string (bs (rp hp i)) ∧ v5 = .string (bs (rp tp i)) ∧ v6 = .int .i64 i ∧ wr = w
theorem tdeep_0 (n : Nat) (w : World) (hn : n ≤ 80) (hev : E2 w) : Calls Tryd.prog 4 #[.int .i64 (n : Int), .int .i64 0] w fun e w' => e = .returned (.bool true) ∧ Touch NoB w w' := by
  have HA := Lib.hid (alive_any w hev)
  have HE := Lib.hid hev
  have HN := Lib.hid (fun n w => num11_any n w)
  have hc : 0 < 4 := by decide
  have hT : dpX 0 n = [116, 114, 101, 101, 32, 116, 32, 123, 32] ++ rp [115, 101, 113, 32, 123, 32] n ++ [111, 107, 59, 32] ++ rp [125, 32] n ++ [125] := by rw [rp_flat, rp_flat]; rfl
  have HPL := Lib.hid (fun (W : World) (cap : Nat) (A : Option Addr) (m : Nat) (hm : (dpX 0 n).length = m) (hmx : m ≤ 65536) (hc1 : m ≤ cap) (hc2 : cap ≤ 9223372036854775807) (hB : BAt W A (dpX 0 n)) (hE : E2 W) => (parse_e2 hm hmx hc1 hc2 hB hE).mono (fun x w' hx => dpost hc hn hx))
  rw [hT] at HPL
  have hps : ([115, 101, 113, 32, 123, 32] : Bs).length ≤ 10 ∧ ([125, 32] : Bs).length ≤ 10 := by decide
  have HS := Lib.hid hps
  have hn0 : decide ((n : Int) < 0) = false := by simp
  have hn1 : decide ((80 : Int) < (n : Int)) = false := by simp; omega
  clear hev hT hps hc
  go_enter Tryd.func4, Tryd.ntmps4
  go_wp2_with fail
  refine HA.out.mono ?_
  rintro e w1 ⟨rfl, hT1⟩
  have HT1 := Lib.hid hT1
  clear hT1
  go_wp2
  go_loopw [6, 7, 8] (fun v4 v5 v6 wr => DdRel ([115, 101, 113, 32, 123, 32] : Bs) ([125, 32] : Bs) n w1 v4 v5 v6 wr) (fun _ _ v6 _ => n - (intOf v6).toNat)
  case atStart => exact ⟨0, Nat.zero_le _, rfl, rfl, rfl, rfl⟩
  case round =>
    obtain ⟨i, hi, rfl, rfl, rfl, rfl⟩ := hrel
    by_cases hlt : i < n
    · have l1 := rp_len ([115, 101, 113, 32, 123, 32] : Bs) HS.out.1 i
      have l2 := rp_len ([125, 32] : Bs) HS.out.2 i
      obtain ⟨s1, hs1⟩ : ∃ s, bs (rp ([115, 101, 113, 32, 123, 32] : Bs) i) = s := ⟨_, rfl⟩
      obtain ⟨s2, hs2⟩ : ∃ s, bs (rp ([125, 32] : Bs) i) = s := ⟨_, rfl⟩
      obtain ⟨t1, ht1⟩ : ∃ s, bs (rp ([115, 101, 113, 32, 123, 32] : Bs) (i + 1)) = s := ⟨_, rfl⟩
      obtain ⟨t2, ht2⟩ : ∃ s, bs (rp ([125, 32] : Bs) (i + 1)) = s := ⟨_, rfl⟩
      have r1 := sum_run (rp ([115, 101, 113, 32, 123, 32] : Bs) i) ([115, 101, 113, 32, 123, 32] : Bs) (by have := HS.out.1; omega) hs1 rfl ht1
      have r2 := sum_run (rp ([125, 32] : Bs) i) ([125, 32] : Bs) (by have := HS.out.2; omega) hs2 rfl ht2
      have HX := Lib.hid (And.intro ht1 ht2)
      have HY : Hid ((([115, 101, 113, 32, 123, 32] : Bs) = [] → s1 = t1) ∧ (([125, 32] : Bs) = [] → s2 = t2)) := Lib.hid ⟨fun e => by rw [← hs1, ← ht1, rp, e, List.append_nil], fun e => by rw [← hs2, ← ht2, rp, e, List.append_nil]⟩
      rw [hs1, hs2]
      simp only [bs] at r1 r2
      clear hs1 hs2 ht1 ht2 l1 l2
      go_wp2
      go_roundw
      case rel =>
        refine ⟨i + 1, by omega, ?_, ?_, by go_num, rfl⟩
        · first
          | (rw [HX.out.1]; done)
          | (rw [HX.out.1, HY.out.1 rfl])
        · first
          | (rw [HX.out.2]; done)
          | (rw [HX.out.2, HY.out.2 rfl])
      case measure => simp [intOf]; omega
    · obtain rfl : i = n := by omega
      clear hlt
      have l1 := rp_len ([115, 101, 113, 32, 123, 32] : Bs) HS.out.1 i
      have l2 := rp_len ([125, 32] : Bs) HS.out.2 i
      obtain ⟨s1, hs1⟩ : ∃ s, bs (rp ([115, 101, 113, 32, 123, 32] : Bs) i) = s := ⟨_, rfl⟩
      obtain ⟨s2, hs2⟩ : ∃ s, bs (rp ([125, 32] : Bs) i) = s := ⟨_, rfl⟩
      obtain ⟨z1, hz1⟩ : ∃ s, bs ([116, 114, 101, 101, 32, 116, 32, 123, 32] ++ rp ([115, 101, 113, 32, 123, 32] : Bs) i) = s := ⟨_, rfl⟩
      obtain ⟨z2, hz2⟩ : ∃ s, bs ([116, 114, 101, 101, 32, 116, 32, 123, 32] ++ rp ([115, 101, 113, 32, 123, 32] : Bs) i ++ [111, 107, 59, 32]) = s := ⟨_, rfl⟩
      obtain ⟨z3, hz3⟩ : ∃ s, bs ([116, 114, 101, 101, 32, 116, 32, 123, 32] ++ rp ([115, 101, 113, 32, 123, 32] : Bs) i ++ [111, 107, 59, 32] ++ rp ([125, 32] : Bs) i) = s := ⟨_, rfl⟩
      obtain ⟨z4, hz4⟩ : ∃ s, bs ([116, 114, 101, 101, 32, 116, 32, 123, 32] ++ rp ([115, 101, 113, 32, 123, 32] : Bs) i ++ [111, 107, 59, 32] ++ rp ([125, 32] : Bs) i ++ [125]) = s := ⟨_, rfl⟩
      have hln : ([116, 114, 101, 101, 32, 116, 32, 123, 32] ++ rp ([115, 101, 113, 32, 123, 32] : Bs) i ++ [111, 107, 59, 32] ++ rp ([125, 32] : Bs) i ++ [125]).length ≤ 2000 := by simp only [List.length_append, List.length_cons, List.length_nil]; omega
      have r1 := sum_run [116, 114, 101, 101, 32, 116, 32, 123, 32] (rp ([115, 101, 113, 32, 123, 32] : Bs) i) (by simp only [List.length_cons, List.length_nil]; omega) (sx := ⟨#[116, 114, 101, 101, 32, 116, 32, 123, 32]⟩) rfl hs1 hz1
      have r2 := sum_run ([116, 114, 101, 101, 32, 116, 32, 123, 32] ++ rp ([115, 101, 113, 32, 123, 32] : Bs) i) [111, 107, 59, 32] (by simp only [List.length_append, List.length_cons, List.length_nil]; omega) (sy := ⟨#[111, 107, 59, 32]⟩) hz1 rfl hz2
      have r3 := sum_run ([116, 114, 101, 101, 32, 116, 32, 123, 32] ++ rp ([115, 101, 113, 32, 123, 32] : Bs) i ++ [111, 107, 59, 32]) (rp ([125, 32] : Bs) i) (by simp only [List.length_append, List.length_cons, List.length_nil]; omega) hz2 hs2 hz3
      have r4 := sum_run ([116, 114, 101, 101, 32, 116, 32, 123, 32] ++ rp ([115, 101, 113, 32, 123, 32] : Bs) i ++ [111, 107, 59, 32] ++ rp ([125, 32] : Bs) i) [125] (by simp only [List.length_append, List.length_cons, List.length_nil]; omega) (sy := ⟨#[125]⟩) hz3 rfl hz4
      have hzl : z4.size = ([116, 114, 101, 101, 32, 116, 32, 123, 32] ++ rp ([115, 101, 113, 32, 123, 32] : Bs) i ++ [111, 107, 59, 32] ++ rp ([125, 32] : Bs) i ++ [125]).length := by rw [← hz4, bs_size]
      obtain ⟨cap, W1, hcv, hc1, hc2, hT2, hB1⟩ := conv_any z4 (by omega) wr
      rw [show z4.data.toList = [116, 114, 101, 101, 32, 116, 32, 123, 32] ++ rp ([115, 101, 113, 32, 123, 32] : Bs) i ++ [111, 107, 59, 32] ++ rp ([125, 32] : Bs) i ++ [125] by rw [← hz4, bs_list]] at hB1
      have HPA := Lib.hid (HPL.out W1 cap _ z4.size hzl.symm (by omega) hc1 hc2 hB1 (HE.out.touch (HT1.out.same hT2)))
      have HT2 := Lib.hid (HT1.out.same hT2)
      rw [hs1, hs2]
      clear hs1 hs2 hz1 hz2 hz3 hz4 hzl hln hc1 hc2 hT2 hB1 l1 l2
      go_wp2_with fail
      refine HPA.out.mono ?_
      rintro e w3 ⟨hT4, ⟨h40, k, rfl⟩ | ⟨h40, x1, l1, d1, A9, c9, x3, l3, d3, k, rfl⟩⟩
      · have HT4 := Lib.hid ((HT2.out.same hT4).alloc (.cells #[.slice none 0 0, .slice none 0 0, .slice none 0 0] 28))
        clear hT4
        have h41 : decide ((39 : Int) < (i : Int)) = true := by simp; omega
        go_wp2_with (first | (go_at_call 10; refine (HN.out _ _).mono ?_; rintro e w' ⟨rfl, rfl⟩))
        go_ret
        exact ⟨rfl, HT4.out⟩
      · obtain ⟨W4, hW4⟩ : ∃ W, w3.alloc (.cells #[.slice x1 l1 d1, .slice A9 1 c9, .slice x3 l3 d3] 28) = W := ⟨_, rfl⟩
        have b4 : B3 W4 28 w3.heap.size (.slice x1 l1 d1) (.slice A9 1 c9) (.slice x3 l3 d3) := by rw [← hW4]; exact B3.new _ _ _ _ _ rfl
        obtain ⟨q0, q1, q2, ql⟩ := b4.cells
        have HT4 := Lib.hid (show Touch NoB w W4 by rw [← hW4]; exact (HT2.out.same hT4).alloc _)
        clear hT4 b4
        have h41 : decide ((39 : Int) < (i : Int)) = false := by simp; omega
        go_wp2_with (first | (go_at_call 10; refine (HN.out _ _).mono ?_; rintro e w' ⟨rfl, rfl⟩))
        go_ret
        exact ⟨rfl, HT4.out⟩
theorem tdeep_1 (n : Nat) (w : World) (hn : n ≤ 80) (hev : E2 w) : Calls Tryd.prog 4 #[.int .i64 (n : Int), .int .i64 1] w fun e w' => e = .returned (.bool true) ∧ Touch NoB w w' := by
  have HA := Lib.hid (alive_any w hev)
  have HE := Lib.hid hev
  have HN := Lib.hid (fun n w => num11_any n w)
  have hc : 1 < 4 := by decide
  have hT : dpX 1 n = [116, 114, 101, 101, 32, 116, 32, 123, 32] ++ rp [110, 111, 116, 32] n ++ [111, 107, 59, 32] ++ rp [] n ++ [125] := by rw [rp_flat, rp_flat]; rfl
  have HPL := Lib.hid (fun (W : World) (cap : Nat) (A : Option Addr) (m : Nat) (hm : (dpX 1 n).length = m) (hmx : m ≤ 65536) (hc1 : m ≤ cap) (hc2 : cap ≤ 9223372036854775807) (hB : BAt W A (dpX 1 n)) (hE : E2 W) => (parse_e2 hm hmx hc1 hc2 hB hE).mono (fun x w' hx => dpost hc hn hx))
  rw [hT] at HPL
  have hps : ([110, 111, 116, 32] : Bs).length ≤ 10 ∧ ([] : Bs).length ≤ 10 := by decide
  have HS := Lib.hid hps
  have hn0 : decide ((n : Int) < 0) = false := by simp
  have hn1 : decide ((80 : Int) < (n : Int)) = false := by simp; omega
  clear hev hT hps hc
  go_enter Tryd.func4, Tryd.ntmps4
  go_wp2_with fail
  refine HA.out.mono ?_
  rintro e w1 ⟨rfl, hT1⟩
  have HT1 := Lib.hid hT1
  clear hT1
  go_wp2
  go_loopw [6, 7, 8] (fun v4 v5 v6 wr => DdRel ([110, 111, 116, 32] : Bs) ([] : Bs) n w1 v4 v5 v6 wr) (fun _ _ v6 _ => n - (intOf v6).toNat)
  case atStart => exact ⟨0, Nat.zero_le _, rfl, rfl, rfl, rfl⟩
  case round =>
    obtain ⟨i, hi, rfl, rfl, rfl, rfl⟩ := hrel
    by_cases hlt : i < n
    · have l1 := rp_len ([110, 111, 116, 32] : Bs) HS.out.1 i
      have l2 := rp_len ([] : Bs) HS.out.2 i
      obtain ⟨s1, hs1⟩ : ∃ s, bs (rp ([110, 111, 116, 32] : Bs) i) = s := ⟨_, rfl⟩
      obtain ⟨s2, hs2⟩ : ∃ s, bs (rp ([] : Bs) i) = s := ⟨_, rfl⟩
      obtain ⟨t1, ht1⟩ : ∃ s, bs (rp ([110, 111, 116, 32] : Bs) (i + 1)) = s := ⟨_, rfl⟩
      obtain ⟨t2, ht2⟩ : ∃ s, bs (rp ([] : Bs) (i + 1)) = s := ⟨_, rfl⟩
      have r1 := sum_run (rp ([110, 111, 116, 32] : Bs) i) ([110, 111, 116, 32] : Bs) (by have := HS.out.1; omega) hs1 rfl ht1
      have r2 := sum_run (rp ([] : Bs) i) ([] : Bs) (by have := HS.out.2; omega) hs2 rfl ht2
      have HX := Lib.hid (And.intro ht1 ht2)
      have HY : Hid ((([110, 111, 116, 32] : Bs) = [] → s1 = t1) ∧ (([] : Bs) = [] → s2 = t2)) := Lib.hid ⟨fun e => by rw [← hs1, ← ht1, rp, e, List.append_nil], fun e => by rw [← hs2, ← ht2, rp, e, List.append_nil]⟩
      rw [hs1, hs2]
      simp only [bs] at r1 r2
      clear hs1 hs2 ht1 ht2 l1 l2
      go_wp2
      go_roundw
      case rel =>
        refine ⟨i + 1, by omega, ?_, ?_, by go_num, rfl⟩
        · first
          | (rw [HX.out.1]; done)
          | (rw [HX.out.1, HY.out.1 rfl])
        · first
          | (rw [HX.out.2]; done)
          | (rw [HX.out.2, HY.out.2 rfl])
      case measure => simp [intOf]; omega
    · obtain rfl : i = n := by omega
      clear hlt
      have l1 := rp_len ([110, 111, 116, 32] : Bs) HS.out.1 i
      have l2 := rp_len ([] : Bs) HS.out.2 i
      obtain ⟨s1, hs1⟩ : ∃ s, bs (rp ([110, 111, 116, 32] : Bs) i) = s := ⟨_, rfl⟩
      obtain ⟨s2, hs2⟩ : ∃ s, bs (rp ([] : Bs) i) = s := ⟨_, rfl⟩
      obtain ⟨z1, hz1⟩ : ∃ s, bs ([116, 114, 101, 101, 32, 116, 32, 123, 32] ++ rp ([110, 111, 116, 32] : Bs) i) = s := ⟨_, rfl⟩
      obtain ⟨z2, hz2⟩ : ∃ s, bs ([116, 114, 101, 101, 32, 116, 32, 123, 32] ++ rp ([110, 111, 116, 32] : Bs) i ++ [111, 107, 59, 32]) = s := ⟨_, rfl⟩
      obtain ⟨z3, hz3⟩ : ∃ s, bs ([116, 114, 101, 101, 32, 116, 32, 123, 32] ++ rp ([110, 111, 116, 32] : Bs) i ++ [111, 107, 59, 32] ++ rp ([] : Bs) i) = s := ⟨_, rfl⟩
      obtain ⟨z4, hz4⟩ : ∃ s, bs ([116, 114, 101, 101, 32, 116, 32, 123, 32] ++ rp ([110, 111, 116, 32] : Bs) i ++ [111, 107, 59, 32] ++ rp ([] : Bs) i ++ [125]) = s := ⟨_, rfl⟩
      have hln : ([116, 114, 101, 101, 32, 116, 32, 123, 32] ++ rp ([110, 111, 116, 32] : Bs) i ++ [111, 107, 59, 32] ++ rp ([] : Bs) i ++ [125]).length ≤ 2000 := by simp only [List.length_append, List.length_cons, List.length_nil]; omega
      have r1 := sum_run [116, 114, 101, 101, 32, 116, 32, 123, 32] (rp ([110, 111, 116, 32] : Bs) i) (by simp only [List.length_cons, List.length_nil]; omega) (sx := ⟨#[116, 114, 101, 101, 32, 116, 32, 123, 32]⟩) rfl hs1 hz1
      have r2 := sum_run ([116, 114, 101, 101, 32, 116, 32, 123, 32] ++ rp ([110, 111, 116, 32] : Bs) i) [111, 107, 59, 32] (by simp only [List.length_append, List.length_cons, List.length_nil]; omega) (sy := ⟨#[111, 107, 59, 32]⟩) hz1 rfl hz2
      have r3 := sum_run ([116, 114, 101, 101, 32, 116, 32, 123, 32] ++ rp ([110, 111, 116, 32] : Bs) i ++ [111, 107, 59, 32]) (rp ([] : Bs) i) (by simp only [List.length_append, List.length_cons, List.length_nil]; omega) hz2 hs2 hz3
      have r4 := sum_run ([116, 114, 101, 101, 32, 116, 32, 123, 32] ++ rp ([110, 111, 116, 32] : Bs) i ++ [111, 107, 59, 32] ++ rp ([] : Bs) i) [125] (by simp only [List.length_append, List.length_cons, List.length_nil]; omega) (sy := ⟨#[125]⟩) hz3 rfl hz4
      have hzl : z4.size = ([116, 114, 101, 101, 32, 116, 32, 123, 32] ++ rp ([110, 111, 116, 32] : Bs) i ++ [111, 107, 59, 32] ++ rp ([] : Bs) i ++ [125]).length := by rw [← hz4, bs_size]
      obtain ⟨cap, W1, hcv, hc1, hc2, hT2, hB1⟩ := conv_any z4 (by omega) wr
      rw [show z4.data.toList = [116, 114, 101, 101, 32, 116, 32, 123, 32] ++ rp ([110, 111, 116, 32] : Bs) i ++ [111, 107, 59, 32] ++ rp ([] : Bs) i ++ [125] by rw [← hz4, bs_list]] at hB1
      have HPA := Lib.hid (HPL.out W1 cap _ z4.size hzl.symm (by omega) hc1 hc2 hB1 (HE.out.touch (HT1.out.same hT2)))
      have HT2 := Lib.hid (HT1.out.same hT2)
      rw [hs1, hs2]
      clear hs1 hs2 hz1 hz2 hz3 hz4 hzl hln hc1 hc2 hT2 hB1 l1 l2
      go_wp2_with fail
      refine HPA.out.mono ?_
      rintro e w3 ⟨hT4, ⟨h40, k, rfl⟩ | ⟨h40, x1, l1, d1, A9, c9, x3, l3, d3, k, rfl⟩⟩
      · have HT4 := Lib.hid ((HT2.out.same hT4).alloc (.cells #[.slice none 0 0, .slice none 0 0, .slice none 0 0] 28))
        clear hT4
        have h41 : decide ((39 : Int) < (i : Int)) = true := by simp; omega
        go_wp2_with (first | (go_at_call 10; refine (HN.out _ _).mono ?_; rintro e w' ⟨rfl, rfl⟩))
        go_ret
        exact ⟨rfl, HT4.out⟩
      · obtain ⟨W4, hW4⟩ : ∃ W, w3.alloc (.cells #[.slice x1 l1 d1, .slice A9 1 c9, .slice x3 l3 d3] 28) = W := ⟨_, rfl⟩
        have b4 : B3 W4 28 w3.heap.size (.slice x1 l1 d1) (.slice A9 1 c9) (.slice x3 l3 d3) := by rw [← hW4]; exact B3.new _ _ _ _ _ rfl
        obtain ⟨q0, q1, q2, ql⟩ := b4.cells
        have HT4 := Lib.hid (show Touch NoB w W4 by rw [← hW4]; exact (HT2.out.same hT4).alloc _)
        clear hT4 b4
        have h41 : decide ((39 : Int) < (i : Int)) = false := by simp; omega
        go_wp2_with (first | (go_at_call 10; refine (HN.out _ _).mono ?_; rintro e w' ⟨rfl, rfl⟩))
        go_ret
        exact ⟨rfl, HT4.out⟩
theorem tdeep_2 (n : Nat) (w : World) (hn : n ≤ 80) (hev : E2 w) : Calls Tryd.prog 4 #[.int .i64 (n : Int), .int .i64 2] w fun e w' => e = .returned (.bool true) ∧ Touch NoB w w' := by
  have HA := Lib.hid (alive_any w hev)
  have HE := Lib.hid hev
  have HN := Lib.hid (fun n w => num11_any n w)
  have hc : 2 < 4 := by decide
  have hT : dpX 2 n = [116, 114, 101, 101, 32, 116, 32, 123, 32] ++ rp [114, 101, 112, 101, 97, 116, 32, 50, 32] n ++ [111, 107, 59, 32] ++ rp [] n ++ [125] := by rw [rp_flat, rp_flat]; rfl
  have HPL := Lib.hid (fun (W : World) (cap : Nat) (A : Option Addr) (m : Nat) (hm : (dpX 2 n).length = m) (hmx : m ≤ 65536) (hc1 : m ≤ cap) (hc2 : cap ≤ 9223372036854775807) (hB : BAt W A (dpX 2 n)) (hE : E2 W) => (parse_e2 hm hmx hc1 hc2 hB hE).mono (fun x w' hx => dpost hc hn hx))
  rw [hT] at HPL
  have hps : ([114, 101, 112, 101, 97, 116, 32, 50, 32] : Bs).length ≤ 10 ∧ ([] : Bs).length ≤ 10 := by decide
  have HS := Lib.hid hps
  have hn0 : decide ((n : Int) < 0) = false := by simp
  have hn1 : decide ((80 : Int) < (n : Int)) = false := by simp; omega
  clear hev hT hps hc
  go_enter Tryd.func4, Tryd.ntmps4
  go_wp2_with fail
  refine HA.out.mono ?_
  rintro e w1 ⟨rfl, hT1⟩
  have HT1 := Lib.hid hT1
  clear hT1
  go_wp2
  go_loopw [6, 7, 8] (fun v4 v5 v6 wr => DdRel ([114, 101, 112, 101, 97, 116, 32, 50, 32] : Bs) ([] : Bs) n w1 v4 v5 v6 wr) (fun _ _ v6 _ => n - (intOf v6).toNat)
  case atStart => exact ⟨0, Nat.zero_le _, rfl, rfl, rfl, rfl⟩
  case round =>
    obtain ⟨i, hi, rfl, rfl, rfl, rfl⟩ := hrel
    by_cases hlt : i < n
    · have l1 := rp_len ([114, 101, 112, 101, 97, 116, 32, 50, 32] : Bs) HS.out.1 i
      have l2 := rp_len ([] : Bs) HS.out.2 i
      obtain ⟨s1, hs1⟩ : ∃ s, bs (rp ([114, 101, 112, 101, 97, 116, 32, 50, 32] : Bs) i) = s := ⟨_, rfl⟩
      obtain ⟨s2, hs2⟩ : ∃ s, bs (rp ([] : Bs) i) = s := ⟨_, rfl⟩
      obtain ⟨t1, ht1⟩ : ∃ s, bs (rp ([114, 101, 112, 101, 97, 116, 32, 50, 32] : Bs) (i + 1)) = s := ⟨_, rfl⟩
      obtain ⟨t2, ht2⟩ : ∃ s, bs (rp ([] : Bs) (i + 1)) = s := ⟨_, rfl⟩
      have r1 := sum_run (rp ([114, 101, 112, 101, 97, 116, 32, 50, 32] : Bs) i) ([114, 101, 112, 101, 97, 116, 32, 50, 32] : Bs) (by have := HS.out.1; omega) hs1 rfl ht1
      have r2 := sum_run (rp ([] : Bs) i) ([] : Bs) (by have := HS.out.2; omega) hs2 rfl ht2
      have HX := Lib.hid (And.intro ht1 ht2)
      have HY : Hid ((([114, 101, 112, 101, 97, 116, 32, 50, 32] : Bs) = [] → s1 = t1) ∧ (([] : Bs) = [] → s2 = t2)) := Lib.hid ⟨fun e => by rw [← hs1, ← ht1, rp, e, List.append_nil], fun e => by rw [← hs2, ← ht2, rp, e, List.append_nil]⟩
      rw [hs1, hs2]
      simp only [bs] at r1 r2
      clear hs1 hs2 ht1 ht2 l1 l2
      go_wp2
      go_roundw
      case rel =>
        refine ⟨i + 1, by omega, ?_, ?_, by go_num, rfl⟩
        · first
          | (rw [HX.out.1]; done)
          | (rw [HX.out.1, HY.out.1 rfl])
        · first
          | (rw [HX.out.2]; done)
          | (rw [HX.out.2, HY.out.2 rfl])
      case measure => simp [intOf]; omega
    · obtain rfl : i = n := by omega
      clear hlt
      have l1 := rp_len ([114, 101, 112, 101, 97, 116, 32, 50, 32] : Bs) HS.out.1 i
      have l2 := rp_len ([] : Bs) HS.out.2 i
      obtain ⟨s1, hs1⟩ : ∃ s, bs (rp ([114, 101, 112, 101, 97, 116, 32, 50, 32] : Bs) i) = s := ⟨_, rfl⟩
      obtain ⟨s2, hs2⟩ : ∃ s, bs (rp ([] : Bs) i) = s := ⟨_, rfl⟩
      obtain ⟨z1, hz1⟩ : ∃ s, bs ([116, 114, 101, 101, 32, 116, 32, 123, 32] ++ rp ([114, 101, 112, 101, 97, 116, 32, 50, 32] : Bs) i) = s := ⟨_, rfl⟩
      obtain ⟨z2, hz2⟩ : ∃ s, bs ([116, 114, 101, 101, 32, 116, 32, 123, 32] ++ rp ([114, 101, 112, 101, 97, 116, 32, 50, 32] : Bs) i ++ [111, 107, 59, 32]) = s := ⟨_, rfl⟩
      obtain ⟨z3, hz3⟩ : ∃ s, bs ([116, 114, 101, 101, 32, 116, 32, 123, 32] ++ rp ([114, 101, 112, 101, 97, 116, 32, 50, 32] : Bs) i ++ [111, 107, 59, 32] ++ rp ([] : Bs) i) = s := ⟨_, rfl⟩
      obtain ⟨z4, hz4⟩ : ∃ s, bs ([116, 114, 101, 101, 32, 116, 32, 123, 32] ++ rp ([114, 101, 112, 101, 97, 116, 32, 50, 32] : Bs) i ++ [111, 107, 59, 32] ++ rp ([] : Bs) i ++ [125]) = s := ⟨_, rfl⟩
      have hln : ([116, 114, 101, 101, 32, 116, 32, 123, 32] ++ rp ([114, 101, 112, 101, 97, 116, 32, 50, 32] : Bs) i ++ [111, 107, 59, 32] ++ rp ([] : Bs) i ++ [125]).length ≤ 2000 := by simp only [List.length_append, List.length_cons, List.length_nil]; omega
      have r1 := sum_run [116, 114, 101, 101, 32, 116, 32, 123, 32] (rp ([114, 101, 112, 101, 97, 116, 32, 50, 32] : Bs) i) (by simp only [List.length_cons, List.length_nil]; omega) (sx := ⟨#[116, 114, 101, 101, 32, 116, 32, 123, 32]⟩) rfl hs1 hz1
      have r2 := sum_run ([116, 114, 101, 101, 32, 116, 32, 123, 32] ++ rp ([114, 101, 112, 101, 97, 116, 32, 50, 32] : Bs) i) [111, 107, 59, 32] (by simp only [List.length_append, List.length_cons, List.length_nil]; omega) (sy := ⟨#[111, 107, 59, 32]⟩) hz1 rfl hz2
      have r3 := sum_run ([116, 114, 101, 101, 32, 116, 32, 123, 32] ++ rp ([114, 101, 112, 101, 97, 116, 32, 50, 32] : Bs) i ++ [111, 107, 59, 32]) (rp ([] : Bs) i) (by simp only [List.length_append, List.length_cons, List.length_nil]; omega) hz2 hs2 hz3
      have r4 := sum_run ([116, 114, 101, 101, 32, 116, 32, 123, 32] ++ rp ([114, 101, 112, 101, 97, 116, 32, 50, 32] : Bs) i ++ [111, 107, 59, 32] ++ rp ([] : Bs) i) [125] (by simp only [List.length_append, List.length_cons, List.length_nil]; omega) (sy := ⟨#[125]⟩) hz3 rfl hz4
      have hzl : z4.size = ([116, 114, 101, 101, 32, 116, 32, 123, 32] ++ rp ([114, 101, 112, 101, 97, 116, 32, 50, 32] : Bs) i ++ [111, 107, 59, 32] ++ rp ([] : Bs) i ++ [125]).length := by rw [← hz4, bs_size]
      obtain ⟨cap, W1, hcv, hc1, hc2, hT2, hB1⟩ := conv_any z4 (by omega) wr
      rw [show z4.data.toList = [116, 114, 101, 101, 32, 116, 32, 123, 32] ++ rp ([114, 101, 112, 101, 97, 116, 32, 50, 32] : Bs) i ++ [111, 107, 59, 32] ++ rp ([] : Bs) i ++ [125] by rw [← hz4, bs_list]] at hB1
      have HPA := Lib.hid (HPL.out W1 cap _ z4.size hzl.symm (by omega) hc1 hc2 hB1 (HE.out.touch (HT1.out.same hT2)))
      have HT2 := Lib.hid (HT1.out.same hT2)
      rw [hs1, hs2]
      clear hs1 hs2 hz1 hz2 hz3 hz4 hzl hln hc1 hc2 hT2 hB1 l1 l2
      go_wp2_with fail
      refine HPA.out.mono ?_
      rintro e w3 ⟨hT4, ⟨h40, k, rfl⟩ | ⟨h40, x1, l1, d1, A9, c9, x3, l3, d3, k, rfl⟩⟩
      · have HT4 := Lib.hid ((HT2.out.same hT4).alloc (.cells #[.slice none 0 0, .slice none 0 0, .slice none 0 0] 28))
        clear hT4
        have h41 : decide ((39 : Int) < (i : Int)) = true := by simp; omega
        go_wp2_with (first | (go_at_call 10; refine (HN.out _ _).mono ?_; rintro e w' ⟨rfl, rfl⟩))
        go_ret
        exact ⟨rfl, HT4.out⟩
      · obtain ⟨W4, hW4⟩ : ∃ W, w3.alloc (.cells #[.slice x1 l1 d1, .slice A9 1 c9, .slice x3 l3 d3] 28) = W := ⟨_, rfl⟩
        have b4 : B3 W4 28 w3.heap.size (.slice x1 l1 d1) (.slice A9 1 c9) (.slice x3 l3 d3) := by rw [← hW4]; exact B3.new _ _ _ _ _ rfl
        obtain ⟨q0, q1, q2, ql⟩ := b4.cells
        have HT4 := Lib.hid (show Touch NoB w W4 by rw [← hW4]; exact (HT2.out.same hT4).alloc _)
        clear hT4 b4
        have h41 : decide ((39 : Int) < (i : Int)) = false := by simp; omega
        go_wp2_with (first | (go_at_call 10; refine (HN.out _ _).mono ?_; rintro e w' ⟨rfl, rfl⟩))
        go_ret
        exact ⟨rfl, HT4.out⟩
theorem tdeep_3 (n : Nat) (w : World) (hn : n ≤ 80) (hev : E2 w) : Calls Tryd.prog 4 #[.int .i64 (n : Int), .int .i64 3] w fun e w' => e = .returned (.bool true) ∧ Touch NoB w w' := by
  have HA := Lib.hid (alive_any w hev)
  have HE := Lib.hid hev
  have HN := Lib.hid (fun n w => num11_any n w)
  have hc : 3 < 4 := by decide
  have hT : dpX 3 n = [116, 114, 101, 101, 32, 116, 32, 123, 32] ++ rp [112, 105, 99, 107, 32, 123, 32, 49, 58, 32] n ++ [111, 107, 59, 32] ++ rp [125, 32] n ++ [125] := by rw [rp_flat, rp_flat]; rfl
  have HPL := Lib.hid (fun (W : World) (cap : Nat) (A : Option Addr) (m : Nat) (hm : (dpX 3 n).length = m) (hmx : m ≤ 65536) (hc1 : m ≤ cap) (hc2 : cap ≤ 9223372036854775807) (hB : BAt W A (dpX 3 n)) (hE : E2 W) => (parse_e2 hm hmx hc1 hc2 hB hE).mono (fun x w' hx => dpost hc hn hx))
  rw [hT] at HPL
  have hps : ([112, 105, 99, 107, 32, 123, 32, 49, 58, 32] : Bs).length ≤ 10 ∧ ([125, 32] : Bs).length ≤ 10 := by decide
  have HS := Lib.hid hps
  have hn0 : decide ((n : Int) < 0) = false := by simp
  have hn1 : decide ((80 : Int) < (n : Int)) = false := by simp; omega
  clear hev hT hps hc
  go_enter Tryd.func4, Tryd.ntmps4
  go_wp2_with fail
  refine HA.out.mono ?_
  rintro e w1 ⟨rfl, hT1⟩
  have HT1 := Lib.hid hT1
  clear hT1
  go_wp2
  go_loopw [6, 7, 8] (fun v4 v5 v6 wr => DdRel ([112, 105, 99, 107, 32, 123, 32, 49, 58, 32] : Bs) ([125, 32] : Bs) n w1 v4 v5 v6 wr) (fun _ _ v6 _ => n - (intOf v6).toNat)
  case atStart => exact ⟨0, Nat.zero_le _, rfl, rfl, rfl, rfl⟩
  case round =>
    obtain ⟨i, hi, rfl, rfl, rfl, rfl⟩ := hrel
    by_cases hlt : i < n
    · have l1 := rp_len ([112, 105, 99, 107, 32, 123, 32, 49, 58, 32] : Bs) HS.out.1 i
      have l2 := rp_len ([125, 32] : Bs) HS.out.2 i
      obtain ⟨s1, hs1⟩ : ∃ s, bs (rp ([112, 105, 99, 107, 32, 123, 32, 49, 58, 32] : Bs) i) = s := ⟨_, rfl⟩
      obtain ⟨s2, hs2⟩ : ∃ s, bs (rp ([125, 32] : Bs) i) = s := ⟨_, rfl⟩
      obtain ⟨t1, ht1⟩ : ∃ s, bs (rp ([112, 105, 99, 107, 32, 123, 32, 49, 58, 32] : Bs) (i + 1)) = s := ⟨_, rfl⟩
      obtain ⟨t2, ht2⟩ : ∃ s, bs (rp ([125, 32] : Bs) (i + 1)) = s := ⟨_, rfl⟩
      have r1 := sum_run (rp ([112, 105, 99, 107, 32, 123, 32, 49, 58, 32] : Bs) i) ([112, 105, 99, 107, 32, 123, 32, 49, 58, 32] : Bs) (by have := HS.out.1; omega) hs1 rfl ht1
      have r2 := sum_run (rp ([125, 32] : Bs) i) ([125, 32] : Bs) (by have := HS.out.2; omega) hs2 rfl ht2
      have HX := Lib.hid (And.intro ht1 ht2)
      have HY : Hid ((([112, 105, 99, 107, 32, 123, 32, 49, 58, 32] : Bs) = [] → s1 = t1) ∧ (([125, 32] : Bs) = [] → s2 = t2)) := Lib.hid ⟨fun e => by rw [← hs1, ← ht1, rp, e, List.append_nil], fun e => by rw [← hs2, ← ht2, rp, e, List.append_nil]⟩
      rw [hs1, hs2]
      simp only [bs] at r1 r2
      clear hs1 hs2 ht1 ht2 l1 l2
      go_wp2
      go_roundw
      case rel =>
        refine ⟨i + 1, by omega, ?_, ?_, by go_num, rfl⟩
        · first
          | (rw [HX.out.1]; done)
          | (rw [HX.out.1, HY.out.1 rfl])
        · first
          | (rw [HX.out.2]; done)
          | (rw [HX.out.2, HY.out.2 rfl])
      case measure => simp [intOf]; omega
    · obtain rfl : i = n := by omega
      clear hlt
      have l1 := rp_len ([112, 105, 99, 107, 32, 123, 32, 49, 58, 32] : Bs) HS.out.1 i
      have l2 := rp_len ([125, 32] : Bs) HS.out.2 i
      obtain ⟨s1, hs1⟩ : ∃ s, bs (rp ([112, 105, 99, 107, 32, 123, 32, 49, 58, 32] : Bs) i) = s := ⟨_, rfl⟩
      obtain ⟨s2, hs2⟩ : ∃ s, bs (rp ([125, 32] : Bs) i) = s := ⟨_, rfl⟩
      obtain ⟨z1, hz1⟩ : ∃ s, bs ([116, 114, 101, 101, 32, 116, 32, 123, 32] ++ rp ([112, 105, 99, 107, 32, 123, 32, 49, 58, 32] : Bs) i) = s := ⟨_, rfl⟩
      obtain ⟨z2, hz2⟩ : ∃ s, bs ([116, 114, 101, 101, 32, 116, 32, 123, 32] ++ rp ([112, 105, 99, 107, 32, 123, 32, 49, 58, 32] : Bs) i ++ [111, 107, 59, 32]) = s := ⟨_, rfl⟩
      obtain ⟨z3, hz3⟩ : ∃ s, bs ([116, 114, 101, 101, 32, 116, 32, 123, 32] ++ rp ([112, 105, 99, 107, 32, 123, 32, 49, 58, 32] : Bs) i ++ [111, 107, 59, 32] ++ rp ([125, 32] : Bs) i) = s := ⟨_, rfl⟩
      obtain ⟨z4, hz4⟩ : ∃ s, bs ([116, 114, 101, 101, 32, 116, 32, 123, 32] ++ rp ([112, 105, 99, 107, 32, 123, 32, 49, 58, 32] : Bs) i ++ [111, 107, 59, 32] ++ rp ([125, 32] : Bs) i ++ [125]) = s := ⟨_, rfl⟩
      have hln : ([116, 114, 101, 101, 32, 116, 32, 123, 32] ++ rp ([112, 105, 99, 107, 32, 123, 32, 49, 58, 32] : Bs) i ++ [111, 107, 59, 32] ++ rp ([125, 32] : Bs) i ++ [125]).length ≤ 2000 := by simp only [List.length_append, List.length_cons, List.length_nil]; omega
      have r1 := sum_run [116, 114, 101, 101, 32, 116, 32, 123, 32] (rp ([112, 105, 99, 107, 32, 123, 32, 49, 58, 32] : Bs) i) (by simp only [List.length_cons, List.length_nil]; omega) (sx := ⟨#[116, 114, 101, 101, 32, 116, 32, 123, 32]⟩) rfl hs1 hz1
      have r2 := sum_run ([116, 114, 101, 101, 32, 116, 32, 123, 32] ++ rp ([112, 105, 99, 107, 32, 123, 32, 49, 58, 32] : Bs) i) [111, 107, 59, 32] (by simp only [List.length_append, List.length_cons, List.length_nil]; omega) (sy := ⟨#[111, 107, 59, 32]⟩) hz1 rfl hz2
      have r3 := sum_run ([116, 114, 101, 101, 32, 116, 32, 123, 32] ++ rp ([112, 105, 99, 107, 32, 123, 32, 49, 58, 32] : Bs) i ++ [111, 107, 59, 32]) (rp ([125, 32] : Bs) i) (by simp only [List.length_append, List.length_cons, List.length_nil]; omega) hz2 hs2 hz3
      have r4 := sum_run ([116, 114, 101, 101, 32, 116, 32, 123, 32] ++ rp ([112, 105, 99, 107, 32, 123, 32, 49, 58, 32] : Bs) i ++ [111, 107, 59, 32] ++ rp ([125, 32] : Bs) i) [125] (by simp only [List.length_append, List.length_cons, List.length_nil]; omega) (sy := ⟨#[125]⟩) hz3 rfl hz4
      have hzl : z4.size = ([116, 114, 101, 101, 32, 116, 32, 123, 32] ++ rp ([112, 105, 99, 107, 32, 123, 32, 49, 58, 32] : Bs) i ++ [111, 107, 59, 32] ++ rp ([125, 32] : Bs) i ++ [125]).length := by rw [← hz4, bs_size]
      obtain ⟨cap, W1, hcv, hc1, hc2, hT2, hB1⟩ := conv_any z4 (by omega) wr
      rw [show z4.data.toList = [116, 114, 101, 101, 32, 116, 32, 123, 32] ++ rp ([112, 105, 99, 107, 32, 123, 32, 49, 58, 32] : Bs) i ++ [111, 107, 59, 32] ++ rp ([125, 32] : Bs) i ++ [125] by rw [← hz4, bs_list]] at hB1
      have HPA := Lib.hid (HPL.out W1 cap _ z4.size hzl.symm (by omega) hc1 hc2 hB1 (HE.out.touch (HT1.out.same hT2)))
      have HT2 := Lib.hid (HT1.out.same hT2)
      rw [hs1, hs2]
      clear hs1 hs2 hz1 hz2 hz3 hz4 hzl hln hc1 hc2 hT2 hB1 l1 l2
      go_wp2_with fail
      refine HPA.out.mono ?_
      rintro e w3 ⟨hT4, ⟨h40, k, rfl⟩ | ⟨h40, x1, l1, d1, A9, c9, x3, l3, d3, k, rfl⟩⟩
      · have HT4 := Lib.hid ((HT2.out.same hT4).alloc (.cells #[.slice none 0 0, .slice none 0 0, .slice none 0 0] 28))
        clear hT4
        have h41 : decide ((39 : Int) < (i : Int)) = true := by simp; omega
        go_wp2_with (first | (go_at_call 10; refine (HN.out _ _).mono ?_; rintro e w' ⟨rfl, rfl⟩))
        go_ret
        exact ⟨rfl, HT4.out⟩
      · obtain ⟨W4, hW4⟩ : ∃ W, w3.alloc (.cells #[.slice x1 l1 d1, .slice A9 1 c9, .slice x3 l3 d3] 28) = W := ⟨_, rfl⟩
        have b4 : B3 W4 28 w3.heap.size (.slice x1 l1 d1) (.slice A9 1 c9) (.slice x3 l3 d3) := by rw [← hW4]; exact B3.new _ _ _ _ _ rfl
        obtain ⟨q0, q1, q2, ql⟩ := b4.cells
        have HT4 := Lib.hid (show Touch NoB w W4 by rw [← hW4]; exact (HT2.out.same hT4).alloc _)
        clear hT4 b4
        have h41 : decide ((39 : Int) < (i : Int)) = false := by simp; omega
        go_wp2_with (first | (go_at_call 10; refine (HN.out _ _).mono ?_; rintro e w' ⟨rfl, rfl⟩))
        go_ret
        exact ⟨rfl, HT4.out⟩
theorem tdeep_any (n c : Int) (w : World) (hev : E2 w) : Calls Tryd.prog 4 #[.int .i64 n, .int .i64 c] w fun e w' => e = .returned (.bool true) ∧ Touch NoB w w' := by
  by_cases h : n < 0 ∨ 80 < n ∨ c < 0 ∨ 3 < c
  · exact tdeep_out n c w h hev
  · obtain ⟨i, rfl⟩ : ∃ i : Nat, n = (i : Int) := ⟨n.toNat, by omega⟩
    obtain ⟨j, rfl⟩ : ∃ j : Nat, c = (j : Int) := ⟨c.toNat, by omega⟩
    have h4 : j = 0 ∨ j = 1 ∨ j = 2 ∨ j = 3 := by omega
    rcases h4 with rfl | rfl | rfl | rfl
    · exact tdeep_0 i w (by omega) hev
    · exact tdeep_1 i w (by omega) hev
    · exact tdeep_2 i w (by omega) hev
    · exact tdeep_3 i w (by omega) hev
end Go.Proofs.YtanecdpcenkoeaaDoor
