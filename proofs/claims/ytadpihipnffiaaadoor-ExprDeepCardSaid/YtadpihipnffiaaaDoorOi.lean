/-
  ExprDeep: how deep expressions may stand in one another. Conditions: the listed variables read as they are laid.
-/
import Derived.Test.YtadpihipnffiaaaDoorOj
import Derived.Test.YtadpihipnffiaaaDoorOc
namespace Go.Proofs.YtadpihipnffiaaaDoor
open Go.ChangeShapes Go.WideShapes Go.ChangeAt Go.RowKit
set_option maxRecDepth 100000
set_option maxHeartbeats 8000000

theorem bs_sum (x y : Bs) : bs x ++ bs y = bs (x ++ y) := by
  apply ByteArray.ext
  simp [bs, ByteArray.data_append]
theorem sum_run (x y : Bs) (h : x.length + y.length ≤ 5000) {sx sy sz : ByteArray} (hx : bs x = sx) (hy : bs y = sy) (hz : bs (x ++ y) = sz) (W : World) : (Op.stringOp .add sx sy).run Tryd.prog W = .ok (.string sz) W := by
  subst hx hy hz
  have h1 : (bs x).size = x.length := bs_size x
  have h2 : (bs y).size = y.length := bs_size y
  exact (run_string_add_sum (P := Tryd.prog) (w := W) _ _ (by omega)).trans (by rw [bs_sum])
theorem deep_out (n c : Int) (w : World) (h : n < 0 ∨ 120 < n ∨ c < 0 ∨ 3 < c) (hev : EN w) : Calls Tryd.prog 4 #[.int .i64 n, .int .i64 c] w fun e w' => e = .returned (.bool true) ∧ Touch NoB w w' := by
  have HA := Lib.hid (alive_any w hev)
  clear hev
  have h' : n < 0 ∨ (¬ n < 0 ∧ 120 < n) ∨ (¬ n < 0 ∧ ¬ 120 < n ∧ c < 0) ∨ (¬ n < 0 ∧ ¬ 120 < n ∧ ¬ c < 0 ∧ 3 < c) := by omega
  rcases h' with h1 | ⟨h1, h2⟩ | ⟨h1, h2, h3⟩ | ⟨h1, h2, h3, h4⟩
  all_goals
    clear h
    go_enter Tryd.func4, Tryd.ntmps4
    go_wp2_with fail
    refine HA.out.mono ?_
    rintro e w1 ⟨rfl, hT1⟩
    have HT := Lib.hid hT1
    clear hT1
    go_wp2
    go_ret
    exact ⟨rfl, HT.out⟩
/-- What Parse returns of such a text. -/
theorem deep_parse {w : World} {c n g m cp : Nat} {ts : List Tk} (hc : c < 4) (hn : n ≤ 120) (hl : lexL (dpT c n) = .good ts) (ht : TL w g ts) (hm : ts.length = m) (hpos : 0 < m) (hmx : m ≤ 100000) (hev : EN w) :
    Calls Tryd.prog 14 #[.slice (some ⟨g, 0, none⟩) m cp, .int .i64 0] w fun x w' => ∃ (a b : Int) (s : ByteArray) (A : Option Addr) (m' c' k : Nat), x = .returned (.tuple #[.agg #[.int .i64 a, .int .i64 b, .string s, .slice A m' c'], .int .i64 (k : Int), .int .i64 (wantD n : Nat)]) ∧ Touch NoB w w' := by
  obtain ⟨⟨B, hB⟩, -⟩ := hev
  have hok := lex_oks hl
  refine (parse_any (cp := cp) ht hm hpos hmx hB hok.1 hok.2).mono ?_
  intro x w' hP
  have hd := dp_at hc hn
  unfold dpF at hd
  rw [hl] at hd
  simp only at hd
  unfold ParPost at hP
  cases hr : parL ts 0 with
  | ok y k =>
    rw [hr] at hP hd
    simp only [decide_eq_true_eq] at hd
    obtain ⟨hT, a, b, s, A, m', c', rfl, -⟩ := hP
    exact ⟨a, b, s, A, m', c', k, by rw [hd]; rfl, hT⟩
  | er e k =>
    rw [hr] at hP hd
    simp only [decide_eq_true_eq] at hd
    obtain ⟨hT, rfl⟩ := hP
    exact ⟨0, 0, _, none, 0, 0, k, by rw [hd], hT⟩
theorem dp_good {c n : Nat} (hc : c < 4) (hn : n ≤ 120) : ∃ ts, lexL (dpT c n) = .good ts := by
  have hd := dp_at hc hn
  unfold dpF at hd
  cases hl : lexL (dpT c n) with
  | bad p => rw [hl] at hd; cases hd
  | good ts => exact ⟨ts, rfl⟩
def DeRel (hp tp : Bs) (n : Nat) (w : World) (v6 v7 v8 : Value) (wr : World) : Prop := ∃ i : Nat, i ≤ n ∧ v6 = .string (bs (rep hp i)) ∧ v7 = .string (bs (rep tp i)) ∧ v8 = .int .i64 i ∧ wr = w
theorem deep_0 (n : Nat) (w : World) (hn : n ≤ 120) (hev : EN w) : Calls Tryd.prog 4 #[.int .i64 (n : Int), .int .i64 0] w fun e w' => e = .returned (.bool true) ∧ Touch NoB w w' := by
  have HA := Lib.hid (alive_any w hev)
  have HE := Lib.hid hev
  have HN := Lib.hid (fun n w => num_any n w)
  have hc : 0 < 4 := by decide
  obtain ⟨ts, hl⟩ := dp_good hc hn
  have hT : dpT 0 n = rep ([40] : Bs) n ++ [97] ++ rep ([41] : Bs) n := rfl
  have HPL := Lib.hid (fun W (g m cp : Nat) (ht : TL W g ts) (hm : ts.length = m) (hpos : 0 < m) (hmx : m ≤ 100000) (hW : EN W) => deep_parse (cp := cp) hc hn hl ht hm hpos hmx hW)
  rw [hT] at hl
  have hps : (([40] : Bs) : Bs).length ≤ 5 ∧ (([41] : Bs) : Bs).length ≤ 5 := by decide
  have HS := Lib.hid (And.intro hl hps)
  have hn0 : decide ((n : Int) < 0) = false := by simp
  have hn1 : decide ((120 : Int) < (n : Int)) = false := by simp; omega
  clear hev hl hT hps hc
  go_enter Tryd.func4, Tryd.ntmps4
  go_wp2_with fail
  refine HA.out.mono ?_
  rintro e w1 ⟨rfl, hT1⟩
  have HT1 := Lib.hid hT1
  clear hT1
  go_wp2
  go_loopw [6, 7, 8] (fun v6 v7 v8 wr => DeRel ([40] : Bs) ([41] : Bs) n w1 v6 v7 v8 wr) (fun _ _ v8 _ => n - (intOf v8).toNat)
  case atStart => exact ⟨0, Nat.zero_le _, rfl, rfl, rfl, rfl⟩
  case round =>
    obtain ⟨i, hi, rfl, rfl, rfl, rfl⟩ := hrel
    by_cases hlt : i < n
    · have l1 := rep_len ([40] : Bs) HS.out.2.1 i
      have l2 := rep_len ([41] : Bs) HS.out.2.2 i
      obtain ⟨s1, hs1⟩ : ∃ s, bs (rep ([40] : Bs) i) = s := ⟨_, rfl⟩
      obtain ⟨s2, hs2⟩ : ∃ s, bs (rep ([41] : Bs) i) = s := ⟨_, rfl⟩
      obtain ⟨t1, ht1⟩ : ∃ s, bs (rep ([40] : Bs) (i + 1)) = s := ⟨_, rfl⟩
      obtain ⟨t2, ht2⟩ : ∃ s, bs (rep ([41] : Bs) (i + 1)) = s := ⟨_, rfl⟩
      have r1 := sum_run (rep ([40] : Bs) i) ([40] : Bs) (by have := HS.out.2.1; omega) hs1 rfl ht1
      have r2 := sum_run (rep ([41] : Bs) i) ([41] : Bs) (by have := HS.out.2.2; omega) hs2 rfl ht2
      have HX := Lib.hid (And.intro ht1 ht2)
      have HY : Hid ((([40] : Bs) = [] → s1 = t1) ∧ (([41] : Bs) = [] → s2 = t2)) := Lib.hid ⟨fun e => by rw [← hs1, ← ht1, rep, e, List.append_nil], fun e => by rw [← hs2, ← ht2, rep, e, List.append_nil]⟩
      rw [hs1, hs2]
      simp only [bs] at r1 r2
      clear hs1 hs2 ht1 ht2 l1 l2
      go_wp2
      go_roundw
      case rel =>
        refine ⟨i + 1, by omega, ?_, ?_, by go_num, rfl⟩
        · first
          | (rw [HX.out.1]; done)
          | (rw [HX.out.1, HY.out.1 rfl])
        · first
          | (rw [HX.out.2]; done)
          | (rw [HX.out.2, HY.out.2 rfl])
      case measure => simp [intOf]; omega
    · obtain rfl : i = n := by omega
      clear hlt
      have l1 := rep_len ([40] : Bs) HS.out.2.1 i
      have l2 := rep_len ([41] : Bs) HS.out.2.2 i
      obtain ⟨s1, hs1⟩ : ∃ s, bs (rep ([40] : Bs) i) = s := ⟨_, rfl⟩
      obtain ⟨s2, hs2⟩ : ∃ s, bs (rep ([41] : Bs) i) = s := ⟨_, rfl⟩
      obtain ⟨z1, hz1⟩ : ∃ s, bs (rep ([40] : Bs) i ++ [97]) = s := ⟨_, rfl⟩
      obtain ⟨z2, hz2⟩ : ∃ s, bs (rep ([40] : Bs) i ++ [97] ++ rep ([41] : Bs) i) = s := ⟨_, rfl⟩
      have r1 := sum_run (rep ([40] : Bs) i) [97] (by simp only [List.length_cons, List.length_nil]; omega) (sy := ⟨#[97]⟩) hs1 rfl hz1
      have r2 := sum_run (rep ([40] : Bs) i ++ [97]) (rep ([41] : Bs) i) (by simp only [List.length_append, List.length_cons, List.length_nil]; omega) hz1 hs2 hz2
      have hzl : z2.size = (rep ([40] : Bs) i ++ [97] ++ rep ([41] : Bs) i).length := by rw [← hz2, bs_size]
      have hln : (rep ([40] : Bs) i ++ [97] ++ rep ([41] : Bs) i).length ≤ 2000 := by simp only [List.length_append, List.length_cons, List.length_nil]; omega
      obtain ⟨cap, W1, hcv, hc1, hc2, hT2, hB1⟩ := conv_any z2 (by omega) wr
      rw [hzl] at hcv hc1
      rw [show z2.data.toList = rep ([40] : Bs) i ++ [97] ++ rep ([41] : Bs) i by rw [← hz2, bs_list]] at hB1
      obtain ⟨m, hm⟩ : ∃ m, ts.length = m := ⟨_, rfl⟩
      have hmx : m ≤ 2001 := by have := pl_count _ 0 ts (lex_places HS.out.1); omega
      have hpos : 0 < m := by
        have hpl := lex_places HS.out.1
        rw [← hm]
        cases ts with
        | nil => exact hpl.elim
        | cons t r => simp
      have HTK := Lib.hid (rtoks_good (w := W1) (m := m) HS.out.1 hm rfl (by omega) hc1 hB1)
      obtain ⟨ln, hlen⟩ : ∃ ln, (rep ([40] : Bs) i ++ [97] ++ rep ([41] : Bs) i).length = ln := ⟨_, rfl⟩
      rw [hlen] at hcv HTK
      rw [hs1, hs2]
      have HM := Lib.hid (And.intro hm (And.intro hmx hpos))
      have HT2 := Lib.hid (HT1.out.same hT2)
      clear hs1 hs2 hz1 hz2 hzl hln hc1 hc2 hT2 hB1 hm hmx hpos hlen l1 l2
      go_wp2_with fail
      refine HTK.out.mono ?_
      rintro e w2 ⟨g, cp, rfl, hTL, hT3⟩
      have HPA := Lib.hid (HPL.out w2 g m cp hTL HM.out.1 HM.out.2.2 (by have := HM.out.2.1; omega) (HE.out.touch (HT2.out.same hT3)))
      have HT3 := Lib.hid (HT2.out.same hT3)
      clear hTL hT3 hcv
      go_wp2_with fail
      refine HPA.out.mono ?_
      rintro e w3 ⟨a, b, s, A, m', c', k, rfl, hT4⟩
      have HT4 := Lib.hid ((HT3.out.same hT4).alloc (.cells #[.int .i64 a, .int .i64 b, .string s, .slice A m' c'] 29))
      clear hT4
      by_cases h40 : 39 < i
      · have hw : wantD i = 4 := by unfold wantD; rw [if_pos h40]
        have h41 : decide ((39 : Int) < (i : Int)) = true := by simp; omega
        rw [hw]
        go_wp2_with (first | (go_at_call 17; refine (HN.out _ _).mono ?_; rintro e w' ⟨rfl, rfl⟩))
        go_ret
        exact ⟨rfl, HT4.out⟩
      · have hw : wantD i = 0 := by unfold wantD; rw [if_neg h40]
        have h41 : decide ((39 : Int) < (i : Int)) = false := by simp; omega
        rw [hw]
        go_wp2_with (first | (go_at_call 17; refine (HN.out _ _).mono ?_; rintro e w' ⟨rfl, rfl⟩))
        go_ret
        exact ⟨rfl, HT4.out⟩
theorem deep_1 (n : Nat) (w : World) (hn : n ≤ 120) (hev : EN w) : Calls Tryd.prog 4 #[.int .i64 (n : Int), .int .i64 1] w fun e w' => e = .returned (.bool true) ∧ Touch NoB w w' := by
  have HA := Lib.hid (alive_any w hev)
  have HE := Lib.hid hev
  have HN := Lib.hid (fun n w => num_any n w)
  have hc : 1 < 4 := by decide
  obtain ⟨ts, hl⟩ := dp_good hc hn
  have hT : dpT 1 n = rep ([110, 111, 116, 32] : Bs) n ++ [97] ++ rep ([] : Bs) n := rfl
  have HPL := Lib.hid (fun W (g m cp : Nat) (ht : TL W g ts) (hm : ts.length = m) (hpos : 0 < m) (hmx : m ≤ 100000) (hW : EN W) => deep_parse (cp := cp) hc hn hl ht hm hpos hmx hW)
  rw [hT] at hl
  have hps : (([110, 111, 116, 32] : Bs) : Bs).length ≤ 5 ∧ (([] : Bs) : Bs).length ≤ 5 := by decide
  have HS := Lib.hid (And.intro hl hps)
  have hn0 : decide ((n : Int) < 0) = false := by simp
  have hn1 : decide ((120 : Int) < (n : Int)) = false := by simp; omega
  clear hev hl hT hps hc
  go_enter Tryd.func4, Tryd.ntmps4
  go_wp2_with fail
  refine HA.out.mono ?_
  rintro e w1 ⟨rfl, hT1⟩
  have HT1 := Lib.hid hT1
  clear hT1
  go_wp2
  go_loopw [6, 7, 8] (fun v6 v7 v8 wr => DeRel ([110, 111, 116, 32] : Bs) ([] : Bs) n w1 v6 v7 v8 wr) (fun _ _ v8 _ => n - (intOf v8).toNat)
  case atStart => exact ⟨0, Nat.zero_le _, rfl, rfl, rfl, rfl⟩
  case round =>
    obtain ⟨i, hi, rfl, rfl, rfl, rfl⟩ := hrel
    by_cases hlt : i < n
    · have l1 := rep_len ([110, 111, 116, 32] : Bs) HS.out.2.1 i
      have l2 := rep_len ([] : Bs) HS.out.2.2 i
      obtain ⟨s1, hs1⟩ : ∃ s, bs (rep ([110, 111, 116, 32] : Bs) i) = s := ⟨_, rfl⟩
      obtain ⟨s2, hs2⟩ : ∃ s, bs (rep ([] : Bs) i) = s := ⟨_, rfl⟩
      obtain ⟨t1, ht1⟩ : ∃ s, bs (rep ([110, 111, 116, 32] : Bs) (i + 1)) = s := ⟨_, rfl⟩
      obtain ⟨t2, ht2⟩ : ∃ s, bs (rep ([] : Bs) (i + 1)) = s := ⟨_, rfl⟩
      have r1 := sum_run (rep ([110, 111, 116, 32] : Bs) i) ([110, 111, 116, 32] : Bs) (by have := HS.out.2.1; omega) hs1 rfl ht1
      have r2 := sum_run (rep ([] : Bs) i) ([] : Bs) (by have := HS.out.2.2; omega) hs2 rfl ht2
      have HX := Lib.hid (And.intro ht1 ht2)
      have HY : Hid ((([110, 111, 116, 32] : Bs) = [] → s1 = t1) ∧ (([] : Bs) = [] → s2 = t2)) := Lib.hid ⟨fun e => by rw [← hs1, ← ht1, rep, e, List.append_nil], fun e => by rw [← hs2, ← ht2, rep, e, List.append_nil]⟩
      rw [hs1, hs2]
      simp only [bs] at r1 r2
      clear hs1 hs2 ht1 ht2 l1 l2
      go_wp2
      go_roundw
      case rel =>
        refine ⟨i + 1, by omega, ?_, ?_, by go_num, rfl⟩
        · first
          | (rw [HX.out.1]; done)
          | (rw [HX.out.1, HY.out.1 rfl])
        · first
          | (rw [HX.out.2]; done)
          | (rw [HX.out.2, HY.out.2 rfl])
      case measure => simp [intOf]; omega
    · obtain rfl : i = n := by omega
      clear hlt
      have l1 := rep_len ([110, 111, 116, 32] : Bs) HS.out.2.1 i
      have l2 := rep_len ([] : Bs) HS.out.2.2 i
      obtain ⟨s1, hs1⟩ : ∃ s, bs (rep ([110, 111, 116, 32] : Bs) i) = s := ⟨_, rfl⟩
      obtain ⟨s2, hs2⟩ : ∃ s, bs (rep ([] : Bs) i) = s := ⟨_, rfl⟩
      obtain ⟨z1, hz1⟩ : ∃ s, bs (rep ([110, 111, 116, 32] : Bs) i ++ [97]) = s := ⟨_, rfl⟩
      obtain ⟨z2, hz2⟩ : ∃ s, bs (rep ([110, 111, 116, 32] : Bs) i ++ [97] ++ rep ([] : Bs) i) = s := ⟨_, rfl⟩
      have r1 := sum_run (rep ([110, 111, 116, 32] : Bs) i) [97] (by simp only [List.length_cons, List.length_nil]; omega) (sy := ⟨#[97]⟩) hs1 rfl hz1
      have r2 := sum_run (rep ([110, 111, 116, 32] : Bs) i ++ [97]) (rep ([] : Bs) i) (by simp only [List.length_append, List.length_cons, List.length_nil]; omega) hz1 hs2 hz2
      have hzl : z2.size = (rep ([110, 111, 116, 32] : Bs) i ++ [97] ++ rep ([] : Bs) i).length := by rw [← hz2, bs_size]
      have hln : (rep ([110, 111, 116, 32] : Bs) i ++ [97] ++ rep ([] : Bs) i).length ≤ 2000 := by simp only [List.length_append, List.length_cons, List.length_nil]; omega
      obtain ⟨cap, W1, hcv, hc1, hc2, hT2, hB1⟩ := conv_any z2 (by omega) wr
      rw [hzl] at hcv hc1
      rw [show z2.data.toList = rep ([110, 111, 116, 32] : Bs) i ++ [97] ++ rep ([] : Bs) i by rw [← hz2, bs_list]] at hB1
      obtain ⟨m, hm⟩ : ∃ m, ts.length = m := ⟨_, rfl⟩
      have hmx : m ≤ 2001 := by have := pl_count _ 0 ts (lex_places HS.out.1); omega
      have hpos : 0 < m := by
        have hpl := lex_places HS.out.1
        rw [← hm]
        cases ts with
        | nil => exact hpl.elim
        | cons t r => simp
      have HTK := Lib.hid (rtoks_good (w := W1) (m := m) HS.out.1 hm rfl (by omega) hc1 hB1)
      obtain ⟨ln, hlen⟩ : ∃ ln, (rep ([110, 111, 116, 32] : Bs) i ++ [97] ++ rep ([] : Bs) i).length = ln := ⟨_, rfl⟩
      rw [hlen] at hcv HTK
      rw [hs1, hs2]
      have HM := Lib.hid (And.intro hm (And.intro hmx hpos))
      have HT2 := Lib.hid (HT1.out.same hT2)
      clear hs1 hs2 hz1 hz2 hzl hln hc1 hc2 hT2 hB1 hm hmx hpos hlen l1 l2
      go_wp2_with fail
      refine HTK.out.mono ?_
      rintro e w2 ⟨g, cp, rfl, hTL, hT3⟩
      have HPA := Lib.hid (HPL.out w2 g m cp hTL HM.out.1 HM.out.2.2 (by have := HM.out.2.1; omega) (HE.out.touch (HT2.out.same hT3)))
      have HT3 := Lib.hid (HT2.out.same hT3)
      clear hTL hT3 hcv
      go_wp2_with fail
      refine HPA.out.mono ?_
      rintro e w3 ⟨a, b, s, A, m', c', k, rfl, hT4⟩
      have HT4 := Lib.hid ((HT3.out.same hT4).alloc (.cells #[.int .i64 a, .int .i64 b, .string s, .slice A m' c'] 29))
      clear hT4
      by_cases h40 : 39 < i
      · have hw : wantD i = 4 := by unfold wantD; rw [if_pos h40]
        have h41 : decide ((39 : Int) < (i : Int)) = true := by simp; omega
        rw [hw]
        go_wp2_with (first | (go_at_call 17; refine (HN.out _ _).mono ?_; rintro e w' ⟨rfl, rfl⟩))
        go_ret
        exact ⟨rfl, HT4.out⟩
      · have hw : wantD i = 0 := by unfold wantD; rw [if_neg h40]
        have h41 : decide ((39 : Int) < (i : Int)) = false := by simp; omega
        rw [hw]
        go_wp2_with (first | (go_at_call 17; refine (HN.out _ _).mono ?_; rintro e w' ⟨rfl, rfl⟩))
        go_ret
        exact ⟨rfl, HT4.out⟩
theorem deep_2 (n : Nat) (w : World) (hn : n ≤ 120) (hev : EN w) : Calls Tryd.prog 4 #[.int .i64 (n : Int), .int .i64 2] w fun e w' => e = .returned (.bool true) ∧ Touch NoB w w' := by
  have HA := Lib.hid (alive_any w hev)
  have HE := Lib.hid hev
  have HN := Lib.hid (fun n w => num_any n w)
  have hc : 2 < 4 := by decide
  obtain ⟨ts, hl⟩ := dp_good hc hn
  have hT : dpT 2 n = rep ([] : Bs) n ++ [97] ++ rep ([32, 43, 32, 49] : Bs) n := rfl
  have HPL := Lib.hid (fun W (g m cp : Nat) (ht : TL W g ts) (hm : ts.length = m) (hpos : 0 < m) (hmx : m ≤ 100000) (hW : EN W) => deep_parse (cp := cp) hc hn hl ht hm hpos hmx hW)
  rw [hT] at hl
  have hps : (([] : Bs) : Bs).length ≤ 5 ∧ (([32, 43, 32, 49] : Bs) : Bs).length ≤ 5 := by decide
  have HS := Lib.hid (And.intro hl hps)
  have hn0 : decide ((n : Int) < 0) = false := by simp
  have hn1 : decide ((120 : Int) < (n : Int)) = false := by simp; omega
  clear hev hl hT hps hc
  go_enter Tryd.func4, Tryd.ntmps4
  go_wp2_with fail
  refine HA.out.mono ?_
  rintro e w1 ⟨rfl, hT1⟩
  have HT1 := Lib.hid hT1
  clear hT1
  go_wp2
  go_loopw [6, 7, 8] (fun v6 v7 v8 wr => DeRel ([] : Bs) ([32, 43, 32, 49] : Bs) n w1 v6 v7 v8 wr) (fun _ _ v8 _ => n - (intOf v8).toNat)
  case atStart => exact ⟨0, Nat.zero_le _, rfl, rfl, rfl, rfl⟩
  case round =>
    obtain ⟨i, hi, rfl, rfl, rfl, rfl⟩ := hrel
    by_cases hlt : i < n
    · have l1 := rep_len ([] : Bs) HS.out.2.1 i
      have l2 := rep_len ([32, 43, 32, 49] : Bs) HS.out.2.2 i
      obtain ⟨s1, hs1⟩ : ∃ s, bs (rep ([] : Bs) i) = s := ⟨_, rfl⟩
      obtain ⟨s2, hs2⟩ : ∃ s, bs (rep ([32, 43, 32, 49] : Bs) i) = s := ⟨_, rfl⟩
      obtain ⟨t1, ht1⟩ : ∃ s, bs (rep ([] : Bs) (i + 1)) = s := ⟨_, rfl⟩
      obtain ⟨t2, ht2⟩ : ∃ s, bs (rep ([32, 43, 32, 49] : Bs) (i + 1)) = s := ⟨_, rfl⟩
      have r1 := sum_run (rep ([] : Bs) i) ([] : Bs) (by have := HS.out.2.1; omega) hs1 rfl ht1
      have r2 := sum_run (rep ([32, 43, 32, 49] : Bs) i) ([32, 43, 32, 49] : Bs) (by have := HS.out.2.2; omega) hs2 rfl ht2
      have HX := Lib.hid (And.intro ht1 ht2)
      have HY : Hid ((([] : Bs) = [] → s1 = t1) ∧ (([32, 43, 32, 49] : Bs) = [] → s2 = t2)) := Lib.hid ⟨fun e => by rw [← hs1, ← ht1, rep, e, List.append_nil], fun e => by rw [← hs2, ← ht2, rep, e, List.append_nil]⟩
      rw [hs1, hs2]
      simp only [bs] at r1 r2
      clear hs1 hs2 ht1 ht2 l1 l2
      go_wp2
      go_roundw
      case rel =>
        refine ⟨i + 1, by omega, ?_, ?_, by go_num, rfl⟩
        · first
          | (rw [HX.out.1]; done)
          | (rw [HX.out.1, HY.out.1 rfl])
        · first
          | (rw [HX.out.2]; done)
          | (rw [HX.out.2, HY.out.2 rfl])
      case measure => simp [intOf]; omega
    · obtain rfl : i = n := by omega
      clear hlt
      have l1 := rep_len ([] : Bs) HS.out.2.1 i
      have l2 := rep_len ([32, 43, 32, 49] : Bs) HS.out.2.2 i
      obtain ⟨s1, hs1⟩ : ∃ s, bs (rep ([] : Bs) i) = s := ⟨_, rfl⟩
      obtain ⟨s2, hs2⟩ : ∃ s, bs (rep ([32, 43, 32, 49] : Bs) i) = s := ⟨_, rfl⟩
      obtain ⟨z1, hz1⟩ : ∃ s, bs (rep ([] : Bs) i ++ [97]) = s := ⟨_, rfl⟩
      obtain ⟨z2, hz2⟩ : ∃ s, bs (rep ([] : Bs) i ++ [97] ++ rep ([32, 43, 32, 49] : Bs) i) = s := ⟨_, rfl⟩
      have r1 := sum_run (rep ([] : Bs) i) [97] (by simp only [List.length_cons, List.length_nil]; omega) (sy := ⟨#[97]⟩) hs1 rfl hz1
      have r2 := sum_run (rep ([] : Bs) i ++ [97]) (rep ([32, 43, 32, 49] : Bs) i) (by simp only [List.length_append, List.length_cons, List.length_nil]; omega) hz1 hs2 hz2
      have hzl : z2.size = (rep ([] : Bs) i ++ [97] ++ rep ([32, 43, 32, 49] : Bs) i).length := by rw [← hz2, bs_size]
      have hln : (rep ([] : Bs) i ++ [97] ++ rep ([32, 43, 32, 49] : Bs) i).length ≤ 2000 := by simp only [List.length_append, List.length_cons, List.length_nil]; omega
      obtain ⟨cap, W1, hcv, hc1, hc2, hT2, hB1⟩ := conv_any z2 (by omega) wr
      rw [hzl] at hcv hc1
      rw [show z2.data.toList = rep ([] : Bs) i ++ [97] ++ rep ([32, 43, 32, 49] : Bs) i by rw [← hz2, bs_list]] at hB1
      obtain ⟨m, hm⟩ : ∃ m, ts.length = m := ⟨_, rfl⟩
      have hmx : m ≤ 2001 := by have := pl_count _ 0 ts (lex_places HS.out.1); omega
      have hpos : 0 < m := by
        have hpl := lex_places HS.out.1
        rw [← hm]
        cases ts with
        | nil => exact hpl.elim
        | cons t r => simp
      have HTK := Lib.hid (rtoks_good (w := W1) (m := m) HS.out.1 hm rfl (by omega) hc1 hB1)
      obtain ⟨ln, hlen⟩ : ∃ ln, (rep ([] : Bs) i ++ [97] ++ rep ([32, 43, 32, 49] : Bs) i).length = ln := ⟨_, rfl⟩
      rw [hlen] at hcv HTK
      rw [hs1, hs2]
      have HM := Lib.hid (And.intro hm (And.intro hmx hpos))
      have HT2 := Lib.hid (HT1.out.same hT2)
      clear hs1 hs2 hz1 hz2 hzl hln hc1 hc2 hT2 hB1 hm hmx hpos hlen l1 l2
      go_wp2_with fail
      refine HTK.out.mono ?_
      rintro e w2 ⟨g, cp, rfl, hTL, hT3⟩
      have HPA := Lib.hid (HPL.out w2 g m cp hTL HM.out.1 HM.out.2.2 (by have := HM.out.2.1; omega) (HE.out.touch (HT2.out.same hT3)))
      have HT3 := Lib.hid (HT2.out.same hT3)
      clear hTL hT3 hcv
      go_wp2_with fail
      refine HPA.out.mono ?_
      rintro e w3 ⟨a, b, s, A, m', c', k, rfl, hT4⟩
      have HT4 := Lib.hid ((HT3.out.same hT4).alloc (.cells #[.int .i64 a, .int .i64 b, .string s, .slice A m' c'] 29))
      clear hT4
      by_cases h40 : 39 < i
      · have hw : wantD i = 4 := by unfold wantD; rw [if_pos h40]
        have h41 : decide ((39 : Int) < (i : Int)) = true := by simp; omega
        rw [hw]
        go_wp2_with (first | (go_at_call 17; refine (HN.out _ _).mono ?_; rintro e w' ⟨rfl, rfl⟩))
        go_ret
        exact ⟨rfl, HT4.out⟩
      · have hw : wantD i = 0 := by unfold wantD; rw [if_neg h40]
        have h41 : decide ((39 : Int) < (i : Int)) = false := by simp; omega
        rw [hw]
        go_wp2_with (first | (go_at_call 17; refine (HN.out _ _).mono ?_; rintro e w' ⟨rfl, rfl⟩))
        go_ret
        exact ⟨rfl, HT4.out⟩
theorem deep_3 (n : Nat) (w : World) (hn : n ≤ 120) (hev : EN w) : Calls Tryd.prog 4 #[.int .i64 (n : Int), .int .i64 3] w fun e w' => e = .returned (.bool true) ∧ Touch NoB w w' := by
  have HA := Lib.hid (alive_any w hev)
  have HE := Lib.hid hev
  have HN := Lib.hid (fun n w => num_any n w)
  have hc : 3 < 4 := by decide
  obtain ⟨ts, hl⟩ := dp_good hc hn
  have hT : dpT 3 n = rep ([40, 49, 32, 42, 32] : Bs) n ++ [97] ++ rep ([41] : Bs) n := rfl
  have HPL := Lib.hid (fun W (g m cp : Nat) (ht : TL W g ts) (hm : ts.length = m) (hpos : 0 < m) (hmx : m ≤ 100000) (hW : EN W) => deep_parse (cp := cp) hc hn hl ht hm hpos hmx hW)
  rw [hT] at hl
  have hps : (([40, 49, 32, 42, 32] : Bs) : Bs).length ≤ 5 ∧ (([41] : Bs) : Bs).length ≤ 5 := by decide
  have HS := Lib.hid (And.intro hl hps)
  have hn0 : decide ((n : Int) < 0) = false := by simp
  have hn1 : decide ((120 : Int) < (n : Int)) = false := by simp; omega
  clear hev hl hT hps hc
  go_enter Tryd.func4, Tryd.ntmps4
  go_wp2_with fail
  refine HA.out.mono ?_
  rintro e w1 ⟨rfl, hT1⟩
  have HT1 := Lib.hid hT1
  clear hT1
  go_wp2
  go_loopw [6, 7, 8] (fun v6 v7 v8 wr => DeRel ([40, 49, 32, 42, 32] : Bs) ([41] : Bs) n w1 v6 v7 v8 wr) (fun _ _ v8 _ => n - (intOf v8).toNat)
  case atStart => exact ⟨0, Nat.zero_le _, rfl, rfl, rfl, rfl⟩
  case round =>
    obtain ⟨i, hi, rfl, rfl, rfl, rfl⟩ := hrel
    by_cases hlt : i < n
    · have l1 := rep_len ([40, 49, 32, 42, 32] : Bs) HS.out.2.1 i
      have l2 := rep_len ([41] : Bs) HS.out.2.2 i
      obtain ⟨s1, hs1⟩ : ∃ s, bs (rep ([40, 49, 32, 42, 32] : Bs) i) = s := ⟨_, rfl⟩
      obtain ⟨s2, hs2⟩ : ∃ s, bs (rep ([41] : Bs) i) = s := ⟨_, rfl⟩
      obtain ⟨t1, ht1⟩ : ∃ s, bs (rep ([40, 49, 32, 42, 32] : Bs) (i + 1)) = s := ⟨_, rfl⟩
      obtain ⟨t2, ht2⟩ : ∃ s, bs (rep ([41] : Bs) (i + 1)) = s := ⟨_, rfl⟩
      have r1 := sum_run (rep ([40, 49, 32, 42, 32] : Bs) i) ([40, 49, 32, 42, 32] : Bs) (by have := HS.out.2.1; omega) hs1 rfl ht1
      have r2 := sum_run (rep ([41] : Bs) i) ([41] : Bs) (by have := HS.out.2.2; omega) hs2 rfl ht2
      have HX := Lib.hid (And.intro ht1 ht2)
      have HY : Hid ((([40, 49, 32, 42, 32] : Bs) = [] → s1 = t1) ∧ (([41] : Bs) = [] → s2 = t2)) := Lib.hid ⟨fun e => by rw [← hs1, ← ht1, rep, e, List.append_nil], fun e => by rw [← hs2, ← ht2, rep, e, List.append_nil]⟩
      rw [hs1, hs2]
      simp only [bs] at r1 r2
      clear hs1 hs2 ht1 ht2 l1 l2
      go_wp2
      go_roundw
      case rel =>
        refine ⟨i + 1, by omega, ?_, ?_, by go_num, rfl⟩
        · first
          | (rw [HX.out.1]; done)
          | (rw [HX.out.1, HY.out.1 rfl])
        · first
          | (rw [HX.out.2]; done)
          | (rw [HX.out.2, HY.out.2 rfl])
      case measure => simp [intOf]; omega
    · obtain rfl : i = n := by omega
      clear hlt
      have l1 := rep_len ([40, 49, 32, 42, 32] : Bs) HS.out.2.1 i
      have l2 := rep_len ([41] : Bs) HS.out.2.2 i
      obtain ⟨s1, hs1⟩ : ∃ s, bs (rep ([40, 49, 32, 42, 32] : Bs) i) = s := ⟨_, rfl⟩
      obtain ⟨s2, hs2⟩ : ∃ s, bs (rep ([41] : Bs) i) = s := ⟨_, rfl⟩
      obtain ⟨z1, hz1⟩ : ∃ s, bs (rep ([40, 49, 32, 42, 32] : Bs) i ++ [97]) = s := ⟨_, rfl⟩
      obtain ⟨z2, hz2⟩ : ∃ s, bs (rep ([40, 49, 32, 42, 32] : Bs) i ++ [97] ++ rep ([41] : Bs) i) = s := ⟨_, rfl⟩
      have r1 := sum_run (rep ([40, 49, 32, 42, 32] : Bs) i) [97] (by simp only [List.length_cons, List.length_nil]; omega) (sy := ⟨#[97]⟩) hs1 rfl hz1
      have r2 := sum_run (rep ([40, 49, 32, 42, 32] : Bs) i ++ [97]) (rep ([41] : Bs) i) (by simp only [List.length_append, List.length_cons, List.length_nil]; omega) hz1 hs2 hz2
      have hzl : z2.size = (rep ([40, 49, 32, 42, 32] : Bs) i ++ [97] ++ rep ([41] : Bs) i).length := by rw [← hz2, bs_size]
      have hln : (rep ([40, 49, 32, 42, 32] : Bs) i ++ [97] ++ rep ([41] : Bs) i).length ≤ 2000 := by simp only [List.length_append, List.length_cons, List.length_nil]; omega
      obtain ⟨cap, W1, hcv, hc1, hc2, hT2, hB1⟩ := conv_any z2 (by omega) wr
      rw [hzl] at hcv hc1
      rw [show z2.data.toList = rep ([40, 49, 32, 42, 32] : Bs) i ++ [97] ++ rep ([41] : Bs) i by rw [← hz2, bs_list]] at hB1
      obtain ⟨m, hm⟩ : ∃ m, ts.length = m := ⟨_, rfl⟩
      have hmx : m ≤ 2001 := by have := pl_count _ 0 ts (lex_places HS.out.1); omega
      have hpos : 0 < m := by
        have hpl := lex_places HS.out.1
        rw [← hm]
        cases ts with
        | nil => exact hpl.elim
        | cons t r => simp
      have HTK := Lib.hid (rtoks_good (w := W1) (m := m) HS.out.1 hm rfl (by omega) hc1 hB1)
      obtain ⟨ln, hlen⟩ : ∃ ln, (rep ([40, 49, 32, 42, 32] : Bs) i ++ [97] ++ rep ([41] : Bs) i).length = ln := ⟨_, rfl⟩
      rw [hlen] at hcv HTK
      rw [hs1, hs2]
      have HM := Lib.hid (And.intro hm (And.intro hmx hpos))
      have HT2 := Lib.hid (HT1.out.same hT2)
      clear hs1 hs2 hz1 hz2 hzl hln hc1 hc2 hT2 hB1 hm hmx hpos hlen l1 l2
      go_wp2_with fail
      refine HTK.out.mono ?_
      rintro e w2 ⟨g, cp, rfl, hTL, hT3⟩
      have HPA := Lib.hid (HPL.out w2 g m cp hTL HM.out.1 HM.out.2.2 (by have := HM.out.2.1; omega) (HE.out.touch (HT2.out.same hT3)))
      have HT3 := Lib.hid (HT2.out.same hT3)
      clear hTL hT3 hcv
      go_wp2_with fail
      refine HPA.out.mono ?_
      rintro e w3 ⟨a, b, s, A, m', c', k, rfl, hT4⟩
      have HT4 := Lib.hid ((HT3.out.same hT4).alloc (.cells #[.int .i64 a, .int .i64 b, .string s, .slice A m' c'] 29))
      clear hT4
      by_cases h40 : 39 < i
      · have hw : wantD i = 4 := by unfold wantD; rw [if_pos h40]
        have h41 : decide ((39 : Int) < (i : Int)) = true := by simp; omega
        rw [hw]
        go_wp2_with (first | (go_at_call 17; refine (HN.out _ _).mono ?_; rintro e w' ⟨rfl, rfl⟩))
        go_ret
        exact ⟨rfl, HT4.out⟩
      · have hw : wantD i = 0 := by unfold wantD; rw [if_neg h40]
        have h41 : decide ((39 : Int) < (i : Int)) = false := by simp; omega
        rw [hw]
        go_wp2_with (first | (go_at_call 17; refine (HN.out _ _).mono ?_; rintro e w' ⟨rfl, rfl⟩))
        go_ret
        exact ⟨rfl, HT4.out⟩
theorem deep_in (n c : Nat) (w : World) (hn : n ≤ 120) (hc : c < 4) (hev : EN w) : Calls Tryd.prog 4 #[.int .i64 (n : Int), .int .i64 (c : Int)] w fun e w' => e = .returned (.bool true) ∧ Touch NoB w w' := by
  have h4 : c = 0 ∨ c = 1 ∨ c = 2 ∨ c = 3 := by omega
  rcases h4 with rfl | rfl | rfl | rfl
  · exact deep_0 n w hn hev
  · exact deep_1 n w hn hev
  · exact deep_2 n w hn hev
  · exact deep_3 n w hn hev
theorem exprdeep_any (n c : Int) (w : World) (hev : EN w) : Calls Tryd.prog 4 #[.int .i64 n, .int .i64 c] w fun e w' => e = .returned (.bool true) ∧ Touch NoB w w' := by
  by_cases h : n < 0 ∨ 120 < n ∨ c < 0 ∨ 3 < c
  · exact deep_out n c w h hev
  · obtain ⟨i, rfl⟩ : ∃ i : Nat, n = (i : Int) := ⟨n.toNat, by omega⟩
    obtain ⟨j, rfl⟩ : ∃ j : Nat, c = (j : Int) := ⟨c.toNat, by omega⟩
    exact deep_in i j w (by omega) (by omega) hev
end Go.Proofs.YtadpihipnffiaaaDoor
