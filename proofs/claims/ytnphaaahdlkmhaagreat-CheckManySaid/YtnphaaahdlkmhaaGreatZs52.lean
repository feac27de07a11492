/-
  CheckMany: the number of nodes of a tree with the trees that it uses is limited. No condition.
-/
import Derived.Test.YtnphaaahdlkmhaaGreatZs51
namespace Go.Proofs.YtnphaaahdlkmhaaGreat
open Go.ChangeShapes Go.WideShapes Go.ChangeAt Go.RowKit Go.Maps
set_option maxRecDepth 100000
set_option maxHeartbeats 4000000

theorem cntT_le {n : Nat} (hn : 1 ≤ n) : ∀ (i m : Nat), i ≤ m → cntT n i ≤ cntT n m
  | i, m, h => by
    induction m with
    | zero => obtain rfl : i = 0 := by omega
              exact Nat.le_refl _
    | succ m ih =>
      by_cases e : i = m + 1
      · subst e; exact Nat.le_refl _
      · have h1 := ih (by omega)
        have h2 : cntT n m ≤ n * cntT n m := Nat.le_mul_of_pos_left _ (by omega)
        have h3 : cntT n (m + 1) = 1 + n * cntT n m := rfl
        omega
theorem cmany_out (n m : Int) (w : World) (h : n < 1 ∨ 16 < n ∨ m < 1 ∨ 6 < m) : Calls Tryz.prog 4 #[.int .i64 n, .int .i64 m] w fun e w' => e = .returned (.bool true) ∧ Touch NoB w w' := by
  have HA := Lib.hid (alive13_any w)
  have hc : decide (n < 1) = true ∨ (decide (n < 1) = false ∧ (decide (16 < n) = true ∨ (decide (16 < n) = false ∧ (decide (m < 1) = true ∨ (decide (m < 1) = false ∧ decide (6 < m) = true))))) := by
    by_cases h1 : n < 1
    · exact .inl (by simpa using h1)
    · refine .inr ⟨by simpa using h1, ?_⟩
      by_cases h2 : 16 < n
      · exact .inl (by simpa using h2)
      · refine .inr ⟨by simpa using h2, ?_⟩
        by_cases h3 : m < 1
        · exact .inl (by simpa using h3)
        · exact .inr ⟨by simpa using h3, by simp; omega⟩
  clear h
  rcases hc with h1 | ⟨h1, h2 | ⟨h2, h3 | ⟨h3, h4⟩⟩⟩
  all_goals
    go_enter Tryz.func4, Tryz.ntmps4
    go_wp2_with fail
    refine HA.out.mono ?_
    rintro e w1 ⟨rfl, hT1⟩
    have HT := Lib.hid hT1
    clear hT1
    go_wp2
    go_ret
    exact ⟨rfl, HT.out⟩
def CmRel (n m : Nat) (w : World) (v6 v7 v8 : Value) (wr : World) : Prop := ∃ i : Nat, i ≤ m ∧ v8 = .int .i64 i ∧ v7 = .int .i64 (cntT n i : Int) ∧ v6 = .string (bs (preR n i)) ∧ Touch NoB w wr
def CuRel (X : Bs) (n i : Nat) (w : World) (v6 v9 : Value) (wr : World) : Prop := ∃ k : Nat, k ≤ n ∧ v9 = .int .i64 k ∧ v6 = .string (bs (useR X i k)) ∧ Touch NoB w wr
theorem cmany_in (n m : Nat) (w : World) (h1 : 1 ≤ n) (h2 : n ≤ 16) (h3 : 1 ≤ m) (h4 : m ≤ 6) : Calls Tryz.prog 4 #[.int .i64 (n : Int), .int .i64 (m : Int)] w fun e w' => e = .returned (.bool true) ∧ Touch NoB w w' := by
  have HA := Lib.hid (alive13_any w)
  have HN := Lib.hid (fun n w => num13_any n w)
  have HNM := Lib.hid (fun i h w => cname_any i h w)
  have b1 : decide ((n : Int) < 1) = false := by simp; omega
  have b2 : decide ((16 : Int) < (n : Int)) = false := by simp; omega
  have b3 : decide ((m : Int) < 1) = false := by simp; omega
  have b4 : decide ((6 : Int) < (m : Int)) = false := by simp; omega
  have HH := Lib.hid (And.intro h1 (And.intro h2 (And.intro h3 h4)))
  have HCM := Lib.hid (cm_at h1 h2 h3 h4)
  clear h1 h2 h3 h4
  go_enter Tryz.func4, Tryz.ntmps4
  go_wp2_with fail
  refine HA.out.mono ?_
  rintro e w1 ⟨rfl, hT1⟩
  have HT1 := Lib.hid hT1
  clear hT1
  go_wp2
  go_loopw [6, 7, 8] (fun v6 v7 v8 wr => CmRel n m w v6 v7 v8 wr) (fun _ _ v8 _ => m - (intOf v8).toNat)
  case atStart => exact ⟨0, Nat.zero_le _, rfl, rfl, rfl, HT1.out⟩
  case round =>
    obtain ⟨i, hi, rfl, rfl, rfl, hT⟩ := hrel
    have hpl := preR_len n i
    by_cases hlt : i < m
    · obtain ⟨wo, hwo⟩ : ∃ x, x = wr := ⟨_, rfl⟩
      have HT := Lib.hid hT
      clear hT
      have hi8 : i < 8 := by have := HH.out; omega
      obtain ⟨s, hs⟩ : ∃ s, bs (preR n i) = s := ⟨_, rfl⟩
      have hsz : s.size ≤ 2000 := by
        rw [← hs, bs_size, hpl]
        have h1 := HH.out.2.1
        have h2 := HH.out.2.2.2
        have : i * (20 + 8 * n) ≤ 6 * 148 := Nat.mul_le_mul (by omega) (by omega)
        omega
      obtain ⟨nm, hnm⟩ : ∃ s, bs (nmT i) = s := ⟨_, rfl⟩
      have hnz : nm.size = 1 := by rw [← hnm]; rfl
      have HNI : Hid (∀ w, Calls Tryz.prog 10 #[.int .i64 (i : Int)] w fun e w' => e = .returned (.string nm) ∧ w = w') := Lib.hid (fun w => hnm ▸ HNM.out i hi8 w)
      have n1 : ¬ 9223372036854775807 < s.size + 6 := by omega
      have n2 : ¬ 9223372036854775807 < s.size + 6 + nm.size := by omega
      have n3 : ¬ 9223372036854775807 < s.size + 6 + nm.size + 9 := by omega
      obtain ⟨c, hc⟩ : ∃ c, cntT n i = c := ⟨_, rfl⟩
      have hcb : 1 + n * c ≤ 1000000000 := by
        have h := cntT_le HH.out.1 (i + 1) m (by omega)
        have e : cntT n (i + 1) = 1 + n * cntT n i := rfl
        rw [hc] at e
        have := HCM.out.1
        omega
      have hm1 : IntKind.i64.wrap ((n : Int) * (c : Int)) = ((n * c : Nat) : Int) := by
        have e : (n : Int) * (c : Int) = ((n * c : Nat) : Int) := by simp
        rw [e, IntWalk.i64_in _ (by omega)]
      have hm2 : IntKind.i64.wrap (1 + ((n * c : Nat) : Int)) = ((1 + n * c : Nat) : Int) := by
        have e : (1 : Int) + ((n * c : Nat) : Int) = ((1 + n * c : Nat) : Int) := by simp
        rw [e, IntWalk.i64_in _ (by omega)]
      obtain ⟨nc, hnc⟩ : ∃ x, ((n * c : Nat) : Int) = x := ⟨_, rfl⟩
      obtain ⟨c2, hc2⟩ : ∃ x, ((1 + n * c : Nat) : Int) = x := ⟨_, rfl⟩
      rw [hnc] at hm1 hm2
      rw [hc2] at hm2
      have hc3 : (cntT n (i + 1) : Int) = c2 := by rw [← hc2, ← hc]; rfl
      have HC3 := Lib.hid hc3
      have HSS := Lib.hid (And.intro hs (And.intro hnm hsz))
      rw [hs, hc]
      clear hs hnm hcb hnc hc2 hc3 hc hpl
      go_wp2_with (first | (go_at_call 10; refine (HNI.out _).mono ?_; rintro r w2 ⟨rfl, rfl⟩))
      go_loopw [6, 9] (fun v6 v9 wr => CuRel (preR n i ++ tA ++ nmT i ++ tB) n i w v6 v9 wr) (fun _ v9 _ => n - (intOf v9).toNat)
      case atStart =>
        refine ⟨0, Nat.zero_le _, rfl, ?_, by first | exact HT.out | (rw [hwo]; exact HT.out) | (rw [← hwo]; exact HT.out)⟩
        show Value.string (s ++ bs tA ++ nm ++ bs tB) = _
        rw [← HSS.out.1, ← HSS.out.2.1, bs_app, bs_app, bs_app]
        rfl
      case round =>
        obtain ⟨k, hk, rfl, rfl, hT2⟩ := hrel
        have HT2 := Lib.hid hT2
        clear hT2
        have hul := useR_len (preR n i ++ tA ++ nmT i ++ tB) i k
        have hXl : (preR n i ++ tA ++ nmT i ++ tB).length ≤ 1000 := by
          rw [List.length_append, List.length_append, List.length_append]
          have h0 : (preR n i).length ≤ 900 := by
            rw [preR_len]
            have h1 := HH.out.2.1
            have h2 := HH.out.2.2.2
            have : i * (20 + 8 * n) ≤ 6 * 148 := Nat.mul_le_mul (by omega) (by omega)
            omega
          show (preR n i).length + 6 + 1 + 9 ≤ 1000
          omega
        obtain ⟨u, hu⟩ : ∃ u, bs (useR (preR n i ++ tA ++ nmT i ++ tB) i k) = u := ⟨_, rfl⟩
        have huz : u.size ≤ 2000 := by
          rw [← hu, bs_size, hul]
          have h1 := HH.out.2.1
          omega
        have HU := Lib.hid hu
        rw [hu]
        clear hu hul hXl
        by_cases hk2 : k < n
        · obtain ⟨nn, hnn⟩ : ∃ s, bs (nmT (i + 1)) = s := ⟨_, rfl⟩
          have hnnz : nn.size = 1 := by rw [← hnn]; rfl
          have HNN : Hid (∀ w, Calls Tryz.prog 10 #[.int .i64 ((i : Int) + 1)] w fun e w' => e = .returned (.string nn) ∧ w = w') := Lib.hid (fun w => by
            have h := HNM.out (i + 1) (by have := HH.out; omega) w
            rw [hnn] at h
            exact h)
          have hn16 : n ≤ 16 := HH.out.2.1
          have m1 : ¬ 9223372036854775807 < u.size + 5 := by omega
          have m2 : ¬ 9223372036854775807 < u.size + 5 + nn.size := by omega
          have m3 : ¬ 9223372036854775807 < u.size + 5 + nn.size + 2 := by omega
          have HNS := Lib.hid hnn
          clear hnn
          go_wp2_with (first | (go_at_call 10; refine (HNN.out _).mono ?_; rintro r w2 ⟨rfl, rfl⟩))
          go_roundw
          case rel =>
            refine ⟨k + 1, by omega, by go_num, ?_, HT2.out⟩
            show Value.string (u ++ bs uA ++ nn ++ bs uB) = _
            rw [← HU.out, ← HNS.out, bs_app, bs_app, bs_app]
            rfl
          case measure => simp [intOf]; omega
        · obtain rfl : k = n := by omega
          have m1 : ¬ 9223372036854775807 < u.size + 4 := by omega
          go_wp2
          go_roundw
          case rel =>
            refine ⟨i + 1, by omega, by go_num, by rw [HC3.out], ?_, HT2.out⟩
            show Value.string (u ++ bs tC) = _
            rw [← HU.out, bs_app]
            rfl
          case measure => simp [intOf]; omega
    · obtain rfl : i = m := by omega
      obtain ⟨hcb, g, x, hpa, hfit, hck, hxe⟩ := HCM.out
      have hsz : (bs (preR n i)).size ≤ 2000 := by
        rw [bs_size, hpl]
        have h1 := HH.out.2.1
        have h2 := HH.out.2.2.2
        have : i * (20 + 8 * n) ≤ 6 * 148 := Nat.mul_le_mul (by omega) (by omega)
        omega
      have hi8 : i < 8 := by have := HH.out; omega
      obtain ⟨s, hs⟩ : ∃ s, bs (preR n i) = s := ⟨_, rfl⟩
      rw [hs] at hsz
      obtain ⟨nm, hnm⟩ : ∃ s, bs (nmT i) = s := ⟨_, rfl⟩
      have hnz : nm.size = 1 := by rw [← hnm]; rfl
      have HNI : Hid (∀ w, Calls Tryz.prog 10 #[.int .i64 (i : Int)] w fun e w' => e = .returned (.string nm) ∧ w = w') := Lib.hid (fun w => hnm ▸ HNM.out i hi8 w)
      have n1 : ¬ 9223372036854775807 < s.size + 6 := by omega
      have n2 : ¬ 9223372036854775807 < s.size + 6 + nm.size := by omega
      have n3 : ¬ 9223372036854775807 < s.size + 6 + nm.size + 8 := by omega
      obtain ⟨S, hS⟩ : ∃ S, s ++ ⟨#[116, 114, 101, 101, 32, 116]⟩ ++ nm ++ ⟨#[32, 123, 32, 111, 107, 59, 32, 125]⟩ = S := ⟨_, rfl⟩
      have hSe : S = bs (manyT n i) := by
        rw [← hS]
        show s ++ bs tA ++ nm ++ bs tD = _
        rw [← hs, ← hnm, bs_app, bs_app, bs_app]
        rfl
      have hSz : S.size = (manyT n i).length := by rw [hSe, bs_size]
      have hSl : (manyT n i).length ≤ 65536 := by
        rw [← hSz, ← hS]
        have e : (s ++ (⟨#[116, 114, 101, 101, 32, 116]⟩ : ByteArray) ++ nm ++ (⟨#[32, 123, 32, 111, 107, 59, 32, 125]⟩ : ByteArray)).size = s.size + 6 + nm.size + 8 := by
          rw [ByteArray.size_append, ByteArray.size_append, ByteArray.size_append]
          rfl
        rw [e]
        omega
      have hSd : S.data.toList = manyT n i := by rw [hSe, bs_list]
      obtain ⟨cap, W3, hcv, hc1, hc2, hT3, hB3⟩ := conv_any S (by omega) wr
      rw [hSd] at hB3
      have HQ := Lib.hid (parse13 hpa hSz hSl W3 cap _ hc1 hB3)
      obtain ⟨x1, x2⟩ := x
      simp only at hxe
      have HCK := Lib.hid (fun (W : World) (Q : Nat → Prop) (v1 v2 v3 : Value) hP hC => check_any g (x1, x2) (w := W) (Q := Q) (v1 := v1) (v2 := v2) (v3 := v3) hP hC hfit hck)
      simp only at HCK
      have HT := Lib.hid (hT.same hT3)
      obtain ⟨ml, hml⟩ : ∃ z, ((manyT n i).length : Int) = z := ⟨_, rfl⟩
      rw [hml] at HQ
      obtain ⟨c, hc⟩ : ∃ c, (cntT n i : Int) = c := ⟨_, rfl⟩
      have hce : x2 = if 4000 < c then 9 else 0 := by
        rw [hxe]
        by_cases h : 4000 < cntT n i
        · rw [if_pos h, if_pos (by omega)]
        · rw [if_neg h, if_neg (by omega)]
      rw [hs, hc]
      have HCE := Lib.hid hce
      clear hT hT3 hB3 hc1 hc2 hpa hfit hck hxe hSe hSz hSl hSd hs hnm hc hce hpl hcb hml
      go_wp2_with (first | (go_at_call 10; refine (HNI.out _).mono ?_; rintro r w2 ⟨rfl, rfl⟩) | (go_at_call 7; refine HQ.out.mono ?_; rintro r w4 ⟨A1, n1', c1, A2, n2', c2, A3, n3', c3, rfl, hP, hC, hT4⟩; have HP := Lib.hid (fun W (t : Touch NoB w4 W) => HCK.out W _ _ _ _ (hP.touch t (fun b _ f => f)) hC); have HT4 := Lib.hid (HT.out.same hT4); clear hP hC hT4) | (go_at_call 8; refine (HP.out _ (by repeat (first | with_reducible exact Touch.refl NoB _ | with_reducible refine Touch.drew ?_ | with_reducible refine Touch.alloc ?_ _))).mono ?_; rintro r w5 ⟨rfl, hT5⟩; have HT5 := Lib.hid (HT4.out.same (Touch.same (F := NoB) (a := w4) (by repeat (first | with_reducible exact Touch.refl NoB _ | with_reducible refine Touch.drew ?_ | with_reducible refine Touch.alloc ?_ _)) hT5)); clear hT5; by_cases h4 : 4000 < c))
      · have hd : decide (4000 < c) = true := by simpa using h4
        have hx : x2 = 9 := by rw [HCE.out, if_pos h4]
        subst hx
        clear h4
        go_wp2_with (first | (go_at_call 9; refine (HN.out _ _).mono ?_; rintro e w' ⟨rfl, rfl⟩))
        go_ret
        exact ⟨rfl, HT5.out⟩
      · have hd : decide (4000 < c) = false := by simp; omega
        have hx : x2 = 0 := by rw [HCE.out, if_neg (by omega)]
        subst hx
        clear h4
        go_wp2_with (first | (go_at_call 9; refine (HN.out _ _).mono ?_; rintro e w' ⟨rfl, rfl⟩))
        go_ret
        exact ⟨rfl, HT5.out⟩
theorem cmany_any (n m : Int) (w : World) : Calls Tryz.prog 4 #[.int .i64 n, .int .i64 m] w fun e w' => e = .returned (.bool true) ∧ Touch NoB w w' := by
  by_cases h : n < 1 ∨ 16 < n ∨ m < 1 ∨ 6 < m
  · exact cmany_out n m w h
  · obtain ⟨i, rfl⟩ : ∃ i : Nat, n = (i : Int) := ⟨n.toNat, by omega⟩
    obtain ⟨j, rfl⟩ : ∃ j : Nat, m = (j : Int) := ⟨m.toNat, by omega⟩
    exact cmany_in i j w (by omega) (by omega) (by omega) (by omega)
end Go.Proofs.YtnphaaahdlkmhaaGreat
