/-
  LexNumbers: which digits are a number, up to the greatest one. Conditions: the library's own variable can be read.
-/
import Derived.Test.YtmgmmbeldhleoaaDoorLn
namespace Go.Proofs.YtmgmmbeldhleoaaDoor
open Go.ChangeShapes Go.WideShapes Go.ChangeAt Go.RowKit
set_option maxRecDepth 100000
set_option maxHeartbeats 4000000

theorem numbers_neg (n : Int) (z b : Bool) (hn : n < 0) (w : World) (hev : EV w) : Calls Tryd.prog 7 #[.int .i64 n, .bool z, .bool b] w fun e w' => e = .returned (.bool true) ∧ Touch NoB w w' := by
  have HA := Lib.hid (alive_any w hev)
  have hd0 : decide (n < 0) = true := by simpa using hn
  clear hev hn
  go_enter Tryd.func7, Tryd.ntmps7
  go_wp2_with fail
  refine HA.out.mono ?_
  rintro e w1 ⟨rfl, hT1⟩
  have HT := Lib.hid hT1
  clear hT1
  go_wp2
  go_ret
  exact ⟨rfl, HT.out⟩

theorem numbers_ff (n : Nat) (hn : n ≤ 9223372036854775807) (w : World) (hev : EV w) : Calls Tryd.prog 7 #[.int .i64 n, .bool false, .bool false] w fun e w' => e = .returned (.bool true) ∧ Touch NoB w w' := by
  have HA := Lib.hid (alive_any w hev)
  have HN := Lib.hid (fun n w => num_any n w)
  have HE := Lib.hid hev
  have HD := Lib.hid (fun w => dec_any n hn w)
  have hlen := decF_len 18 n
  obtain ⟨st, hst⟩ : ∃ st, bs (decF 18 n) = st := ⟨_, rfl⟩
  have hl : st.data.toList = decF 18 n := by
    rw [← hst]
    simp [bs]
  have hsz : st.size = (decF 18 n : Bs).length := by rw [← hl]; simp
  have hsz2 : st.size ≤ 30 := by rw [hsz]; first | omega | (simp; omega)
  have HLX := Lib.hid (num_ok hn)
  have HHL := Lib.hid hl
  have HSZ := Lib.hid hsz
  clear hl hsz
  have hd0 : decide ((n : Int) < 0) = false := by simp
  obtain ⟨D, hDD⟩ : ∃ D, decF 18 n = D := ⟨_, rfl⟩
  rw [hDD] at HD HLX HHL HSZ hlen hst
  clear hDD
  obtain ⟨sd, hsd⟩ : ∃ sd, bs D = sd := ⟨_, rfl⟩
  have hsz3 : sd.size ≤ 19 := by rw [← hsd, bs_size]; exact hlen
  rw [hsd] at HD hst
  clear hev hlen hsd
  go_enter Tryd.func7, Tryd.ntmps7
  go_wp2_with fail
  refine HA.out.mono ?_
  rintro e w1 ⟨rfl, hT1⟩
  have HE1 := Lib.hid (And.intro hT1 (HE.out.touch hT1))
  clear hT1
  go_wp2_with fail
  refine (HD.out _).mono ?_
  rintro e w' ⟨rfl, rfl⟩
  obtain ⟨cap, W2, hcv, hc1, hc2, hT2, hB2⟩ := conv_any st (by omega) w1
  rw [HHL.out] at hB2
  have HTK := Lib.hid (toks_good (m := 2) (n := st.size) HLX.out rfl rfl HSZ.out.symm (by omega) hc1 hc2 hB2 (HE1.out.2.touch hT2))
  have HT2 := Lib.hid (HE1.out.1.same hT2)
  subst hst
  clear hT2 hB2 hc1 hc2
  go_wp2_with fail
  refine HTK.out.mono ?_
  rintro e w3 ⟨g, cp, rfl, hL, hT3⟩
  obtain ⟨k0, k1, -, -⟩ := hL.at_ 0 _ rfl
  have hlt := hL.lt
  have HT3 := Lib.hid (HT2.out.same hT3)
  clear hL hT3 hcv
  go_wp2_with (first | (go_at_call 13; refine (HN.out _ _).mono ?_; rintro e w' ⟨rfl, rfl⟩))
  go_ret
  exact ⟨ret_bool (by simp), HT3.out⟩

theorem numbers_tf (n : Nat) (hn : n ≤ 9223372036854775807) (w : World) (hev : EV w) : Calls Tryd.prog 7 #[.int .i64 n, .bool true, .bool false] w fun e w' => e = .returned (.bool true) ∧ Touch NoB w w' := by
  have HA := Lib.hid (alive_any w hev)
  have HN := Lib.hid (fun n w => num_any n w)
  have HE := Lib.hid hev
  have HD := Lib.hid (fun w => dec_any n hn w)
  have hlen := decF_len 18 n
  obtain ⟨st, hst⟩ : ∃ st, (⟨#[48]⟩ : ByteArray) ++ bs (decF 18 n) = st := ⟨_, rfl⟩
  have hl : st.data.toList = 48 :: (decF 18 n ++ []) := by
    rw [← hst]
    simp [bs]
  have hsz : st.size = (48 :: (decF 18 n ++ []) : Bs).length := by rw [← hl]; simp
  have hsz2 : st.size ≤ 30 := by rw [hsz]; first | omega | (simp; omega)
  have HLX := Lib.hid (num_zeros hn [] rfl)
  have HHL := Lib.hid hl
  have HSZ := Lib.hid hsz
  clear hl hsz
  have hd0 : decide ((n : Int) < 0) = false := by simp
  obtain ⟨D, hDD⟩ : ∃ D, decF 18 n = D := ⟨_, rfl⟩
  rw [hDD] at HD HLX HHL HSZ hlen hst
  clear hDD
  obtain ⟨sd, hsd⟩ : ∃ sd, bs D = sd := ⟨_, rfl⟩
  have hsz3 : sd.size ≤ 19 := by rw [← hsd, bs_size]; exact hlen
  rw [hsd] at HD hst
  clear hev hlen hsd
  go_enter Tryd.func7, Tryd.ntmps7
  go_wp2_with fail
  refine HA.out.mono ?_
  rintro e w1 ⟨rfl, hT1⟩
  have HE1 := Lib.hid (And.intro hT1 (HE.out.touch hT1))
  clear hT1
  go_wp2_with fail
  refine (HD.out _).mono ?_
  rintro e w' ⟨rfl, rfl⟩
  obtain ⟨cap, W2, hcv, hc1, hc2, hT2, hB2⟩ := conv_any st (by omega) w1
  rw [HHL.out] at hB2
  have HTK := Lib.hid (toks_bad (n := st.size) HLX.out HSZ.out.symm (by omega) hc1 hc2 hB2 (HE1.out.2.touch hT2))
  have HT2 := Lib.hid (HE1.out.1.same hT2)
  have ha1 : ∀ W, (Op.stringOp .add ⟨#[48]⟩ sd).run Tryd.prog W = .ok (.string st) W := fun W => (run_string_add_sum (P := Tryd.prog) (w := W) _ _ (by have : (⟨#[48]⟩ : ByteArray).size = 1 := rfl; omega)).trans (by rw [hst])
  clear hst
  clear hT2 hB2 hc1 hc2
  go_wp2_with fail
  refine HTK.out.mono ?_
  rintro e w3 ⟨rfl, hT3⟩
  have HT3 := Lib.hid (HT2.out.same hT3)
  clear hT3 hcv
  go_wp2_with (first | (go_at_call 13; refine (HN.out _ _).mono ?_; rintro e w' ⟨rfl, rfl⟩))
  go_ret
  exact ⟨rfl, HT3.out⟩

theorem numbers_ft (n : Nat) (hn : n ≤ 9223372036854775807) (w : World) (hev : EV w) : Calls Tryd.prog 7 #[.int .i64 n, .bool false, .bool true] w fun e w' => e = .returned (.bool true) ∧ Touch NoB w w' := by
  have HA := Lib.hid (alive_any w hev)
  have HN := Lib.hid (fun n w => num_any n w)
  have HE := Lib.hid hev
  have HD := Lib.hid (fun w => dec_any n hn w)
  have hlen := decF_len 18 n
  obtain ⟨st, hst⟩ : ∃ st, bs (decF 18 n) ++ (⟨#[97]⟩ : ByteArray) = st := ⟨_, rfl⟩
  have hl : st.data.toList = decF 18 n ++ [97] := by
    rw [← hst]
    simp [bs]
  have hsz : st.size = (decF 18 n ++ [97] : Bs).length := by rw [← hl]; simp
  have hsz2 : st.size ≤ 30 := by rw [hsz]; first | omega | (simp; omega)
  have HLX := Lib.hid (num_behind hn)
  have HHL := Lib.hid hl
  have HSZ := Lib.hid hsz
  clear hl hsz
  have hd0 : decide ((n : Int) < 0) = false := by simp
  obtain ⟨D, hDD⟩ : ∃ D, decF 18 n = D := ⟨_, rfl⟩
  rw [hDD] at HD HLX HHL HSZ hlen hst
  clear hDD
  obtain ⟨sd, hsd⟩ : ∃ sd, bs D = sd := ⟨_, rfl⟩
  have hsz3 : sd.size ≤ 19 := by rw [← hsd, bs_size]; exact hlen
  rw [hsd] at HD hst
  clear hev hlen hsd
  go_enter Tryd.func7, Tryd.ntmps7
  go_wp2_with fail
  refine HA.out.mono ?_
  rintro e w1 ⟨rfl, hT1⟩
  have HE1 := Lib.hid (And.intro hT1 (HE.out.touch hT1))
  clear hT1
  go_wp2_with fail
  refine (HD.out _).mono ?_
  rintro e w' ⟨rfl, rfl⟩
  obtain ⟨cap, W2, hcv, hc1, hc2, hT2, hB2⟩ := conv_any st (by omega) w1
  rw [HHL.out] at hB2
  have HTK := Lib.hid (toks_bad (n := st.size) HLX.out HSZ.out.symm (by omega) hc1 hc2 hB2 (HE1.out.2.touch hT2))
  have HT2 := Lib.hid (HE1.out.1.same hT2)
  have ha1 : ∀ W, (Op.stringOp .add sd ⟨#[97]⟩).run Tryd.prog W = .ok (.string st) W := fun W => (run_string_add_sum (P := Tryd.prog) (w := W) _ _ (by have : (⟨#[97]⟩ : ByteArray).size = 1 := rfl; omega)).trans (by rw [hst])
  clear hst
  clear hT2 hB2 hc1 hc2
  go_wp2_with fail
  refine HTK.out.mono ?_
  rintro e w3 ⟨rfl, hT3⟩
  have HT3 := Lib.hid (HT2.out.same hT3)
  clear hT3 hcv
  go_wp2_with (first | (go_at_call 13; refine (HN.out _ _).mono ?_; rintro e w' ⟨rfl, rfl⟩))
  go_ret
  exact ⟨rfl, HT3.out⟩

theorem numbers_tt (n : Nat) (hn : n ≤ 9223372036854775807) (w : World) (hev : EV w) : Calls Tryd.prog 7 #[.int .i64 n, .bool true, .bool true] w fun e w' => e = .returned (.bool true) ∧ Touch NoB w w' := by
  have HA := Lib.hid (alive_any w hev)
  have HN := Lib.hid (fun n w => num_any n w)
  have HE := Lib.hid hev
  have HD := Lib.hid (fun w => dec_any n hn w)
  have hlen := decF_len 18 n
  obtain ⟨st, hst⟩ : ∃ st, (⟨#[48]⟩ : ByteArray) ++ bs (decF 18 n) ++ ⟨#[97]⟩ = st := ⟨_, rfl⟩
  have hl : st.data.toList = 48 :: (decF 18 n ++ [97]) := by
    rw [← hst]
    simp [bs]
  have hsz : st.size = (48 :: (decF 18 n ++ [97]) : Bs).length := by rw [← hl]; simp
  have hsz2 : st.size ≤ 30 := by rw [hsz]; first | omega | (simp; omega)
  have HLX := Lib.hid (num_zeros hn [97] (by decide))
  have HHL := Lib.hid hl
  have HSZ := Lib.hid hsz
  clear hl hsz
  have hd0 : decide ((n : Int) < 0) = false := by simp
  obtain ⟨D, hDD⟩ : ∃ D, decF 18 n = D := ⟨_, rfl⟩
  rw [hDD] at HD HLX HHL HSZ hlen hst
  clear hDD
  obtain ⟨sd, hsd⟩ : ∃ sd, bs D = sd := ⟨_, rfl⟩
  have hsz3 : sd.size ≤ 19 := by rw [← hsd, bs_size]; exact hlen
  rw [hsd] at HD hst
  clear hev hlen hsd
  go_enter Tryd.func7, Tryd.ntmps7
  go_wp2_with fail
  refine HA.out.mono ?_
  rintro e w1 ⟨rfl, hT1⟩
  have HE1 := Lib.hid (And.intro hT1 (HE.out.touch hT1))
  clear hT1
  go_wp2_with fail
  refine (HD.out _).mono ?_
  rintro e w' ⟨rfl, rfl⟩
  obtain ⟨cap, W2, hcv, hc1, hc2, hT2, hB2⟩ := conv_any st (by omega) w1
  rw [HHL.out] at hB2
  have HTK := Lib.hid (toks_bad (n := st.size) HLX.out HSZ.out.symm (by omega) hc1 hc2 hB2 (HE1.out.2.touch hT2))
  have HT2 := Lib.hid (HE1.out.1.same hT2)
  obtain ⟨s1, hs1⟩ : ∃ s1, (⟨#[48]⟩ : ByteArray) ++ sd = s1 := ⟨_, rfl⟩
  have hsz4 : s1.size ≤ 20 := by rw [← hs1, ByteArray.size_append]; have : (⟨#[48]⟩ : ByteArray).size = 1 := rfl; omega
  rw [hs1] at hst
  have ha1 : ∀ W, (Op.stringOp .add ⟨#[48]⟩ sd).run Tryd.prog W = .ok (.string s1) W := fun W => (run_string_add_sum (P := Tryd.prog) (w := W) _ _ (by have : (⟨#[48]⟩ : ByteArray).size = 1 := rfl; omega)).trans (by rw [hs1])
  have ha2 : ∀ W, (Op.stringOp .add s1 ⟨#[97]⟩).run Tryd.prog W = .ok (.string st) W := fun W => (run_string_add_sum (P := Tryd.prog) (w := W) _ _ (by have : (⟨#[97]⟩ : ByteArray).size = 1 := rfl; omega)).trans (by rw [hst])
  clear hst hs1
  clear hT2 hB2 hc1 hc2
  go_wp2_with fail
  refine HTK.out.mono ?_
  rintro e w3 ⟨rfl, hT3⟩
  have HT3 := Lib.hid (HT2.out.same hT3)
  clear hT3 hcv
  go_wp2_with (first | (go_at_call 13; refine (HN.out _ _).mono ?_; rintro e w' ⟨rfl, rfl⟩))
  go_ret
  exact ⟨rfl, HT3.out⟩

theorem numbers_any (n : Int) (z b : Bool) (hw : n ≤ 9223372036854775807) (w : World) (hev : EV w) : Calls Tryd.prog 7 #[.int .i64 n, .bool z, .bool b] w fun e w' => e = .returned (.bool true) ∧ Touch NoB w w' := by
  by_cases h : n < 0
  · exact numbers_neg n z b h w hev
  · obtain ⟨m, rfl⟩ : ∃ m : Nat, n = (m : Int) := ⟨n.toNat, by omega⟩
    have hm : m ≤ 9223372036854775807 := by omega
    cases z <;> cases b
    · exact numbers_ff m hm w hev
    · exact numbers_ft m hm w hev
    · exact numbers_tf m hm w hev
    · exact numbers_tt m hm w hev
end Go.Proofs.YtmgmmbeldhleoaaDoor
