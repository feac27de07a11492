/-
  LexTokens: which tokens any bytes are, or where and why they are none. Conditions: the library's own variable can be read.
-/
import Derived.Test.YtmgmmbeldhleoaaDoorNf
import Derived.Test.YtmgmmbeldhleoaaDoorLw
import Derived.Lib.AppendZeros
namespace Go.Proofs.YtmgmmbeldhleoaaDoor
open Go.ChangeShapes Go.WideShapes Go.ChangeAt Go.RowKit
set_option maxRecDepth 100000
set_option maxHeartbeats 4000000

theorem rtoks_good {A : Option Addr} {n cap m : Nat} {b : Bs} {w : World} {ts : List Tk} (h : lexL b = .good ts) (hm : ts.length = m) (hn : b.length = n) (hmax : n ≤ 65536) (hcap : n ≤ cap) (hb : BAt w A b) :
    Calls Tryd.prog 11 #[.slice A n cap] w fun e w' => ∃ g cp, e = .returned (.tuple #[.slice (some ⟨g, 0, none⟩) m cp, .int .i64 n, .int .i64 0]) ∧ TL w' g ts ∧ Touch NoB w w' := by
  refine (rtokens_any A n cap b w hn hcap hb).mono ?_
  intro e w' hP
  unfold TokPost at hP
  rw [if_pos (by omega), h] at hP
  obtain ⟨hT, vl, rfl, ho⟩ := hP
  obtain ⟨g, cp, rfl, hTL⟩ := TL.of_row ho (good_pos h)
  exact ⟨g, cp, by rw [hn, hm], hTL, hT⟩
theorem rtoks_bad {A : Option Addr} {n cap : Nat} {b : Bs} {w : World} {p : Nat} (h : lexL b = .bad p) (hn : b.length = n) (hmax : n ≤ 65536) (hcap : n ≤ cap) (hb : BAt w A b) :
    Calls Tryd.prog 11 #[.slice A n cap] w fun e w' => e = .returned (.tuple #[.slice none 0 0, .int .i64 p, .int .i64 2]) ∧ Touch NoB w w' := by
  refine (rtokens_any A n cap b w hn hcap hb).mono ?_
  intro e w' hP
  unfold TokPost at hP
  rw [if_pos (by omega), h] at hP
  obtain ⟨hT, rfl⟩ := hP
  exact ⟨rfl, hT⟩
def StRel (m : Nat) (w : World) (v5 : Value) (wr : World) : Prop := ∃ i : Nat, i ≤ m ∧ v5 = .int .i64 i ∧ Touch NoB w wr
theorem same_any {g1 g2 c1 c2 m : Nat} {ts : List Tk} {w : World} (hm : ts.length = m) (hm2 : m ≤ 100000) (h1 : TL w g1 ts) (h2 : TL w g2 ts) :
    Calls Tryd.prog 12 #[.slice (some ⟨g1, 0, none⟩) m c1, .slice (some ⟨g2, 0, none⟩) m c2] w fun e w' => e = .returned (.bool true) ∧ Touch NoB w w' := by
  have H1 := Lib.hid h1
  have H2 := Lib.hid h2
  have HM := Lib.hid hm
  clear h1 h2 hm
  go_enter Tryd.func12, Tryd.ntmps12
  go_wp2
  go_loopw [5] (fun v5 wr => StRel m w v5 wr) (fun v5 _ => m - (intOf v5).toNat)
  case atStart => exact ⟨0, Nat.zero_le _, rfl, Touch.refl _ _⟩
  case round =>
    obtain ⟨i, hi, rfl, hTr⟩ := hrel
    by_cases hlt : i < m
    · obtain ⟨t, ht⟩ : ∃ t, ts[i]? = some t := ⟨ts[i]'(by rw [HM.out]; exact hlt), List.getElem?_eq_getElem _⟩
      obtain ⟨a0, a1, a2, a3⟩ := (H1.out.touch hTr).at_ i t ht
      obtain ⟨b0, b1, b2, b3⟩ := (H2.out.touch hTr).at_ i t ht
      obtain ⟨sx, hsx⟩ : ∃ sx, bs t.tx = sx := ⟨_, rfl⟩
      rw [hsx] at a3 b3
      obtain ⟨kd, hkd⟩ : ∃ kd, t.kd = kd := ⟨_, rfl⟩
      rw [hkd] at a0 b0
      obtain ⟨nn, hnn⟩ : ∃ nn, t.n = nn := ⟨_, rfl⟩
      rw [hnn] at a1 b1
      obtain ⟨pl, hpl⟩ : ∃ pl, t.pl = pl := ⟨_, rfl⟩
      rw [hpl] at a2 b2
      have p0 : wr.drew.cell? ⟨g1, i * 4, none⟩ = some (.int .i64 kd) := a0
      have p1 : wr.drew.cell? ⟨g1, i * 4 + 1, none⟩ = some (.int .i64 nn) := a1
      have p2 : wr.drew.cell? ⟨g1, i * 4 + 2, none⟩ = some (.int .i64 pl) := a2
      have p3 : wr.drew.cell? ⟨g1, i * 4 + 3, none⟩ = some (.string sx) := a3
      have q0 : wr.drew.cell? ⟨g2, i * 4, none⟩ = some (.int .i64 kd) := b0
      have q1 : wr.drew.cell? ⟨g2, i * 4 + 1, none⟩ = some (.int .i64 nn) := b1
      have q2 : wr.drew.cell? ⟨g2, i * 4 + 2, none⟩ = some (.int .i64 pl) := b2
      have q3 : wr.drew.cell? ⟨g2, i * 4 + 3, none⟩ = some (.string sx) := b3
      have d0 : ((kd : Int) == (kd : Int)) = true := by simp
      have d1 : ((nn : Int) == (nn : Int)) = true := by simp
      have d2 : ((pl : Int) == (pl : Int)) = true := by simp
      have d3 : (sx.toList == sx.toList) = true := by simp
      have HT := Lib.hid hTr
      clear hTr ht a0 a1 a2 a3 b0 b1 b2 b3 hsx hkd hnn hpl
      go_wp2
      go_region
      go_wp2
      go_roundw
      case rel => exact ⟨i + 1, by omega, by go_num, HT.out.drew⟩
      case measure => simp [intOf]; omega
    · obtain rfl : i = m := by omega
      have HT := Lib.hid hTr
      clear hTr
      go_wp2
      go_ret
      exact ⟨rfl, HT.out⟩
theorem same_none (w : World) : Calls Tryd.prog 12 #[.slice none 0 0, .slice none 0 0] w fun e w' => e = .returned (.bool true) ∧ Touch NoB w w' := by
  go_enter Tryd.func12, Tryd.ntmps12
  go_wp2
  go_loopw [5] (fun v5 wr => StRel 0 w v5 wr) (fun _ _ => 0)
  case atStart => exact ⟨0, Nat.zero_le _, rfl, Touch.refl _ _⟩
  case round =>
    obtain ⟨i, hi, rfl, hTr⟩ := hrel
    obtain rfl : i = 0 := by omega
    have HT := Lib.hid hTr
    clear hTr
    go_wp2
    go_ret
    exact ⟨rfl, HT.out⟩
/-- The bytes copied into new memory. -/
theorem app_copy {A : Option Addr} {b : Bs} {n cap : Nat} (W : World) (hb : BAt W A b) (hn : b.length = n) (hmax : n ≤ 2000) (hnone : A = none → cap = 0) :
    ∃ v' w', (Builtin.append_ #[22, 22] 22 #[.slice none 0 0, .slice A n cap]).run Tryd.prog W = .ok v' w' ∧ BR w' W.heap.size v' b ∧ Touch NoB W w' := by
  obtain ⟨i0, hi0, hz0, hz1, hz2⟩ := info_u8'
  cases A with
  | none =>
    have hc := hnone rfl
    have hb0 : b = [] := by
      cases b with
      | nil => rfl
      | cons c r => obtain ⟨_, _, e, _⟩ := hb (by simp); cases e
    subst hb0
    obtain rfl : n = 0 := by simpa using hn.symm
    subst hc
    exact ⟨_, W, run_append_owned_none (P := Tryd.prog) (w := W) W.heap.size 22 22 5 i0 1 Tryd.underlying22 hi0 (.slice none 0 0) 0 [] (World.ownsRow_nil _ _ _ _), BR.nil _ _, Touch.refl _ _⟩
  | some ad =>
    have hnews : ∀ j u, (bC b)[j]? = some u → W.cell? (ad.add j) = some u := by
      intro j u hu
      simp only [bC, List.getElem?_map] at hu
      cases hq : b[j]? with
      | none => rw [hq] at hu; cases hu
      | some c =>
        rw [hq] at hu
        simp only [Option.map_some, Option.some.injEq] at hu
        subst hu
        obtain ⟨blk, off, e, -, hc⟩ := hb (by intro e; subst e; simp at hq)
        injection e with e
        subst e
        rw [add_plain]
        exact hc j c hq
    obtain ⟨v', w', hrun, h1, h2, -, -⟩ := run_append_own_at (P := Tryd.prog) W W.heap.size 22 22 5 i0 _ 1 1 Tryd.underlying22 hi0 hz0 hz1 hz2 rfl (by decide) (.slice none 0 0) 0 [] (World.ownsRow_nil _ _ _ _) ad n cap (bC b) (by rw [bC_len, hn]; omega) hnews (bC_one _) (by unfold maxLen; omega) (by omega) (Nat.le_refl _)
    refine ⟨v', w', hrun, ?_, (Touch.refl _ _).grown h2 (fun x e => by simp [Value.ownBlock] at e)⟩
    unfold BR
    rw [hn]
    simpa using h1

theorem tokens_long (A : Option Addr) (n cap : Nat) (w : World) (h : 2000 < n) (hev : EV w) : Calls Tryd.prog 3 #[.slice A n cap] w fun e w' => e = .returned (.bool true) ∧ Touch NoB w w' := by
  have HA := Lib.hid (alive_any w hev)
  have hd : decide ((2000 : Int) < (n : Int)) = true := by simp; omega
  clear hev h
  go_enter Tryd.func3, Tryd.ntmps3
  go_wp2_with fail
  refine HA.out.mono ?_
  rintro e w1 ⟨rfl, hT1⟩
  have HT := Lib.hid hT1
  clear hT1
  go_wp2
  go_ret
  exact ⟨rfl, HT.out⟩
theorem tokens_short (A : Option Addr) (n cap : Nat) (b : Bs) (w : World) (hn : b.length = n) (h : ¬ 2000 < n) (hcap : n ≤ cap) (hnone : A = none → cap = 0) (hb : BAt w A b) (hev : EV w) : Calls Tryd.prog 3 #[.slice A n cap] w fun e w' => e = .returned (.bool true) ∧ Touch NoB w w' := by
  have HA := Lib.hid (alive_any w hev)
  have HN := Lib.hid (fun n w => num_any n w)
  have HE := Lib.hid hev
  have HB := Lib.hid hb
  have HCP := Lib.hid (fun (W : World) (hW : Touch NoB w W) => app_copy (n := n) (cap := cap) W (hb.touch hW) hn (by omega) hnone)
  have hd : decide ((2000 : Int) < (n : Int)) = false := by simp; omega
  cases hx : lexL b with
  | good ts =>
    obtain ⟨m, hm⟩ : ∃ m, ts.length = m := ⟨_, rfl⟩
    have hmx : m ≤ n + 1 := by have := pl_count b 0 ts (lex_places hx); omega
    have HRT := Lib.hid (fun (W : World) (hW : Touch NoB w W) => rtoks_good (w := W) (m := m) hx hm hn (by omega) hcap (hb.touch hW))
    have HLT := Lib.hid (fun (W : World) (A2 : Option Addr) (c2 : Nat) (h1 : n ≤ c2) (h2 : c2 ≤ 9223372036854775807) (h3 : BAt W A2 b) (h4 : EV W) => toks_good (w := W) (m := m) (z := (n : Int)) hx hm rfl hn (by omega) h1 h2 h3 h4)
    have HNN := Lib.hid hn
    have HMM := Lib.hid hm
    clear hev hx hb hn hm hnone
    go_enter Tryd.func3, Tryd.ntmps3
    go_wp2_with fail
    refine HA.out.mono ?_
    rintro e w1 ⟨rfl, hT1⟩
    obtain ⟨v2, w2, hap, hbr, hT2⟩ := HCP.out w1 hT1
    obtain ⟨A2, c2, rfl, q1, q2, hB2⟩ := hbr.bat
    rw [HNN.out] at hap q1
    have HAP := Lib.hid hap
    have HT2 := Lib.hid (And.intro (hT1.same hT2) (HLT.out w2 A2 c2 q1 q2 hB2 (HE.out.touch (hT1.same hT2))))
    clear hT1 hap hbr hT2 hB2 q2
    go_wp2_with (at_builtin; refine Lib.wpList_append_run _ rfl _ _ _ _ rfl _ _ rfl rfl _ _ HAP.out ?_)
    refine HT2.out.2.mono ?_
    rintro e w3 ⟨g1, cp1, rfl, hL1, hT3⟩
    have HT3 := Lib.hid (And.intro (HT2.out.1.same hT3) hL1)
    clear hL1 hT3
    go_wp2_with fail
    refine (HRT.out w3 HT3.out.1).mono ?_
    rintro e w4 ⟨g2, cp2, rfl, hL2, hT4⟩
    have HS := Lib.hid (same_any (c1 := cp1) (c2 := cp2) HMM.out (by omega) (HT3.out.2.touch hT4) hL2)
    have HT4 := Lib.hid (HT3.out.1.same hT4)
    clear hL2 hT4
    go_wp2_with fail
    refine HS.out.mono ?_
    rintro e w5 ⟨rfl, hT5⟩
    have HT5 := Lib.hid (HT4.out.same hT5)
    clear hT5
    go_wp2_with (first | (go_at_call 13; refine (HN.out _ _).mono ?_; rintro e w' ⟨rfl, rfl⟩))
    go_ret
    exact ⟨ret_bool (by simp), HT5.out⟩
  | bad p =>
    have HRT := Lib.hid (fun (W : World) (hW : Touch NoB w W) => rtoks_bad (w := W) hx hn (by omega) hcap (hb.touch hW))
    have HLT := Lib.hid (fun (W : World) (A2 : Option Addr) (c2 : Nat) (h1 : n ≤ c2) (h2 : c2 ≤ 9223372036854775807) (h3 : BAt W A2 b) (h4 : EV W) => toks_bad (w := W) hx hn (by omega) h1 h2 h3 h4)
    have HNN := Lib.hid hn
    have HS := Lib.hid (fun w => same_none w)
    clear hev hx hb hn hnone
    go_enter Tryd.func3, Tryd.ntmps3
    go_wp2_with fail
    refine HA.out.mono ?_
    rintro e w1 ⟨rfl, hT1⟩
    obtain ⟨v2, w2, hap, hbr, hT2⟩ := HCP.out w1 hT1
    obtain ⟨A2, c2, rfl, q1, q2, hB2⟩ := hbr.bat
    rw [HNN.out] at hap q1
    have HAP := Lib.hid hap
    have HT2 := Lib.hid (And.intro (hT1.same hT2) (HLT.out w2 A2 c2 q1 q2 hB2 (HE.out.touch (hT1.same hT2))))
    clear hT1 hap hbr hT2 hB2 q2
    go_wp2_with (at_builtin; refine Lib.wpList_append_run _ rfl _ _ _ _ rfl _ _ rfl rfl _ _ HAP.out ?_)
    refine HT2.out.2.mono ?_
    rintro e w3 ⟨rfl, hT3⟩
    have HT3 := Lib.hid (HT2.out.1.same hT3)
    clear hT3
    go_wp2_with fail
    refine (HRT.out w3 HT3.out).mono ?_
    rintro e w4 ⟨rfl, hT4⟩
    have HT4 := Lib.hid (HT3.out.same hT4)
    clear hT4
    go_wp2_with fail
    refine (HS.out _).mono ?_
    rintro e w5 ⟨rfl, hT5⟩
    have HT5 := Lib.hid (HT4.out.same hT5)
    clear hT5
    go_wp2_with (first | (go_at_call 13; refine (HN.out _ _).mono ?_; rintro e w' ⟨rfl, rfl⟩))
    go_ret
    exact ⟨ret_bool (by simp), HT5.out⟩
theorem lextokens_any (A : Option Addr) (n cap : Nat) (b : Bs) (w : World) (hn : b.length = n) (hcap : n ≤ cap) (hnone : A = none → cap = 0) (hb : BAt w A b) (hev : EV w) : Calls Tryd.prog 3 #[.slice A n cap] w fun e w' => e = .returned (.bool true) ∧ Touch NoB w w' := by
  by_cases h : 2000 < n
  · exact tokens_long A n cap w h hev
  · exact tokens_short A n cap b w hn h hcap hnone hb hev
end Go.Proofs.YtmgmmbeldhleoaaDoor
