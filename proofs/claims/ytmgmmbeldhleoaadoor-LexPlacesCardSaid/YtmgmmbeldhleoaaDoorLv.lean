/-
  LexPlaces: each token stands where it says, or a token that is none begins within the text. Conditions: the library's own variable can be read.
-/
import Derived.Test.YtmgmmbeldhleoaaDoorLu
namespace Go.Proofs.YtmgmmbeldhleoaaDoor
open Go.ChangeShapes Go.WideShapes Go.ChangeAt Go.RowKit
set_option maxRecDepth 100000
set_option maxHeartbeats 4000000

def PcRel (ts : List Tk) (w3 : World) (v7 v8 : Value) (wr : World) : Prop := ∃ i : Nat, i ≤ ts.length ∧ v8 = .int .i64 i ∧ v7 = .int .i64 (wasL ts i) ∧ Touch NoB w3 wr

theorem places_long (A : Option Addr) (n cap : Nat) (w : World) (h : 2000 < n) (hev : EV w) : Calls Tryd.prog 6 #[.slice A n cap] w fun e w' => e = .returned (.bool true) ∧ Touch NoB w w' := by
  have HA := Lib.hid (alive_any w hev)
  have hd : decide ((2000 : Int) < (n : Int)) = true := by simp; omega
  clear hev h
  go_enter Tryd.func6, Tryd.ntmps6
  go_wp2_with fail
  refine HA.out.mono ?_
  rintro e w1 ⟨rfl, hT1⟩
  have HT := Lib.hid hT1
  clear hT1
  go_wp2
  go_ret
  exact ⟨rfl, HT.out⟩
theorem places_bad (A : Option Addr) (n cap p : Nat) (b : Bs) (w : World) (hn : b.length = n) (h : ¬ 2000 < n) (hcap : n ≤ cap) (hc63 : cap ≤ 9223372036854775807) (hb : BAt w A b) (hx : lexL b = .bad p) (hev : EV w) : Calls Tryd.prog 6 #[.slice A n cap] w fun e w' => e = .returned (.bool true) ∧ Touch NoB w w' := by
  have HA := Lib.hid (alive_any w hev)
  have HN := Lib.hid (fun n w => num_any n w)
  have HE := Lib.hid hev
  have HTK := Lib.hid (fun w1 (hT : Touch NoB w w1) => toks_bad (w := w1) hx hn (by omega) hcap hc63 (hb.touch hT) (hev.touch hT))
  have hp : p < n := by rw [← hn]; exact lex_bad hx
  have hd : decide ((2000 : Int) < (n : Int)) = false := by simp; omega
  have hp1 : decide ((0 : Int) ≤ (p : Int)) = true := by simp
  have hp2 : decide ((p : Int) < (n : Int)) = true := by simp; omega
  clear hev h hx hb hn
  go_enter Tryd.func6, Tryd.ntmps6
  go_wp2_with fail
  refine HA.out.mono ?_
  rintro e w1 ⟨rfl, hT1⟩
  have HT := Lib.hid hT1
  clear hT1
  go_wp2_with fail
  refine (HTK.out w1 HT.out).mono ?_
  rintro e w2 ⟨rfl, hT2⟩
  have HT2 := Lib.hid (HT.out.same hT2)
  clear hT2
  go_wp2_with (first | (go_at_call 13; refine (HN.out _ _).mono ?_; rintro e w' ⟨rfl, rfl⟩))
  go_ret
  exact ⟨rfl, HT2.out⟩
theorem places_good (A : Option Addr) (n cap : Nat) (b : Bs) (ts : List Tk) (w : World) (hn : b.length = n) (h : ¬ 2000 < n) (hcap : n ≤ cap) (hc63 : cap ≤ 9223372036854775807) (hb : BAt w A b) (hx : lexL b = .good ts) (hev : EV w) : Calls Tryd.prog 6 #[.slice A n cap] w fun e w' => e = .returned (.bool true) ∧ Touch NoB w w' := by
  have HA := Lib.hid (alive_any w hev)
  have HN := Lib.hid (fun n w => num_any n w)
  have HE := Lib.hid hev
  obtain ⟨m, hm⟩ : ∃ m, ts.length = m := ⟨_, rfl⟩
  have HTK := Lib.hid (fun w1 (hT : Touch NoB w w1) => toks_good (w := w1) (m := m) hx hm rfl hn (by omega) hcap hc63 (hb.touch hT) (hev.touch hT))
  have hmx : m ≤ n + 1 := by have := pl_count b 0 ts (lex_places hx); omega
  have hm0 : 0 < m := by have := good_pos hx; omega
  have hd : decide ((2000 : Int) < (n : Int)) = false := by simp; omega
  have HX := Lib.hid hx
  have HB := Lib.hid hb
  have HNN := Lib.hid hn
  have HMM := Lib.hid hm
  clear hev hx hb hn hm
  go_enter Tryd.func6, Tryd.ntmps6
  go_wp2_with fail
  refine HA.out.mono ?_
  rintro e w1 ⟨rfl, hT1⟩
  have HT := Lib.hid hT1
  clear hT1
  go_wp2_with fail
  refine (HTK.out w1 HT.out).mono ?_
  rintro e w3 ⟨g, cp, rfl, hL, hT3⟩
  have HT3 := Lib.hid (HT.out.same hT3)
  have HL := Lib.hid hL
  clear hT3 hL
  go_wp2_with (first | (go_at_call 13; refine (HN.out _ _).mono ?_; rintro e w' ⟨rfl, rfl⟩))
  go_loopw [7, 8] (fun v7 v8 wr => PcRel ts w3 v7 v8 wr) (fun _ v8 _ => m - (intOf v8).toNat)
  case atStart => exact ⟨0, Nat.zero_le _, rfl, rfl, Touch.refl _ _⟩
  case round =>
    obtain ⟨i, hi, rfl, rfl, hTr⟩ := hrel
    rw [HMM.out] at hi
    by_cases hlt : i < m
    · obtain ⟨t, ht⟩ : ∃ t, ts[i]? = some t := ⟨ts[i]'(by rw [HMM.out]; exact hlt), List.getElem?_eq_getElem _⟩
      obtain ⟨q1, q2, q3, q4, q5, q6, q7⟩ := place_at HX.out ht
      obtain ⟨k0, k1, k2, k3⟩ := (HL.out.touch hTr).at_ i t ht
      have hgl := (HL.out.touch hTr).lt
      rw [HNN.out] at q2 q4 q6
      rw [HMM.out] at q5 q6
      have HTr := Lib.hid hTr
      obtain ⟨vs, hvs, hvc⟩ := win_text (l := t.pl) (h := t.pl + t.tx.length) HB.out HNN.out hcap (by omega) (by omega)
      rw [q3] at hvc
      obtain ⟨sx, hsx⟩ : ∃ sx, bs t.tx = sx := ⟨_, rfl⟩
      have hsz : sx.size = t.tx.length := by rw [← hsx, bs_size]
      rw [hsx] at hvc k3
      obtain ⟨kd, hkd⟩ : ∃ kd, t.kd = kd := ⟨_, rfl⟩
      obtain ⟨nn, hnn⟩ : ∃ nn, t.n = nn := ⟨_, rfl⟩
      obtain ⟨pl, hpl⟩ : ∃ pl, t.pl = pl := ⟨_, rfl⟩
      obtain ⟨ln, hln⟩ : ∃ ln, t.tx.length = ln := ⟨_, rfl⟩
      rw [hkd] at k0 q5
      rw [hnn] at k1
      rw [hpl] at k2 q1 q2 q4 q6 q7 hvs
      rw [hln] at q4 hsz hvs
      obtain ⟨wz, hwz⟩ : ∃ wz, wasL ts i = wz := ⟨_, rfl⟩
      rw [hwz] at q1 ⊢
      have H7 := Lib.hid q7
      have hvcW : ∀ W, Touch NoB wr W → (convert 22 9 vs).run Tryd.prog W = .ok (.string sx) W := fun W hW => hvc W ((HT3.out.same HTr.out).same hW)
      clear hTr ht q3 hvc hsx hkd hnn hpl hln hwz q7
      go_upto_region 12 with fail
      have hbW := alloc_blk wr #[.int .i64 kd, .int .i64 nn, .int .i64 pl, .string sx] 35 rfl
      obtain ⟨gt, hgt⟩ : ∃ gt, wr.heap.size = gt := ⟨_, rfl⟩
      obtain ⟨W4, hW4⟩ : ∃ x, wr.alloc (.cells #[.int .i64 kd, .int .i64 nn, .int .i64 pl, .string sx] 35) = x := ⟨_, rfl⟩
      have hT4 : Touch NoB wr W4 := by rw [← hW4]; exact (Touch.refl _ _).alloc _
      rw [hgt, hW4] at hbW
      rw [hgt, hW4]
      have e0 : W4.drew.cell? ⟨gt, 0, none⟩ = some (.int .i64 kd) := cell_blk hbW 0
      have e2 : W4.drew.cell? ⟨gt, 2, none⟩ = some (.int .i64 pl) := cell_blk hbW 2
      have e3 : W4.drew.cell? ⟨gt, 3, none⟩ = some (.string sx) := cell_blk hbW 3
      have e9 : W4.drew.cell? ⟨gt, 2, none⟩ = some (.int .i64 pl) := e2
      have hcv := hvcW W4.drew hT4.drew
      have hslv := hvs W4.drew
      have HT4 := Lib.hid (HTr.out.same hT4)
      obtain ⟨hh, hhh⟩ : ∃ hh, pl + ln = hh := ⟨_, rfl⟩
      rw [hhh] at hslv
      obtain ⟨q, hq⟩ : ∃ q, n - pl = q := ⟨_, rfl⟩
      have d1 : decide ((pl : Int) ≤ wz) = false := by simp; omega
      have d2 : decide ((n : Int) < (pl : Int)) = false := by simp; omega
      have d3 : IntKind.i64.wrap ((n : Int) - (pl : Int)) = (q : Int) := by
        rw [show (n : Int) - (pl : Int) = (q : Int) from by omega]; exact IntWalk.i64_in _ (by omega)
      have d4 : decide ((q : Int) < (ln : Int)) = false := by simp; omega
      have n4 : ¬ q < ln := by omega
      have n2 : ¬ n < pl := by omega
      have d5 : IntKind.i64.wrap ((pl : Int) + (ln : Int)) = (hh : Int) := by
        rw [show (pl : Int) + (ln : Int) = (hh : Int) from by omega]; exact IntWalk.i64_in _ (by omega)
      have d6 : (sx.toList != sx.toList) = false := by simp
      obtain ⟨m1, hm1⟩ : ∃ m1, m - 1 = m1 := ⟨_, rfl⟩
      have d8 : IntKind.i64.wrap ((m : Int) - 1) = (m1 : Int) := by
        rw [show (m : Int) - 1 = (m1 : Int) from by omega]; exact IntWalk.i64_in _ (by omega)
      obtain ⟨kb, d7, d9⟩ : ∃ kb, ((kd : Int) == 0) = kb ∧ ((i : Int) == (m1 : Int)) = kb := by
        refine ⟨decide (kd = 0), by rw [Bool.eq_iff_iff]; simp, by rw [Bool.eq_iff_iff]; simp; rw [q5]; omega⟩
      have d10 : (kb != kb) = false := by simp
      have HB4 := Lib.hid hbW
      clear hvs hvcW hT4 hW4 hgt hhh hq hm1 k0 k1 k2 k3 hbW
      go_region
      go_wp2
      go_roundw
      case rel => exact ⟨i + 1, by rw [HMM.out]; omega, by go_num, by rw [H7.out], HT4.out.drew⟩
      case measure => simp [intOf]; omega
    · obtain rfl : i = m := by omega
      obtain ⟨m1, hm1⟩ : ∃ m1, i - 1 = m1 := ⟨_, rfl⟩
      obtain ⟨t, ht⟩ : ∃ t, ts[m1]? = some t := ⟨ts[m1]'(by rw [HMM.out]; omega), List.getElem?_eq_getElem _⟩
      obtain ⟨-, -, -, -, -, q6, -⟩ := place_at HX.out ht
      have q8 := q6 (by rw [HMM.out]; omega)
      rw [HNN.out] at q8
      obtain ⟨-, -, k2, -⟩ := (HL.out.touch hTr).at_ m1 t ht
      rw [q8] at k2
      have hgl := (HL.out.touch hTr).lt
      have d8 : IntKind.i64.wrap ((i : Int) - 1) = (m1 : Int) := by
        rw [show (i : Int) - 1 = (m1 : Int) from by omega]; exact IntWalk.i64_in _ (by omega)
      have hml : m1 < i := by omega
      have d9 : decide ((0 : Int) < (i : Int)) = true := by simp; omega
      obtain ⟨wz, hwz⟩ : ∃ wz, wasL ts i = wz := ⟨_, rfl⟩
      rw [hwz]
      have HT9 := Lib.hid (HT3.out.same hTr)
      clear hTr ht q6 q8 hm1 hwz
      go_wp2
      go_ret
      exact ⟨rfl, HT9.out⟩
theorem places_any (A : Option Addr) (n cap : Nat) (b : Bs) (w : World) (hn : b.length = n) (hcap : n ≤ cap) (hc63 : cap ≤ 9223372036854775807) (hb : BAt w A b) (hev : EV w) : Calls Tryd.prog 6 #[.slice A n cap] w fun e w' => e = .returned (.bool true) ∧ Touch NoB w w' := by
  by_cases h : 2000 < n
  · exact places_long A n cap w h hev
  · cases hx : lexL b with
    | good ts => exact places_good A n cap b ts w hn h hcap hc63 hb hx hev
    | bad p => exact places_bad A n cap p b w hn h hcap hc63 hb hx hev
end Go.Proofs.YtmgmmbeldhleoaaDoor
