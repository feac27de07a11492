/-
  What the document's own pick does with a reader in memory. Conditions: what it calls does as the model says.
-/
import Derived.Test.YtnphaaahdlkmhaaGreatZs26
import Derived.Test.YtnphaaahdlkmhaaGreatZs25
import Derived.Test.YtnphaaahdlkmhaaGreatZs6
import Derived.Deep.RegionLaw
import Derived.Test.YtnphaaahdlkmhaaGreatZs5
import Derived.Lib.AppendStr
import Derived.Deep.AppendLies
import Derived.Lib.AppendZeros
import Derived.WalkKit
import Derived.Shelf.Small.Strs
import Derived.Shelf.Strconv.AtoiAll
import Derived.Shelf.Bytes.Small
import Derived.Shelf.Strconv.AppendIntPublic10
section
namespace Go.Proofs.YtnphaaahdlkmhaaGreat
open Go.ChangeShapes Go.WideShapes Go.ChangeAt Go.RowKit
set_option maxRecDepth 100000
set_option maxHeartbeats 8000000

theorem ex_one {w : World} {Q : Nat → Prop} {x : Ex} {l : List Value} (h : XAt w Q x l) : ∀ u ∈ l, u.oneCell' = true := by
  obtain ⟨a, b, s, A, m, c, rfl, -⟩ := h
  intro u hu
  simp only [List.mem_cons, List.not_mem_nil, or_false] at hu
  rcases hu with rfl | rfl | rfl | rfl <;> rfl
theorem rpick_any {gp g n cp L d D : Nat} {ts : List Tk} {sub : St → Nd × St} (hnk : NumsOk ts) (HS : RNodeOk gp g n cp ts L d D sub) (hbad : ∀ σ : St, σ.2 ≠ 0 → (sub σ).2.2 ≠ 0) {w : World} {σ : St} (h : RT w gp g n cp ts L σ) (hg : g < w.heap.size) :
    Calls Tryz.prog 34 #[.pointer (some ⟨gp, 0, none⟩), .int .i64 (d : Int)] w (RPP w gp g n cp ts L D (picV ts sub σ) (picS ts sub σ)) := by
  have HW := Lib.hid (t_want h [123])
  have hgp := h.lt
  unfold picV picS
  obtain ⟨σ1, hσ1⟩ : ∃ s, exS ts [123] σ = s := ⟨_, rfl⟩
  rw [hσ1] at HW ⊢
  obtain ⟨R0, hR0⟩ : ∃ r, picR ts sub 17 [] [] σ1 = r := ⟨_, rfl⟩
  rw [hR0]
  have HR0 := Lib.hid hR0
  have HSS := Lib.hid HS
  have HNK := Lib.hid hnk
  have HBAD := Lib.hid hbad
  clear hbad h hσ1 hR0 HS hnk
  go_enter Tryz.func34, Tryz.ntmps34
  go_wp2_with fail
  refine HW.out.mono ?_
  rintro x w1 ⟨rfl, hr, ht⟩
  have HE := Lib.hid (And.intro hr ht)
  clear hr ht
  go_wp2
  go_loopw [6, 7] (fun v6 v7 wr => PkRelV w gp g n cp ts L D sub R0 v6 v7 wr) (fun _ v _ => 17 - (match v with | .slice _ k _ => k | _ => 0))
  case atStart => exact ⟨17, [], [], σ1, [], [], [], [], fun _ => False, ⟨⟨HE.out.2, ⟨by simp, .inl ⟨rfl, rfl⟩⟩, .nil, ⟨by simp, .inl ⟨rfl, rfl⟩⟩, .nil, fun k hk => hk.elim⟩, HE.out.1, ⟨rfl, rfl⟩, ⟨rfl, by simp⟩, fun _ => ⟨rfl, rfl⟩, HR0.out⟩, ⟨none, 0, rfl⟩, none, 0, rfl⟩
  case round =>
    obtain ⟨f, wm, lm, s, ws, ys, l, xs, Q, hb, ⟨A, c, rfl⟩, A1, c1x, rfl⟩ := hrel
    have HB := Lib.hid hb
    have hs1 := hb.m.t.size
    obtain ⟨c1, c2, cl⟩ := hb.rt.cells
    obtain ⟨m, hm⟩ : ∃ m, l.length = m := ⟨_, rfl⟩
    have hwm : ws.length = m := by rw [← hm]; exact hb.len.2
    have hm17 : m ≤ 16 := by have := hb.le; omega
    have HX := Lib.hid (t_want hb.rt [125])
    rw [hm, hwm]
    clear hb
    by_cases he : s.2 = 0
    · have hee : ((s.2 : Int) == 0) = true := by rw [he]; rfl
      have hml : lm.length = m := by rw [← hm]; exact HB.out.len.1.symm
      have HEQ := Lib.hid (fun (W : World) (t : Touch NoB wr W) => t_expr HNK.out (HB.out.rt.touch t))
      by_cases hm0 : m = 0
      · have hmm : ((m : Int) == 0) = true := by rw [hm0]; rfl
        have hge : decide ((16 : Int) ≤ (m : Int)) = false := by simp; omega
        have HMD := Lib.hid (show s.2 = 0 ∧ (lm.length = 0 ∨ isS ts [125] s = false) from ⟨he, .inl (by omega)⟩)
        have HM0 := Lib.hid (show m < 16 by omega)
        have HT4 := Lib.hid (Touch.refl NoB wr)
        clear HX hm0
        go_wp2_with fail
        refine (HEQ.out _ HT4.out).mono ?_
        rintro x w6 ⟨q, a0, a1, a2, B0, b0, b1, rfl, hq, hr6, hqo, -, ht6⟩
        have tW6 : Touch (AtB gp) wr w6 := (Touch.anyB HT4.out).same ht6
        have hm6 := HB.out.m.go tW6 hgp
        have hs6 := tW6.size
        have hs46 := ht6.size
        have hs04 := HT4.out.size
        have hx6 : XAt w6 (fun k => Q k ∨ (wr.heap.size ≤ k ∧ k < w6.heap.size)) q [.int .i64 a0, .int .i64 a1, .string a2, .slice B0 b0 b1] := ⟨a0, a1, a2, B0, b0, b1, rfl, hq.via (fun k hk hlt => .inr ⟨by omega, hlt⟩)⟩
        obtain ⟨i0, hi0, hz0, hz1, hz2⟩ := info_ex'
        have hrx := hm6.rowx
        rw [hwm] at hrx
        obtain ⟨gx, capx, w8, hrun, hown, TR, hat⟩ := own_app (S := 42) Tryz.underlying42 hi0 hz0 hz1 hz2 rfl (by decide) (by decide) hrx (by omega) [.int .i64 a0, .int .i64 a1, .string a2, .slice B0 b0 b1] rfl (ex_one hx6) (by omega) rfl
        have HA := Lib.hid hrun
        have hm8 : PkM w gp D (ws ++ [q]) (ys ++ [.int .i64 a0, .int .i64 a1, .string a2, .slice B0 b0 b1]) l xs (fun k => Q k ∨ (wr.heap.size ≤ k ∧ k < w6.heap.size)) (.slice (some ⟨gx, 0, none⟩) (m + 1) capx) (.slice A l.length c) w8 := by
          have := hm6.addX (gd := gx) (cap := capx) hx6 (by rw [hwm]; exact hown) (by rw [hwm]; exact TR) (by rw [hwm]; exact hat)
          rw [hwm] at this
          exact this
        have hr8 := hr6.row TR (fun e => by have := row_base hrx _ e; omega) (fun e => by have := row_base hrx _ e; omega)
        have hs8 := TR.size
        have HX8 := Lib.hid (t_want hr8 [58])
        have HM8 := Lib.hid hm8
        have HQO := Lib.hid hqo
        clear hq hr6 hqo ht6 tW6 hm6 hx6 hi0 hz0 hz1 hz2 hrx hrun hown TR hat hm8 hr8
        obtain ⟨v6, hv6⟩ : ∃ v6, Value.slice A1 m c1x = v6 := ⟨_, rfl⟩
        rw [hv6] at HA ⊢
        clear hv6
        go_wp2_with (at_builtin; refine Lib.wpList_append_run _ rfl _ _ _ _ rfl _ _ rfl rfl _ _ HA.out ?_)
        refine HX8.out.mono ?_
        rintro x w9 ⟨rfl, hr9, ht9⟩
        have hs9 := ht9.size
        have HC := Lib.hid (HSS.out w9 _ hr9 (by omega))
        have HM9 := Lib.hid (HM8.out.go ht9 hgp)
        clear hr9 ht9
        go_wp2_with fail
        refine HC.out.mono ?_
        rintro x w10 ⟨ht10, hr10, y, e0, e1, e2, B, bm, bc, A3, d1, A2, d2, rfl, hnt, hyo⟩
        have hsz10 := ht10.size
        have hm10 := HM9.out.go ht10 hgp
        have hrow := hm10.row
        rw [hm] at hrow
        obtain ⟨i0, hi0, hz0, hz1, hz2⟩ := info_nd'
        obtain ⟨gd, cap, w12, hrun, hown, TR, hat⟩ := own_app (S := 60) Tryz.underlying60 hi0 hz0 hz1 hz2 rfl (by decide) (by decide) hrow (by omega) [.int .i64 (y.kd : Int), .int .i64 (y.a : Int), .int .i64 (y.b : Int), .string (bs y.nm), .int .i64 e0, .int .i64 e1, .string e2, .slice B bm bc, .slice A3 y.ks.length d1, .slice A2 y.ws.length d2] rfl (nt_one hnt) (by omega) rfl
        have HA2 := Lib.hid hrun
        have hm12 := hm10.addN (gd := gd) (cap := cap) (NT.via (fun k hk hlt => .inr ⟨hk, hlt⟩) D y _ hnt) (by rw [hm]; exact hown) (by rw [hm]; exact TR) (by rw [hm]; exact hat)
        rw [hm] at hm12
        have hr12 := hr10.row TR (fun e => by have := row_base hrow _ e; omega) (fun e => by have := row_base hrow _ e; omega)
        obtain ⟨f1, hf1⟩ : ∃ f1, f = f1 + 1 := ⟨f - 1, by have := HB.out.le; omega⟩
        have HN := Lib.hid (show PkRelV w gp g n cp ts L D sub R0 (.slice (some ⟨gx, 0, none⟩) (m + 1) capx) (.slice (some ⟨gd, 0, none⟩) (m + 1) cap) w12 from
          ⟨f1, wm ++ [eqV ts s], lm ++ [(sub (exS ts [58] (eqS ts s))).1], (sub (exS ts [58] (eqS ts s))).2, ws ++ [q], _, l ++ [y], _, _, ⟨hm12, hr12, ⟨by simp; exact HB.out.len.1, by simp; exact HB.out.len.2⟩, ⟨by have := HB.out.le; simp only [List.length_append, List.length_cons, List.length_nil]; omega, by have := HM0.out; simp only [List.length_append, List.length_cons, List.length_nil]; omega⟩,
            fun e => ⟨by rw [(HB.out.ok he).1, HQO.out (by by_cases hc : (exS ts [58] (eqS ts s)).2 = 0; exact exS_ok hc; exact absurd e (HBAD.out _ hc))], by rw [(HB.out.ok he).2, hyo e]⟩, by have := HB.out.md; rw [hf1, picR_step HMD.out (by have := HM0.out; omega)] at this; exact this⟩, ⟨some ⟨gd, 0, none⟩, cap, by simp [hm]⟩, some ⟨gx, 0, none⟩, capx, by simp [hwm]⟩)
        clear hnt hyo hrow hrun hown TR hat hr10 ht10 hm10 hm12 hr12 hf1 HB HC HMD hi0 hz0 hz1 hz2
        obtain ⟨v7, hv7⟩ : ∃ v7, Value.slice A m c = v7 := ⟨_, rfl⟩
        rw [hv7] at HA2 ⊢
        clear hv7
        go_wp2_with (at_builtin; refine Lib.wpList_append_run _ rfl _ _ _ _ rfl _ _ rfl rfl _ _ HA2.out ?_)
        go_roundw
        case rel => exact HN.out
        case measure => simp; omega
      · have hmm : ((m : Int) == 0) = false := by simp; omega
        have HI := Lib.hid (t_is HB.out.rt [125] he)
        cases hi : isS ts [125] s with
        | true =>
          rw [hi] at HI
          have hst : R0 = ((wm, lm), s) := HB.out.md.symm.trans (picR_stop (by rw [hi]; intro h; rcases h.2 with h | h; omega; cases h))
          have HST := Lib.hid hst
          clear hst HEQ
          go_wp2_with fail
          refine HI.out.mono ?_
          rintro x w4 ⟨rfl, hT4⟩
          have HX4 := Lib.hid (t_want (HB.out.rt.touch hT4) [125])
          have HT4 := Lib.hid hT4
          clear hT4 HX
          go_wp2_with fail
          refine HX4.out.mono ?_
          rintro x w5 ⟨rfl, hr5, ht5⟩
          have HF := Lib.hid (And.intro hr5 ht5)
          clear hr5 ht5
          go_wp2
          have hfin := pk_fin HB.out ((Touch.anyB HT4.out).same HF.out.2) hgp (by rw [HST.out]) (by rw [HST.out]; exact fun h => h) (by rw [HST.out]; exact HF.out.1)
          rw [hm, hwm] at hfin
          exact bodyPost_ret (v := .tuple #[.slice A1 m c1x, .slice A m c]) (by simp [results, Tryz.results34, go_sem]) rfl hfin
        | false =>
          rw [hi] at HI
          have HMD := Lib.hid (show s.2 = 0 ∧ (lm.length = 0 ∨ isS ts [125] s = false) from ⟨he, .inr hi⟩)
          by_cases h16 : 16 ≤ m
          · have hge : decide ((16 : Int) ≤ (m : Int)) = true := by simp; omega
            obtain ⟨f1, hf1⟩ : ∃ f1, f = f1 + 1 := ⟨f - 1, by have := HB.out.le; omega⟩
            have hst : R0 = ((wm, lm), failS 9 s) := by have := HB.out.md; rw [hf1, picR_many HMD.out (by omega)] at this; exact this.symm
            have HST := Lib.hid hst
            clear hst hf1 HEQ
            go_wp2_with fail
            refine HI.out.mono ?_
            rintro x w4 ⟨rfl, hT4⟩
            have HX4 := Lib.hid (t_fail (HB.out.rt.touch hT4) 9)
            have HT4 := Lib.hid hT4
            clear hT4 HX
            go_wp2_with fail
            refine HX4.out.mono ?_
            rintro x w6 ⟨rfl, hr6, ht6⟩
            have HX6 := Lib.hid (t_want hr6 [125])
            have HT6 := Lib.hid ((Touch.anyB HT4.out).same ht6)
            clear hr6 ht6
            go_wp2_with fail
            refine HX6.out.mono ?_
            rintro x w5 ⟨rfl, hr5, ht5⟩
            have HF := Lib.hid (And.intro hr5 ht5)
            clear hr5 ht5
            go_wp2
            have hfin := pk_fin HB.out (HT6.out.same HF.out.2) hgp (by rw [HST.out]) (by rw [HST.out]; intro _; exact he) (by rw [HST.out]; exact HF.out.1)
            rw [hm, hwm] at hfin
            exact bodyPost_ret (v := .tuple #[.slice A1 m c1x, .slice A m c]) (by simp [results, Tryz.results34, go_sem]) rfl hfin
          · have hge : decide ((16 : Int) ≤ (m : Int)) = false := by simp; omega
            clear HX
            have HM0 := Lib.hid (show m < 16 by omega)
            go_wp2_with fail
            refine HI.out.mono ?_
            rintro x w4 ⟨rfl, hT4⟩
            have HT4 := Lib.hid hT4
            have hsz4 := hT4.size
            clear hT4
            go_wp2_with fail
            refine (HEQ.out _ HT4.out).mono ?_
            rintro x w6 ⟨q, a0, a1, a2, B0, b0, b1, rfl, hq, hr6, hqo, -, ht6⟩
            have tW6 : Touch (AtB gp) wr w6 := (Touch.anyB HT4.out).same ht6
            have hm6 := HB.out.m.go tW6 hgp
            have hs6 := tW6.size
            have hs46 := ht6.size
            have hs04 := HT4.out.size
            have hx6 : XAt w6 (fun k => Q k ∨ (wr.heap.size ≤ k ∧ k < w6.heap.size)) q [.int .i64 a0, .int .i64 a1, .string a2, .slice B0 b0 b1] := ⟨a0, a1, a2, B0, b0, b1, rfl, hq.via (fun k hk hlt => .inr ⟨by omega, hlt⟩)⟩
            obtain ⟨i0, hi0, hz0, hz1, hz2⟩ := info_ex'
            have hrx := hm6.rowx
            rw [hwm] at hrx
            obtain ⟨gx, capx, w8, hrun, hown, TR, hat⟩ := own_app (S := 42) Tryz.underlying42 hi0 hz0 hz1 hz2 rfl (by decide) (by decide) hrx (by omega) [.int .i64 a0, .int .i64 a1, .string a2, .slice B0 b0 b1] rfl (ex_one hx6) (by omega) rfl
            have HA := Lib.hid hrun
            have hm8 : PkM w gp D (ws ++ [q]) (ys ++ [.int .i64 a0, .int .i64 a1, .string a2, .slice B0 b0 b1]) l xs (fun k => Q k ∨ (wr.heap.size ≤ k ∧ k < w6.heap.size)) (.slice (some ⟨gx, 0, none⟩) (m + 1) capx) (.slice A l.length c) w8 := by
              have := hm6.addX (gd := gx) (cap := capx) hx6 (by rw [hwm]; exact hown) (by rw [hwm]; exact TR) (by rw [hwm]; exact hat)
              rw [hwm] at this
              exact this
            have hr8 := hr6.row TR (fun e => by have := row_base hrx _ e; omega) (fun e => by have := row_base hrx _ e; omega)
            have hs8 := TR.size
            have HX8 := Lib.hid (t_want hr8 [58])
            have HM8 := Lib.hid hm8
            have HQO := Lib.hid hqo
            clear hq hr6 hqo ht6 tW6 hm6 hx6 hi0 hz0 hz1 hz2 hrx hrun hown TR hat hm8 hr8
            obtain ⟨v6, hv6⟩ : ∃ v6, Value.slice A1 m c1x = v6 := ⟨_, rfl⟩
            rw [hv6] at HA ⊢
            clear hv6
            go_wp2_with (at_builtin; refine Lib.wpList_append_run _ rfl _ _ _ _ rfl _ _ rfl rfl _ _ HA.out ?_)
            refine HX8.out.mono ?_
            rintro x w9 ⟨rfl, hr9, ht9⟩
            have hs9 := ht9.size
            have HC := Lib.hid (HSS.out w9 _ hr9 (by omega))
            have HM9 := Lib.hid (HM8.out.go ht9 hgp)
            clear hr9 ht9
            go_wp2_with fail
            refine HC.out.mono ?_
            rintro x w10 ⟨ht10, hr10, y, e0, e1, e2, B, bm, bc, A3, d1, A2, d2, rfl, hnt, hyo⟩
            have hsz10 := ht10.size
            have hm10 := HM9.out.go ht10 hgp
            have hrow := hm10.row
            rw [hm] at hrow
            obtain ⟨i0, hi0, hz0, hz1, hz2⟩ := info_nd'
            obtain ⟨gd, cap, w12, hrun, hown, TR, hat⟩ := own_app (S := 60) Tryz.underlying60 hi0 hz0 hz1 hz2 rfl (by decide) (by decide) hrow (by omega) [.int .i64 (y.kd : Int), .int .i64 (y.a : Int), .int .i64 (y.b : Int), .string (bs y.nm), .int .i64 e0, .int .i64 e1, .string e2, .slice B bm bc, .slice A3 y.ks.length d1, .slice A2 y.ws.length d2] rfl (nt_one hnt) (by omega) rfl
            have HA2 := Lib.hid hrun
            have hm12 := hm10.addN (gd := gd) (cap := cap) (NT.via (fun k hk hlt => .inr ⟨hk, hlt⟩) D y _ hnt) (by rw [hm]; exact hown) (by rw [hm]; exact TR) (by rw [hm]; exact hat)
            rw [hm] at hm12
            have hr12 := hr10.row TR (fun e => by have := row_base hrow _ e; omega) (fun e => by have := row_base hrow _ e; omega)
            obtain ⟨f1, hf1⟩ : ∃ f1, f = f1 + 1 := ⟨f - 1, by have := HB.out.le; omega⟩
            have HN := Lib.hid (show PkRelV w gp g n cp ts L D sub R0 (.slice (some ⟨gx, 0, none⟩) (m + 1) capx) (.slice (some ⟨gd, 0, none⟩) (m + 1) cap) w12 from
              ⟨f1, wm ++ [eqV ts s], lm ++ [(sub (exS ts [58] (eqS ts s))).1], (sub (exS ts [58] (eqS ts s))).2, ws ++ [q], _, l ++ [y], _, _, ⟨hm12, hr12, ⟨by simp; exact HB.out.len.1, by simp; exact HB.out.len.2⟩, ⟨by have := HB.out.le; simp only [List.length_append, List.length_cons, List.length_nil]; omega, by have := HM0.out; simp only [List.length_append, List.length_cons, List.length_nil]; omega⟩,
                fun e => ⟨by rw [(HB.out.ok he).1, HQO.out (by by_cases hc : (exS ts [58] (eqS ts s)).2 = 0; exact exS_ok hc; exact absurd e (HBAD.out _ hc))], by rw [(HB.out.ok he).2, hyo e]⟩, by have := HB.out.md; rw [hf1, picR_step HMD.out (by have := HM0.out; omega)] at this; exact this⟩, ⟨some ⟨gd, 0, none⟩, cap, by simp [hm]⟩, some ⟨gx, 0, none⟩, capx, by simp [hwm]⟩)
            clear hnt hyo hrow hrun hown TR hat hr10 ht10 hm10 hm12 hr12 hf1 HB HC HMD hi0 hz0 hz1 hz2
            obtain ⟨v7, hv7⟩ : ∃ v7, Value.slice A m c = v7 := ⟨_, rfl⟩
            rw [hv7] at HA2 ⊢
            clear hv7
            go_wp2_with (at_builtin; refine Lib.wpList_append_run _ rfl _ _ _ _ rfl _ _ rfl rfl _ _ HA2.out ?_)
            go_roundw
            case rel => exact HN.out
            case measure => simp; omega
    · have hee : ((s.2 : Int) == 0) = false := by simp; omega
      have hst : R0 = ((wm, lm), s) := HB.out.md.symm.trans (picR_stop (fun h => he h.1))
      have HST := Lib.hid hst
      clear hst
      go_wp2_with fail
      refine HX.out.mono ?_
      rintro x w5 ⟨rfl, hr5, ht5⟩
      have HF := Lib.hid (And.intro hr5 ht5)
      clear hr5 ht5
      go_wp2
      have hfin := pk_fin HB.out HF.out.2 hgp (by rw [HST.out]) (by rw [HST.out]; exact fun h => h) (by rw [HST.out]; exact HF.out.1)
      rw [hm, hwm] at hfin
      exact bodyPost_ret (v := .tuple #[.slice A1 m c1x, .slice A m c]) (by simp [results, Tryz.results34, go_sem]) rfl hfin
end Go.Proofs.YtnphaaahdlkmhaaGreat
end
/-
  What stands in memory while the document's own node reads. No condition beyond those that each theorem names.
-/
section
namespace Go.Proofs.YtnphaaahdlkmhaaGreat
open Go.ChangeShapes Go.WideShapes Go.ChangeAt Go.RowKit
set_option maxRecDepth 100000
set_option maxHeartbeats 8000000

def zNd : List Value := [.int .i64 0, .int .i64 0, .int .i64 0, .string ⟨#[]⟩, .int .i64 0, .int .i64 0, .string ⟨#[]⟩, .slice none 0 0, .slice none 0 0, .slice none 0 0]
/-- The node that is being read lies behind the result's; its ten cells. -/
structure NS5 (w : World) (gp g n cp : Nat) (ts : List Tk) (L : Nat) (σ : St) (vs : List Value) (cur : World) : Prop where
  rt : RT cur gp g n cp ts L σ
  t : Touch (AtB gp) w cur
  h5 : cur.heap[w.heap.size + 1]? = some (.cells vs.toArray 62 (0, 0))
  h4 : cur.heap[w.heap.size]? = some (.cells zNd.toArray 62 (0, 0))
section
variable {w cur w' : World} {gp g n cp L : Nat} {ts : List Tk} {σ σ' : St} {vs : List Value}
theorem NS5.start (h : RT w gp g n cp ts L σ) {W0 : World} (hW : (w.alloc (.cells zNd.toArray 62)).alloc (.cells zNd.toArray 62) = W0) : NS5 w gp g n cp ts L σ zNd W0 := by
  have t0 : Touch NoB w W0 := by rw [← hW]; exact ((Touch.refl _ _).alloc _).alloc _
  refine ⟨h.touch t0, Touch.anyB t0, ?_, ?_⟩
  · rw [← hW]; exact alloc_blk _ _ _ (by simp only [World.size_alloc])
  · rw [← hW]
    have hx : (w.alloc (.cells zNd.toArray 62)).heap[w.heap.size]? = some (.cells zNd.toArray 62 (0, 0)) := alloc_blk _ _ _ rfl
    rw [heap_alloc_old _ _ (blk_lt hx)]
    exact hx
theorem NS5.call (h : NS5 w gp g n cp ts L σ vs cur) (hgp : gp < w.heap.size) (hr : RT w' gp g n cp ts L σ') (t : Touch (AtB gp) cur w') : NS5 w gp g n cp ts L σ' vs w' :=
  ⟨hr, h.t.same t, (t.block _ (blk_lt h.h5) (by unfold AtB; omega)).trans h.h5, (t.block _ (blk_lt h.h4) (by unfold AtB; omega)).trans h.h4⟩
theorem NS5.quiet (h : NS5 w gp g n cp ts L σ vs cur) (hgp : gp < w.heap.size) (t : Touch NoB cur w') : NS5 w gp g n cp ts L σ vs w' := h.call hgp (h.rt.touch t) (Touch.anyB t)
theorem NS5.set (h : NS5 w gp g n cp ts L σ vs cur) (hgp : gp < w.heap.size) (hg : g < w.heap.size) (i : Nat) (v : Value) {us : List Value} (e : vs.set i v = us) : NS5 w gp g n cp ts L σ us (cur.setCell ⟨w.heap.size + 1, i, none⟩ v) := by
  subst e
  have tt : Touch (fun b => b = w.heap.size + 1) cur (cur.setCell ⟨w.heap.size + 1, i, none⟩ v) := (Touch.refl (fun b => b = w.heap.size + 1) cur).setCell (p := ⟨w.heap.size + 1, i, none⟩) (.inl rfl) v
  refine ⟨h.rt.touchX tt (by omega) (by omega), h.t.setCell (p := ⟨w.heap.size + 1, i, none⟩) (.inr (by simp only; omega)) v, ?_, (tt.block _ (blk_lt h.h4) (by omega)).trans h.h4⟩
  have := set_blk h.h5 i v
  rw [this]
  congr 2
  simp
theorem NS5.lt (h : NS5 w gp g n cp ts L σ vs cur) : w.heap.size + 1 < cur.heap.size := blk_lt h.h5
theorem NS5.free (h : NS5 w gp g n cp ts L σ vs cur) (i : Nat) : cur.frozen? ⟨w.heap.size + 1, i, none⟩ = false := free_blk h.h5 i
/-- Blocks that the node's own stores reach. -/
def F3 (gp : Nat) (w : World) (b : Nat) : Prop := b = gp ∨ b = w.heap.size ∨ b = w.heap.size + 1
/-- The node is told. -/
theorem NS5.fin (h : NS5 w gp g n cp ts L σ vs cur) (hgp : gp < w.heap.size) (hg : g < w.heap.size) (hl : vs.length = 10) (h1 : ∀ v ∈ vs, v.oneCell' = true) :
    (LoadNd (.pointer (some ⟨w.heap.size + 1, 0, none⟩))).run Tryz.prog cur = .ok (.agg vs.toArray) cur ∧
    ∃ W', (StoreNd (.pointer (some ⟨w.heap.size, 0, none⟩)) (.agg vs.toArray)).run Tryz.prog cur = .ok () W' ∧ W'.rangeAt w.heap.size 0 vs ∧ RT W' gp g n cp ts L σ ∧ Touch (AtB gp) w W' ∧ Touch (F3 gp w) cur W' := by
  refine ⟨run_LoadNd cur (w.heap.size + 1) 0 vs hl (fun j v hj => by rw [Lib.cell_of_heap h.h5]; simpa using hj), ?_⟩
  obtain ⟨W', hr, hra, ht⟩ := run_StoreNd cur w.heap.size vs hl h1 h.h4 rfl
  refine ⟨W', hr, hra, h.rt.touchX ht hgp hg, h.t.trans ht (fun k hk => .inr (by omega)), ht.mono (fun k hk => .inr (.inl hk))⟩
end
theorem range_cells {W : World} {b : Nat} {v0 v1 v2 v3 v4 v5 v6 v7 v8 v9 : Value} (h : W.rangeAt b 0 [v0, v1, v2, v3, v4, v5, v6, v7, v8, v9]) :
    W.cell? ⟨b, 0, none⟩ = some v0 ∧ W.cell? ⟨b, 1, none⟩ = some v1 ∧ W.cell? ⟨b, 2, none⟩ = some v2 ∧ W.cell? ⟨b, 3, none⟩ = some v3 ∧ W.cell? ⟨b, 4, none⟩ = some v4 ∧ W.cell? ⟨b, 5, none⟩ = some v5 ∧ W.cell? ⟨b, 6, none⟩ = some v6 ∧ W.cell? ⟨b, 7, none⟩ = some v7 ∧ W.cell? ⟨b, 8, none⟩ = some v8 ∧ W.cell? ⟨b, 9, none⟩ = some v9 :=
  ⟨by have := h 0 _ rfl; simpa using this, by have := h 1 _ rfl; simpa using this, by have := h 2 _ rfl; simpa using this, by have := h 3 _ rfl; simpa using this, by have := h 4 _ rfl; simpa using this, by have := h 5 _ rfl; simpa using this, by have := h 6 _ rfl; simpa using this, by have := h 7 _ rfl; simpa using this, by have := h 8 _ rfl; simpa using this, by have := h 9 _ rfl; simpa using this⟩
def manyW : List Bs := [[115, 101, 113], [115, 101, 108], [109, 115, 101, 113], [109, 115, 101, 108], [112, 97, 114]]
theorem wd_touch {w w' : World} {b m : Nat} {ws : List Bs} (h : WdAt w b m ws) (t : Touch NoB w w') : WdAt w' b m ws :=
  ⟨h.1, Nat.lt_of_lt_of_le h.2.1 t.size, fun i s hi => (t.cell (p := ⟨b, i, none⟩) h.2.1 (fun x => x)).trans (h.2.2 i s hi)⟩
/-- What the loop over the words of nodes in braces carries, while none has come. -/
def NlRel (w : World) (gp g n cp : Nat) (ts : List Tk) (L : Nat) (σ : St) (W1 : World) (k : Nat) (v : Value) (wr : World) : Prop := ∃ i : Nat, i ≤ k ∧ v = .int .i64 i ∧ NS5 w gp g n cp ts L σ zNd wr ∧ Touch NoB W1 wr
/-- No kids, no weights. -/
theorem nt_leaf {w : World} {Q : Nat → Prop} {D : Nat} {k a b : Nat} {nm : Bs} {x : Ex} {e0 e1 : Int} {e2 : ByteArray} {A : Option Addr} {m c : Nat} (h : ET w Q x e0 e1 e2 A m c) : NT w Q (D + 1) (.mk k a b nm x [] []) [.int .i64 (k : Int), .int .i64 (a : Int), .int .i64 (b : Int), .string (bs nm), .int .i64 e0, .int .i64 e1, .string e2, .slice A m c, .slice none 0 0, .slice none 0 0] :=
  ⟨e0, e1, e2, A, m, c, _, _, [], [], rfl, h, ⟨none, 0, rfl, fun j x h => by cases h⟩, .nil, ⟨none, 0, rfl, fun j x h => by cases h⟩, .nil⟩
theorem et_zero (w : World) (Q : Nat → Prop) : ET w Q x0 0 0 ⟨#[]⟩ none 0 0 := ⟨rfl, rfl, rfl, rfl, rfl, rfl⟩
end Go.Proofs.YtnphaaahdlkmhaaGreat
end
/-
  What package expr's Right returns of valid expressions, and of one that is not. Conditions: those that each theorem names.
-/
section
namespace Go.Proofs.YtnphaaahdlkmhaaGreat
open Go.ChangeShapes Go.WideShapes Go.ChangeAt Go.RowKit
set_option maxRecDepth 100000
set_option maxHeartbeats 4000000

/-- Valid, but for its depth. -/
def vE : Ex → Prop
  | .leaf k n s => (k = 0 ∧ -9223372036854775808 < n ∧ n ≤ 9223372036854775807 ∧ s = []) ∨ (k = 1 ∧ (n = 0 ∨ n = 1) ∧ s = []) ∨ ((k = 2 ∨ k = 3) ∧ n = 0 ∧ okN s = true) ∨ ((k = 4 ∨ k = 5) ∧ n = 0 ∧ s = [])
  | .one k x => (k = 14 ∨ k = 16 ∨ k = 17 ∨ k = 18) ∧ vE x
  | .two k x y => ((6 ≤ k ∧ k ≤ 13) ∨ k = 15 ∨ k = 19) ∧ vE x ∧ vE y
end Go.Proofs.YtnphaaahdlkmhaaGreat
end
/-
  LexBlanks: what its loop builds, in memory: pieces of the bytes and blanks, appended. Conditions: those that each theorem names.
-/
section
namespace Go.Proofs.YtnphaaahdlkmhaaGreat
open Go.ChangeShapes Go.WideShapes Go.ChangeAt Go.RowKit
set_option maxRecDepth 100000
set_option maxHeartbeats 4000000

/-- Bytes as cells. -/
def bC (l : Bs) : List Value := l.map fun c => .int .u8 (c.toNat : Int)
theorem bC_app (a b : Bs) : bC (a ++ b) = bC a ++ bC b := by simp [bC]
theorem info_u8 : (Tryz.prog.info? 5).map (fun i => (i.zero, i.size, i.bytes)) = some (some (.int .u8 0), 1, 1) := by kernel_rfl
theorem info_u8' : ∃ i0, Tryz.prog.info? 5 = some i0 ∧ i0.zero = some (.int .u8 0) ∧ i0.size = 1 ∧ i0.bytes = 1 := by
  have h := info_u8
  cases hi : Tryz.prog.info? 5 with
  | none => rw [hi] at h; cases h
  | some i0 =>
    rw [hi] at h
    simp only [Option.map_some, Option.some.injEq, Prod.mk.injEq] at h
    exact ⟨i0, rfl, h.1, h.2.1, h.2.2⟩
/-- Bytes in a row of the call's own. -/
def BR (w : World) (B : Nat) (v : Value) (l : Bs) : Prop := w.ownsRow B 5 1 v l.length (bC l)
theorem BR.nil (w : World) (B : Nat) : BR w B (.slice none 0 0) [] := World.ownsRow_nil _ _ _ _
end Go.Proofs.YtnphaaahdlkmhaaGreat
end
/-
  Bytes built up for the text of an expression: appends of strings, of single bytes, of numbers, of truths. Conditions: the library's table can be read; those that each theorem names.
-/
section
namespace Go.Proofs.YtnphaaahdlkmhaaGreat
open Go.ChangeShapes Go.WideShapes Go.ChangeAt Go.RowKit
set_option maxRecDepth 100000
set_option maxHeartbeats 4000000

theorem grown_below {w w' : World} {row : Option Nat} {B : Nat} (h : w.grownBy w' row) (hr : ∀ b, row = some b → B ≤ b) (hB : B ≤ w.heap.size) : Below B w w' :=
  (show Touch (fun b => row = some b) w w' from (Touch.refl _ w).grown h (fun _ e => .inl e)).grow hr hB
theorem Touch.belowB {w w' : World} {B : Nat} (h : Touch NoB w w') (hB : B ≤ w.heap.size) : Below B w w' := h.grow (fun _ x => x.elim) hB
/-- An expression whose Kids lie below B. -/
theorem ET.below {w w' : World} {B : Nat} (h : Below B w w') {x : Ex} {a b : Int} {s : ByteArray} {A : Option Addr} {m c : Nat} (hx : ET w (fun b => b < B) x a b s A m c) : ET w' (fun b => b < B) x a b s A m c := by
  have t : Touch (fun b => B ≤ b) w w' := ⟨h.os, h.tape, h.output, h.size, fun k _ hf => h.block k (by omega)⟩
  exact hx.touch t (fun b _ _ h1 h2 => by omega)
/-- All blocks but the row's own are as they were. -/
def Kept (v : Value) (w w' : World) : Prop := w.heap.size ≤ w'.heap.size ∧ ∀ k, k < w.heap.size → v.ownBlock ≠ some k → w'.heap[k]? = w.heap[k]?
/-- What is built up: the row, and what it wants around it. -/
structure WS (w : World) (B : Nat) (v : Value) (l : Bs) : Prop where
  row : BR w B v l
  le : B ≤ w.heap.size
  tab : Lib.TabBelow Tryz.prog B w "internal/strconv.uint64pow10" .u64 Lib.pow10Tab
theorem WS.own {w : World} {B : Nat} {v : Value} {l : Bs} (h : WS w B v l) {k : Nat} (hk : v.ownBlock = some k) : B ≤ k ∧ k < w.heap.size := World.ownsRow.lt h.row k hk
theorem WS.on {w w' : World} {B : Nat} {v v' : Value} {l l' : Bs} (h : WS w B v l) (hb : Below B w w') (hr : BR w' B v' l') : WS w' B v' l' := ⟨hr, Nat.le_trans h.le hb.size, h.tab.on hb⟩
theorem WS.touch {w w' : World} {B : Nat} {v : Value} {l : Bs} (h : WS w B v l) (t : Touch NoB w w') : WS w' B v l := h.on (t.belowB h.le) (row_touch h.row t (fun _ _ x => x))
/-- One byte appended, out of a new block. -/
theorem WS.byte {w : World} {B : Nat} {v : Value} {l : Bs} (h : WS w B v l) (c : UInt8) (hl : l.length + 1 ≤ 1000000) {N : Nat} (hN : w.heap.size = N) {W : World} (hW : w.alloc (.cells #[.int .u8 (c.toNat : Int)] 5) = W) :
    ∃ v' w', (Builtin.append_ #[32, 32] 32 #[v, .slice (some ⟨N, 0, none⟩) 1 1]).run Tryz.prog W = .ok v' w' ∧ WS w' B v' (l ++ [c]) ∧ Below B w w' ∧ Kept v w w' := by
  subst hN hW
  obtain ⟨i0, hi0, hz0, hz1, hz2⟩ := info_u8'
  have t : Touch NoB w (w.alloc (.cells #[.int .u8 (c.toNat : Int)] 5)) := (Touch.refl _ _).alloc _
  have h' := h.touch t
  have hblk : (w.alloc (.cells #[.int .u8 (c.toNat : Int)] 5)).heap[w.heap.size]? = some (.cells #[.int .u8 (c.toNat : Int)] 5 (0, 0)) := alloc_blk _ _ _ rfl
  have hnews : ∀ j u, ([Value.int .u8 (c.toNat : Int)])[j]? = some u → (w.alloc (.cells #[.int .u8 (c.toNat : Int)] 5)).cell? ((⟨w.heap.size, 0, none⟩ : Addr).add j) = some u := by
    intro j u hu
    have hj : j = 0 := by have := (List.getElem?_eq_some_iff.1 hu).1; simp at this; exact this
    subst hj
    simp only [List.getElem?_cons_zero, Option.some.injEq] at hu
    subst hu
    exact cell_blk hblk 0
  obtain ⟨v', w', hrun, h1, h2, -, -⟩ := run_append_own_at (P := Tryz.prog) _ B 32 32 5 i0 _ 1 1 Tryz.underlying32 hi0 hz0 hz1 hz2 rfl (by decide) v l.length (bC l) h'.row ⟨w.heap.size, 0, none⟩ 1 1 [.int .u8 (c.toNat : Int)] (by simp) hnews (by intro u hu; simp at hu; subst hu; rfl) (by unfold maxLen; omega) (by omega) h'.le
  have hb := grown_below h2 (fun b e => (World.ownsRow.lt h'.row b e).1) h'.le
  refine ⟨v', w', hrun, h'.on hb ?_, (t.belowB h.le).trans hb, Nat.le_trans t.size h2.size, fun k hk hn => (h2.block k (Nat.lt_of_lt_of_le hk t.size) (fun e => hn e.symm)).trans (t.block k hk (fun x => x))⟩
  unfold BR
  rw [bC_app, List.length_append]
  exact h1
def truB (q : Bool) : Bs := if q = true then [116, 114, 117, 101] else [102, 97, 108, 115, 101]
end Go.Proofs.YtnphaaahdlkmhaaGreat
end
/-
  The text of an expression, told by recursion; what package expr's writePair appends. Conditions: the library's table can be read; those that each theorem names.
-/
section
namespace Go.Proofs.YtnphaaahdlkmhaaGreat
open Go.ChangeShapes Go.WideShapes Go.ChangeAt Go.RowKit
set_option maxRecDepth 100000
set_option maxHeartbeats 4000000

/-- What stands between two operands, what stands ahead of them. -/
def btw (k : Int) : Bs := if k = 15 ∨ k = 19 then [44, 32] else [32] ++ wordB k ++ [32]
def ahd (k : Int) : Bs := if k = 15 ∨ k = 19 then wordB k else []
/-- The text of an expression. -/
def prt : Ex → Bs
  | .leaf k n s => if k = 0 then Lib.itoa n else if k = 1 then truB (decide (n = 1)) else if k = 2 then s else if k = 3 then 39 :: s else wordB k
  | .one k x => wordB k ++ [32] ++ prt x
  | .two k x y => ahd k ++ ([40] ++ prt x ++ btw k ++ prt y ++ [41])
theorem KidAt.below {w w' : World} {B g i : Nat} {y : Ex} {a b : Int} {s : ByteArray} {A : Option Addr} {m c : Nat} (h : KidAt w (fun b => b < B) g i y a b s A m c) (hg : g < B) (t : Below B w w') : KidAt w' (fun b => b < B) g i y a b s A m c := by
  have e := fun j => World.cell?_of_block (w := w) (w' := w') (a := ⟨g, j, none⟩) (t.block g hg)
  exact ⟨Nat.lt_of_lt_of_le h.lt t.size, (e _).trans h.c0, (e _).trans h.c1, (e _).trans h.c2, (e _).trans h.c3, h.et.below t⟩
end Go.Proofs.YtnphaaahdlkmhaaGreat
end
