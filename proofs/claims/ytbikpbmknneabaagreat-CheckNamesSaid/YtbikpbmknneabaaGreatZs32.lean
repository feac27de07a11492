/-
  The document's own token, where neither a letter nor a digit begins it: a sign, or none. Conditions: at most 65536 bytes.
-/
import Derived.Test.YtbikpbmknneabaaGreatZs31
namespace Go.Proofs.YtbikpbmknneabaaGreat
open Go.ChangeShapes Go.WideShapes Go.ChangeAt Go.RowKit
set_option maxRecDepth 100000
set_option maxHeartbeats 4000000

theorem token_sign {A : Option Addr} {n cap : Nat} {b : Bs} {w : World} (hn : b.length = n) (hcap : n ≤ cap) (hmax : n ≤ 65536) (hb : BAt w A b) {a : Nat} (ha : a < n) {c : UInt8} (hc : b[a]? = some c) (hL : bL c = false) (hD : bD c = false) :
    Calls Tryz.prog 31 #[.slice A n cap, .int .i64 a] w (TnPost w b a) := by
  have _ := hcap
  obtain ⟨blk, off, rfl, hblk, -, hcells⟩ := bat_at hb (by rw [hn]; exact ha)
  have hca := hcells a c hc
  have HCells := Lib.hid hcells
  have HN := Lib.hid hn
  have HC := Lib.hid hc
  have HB := Lib.hid hb
  have HLL := Lib.hid hL
  have HDD := Lib.hid hD
  have HCAP := Lib.hid hcap
  clear hL hD
  have HRL := Lib.hid (fun c w => rletter_any c w)
  have HRD := Lib.hid (fun c w => rdigit_any c w)
  clear hn hb hcells
  obtain ⟨x, hx⟩ : ∃ x, (c.toNat : Int) = x := ⟨_, rfl⟩
  rw [hx] at hca
  have HX := Lib.hid hx
  clear hx hc
  go_enter Tryz.func31, Tryz.ntmps31
  go_upto_region 1 with fail
  have hb4 := alloc_blk w #[.int .i64 0, .int .i64 0, .int .i64 0, .string ⟨#[]⟩] 52 rfl
  obtain ⟨W1, hW1⟩ : ∃ W1, w.alloc (.cells #[.int .i64 0, .int .i64 0, .int .i64 0, .string ⟨#[]⟩] 52) = W1 := ⟨_, rfl⟩
  have hT1 : Touch NoB w W1 := by rw [← hW1]; exact (Touch.refl _ _).alloc _
  obtain ⟨N4, hN4⟩ : ∃ N4, w.heap.size = N4 := ⟨_, rfl⟩
  rw [hN4, hW1] at hb4
  rw [hN4, hW1]
  have hca1 : W1.cell? ⟨blk, off + a, none⟩ = some (.int .u8 x) := (hT1.cell (p := ⟨blk, off + a, none⟩) hblk (fun x => x)).trans hca
  have HC1 := Lib.hid (fun (i : Nat) (d : UInt8) (hd : b[i]? = some d) => (hT1.cell (p := ⟨blk, off + i, none⟩) hblk (fun x => x)).trans (HCells.out i d hd))
  have hl1 : blk < W1.heap.size := Nat.lt_of_lt_of_le hblk hT1.size
  have hbn : blk < N4 := by omega
  have HN4 : w.heap.size ≤ N4 := by omega
  have HB4 := Lib.hid hb4
  have HT1 := Lib.hid hT1
  clear hW1 hN4 hca hb4 hT1
  go_wp2
  go_loopw [8] (fun v8 wr => TnRel b a W1 v8 wr) (fun v8 _ => n - (intOf v8).toNat)
  case atStart => exact ⟨a, Run.start _ (by rw [HN.out]; omega), rfl, rfl⟩
  case round =>
    obtain ⟨k, hrun, rfl, hwr⟩ := hrel
    subst hwr
    have hk : k ≤ n := by rw [← HN.out]; exact hrun.2.1
    have HRun := Lib.hid hrun
    have hak : a ≤ k := hrun.1
    clear hrun
    by_cases hgo : ∃ d, b[k]? = some d ∧ bW d = true
    · obtain ⟨d, hd, hdw⟩ := hgo
      have hlt : k < n := by rw [← HN.out]; exact (List.getElem?_eq_some_iff.1 hd).1
      have hcd := HC1.out k d hd
      have HP := Lib.hid (fun W => rletter_any (d.toNat : Int) W)
      rw [show okB (d.toNat : Int) = true from by rw [okB_b]; exact hdw] at HP
      have HD := Lib.hid (And.intro hd hdw)
      obtain ⟨y, hy⟩ : ∃ y, (d.toNat : Int) = y := ⟨_, rfl⟩
      rw [hy] at hcd HP
      clear hy hd hdw
      go_wp2_with fail
      refine (HP.out _).mono ?_
      rintro e w' ⟨rfl, rfl⟩
      go_wp2
      go_roundw
      case rel => exact ⟨k + 1, HRun.out.next HD.out.1 HD.out.2, by go_num, rfl⟩
      case measure => simp [intOf]; omega
    · have he : ∀ d, b[k]? = some d → bW d = false := fun d hd => by
        cases hw : bW d
        · rfl
        · exact absurd ⟨d, hd, hw⟩ hgo
      have HEnd := Lib.hid he
      have HG := Lib.hid hgo
      clear he hgo
      have hways : (k < n ∧ ∃ y, wr.cell? ⟨blk, off + k, none⟩ = some (.int .u8 y) ∧ okB y = false) ∨ k = n := by
        rcases Nat.lt_or_ge k n with h | h
        · obtain ⟨d, hd⟩ : ∃ d, b[k]? = some d := ⟨b[k]'(by rw [HN.out]; exact h), List.getElem?_eq_getElem _⟩
          exact .inl ⟨h, _, HC1.out k d hd, by rw [okB_b]; exact HEnd.out d hd⟩
        · exact .inr (by omega)
      rcases hways with hways | hkn
      all_goals
        first
        | (obtain ⟨hlt, y, hcy, hoy⟩ := hways
           have HP := Lib.hid (fun W => rletter_any y W)
           rw [hoy] at HP
           clear hoy
           go_wp2_with fail
           refine (HP.out _).mono ?_
           rintro e w' ⟨rfl, rfl⟩
           clear HP hcy hlt)
        | (have hd : decide ((k : Int) < (n : Int)) = false := by simp; omega
           have hnk : ¬ k < n := by omega
           clear hkn)
      all_goals
        go_upto_region 6 with fail
        have hb9 := alloc_blk wr #[.int .i64 0, .int .i64 0, .int .i64 a, .string ⟨#[]⟩] 52 rfl
        obtain ⟨W2, hW2⟩ : ∃ W2, wr.alloc (.cells #[.int .i64 0, .int .i64 0, .int .i64 a, .string ⟨#[]⟩] 52) = W2 := ⟨_, rfl⟩
        have hT2 : Touch NoB wr W2 := by rw [← hW2]; exact (Touch.refl _ _).alloc _
        have h4l := blk_lt HB4.out
        have hb4 := (hT2.block _ h4l (fun x => x)).trans HB4.out
        obtain ⟨N9, hN9⟩ : ∃ N9, wr.heap.size = N9 := ⟨_, rfl⟩
        have h49 : N4 ≠ N9 := by omega
        have h94 : N9 ≠ N4 := by omega
        have HN9 : w.heap.size ≤ N9 := by omega
        rw [hN9, hW2] at hb9
        rw [hN9, hW2]
        have HT2 := Lib.hid (HT1.out.same hT2)
        have HC2 := Lib.hid (fun (i : Nat) (d : UInt8) (hd : b[i]? = some d) => (hT2.cell (p := ⟨blk, off + i, none⟩) hl1 (fun x => x)).trans (HC1.out i d hd))
        have c0 := cell_blk hb9 0
        have c1 := cell_blk hb9 1
        have c2 := cell_blk hb9 2
        have c3 := cell_blk hb9 3
        have f0 := free_blk hb9 0
        have f1 := free_blk hb9 1
        have f2 := free_blk hb9 2
        have f3 := free_blk hb9 3
        have r0 := cell_blk hb4 0
        have r1 := cell_blk hb4 1
        have r2 := cell_blk hb4 2
        have r3 := cell_blk hb4 3
        have g0 := free_blk hb4 0
        have g1 := free_blk hb4 1
        have g2 := free_blk hb4 2
        have g3 := free_blk hb4 3
        have p9l := blk_lt hb9
        have p4l := blk_lt hb4
        have HB9 := Lib.hid hb9
        have HB42 := Lib.hid hb4
        clear hb4 hb9 hW2 hT2 hN9 h4l
        have HPD := Lib.hid (fun w => HRD.out x w)
        rw [show digB x = false from by rw [← HX.out, digB_b]; exact HDD.out] at HPD
        have HPL := Lib.hid (fun w => HRL.out x w)
        rw [show okB x = (x == 95) from by unfold okB; rw [show letB x = false from by rw [← HX.out, letB_b]; exact HLL.out, show digB x = false from by rw [← HX.out, digB_b]; exact HDD.out]; rfl] at HPL
        have HSG := Lib.hid (fun w => signs_any' w)
        go_wp2_with fail
        refine (HPD.out _).mono ?_
        rintro e w' ⟨rfl, rfl⟩
        go_wp2_with fail
        refine (HPL.out _).mono ?_
        rintro e w' ⟨rfl, rfl⟩
        have hx95 : ((x == 95) = true ∧ (x != 95) = false) ∨ (x == 95) = false := by
          cases h : x == 95
          · exact .inr rfl
          · refine .inl ⟨rfl, ?_⟩
            simp at h
            simp [h]
        have hb9t := HB9.out
        have hb4t := HB42.out
        clear c0 c1 c2 c3 f0 f1 f2 f3 r0 r1 r2 r3 g0 g1 g2 g3
        rcases hx95 with ⟨h95, h95'⟩ | h95
        all_goals
          simp only [h95]
          go_wp2_with fail
          refine (HSG.out _).mono ?_
          rintro e w5 ⟨gs, rfl, ⟨hgs0, hgs⟩, hcs, hT5⟩
          have hz9 := (hT5.block N9 (blk_lt hb9t) (fun x => x)).trans hb9t
          have hz4 := (hT5.block N4 (blk_lt hb4t) (fun x => x)).trans hb4t
          have HT5 := Lib.hid (HT2.out.same hT5)
          have HCS := Lib.hid hcs
          have HZ9 := Lib.hid hz9
          have HZ4 := Lib.hid hz4
          have hgs9 : N9 < w5.heap.size := blk_lt hz9
          have hgs4 : N4 < w5.heap.size := blk_lt hz4
          have HBG := Lib.hid (fun l (hl : l.length ≤ 100) => begins_any (w := w5) (l := l) HN.out HCAP.out hmax (HB.out.touch (HT2.out.same hT5)) (Nat.le_of_lt ha) hl)
          have hng : N9 ≠ gs := by omega
          have hgn : gs ≠ N9 := by omega
          have hn4g : N4 ≠ gs := by omega
          have hgn4 : gs ≠ N4 := by omega
          clear hT5 hcs hz9 hz4 hb9t hb4t hgs0
          go_wp2
          go_loopw [13] (fun v13 wr => TsRel b a w5 v13 wr) (fun v13 _ => 18 - (intOf v13).toNat)
          case atStart => exact ⟨0, by omega, rfl, fun j m hj => by omega, rfl⟩
          case round =>
            obtain ⟨i, hi, rfl, hno, hwr⟩ := hrel
            subst hwr
            have HNO := Lib.hid hno
            clear hno
            by_cases hlt : i < 18
            · obtain ⟨m, hm⟩ : ∃ m, sgS[i]? = some m := ⟨sgS[i]'(by rw [sgS_len]; exact hlt), List.getElem?_eq_getElem _⟩
              have hcm := HCS.out i m hm
              have hml : m.length ≤ 2 := by
                have : ∀ z ∈ sgS, z.length ≤ 2 := by decide
                exact this m (List.mem_of_getElem? hm)
              have HM := Lib.hid hm
              have HB1 := Lib.hid (HBG.out m (by omega))
              have hsz : (bs m).size = m.length := bs_size m
              obtain ⟨sm, hsm⟩ : ∃ sm, bs m = sm := ⟨_, rfl⟩
              rw [hsm] at hcm HB1 hsz
              have HSM := Lib.hid hsm
              clear hm hsm
              cases hbg : begB b a m
              · rw [hbg] at HB1
                have HBF := Lib.hid hbg
                clear hbg
                go_wp2_with fail
                refine HB1.out.mono ?_
                rintro e w' ⟨rfl, rfl⟩
                go_wp2
                go_roundw
                case rel =>
                  refine ⟨i + 1, by omega, by go_num, fun j q hj hq => ?_, rfl⟩
                  by_cases e : j = i
                  · subst e
                    have := HM.out.symm.trans hq
                    injection this with this
                    rw [← this]; exact HBF.out
                  · exact HNO.out j q (by omega) hq
                case measure => simp [intOf]; omega
              · rw [hbg] at HB1
                have HTK : Hid (tokL a (b.drop a) = some (⟨4, 0, a, m⟩, m.length)) := Lib.hid (sign_first HC.out HLL.out HDD.out HM.out hbg (fun j q hj hq => HNO.out j q hj hq))
                clear hbg
                obtain ⟨ln, hln⟩ : ∃ ln, m.length = ln := ⟨_, rfl⟩
                rw [hln] at hsz hml
                have HLN := Lib.hid hln
                clear hln
                go_wp2_with fail
                refine HB1.out.mono ?_
                rintro e w' ⟨rfl, rfl⟩
                go_wp2
                have l0 := cell_blk HZ9.out 0
                have l3 := cell_blk HZ9.out 3
                have n0 := free_blk HZ9.out 0
                have n3 := free_blk HZ9.out 3
                have cmw := hcm
                have k0 : wr.drew.cell? ⟨N9, 0, none⟩ = _ := cell_blk HZ9.out 0
                have k3 : wr.drew.cell? ⟨N9, 3, none⟩ = _ := cell_blk HZ9.out 3
                have m0 : wr.drew.frozen? ⟨N9, 0, none⟩ = false := free_blk HZ9.out 0
                have m3 : wr.drew.frozen? ⟨N9, 3, none⟩ = false := free_blk HZ9.out 3
                have cm : wr.drew.cell? ⟨gs, i, none⟩ = some (.string sm) := hcm
                clear hcm
                go_region
                have hb7 : ((wr.setCell ⟨N9, 0, none⟩ (.int .i64 4)).setCell ⟨N9, 3, none⟩ (.string sm)).drew.heap[N9]? = some (.cells #[.int .i64 4, .int .i64 0, .int .i64 a, .string sm] 52 (0, 0)) := set_blk (set_blk HZ9.out 0 (.int .i64 4)) 3 (.string sm)
                have hT7 : Touch (fun z => z = N9) wr ((wr.setCell ⟨N9, 0, none⟩ (.int .i64 4)).setCell ⟨N9, 3, none⟩ (.string sm)).drew := (((Touch.refl (fun z => z = N9) wr).setCell (p := ⟨N9, 0, none⟩) (.inl rfl) _).setCell (p := ⟨N9, 3, none⟩) (.inl rfl) _).drew
                obtain ⟨W7, hW7⟩ : ∃ W7, ((wr.setCell ⟨N9, 0, none⟩ (.int .i64 4)).setCell ⟨N9, 3, none⟩ (.string sm)).drew = W7 := ⟨_, rfl⟩
                rw [hW7] at hb7 hT7
                rw [hW7]
                have hb74 := (hT7.block N4 hgs4 h49).trans HZ4.out
                have cm7 : W7.cell? ⟨gs, i, none⟩ = some (.string sm) := (hT7.cell (p := ⟨gs, i, none⟩) hgs hgn).trans cmw
                have HT7 := Lib.hid (HT5.out.trans hT7 (fun z hz => .inr (by rw [hz]; exact HN9)))
                have HB74 := Lib.hid hb74
                clear k0 k3 m0 m3 cm l0 l3 n0 n3 cmw hW7 hT7
                have k0 : W7.drew.cell? ⟨N9, 0, none⟩ = _ := cell_blk hb7 0
                have k1 : W7.drew.cell? ⟨N9, 1, none⟩ = _ := cell_blk hb7 1
                have k2 : W7.drew.cell? ⟨N9, 2, none⟩ = _ := cell_blk hb7 2
                have k3 : W7.drew.cell? ⟨N9, 3, none⟩ = _ := cell_blk hb7 3
                have cm8 : W7.drew.cell? ⟨gs, i, none⟩ = some (.string sm) := cm7
                have q0 : W7.drew.cell? ⟨N4, 0, none⟩ = _ := cell_blk hb74 0
                have q1 : W7.drew.cell? ⟨N4, 1, none⟩ = _ := cell_blk hb74 1
                have q2 : W7.drew.cell? ⟨N4, 2, none⟩ = _ := cell_blk hb74 2
                have q3 : W7.drew.cell? ⟨N4, 3, none⟩ = _ := cell_blk hb74 3
                have o0 : W7.drew.frozen? ⟨N4, 0, none⟩ = false := free_blk hb74 0
                have o1 : W7.drew.frozen? ⟨N4, 1, none⟩ = false := free_blk hb74 1
                have o2 : W7.drew.frozen? ⟨N4, 2, none⟩ = false := free_blk hb74 2
                have o3 : W7.drew.frozen? ⟨N4, 3, none⟩ = false := free_blk hb74 3
                have kw0 := cell_blk hb7 0
                have kw1 := cell_blk hb7 1
                have kw2 := cell_blk hb7 2
                have kw3 := cell_blk hb7 3
                have qw0 := cell_blk hb74 0
                have qw1 := cell_blk hb74 1
                have qw2 := cell_blk hb74 2
                have qw3 := cell_blk hb74 3
                have ow0 := free_blk hb74 0
                have ow1 := free_blk hb74 1
                have ow2 := free_blk hb74 2
                have ow3 := free_blk hb74 3
                obtain ⟨hh, hhh⟩ : ∃ hh, a + ln = hh := ⟨_, rfl⟩
                have e5 : IntKind.i64.wrap ((a : Int) + (ln : Int)) = (hh : Int) := by
                  rw [show (a : Int) + (ln : Int) = (hh : Int) from by omega]; exact IntWalk.i64_in _ (by omega)
                have HHH := Lib.hid hhh
                clear hb7 hb74 hhh
                go_wp2
                go_region
                go_wp2
                have hy := set4 HB74.out (.int .i64 4) (.int .i64 0) (.int .i64 a) (.string sm)
                have hyt := touch4 HT7.out (.inr HN4) (.int .i64 4) (.int .i64 0) (.int .i64 a) (.string sm)
                obtain ⟨W8, hW8⟩ : ∃ W8, ((((W7.setCell ⟨N4, 0, none⟩ (.int .i64 4)).setCell ⟨N4, 1, none⟩ (.int .i64 0)).setCell ⟨N4, 2, none⟩ (.int .i64 a)).setCell ⟨N4, 3, none⟩ (.string sm)) = W8 := ⟨_, rfl⟩
                rw [hW8] at hy hyt
                rw [hW8]
                have d0 : W8.drew.cell? ⟨N4, 0, none⟩ = _ := cell_blk hy 0
                have d1 : W8.drew.cell? ⟨N4, 1, none⟩ = _ := cell_blk hy 1
                have d2 : W8.drew.cell? ⟨N4, 2, none⟩ = _ := cell_blk hy 2
                have d3 : W8.drew.cell? ⟨N4, 3, none⟩ = _ := cell_blk hy 3
                exact bodyPost_ret (v := .tuple #[.agg #[.int .i64 4, .int .i64 0, .int .i64 a, .string sm], .int .i64 hh, .int .i64 0]) (by simp [results, Tryz.results31, go_sem, d0, d1, d2, d3]) rfl ⟨hyt.drew, by rw [HTK.out]; show _ = _; rw [HLN.out, HHH.out, HSM.out]; rfl⟩
            · obtain rfl : i = 18 := by omega
              have HNo : Hid (tokL a (b.drop a) = none) := Lib.hid (sign_none HC.out HLL.out HDD.out (fun j q hq => HNO.out j q (by have := (List.getElem?_eq_some_iff.1 hq).1; rw [sgS_len] at this; exact this) hq))
              have k0 := cell_blk HZ9.out 0
              have k1 := cell_blk HZ9.out 1
              have k2 := cell_blk HZ9.out 2
              have k3 := cell_blk HZ9.out 3
              have q0 := cell_blk HZ4.out 0
              have q1 := cell_blk HZ4.out 1
              have q2 := cell_blk HZ4.out 2
              have q3 := cell_blk HZ4.out 3
              have o0 := free_blk HZ4.out 0
              have o1 := free_blk HZ4.out 1
              have o2 := free_blk HZ4.out 2
              have o3 := free_blk HZ4.out 3
              go_wp2
              have hy := set4 HZ4.out (.int .i64 0) (.int .i64 0) (.int .i64 a) (.string ⟨#[]⟩)
              have d0 := cell_blk hy 0
              have d1 := cell_blk hy 1
              have d2 := cell_blk hy 2
              have d3 := cell_blk hy 3
              exact bodyPost_ret (v := .tuple #[.agg #[.int .i64 0, .int .i64 0, .int .i64 a, .string ⟨#[]⟩], .int .i64 a, .int .i64 2]) (by simp [results, Tryz.results31, go_sem, d0, d1, d2, d3]) rfl ⟨touch4 HT5.out (.inr HN4) _ _ _ _, by rw [HNo.out]; exact ⟨_, _, _, _, rfl⟩⟩
end Go.Proofs.YtbikpbmknneabaaGreat
