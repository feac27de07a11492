/-
  The document's own token, where a digit begins it: a number, or none. Conditions: at most 65536 bytes.
-/
import Derived.Test.YtnphaaahdlkmhaaGreatZs33
section
namespace Go.Proofs.YtnphaaahdlkmhaaGreat
open Go.ChangeShapes Go.WideShapes Go.ChangeAt Go.RowKit
set_option maxRecDepth 100000
set_option maxHeartbeats 4000000

/-- What the document's own token returns. -/
def TnPost (w : World) (b : Bs) (a : Nat) (e : Ending) (w' : World) : Prop := Touch NoB w w' ∧ match tokL a (b.drop a) with
  | none => ∃ (x0 x1 x2 : Int) (x3 : ByteArray), e = .returned (.tuple #[.agg #[.int .i64 x0, .int .i64 x1, .int .i64 x2, .string x3], .int .i64 a, .int .i64 2])
  | some (t, k) => e = .returned (.tuple #[.agg #[.int .i64 t.kd, .int .i64 t.n, .int .i64 t.pl, .string (bs t.tx)], .int .i64 (a + k : Nat), .int .i64 0])
def TnRel (b : Bs) (a : Nat) (w1 : World) (v8 : Value) (wr : World) : Prop := ∃ k : Nat, Run bW b a k ∧ v8 = .int .i64 k ∧ wr = w1
def TdRel (b : Bs) (a k : Nat) (w1 : World) (v10 v11 : Value) (wr : World) : Prop := ∃ i : Nat, i ≤ k ∧ Run bD b a i ∧ valL (cut b a i) ≤ 9223372036854775807 ∧ v10 = .int .i64 (valL (cut b a i)) ∧ v11 = .int .i64 i ∧ wr = w1
def TsRel (b : Bs) (a : Nat) (w1 : World) (v13 : Value) (wr : World) : Prop := ∃ i : Nat, i ≤ 18 ∧ v13 = .int .i64 i ∧ (∀ (j : Nat) (m : Bs), j < i → sgS[j]? = some m → begB b a m = false) ∧ wr = w1

theorem token_digit {A : Option Addr} {n cap : Nat} {b : Bs} {w : World} (hn : b.length = n) (hcap : n ≤ cap) (hmax : n ≤ 65536) (hb : BAt w A b) {a : Nat} (ha : a < n) {c : UInt8} (hc : b[a]? = some c) (hD : bD c = true) :
    Calls Tryz.prog 31 #[.slice A n cap, .int .i64 a] w (TnPost w b a) := by
  have _ := hcap
  obtain ⟨blk, off, rfl, hblk, -, hcells⟩ := bat_at hb (by rw [hn]; exact ha)
  have hca := hcells a c hc
  have HCells := Lib.hid hcells
  have HN := Lib.hid hn
  have HC := Lib.hid hc
  have HB := Lib.hid hb
  have HD := Lib.hid hD
  clear hD
  have HRL := Lib.hid (fun c w => rletter_any c w)
  have HRD := Lib.hid (fun c w => rdigit_any c w)
  clear hn hb hcells
  obtain ⟨x, hx⟩ : ∃ x, (c.toNat : Int) = x := ⟨_, rfl⟩
  rw [hx] at hca
  have HX := Lib.hid hx
  clear hx hc
  go_enter Tryz.func31, Tryz.ntmps31
  go_upto_region 1 with fail
  have hb4 := alloc_blk w #[.int .i64 0, .int .i64 0, .int .i64 0, .string ⟨#[]⟩] 52 rfl
  obtain ⟨W1, hW1⟩ : ∃ W1, w.alloc (.cells #[.int .i64 0, .int .i64 0, .int .i64 0, .string ⟨#[]⟩] 52) = W1 := ⟨_, rfl⟩
  have hT1 : Touch NoB w W1 := by rw [← hW1]; exact (Touch.refl _ _).alloc _
  obtain ⟨N4, hN4⟩ : ∃ N4, w.heap.size = N4 := ⟨_, rfl⟩
  rw [hN4, hW1] at hb4
  rw [hN4, hW1]
  have hca1 : W1.cell? ⟨blk, off + a, none⟩ = some (.int .u8 x) := (hT1.cell (p := ⟨blk, off + a, none⟩) hblk (fun x => x)).trans hca
  have HC1 := Lib.hid (fun (i : Nat) (d : UInt8) (hd : b[i]? = some d) => (hT1.cell (p := ⟨blk, off + i, none⟩) hblk (fun x => x)).trans (HCells.out i d hd))
  have hl1 : blk < W1.heap.size := Nat.lt_of_lt_of_le hblk hT1.size
  have hbn : blk < N4 := by omega
  have HN4 : w.heap.size ≤ N4 := by omega
  have HB4 := Lib.hid hb4
  have HT1 := Lib.hid hT1
  clear hW1 hN4 hca hb4 hT1
  go_wp2
  go_loopw [8] (fun v8 wr => TnRel b a W1 v8 wr) (fun v8 _ => n - (intOf v8).toNat)
  case atStart => exact ⟨a, Run.start _ (by rw [HN.out]; omega), rfl, rfl⟩
  case round =>
    obtain ⟨k, hrun, rfl, hwr⟩ := hrel
    subst hwr
    have hk : k ≤ n := by rw [← HN.out]; exact hrun.2.1
    have HRun := Lib.hid hrun
    have hak : a ≤ k := hrun.1
    clear hrun
    by_cases hgo : ∃ d, b[k]? = some d ∧ bW d = true
    · obtain ⟨d, hd, hdw⟩ := hgo
      have hlt : k < n := by rw [← HN.out]; exact (List.getElem?_eq_some_iff.1 hd).1
      have hcd := HC1.out k d hd
      have HP := Lib.hid (fun W => rletter_any (d.toNat : Int) W)
      rw [show okB (d.toNat : Int) = true from by rw [okB_b]; exact hdw] at HP
      have HD := Lib.hid (And.intro hd hdw)
      obtain ⟨y, hy⟩ : ∃ y, (d.toNat : Int) = y := ⟨_, rfl⟩
      rw [hy] at hcd HP
      clear hy hd hdw
      go_wp2_with fail
      refine (HP.out _).mono ?_
      rintro e w' ⟨rfl, rfl⟩
      go_wp2
      go_roundw
      case rel => exact ⟨k + 1, HRun.out.next HD.out.1 HD.out.2, by go_num, rfl⟩
      case measure => simp [intOf]; omega
    · have he : ∀ d, b[k]? = some d → bW d = false := fun d hd => by
        cases hw : bW d
        · rfl
        · exact absurd ⟨d, hd, hw⟩ hgo
      have HEnd := Lib.hid he
      have HG := Lib.hid hgo
      clear he hgo
      have hways : (k < n ∧ ∃ y, wr.cell? ⟨blk, off + k, none⟩ = some (.int .u8 y) ∧ okB y = false) ∨ k = n := by
        rcases Nat.lt_or_ge k n with h | h
        · obtain ⟨d, hd⟩ : ∃ d, b[k]? = some d := ⟨b[k]'(by rw [HN.out]; exact h), List.getElem?_eq_getElem _⟩
          exact .inl ⟨h, _, HC1.out k d hd, by rw [okB_b]; exact HEnd.out d hd⟩
        · exact .inr (by omega)
      rcases hways with hways | hkn
      all_goals
        first
        | (obtain ⟨hlt, y, hcy, hoy⟩ := hways
           have HP := Lib.hid (fun W => rletter_any y W)
           rw [hoy] at HP
           clear hoy
           go_wp2_with fail
           refine (HP.out _).mono ?_
           rintro e w' ⟨rfl, rfl⟩
           clear HP hcy hlt)
        | (have hd : decide ((k : Int) < (n : Int)) = false := by simp; omega
           have hnk : ¬ k < n := by omega
           clear hkn)
      all_goals
        go_upto_region 6 with fail
        have hb9 := alloc_blk wr #[.int .i64 0, .int .i64 0, .int .i64 a, .string ⟨#[]⟩] 52 rfl
        obtain ⟨W2, hW2⟩ : ∃ W2, wr.alloc (.cells #[.int .i64 0, .int .i64 0, .int .i64 a, .string ⟨#[]⟩] 52) = W2 := ⟨_, rfl⟩
        have hT2 : Touch NoB wr W2 := by rw [← hW2]; exact (Touch.refl _ _).alloc _
        have h4l := blk_lt HB4.out
        have hb4 := (hT2.block _ h4l (fun x => x)).trans HB4.out
        obtain ⟨N9, hN9⟩ : ∃ N9, wr.heap.size = N9 := ⟨_, rfl⟩
        have h49 : N4 ≠ N9 := by omega
        have h94 : N9 ≠ N4 := by omega
        have HN9 : w.heap.size ≤ N9 := by omega
        rw [hN9, hW2] at hb9
        rw [hN9, hW2]
        have HT2 := Lib.hid (HT1.out.same hT2)
        have HC2 := Lib.hid (fun (i : Nat) (d : UInt8) (hd : b[i]? = some d) => (hT2.cell (p := ⟨blk, off + i, none⟩) hl1 (fun x => x)).trans (HC1.out i d hd))
        have c0 := cell_blk hb9 0
        have c1 := cell_blk hb9 1
        have c2 := cell_blk hb9 2
        have c3 := cell_blk hb9 3
        have f0 := free_blk hb9 0
        have f1 := free_blk hb9 1
        have f2 := free_blk hb9 2
        have f3 := free_blk hb9 3
        have r0 := cell_blk hb4 0
        have r1 := cell_blk hb4 1
        have r2 := cell_blk hb4 2
        have r3 := cell_blk hb4 3
        have g0 := free_blk hb4 0
        have g1 := free_blk hb4 1
        have g2 := free_blk hb4 2
        have g3 := free_blk hb4 3
        have p9l := blk_lt hb9
        have p4l := blk_lt hb4
        have HB9 := Lib.hid hb9
        have HB42 := Lib.hid hb4
        clear hb4 hb9 hW2 hT2 hN9 h4l
        have HPD := Lib.hid (fun w => HRD.out x w)
        rw [show digB x = true from by rw [← HX.out, digB_b]; exact HD.out] at HPD
        go_wp2_with fail
        refine (HPD.out _).mono ?_
        rintro e w' ⟨rfl, rfl⟩
        go_wp2
        go_loopw [10, 11] (fun v10 v11 wr => TdRel b a k W2 v10 v11 wr) (fun _ v11 _ => k - (intOf v11).toNat)
        case atStart => exact ⟨a, hak, Run.start _ (by rw [HN.out]; omega), by rw [cut_same]; decide, by rw [cut_same]; rfl, rfl, rfl⟩
        case round =>
          obtain ⟨i, hik, hrun2, hval, rfl, rfl, hwr⟩ := hrel
          subst hwr
          have hai : a ≤ i := hrun2.1
          have HR2 := Lib.hid hrun2
          clear hrun2
          have hkb : k ≤ n := by rw [← HN.out]; exact HRun.out.2.1
          by_cases hlt2 : i < k
          · obtain ⟨d, hd⟩ : ∃ d, b[i]? = some d := ⟨b[i]'(by rw [HN.out]; omega), List.getElem?_eq_getElem _⟩
            have hcd := HC2.out i d hd
            have HD2 := Lib.hid hd
            have hbd : bD d = decide (48 ≤ d.toNat ∧ d.toNat ≤ 57) := rfl
            have hdb := digB_b d
            obtain ⟨y, hy⟩ : ∃ y, (d.toNat : Int) = y := ⟨_, rfl⟩
            rw [hy] at hcd hdb
            have HY := Lib.hid hy
            have HPD2 := Lib.hid (fun w => HRD.out y w)
            clear hd hy
            cases hbv : bD d
            · rw [hdb, hbv] at HPD2
              have HNo : Hid (tokL a (b.drop a) = none) := Lib.hid (by
                rw [tok_word HC.out HD.out HRun.out HEnd.out, if_neg]
                rintro ⟨h1, -⟩
                rw [List.all_eq_true] at h1
                have hmem : d ∈ cut b a k := by
                  rw [cut_more (i := i + 1) (by omega) (by omega), cut_succ hai HD2.out]
                  simp
                have := h1 d hmem
                rw [hbv] at this
                cases this)
              clear hbv hbd hdb
              go_wp2_with fail
              refine (HPD2.out _).mono ?_
              rintro e w' ⟨rfl, rfl⟩
              go_wp2
              have hz := set4 HB42.out (.int .i64 0) (.int .i64 0) (.int .i64 a) (.string ⟨#[]⟩)
              have d0 := cell_blk hz 0
              have d1 := cell_blk hz 1
              have d2 := cell_blk hz 2
              have d3 := cell_blk hz 3
              exact bodyPost_ret (v := .tuple #[.agg #[.int .i64 0, .int .i64 0, .int .i64 a, .string ⟨#[]⟩], .int .i64 a, .int .i64 2]) (by simp [results, Tryz.results31, go_sem, d0, d1, d2, d3]) rfl ⟨touch4 HT2.out (.inr HN4) _ _ _ _, by rw [HNo.out]; exact ⟨_, _, _, _, rfl⟩⟩
            · rw [hdb, hbv] at HPD2
              have hdd : 48 ≤ d.toNat ∧ d.toNat ≤ 57 := by rw [hbv] at hbd; exact of_decide_eq_true hbd.symm
              obtain ⟨dd, hdq⟩ : ∃ dd, d.toNat - 48 = dd := ⟨_, rfl⟩
              have hyd : y = 48 + (dd : Int) := by have := HY.out; omega
              have hd9 : dd ≤ 9 := by omega
              have hsn : valL (cut b a (i + 1)) = 10 * valL (cut b a i) + dd := by rw [cut_succ hai HD2.out, val_snoc, hdq]
              have HBV := Lib.hid hbv
              obtain ⟨v, hv⟩ : ∃ v, valL (cut b a i) = v := ⟨_, rfl⟩
              rw [hv] at hval hsn ⊢
              have HSN := Lib.hid hsn
              clear hbd hdb hbv hdd hdq hv hsn
              have e1 : IntKind.u8.wrap (y - 48) = (dd : Int) := by
                rw [hyd, show 48 + (dd : Int) - 48 = (dd : Int) from by omega]
                simp only [IntKind.wrap, IntKind.signed, IntKind.bits]
                first | omega | (simp; omega)
              have e2 : IntKind.i64.wrap (dd : Int) = (dd : Int) := IntWalk.i64_in _ (by omega)
              obtain ⟨mx, hmx⟩ : ∃ mx, 9223372036854775807 - dd = mx := ⟨_, rfl⟩
              have e3 : IntKind.i64.wrap (9223372036854775807 - (dd : Int)) = (mx : Int) := by
                rw [show 9223372036854775807 - (dd : Int) = (mx : Int) from by omega]; exact IntWalk.i64_in _ (by omega)
              obtain ⟨qq, hqq⟩ : ∃ qq, mx / 10 = qq := ⟨_, rfl⟩
              have e4 : ((mx : Int).tdiv 10) = (qq : Int) := by rw [Int.tdiv_eq_ediv_of_nonneg (by omega)]; omega
              have e4' : IntKind.i64.wrap (qq : Int) = (qq : Int) := IntWalk.i64_in _ (by omega)
              by_cases hov : qq < v
              · have hdec : decide ((qq : Int) < (v : Int)) = true := by simp; omega
                have HNo : Hid (tokL a (b.drop a) = none) := Lib.hid (by
                  rw [tok_word HC.out HD.out HRun.out HEnd.out, if_neg]
                  rintro ⟨-, h1, -⟩
                  rw [cut_more (i := i + 1) (by omega) (by omega)] at h1
                  have h2 := val_more (cut b a (i + 1)) (cut b (i + 1) k)
                  rw [HSN.out] at h2
                  omega)
                clear hyd hmx hqq
                go_wp2_with fail
                refine (HPD2.out _).mono ?_
                rintro e w' ⟨rfl, rfl⟩
                go_wp2
                have hz := set4 HB42.out (.int .i64 0) (.int .i64 0) (.int .i64 a) (.string ⟨#[]⟩)
                have d0 := cell_blk hz 0
                have d1 := cell_blk hz 1
                have d2 := cell_blk hz 2
                have d3 := cell_blk hz 3
                exact bodyPost_ret (v := .tuple #[.agg #[.int .i64 0, .int .i64 0, .int .i64 a, .string ⟨#[]⟩], .int .i64 a, .int .i64 2]) (by simp [results, Tryz.results31, go_sem, d0, d1, d2, d3]) rfl ⟨touch4 HT2.out (.inr HN4) _ _ _ _, by rw [HNo.out]; exact ⟨_, _, _, _, rfl⟩⟩
              · have hdec : decide ((qq : Int) < (v : Int)) = false := by simp; omega
                obtain ⟨t10, ht10⟩ : ∃ t, 10 * v = t := ⟨_, rfl⟩
                obtain ⟨v2, hv2⟩ : ∃ v2, t10 + dd = v2 := ⟨_, rfl⟩
                have e5 : IntKind.i64.wrap (10 * (v : Int)) = (t10 : Int) := by
                  rw [show 10 * (v : Int) = (t10 : Int) from by omega]; exact IntWalk.i64_in _ (by omega)
                have e6 : IntKind.i64.wrap ((t10 : Int) + (dd : Int)) = (v2 : Int) := by
                  rw [show (t10 : Int) + (dd : Int) = (v2 : Int) from by omega]; exact IntWalk.i64_in _ (by omega)
                have HV2 : Hid (valL (cut b a (i + 1)) = v2 ∧ v2 ≤ 9223372036854775807) := Lib.hid (by rw [HSN.out]; omega)
                clear hyd hmx hqq ht10 hv2
                go_wp2_with fail
                refine (HPD2.out _).mono ?_
                rintro e w' ⟨rfl, rfl⟩
                go_wp2
                go_roundw
                case rel => exact ⟨i + 1, by omega, HR2.out.next HD2.out HBV.out, by rw [HV2.out.1]; exact HV2.out.2, by rw [HV2.out.1], by go_num, rfl⟩
                case measure => simp [intOf]; omega
          · obtain rfl : i = k := by omega
            obtain ⟨v, hv⟩ : ∃ v, valL (cut b a i) = v := ⟨_, rfl⟩
            have HV := Lib.hid hv
            rw [hv] at hval ⊢
            obtain ⟨kk, hkk⟩ : ∃ kk, i - a = kk := ⟨_, rfl⟩
            have e1 : IntKind.i64.wrap ((i : Int) - (a : Int)) = (kk : Int) := by
              rw [show (i : Int) - (a : Int) = (kk : Int) from by omega]; exact IntWalk.i64_in _ (by omega)
            have hall : (cut b a i).all bD = true := HR2.out.all
            have hx48 : (x == 48) = decide (c.toNat = 48) := by rw [← HX.out, Bool.eq_iff_iff]; simp; omega
            by_cases h48 : c.toNat = 48 ∧ 1 < kk
            · have hx1 : (x == 48) = true := by rw [hx48]; simpa using h48.1
              have hk1 : decide ((1 : Int) < (kk : Int)) = true := by have := h48.2; simp; omega
              have hk1' : 1 < kk := h48.2
              have HNo : Hid (tokL a (b.drop a) = none) := Lib.hid (by
                rw [tok_word HC.out HD.out HRun.out HEnd.out, if_neg]
                rintro ⟨-, -, h1⟩
                rw [hkk] at h1
                exact h1 h48)
              clear hv hkk hall hx48 h48
              go_wp2
              have hz := set4 HB42.out (.int .i64 0) (.int .i64 0) (.int .i64 a) (.string ⟨#[]⟩)
              have d0 := cell_blk hz 0
              have d1 := cell_blk hz 1
              have d2 := cell_blk hz 2
              have d3 := cell_blk hz 3
              exact bodyPost_ret (v := .tuple #[.agg #[.int .i64 0, .int .i64 0, .int .i64 a, .string ⟨#[]⟩], .int .i64 a, .int .i64 2]) (by simp [results, Tryz.results31, go_sem, d0, d1, d2, d3]) rfl ⟨touch4 HT2.out (.inr HN4) _ _ _ _, by rw [HNo.out]; exact ⟨_, _, _, _, rfl⟩⟩
            · have hYes : tokL a (b.drop a) = some (⟨3, v, a, []⟩, kk) := by
                rw [tok_word HC.out HD.out HRun.out HEnd.out, HV.out, hkk, if_pos ⟨hall, hval, h48⟩]
              have HYes := Lib.hid hYes
              have hik2 : a + kk = i := by omega
              have HIK := Lib.hid hik2
              have hways2 : (x == 48) = false ∨ ((x == 48) = true ∧ decide ((1 : Int) < (kk : Int)) = false ∧ ¬ 1 < kk) := by
                by_cases h0 : c.toNat = 48
                · right
                  have : ¬ 1 < kk := fun h1 => h48 ⟨h0, h1⟩
                  exact ⟨by rw [hx48]; simpa using h0, by simp; omega, this⟩
                · left; rw [hx48]; simpa using h0
              clear hv hkk hall hx48 h48 hYes hik2
              rcases hways2 with hx1 | ⟨hx1, hk1, hk1'⟩
              all_goals
                go_wp2
                have hz9 := set_blk (set_blk HB9.out 0 (.int .i64 3)) 1 (.int .i64 v)
                have hz4 := set4 (w := (wr.setCell ⟨N9, 0, none⟩ (.int .i64 3)).setCell ⟨N9, 1, none⟩ (.int .i64 v)) (((Touch.refl (fun x => x = N9) wr).setCell (p := ⟨N9, 0, none⟩) (.inl rfl) (.int .i64 3)).setCell (p := ⟨N9, 1, none⟩) (.inl rfl) (.int .i64 v) |>.block N4 p4l h49 |>.trans HB42.out) (.int .i64 3) (.int .i64 v) (.int .i64 a) (.string ⟨#[]⟩)
                have d0 := cell_blk hz4 0
                have d1 := cell_blk hz4 1
                have d2 := cell_blk hz4 2
                have d3 := cell_blk hz4 3
                exact bodyPost_ret (v := .tuple #[.agg #[.int .i64 3, .int .i64 v, .int .i64 a, .string ⟨#[]⟩], .int .i64 i, .int .i64 0]) (by simp [results, Tryz.results31, go_sem, d0, d1, d2, d3]) rfl ⟨touch4 ((HT2.out.setCell (p := ⟨N9, 0, none⟩) (.inr HN9) _).setCell (p := ⟨N9, 1, none⟩) (.inr HN9) _) (.inr HN4) _ _ _ _, by rw [HYes.out]; show _ = _; rw [HIK.out]; rfl⟩
end Go.Proofs.YtnphaaahdlkmhaaGreat
end
/-
  The document's own token, where a letter begins it: a word, a name, or none. Conditions: at most 65536 bytes.
-/
section
namespace Go.Proofs.YtnphaaahdlkmhaaGreat
open Go.ChangeShapes Go.WideShapes Go.ChangeAt Go.RowKit
set_option maxRecDepth 100000
set_option maxHeartbeats 4000000

theorem token_letter {A : Option Addr} {n cap : Nat} {b : Bs} {w : World} (hn : b.length = n) (hcap : n ≤ cap) (hmax : n ≤ 65536) (hb : BAt w A b) {a : Nat} (ha : a < n) {c : UInt8} (hc : b[a]? = some c) (hL : bL c = true) :
    Calls Tryz.prog 31 #[.slice A n cap, .int .i64 a] w (TnPost w b a) := by
  have _ := hcap
  obtain ⟨blk, off, rfl, hblk, -, hcells⟩ := bat_at hb (by rw [hn]; exact ha)
  have hca := hcells a c hc
  have HCells := Lib.hid hcells
  have HN := Lib.hid hn
  have HC := Lib.hid hc
  have HB := Lib.hid hb
  have HLL := Lib.hid hL
  have HCAP := Lib.hid hcap
  clear hL
  have HRL := Lib.hid (fun c w => rletter_any c w)
  have HRD := Lib.hid (fun c w => rdigit_any c w)
  clear hn hb hcells
  obtain ⟨x, hx⟩ : ∃ x, (c.toNat : Int) = x := ⟨_, rfl⟩
  rw [hx] at hca
  have HX := Lib.hid hx
  clear hx hc
  go_enter Tryz.func31, Tryz.ntmps31
  go_upto_region 1 with fail
  have hb4 := alloc_blk w #[.int .i64 0, .int .i64 0, .int .i64 0, .string ⟨#[]⟩] 52 rfl
  obtain ⟨W1, hW1⟩ : ∃ W1, w.alloc (.cells #[.int .i64 0, .int .i64 0, .int .i64 0, .string ⟨#[]⟩] 52) = W1 := ⟨_, rfl⟩
  have hT1 : Touch NoB w W1 := by rw [← hW1]; exact (Touch.refl _ _).alloc _
  obtain ⟨N4, hN4⟩ : ∃ N4, w.heap.size = N4 := ⟨_, rfl⟩
  rw [hN4, hW1] at hb4
  rw [hN4, hW1]
  have hca1 : W1.cell? ⟨blk, off + a, none⟩ = some (.int .u8 x) := (hT1.cell (p := ⟨blk, off + a, none⟩) hblk (fun x => x)).trans hca
  have HC1 := Lib.hid (fun (i : Nat) (d : UInt8) (hd : b[i]? = some d) => (hT1.cell (p := ⟨blk, off + i, none⟩) hblk (fun x => x)).trans (HCells.out i d hd))
  have hl1 : blk < W1.heap.size := Nat.lt_of_lt_of_le hblk hT1.size
  have hbn : blk < N4 := by omega
  have HN4 : w.heap.size ≤ N4 := by omega
  have HB4 := Lib.hid hb4
  have HT1 := Lib.hid hT1
  clear hW1 hN4 hca hb4 hT1
  go_wp2
  go_loopw [8] (fun v8 wr => TnRel b a W1 v8 wr) (fun v8 _ => n - (intOf v8).toNat)
  case atStart => exact ⟨a, Run.start _ (by rw [HN.out]; omega), rfl, rfl⟩
  case round =>
    obtain ⟨k, hrun, rfl, hwr⟩ := hrel
    subst hwr
    have hk : k ≤ n := by rw [← HN.out]; exact hrun.2.1
    have HRun := Lib.hid hrun
    have hak : a ≤ k := hrun.1
    clear hrun
    by_cases hgo : ∃ d, b[k]? = some d ∧ bW d = true
    · obtain ⟨d, hd, hdw⟩ := hgo
      have hlt : k < n := by rw [← HN.out]; exact (List.getElem?_eq_some_iff.1 hd).1
      have hcd := HC1.out k d hd
      have HP := Lib.hid (fun W => rletter_any (d.toNat : Int) W)
      rw [show okB (d.toNat : Int) = true from by rw [okB_b]; exact hdw] at HP
      have HD := Lib.hid (And.intro hd hdw)
      obtain ⟨y, hy⟩ : ∃ y, (d.toNat : Int) = y := ⟨_, rfl⟩
      rw [hy] at hcd HP
      clear hy hd hdw
      go_wp2_with fail
      refine (HP.out _).mono ?_
      rintro e w' ⟨rfl, rfl⟩
      go_wp2
      go_roundw
      case rel => exact ⟨k + 1, HRun.out.next HD.out.1 HD.out.2, by go_num, rfl⟩
      case measure => simp [intOf]; omega
    · have he : ∀ d, b[k]? = some d → bW d = false := fun d hd => by
        cases hw : bW d
        · rfl
        · exact absurd ⟨d, hd, hw⟩ hgo
      have HEnd := Lib.hid he
      have HG := Lib.hid hgo
      clear he hgo
      have hways : (k < n ∧ ∃ y, wr.cell? ⟨blk, off + k, none⟩ = some (.int .u8 y) ∧ okB y = false) ∨ k = n := by
        rcases Nat.lt_or_ge k n with h | h
        · obtain ⟨d, hd⟩ : ∃ d, b[k]? = some d := ⟨b[k]'(by rw [HN.out]; exact h), List.getElem?_eq_getElem _⟩
          exact .inl ⟨h, _, HC1.out k d hd, by rw [okB_b]; exact HEnd.out d hd⟩
        · exact .inr (by omega)
      rcases hways with hways | hkn
      all_goals
        first
        | (obtain ⟨hlt, y, hcy, hoy⟩ := hways
           have HP := Lib.hid (fun W => rletter_any y W)
           rw [hoy] at HP
           clear hoy
           go_wp2_with fail
           refine (HP.out _).mono ?_
           rintro e w' ⟨rfl, rfl⟩
           clear HP hcy hlt)
        | (have hd : decide ((k : Int) < (n : Int)) = false := by simp; omega
           have hnk : ¬ k < n := by omega
           clear hkn)
      all_goals
        go_upto_region 6 with fail
        have hb9 := alloc_blk wr #[.int .i64 0, .int .i64 0, .int .i64 a, .string ⟨#[]⟩] 52 rfl
        obtain ⟨W2, hW2⟩ : ∃ W2, wr.alloc (.cells #[.int .i64 0, .int .i64 0, .int .i64 a, .string ⟨#[]⟩] 52) = W2 := ⟨_, rfl⟩
        have hT2 : Touch NoB wr W2 := by rw [← hW2]; exact (Touch.refl _ _).alloc _
        have h4l := blk_lt HB4.out
        have hb4 := (hT2.block _ h4l (fun x => x)).trans HB4.out
        obtain ⟨N9, hN9⟩ : ∃ N9, wr.heap.size = N9 := ⟨_, rfl⟩
        have h49 : N4 ≠ N9 := by omega
        have h94 : N9 ≠ N4 := by omega
        have HN9 : w.heap.size ≤ N9 := by omega
        rw [hN9, hW2] at hb9
        rw [hN9, hW2]
        have HT2 := Lib.hid (HT1.out.same hT2)
        have HC2 := Lib.hid (fun (i : Nat) (d : UInt8) (hd : b[i]? = some d) => (hT2.cell (p := ⟨blk, off + i, none⟩) hl1 (fun x => x)).trans (HC1.out i d hd))
        have c0 := cell_blk hb9 0
        have c1 := cell_blk hb9 1
        have c2 := cell_blk hb9 2
        have c3 := cell_blk hb9 3
        have f0 := free_blk hb9 0
        have f1 := free_blk hb9 1
        have f2 := free_blk hb9 2
        have f3 := free_blk hb9 3
        have r0 := cell_blk hb4 0
        have r1 := cell_blk hb4 1
        have r2 := cell_blk hb4 2
        have r3 := cell_blk hb4 3
        have g0 := free_blk hb4 0
        have g1 := free_blk hb4 1
        have g2 := free_blk hb4 2
        have g3 := free_blk hb4 3
        have p9l := blk_lt hb9
        have p4l := blk_lt hb4
        have HB9 := Lib.hid hb9
        have HB42 := Lib.hid hb4
        clear hb4 hb9 hW2 hT2 hN9 h4l
        have HPD := Lib.hid (fun w => HRD.out x w)
        rw [show digB x = false from by rw [← HX.out, digB_b]; exact L_not_D HLL.out] at HPD
        have HPL := Lib.hid (fun w => HRL.out x w)
        rw [show okB x = true from by rw [← HX.out, okB_b]; exact bW_L HLL.out] at HPL
        have hx95 : (x != 95) = true := by
          have h1 := HX.out
          have h2 := HLL.out
          rw [bne_iff_ne]
          intro e
          have : c.toNat = 95 := by omega
          simp [bL, this] at h2
        have hkb : k ≤ n := by rw [← HN.out]; exact HRun.out.2.1
        have hakp := run_lt HRun.out HC.out (bW_L HLL.out) HEnd.out
        obtain ⟨vs, hvs, hvc⟩ := win_text (l := a) (h := k) HB.out HN.out HCAP.out hak hkb
        have hvs0 := hvs W2
        have hvc0 := hvc W2 HT2.out
        have htok := tok_letters HC.out HLL.out HRun.out HEnd.out
        have hsz : (bs (cut b a k)).size = k - a := by rw [bs_size]; exact HRun.out.len
        have hwd := wrd_bs (cut b a k)
        have hll : (cut b a k).length = k - a := HRun.out.len
        rw [hll, ← hwd] at htok
        obtain ⟨sx, hsx⟩ : ∃ sx, bs (cut b a k) = sx := ⟨_, rfl⟩
        rw [hsx] at hvc0 hsz htok
        have HSX := Lib.hid hsx
        have HWD := Lib.hid (fun w => rword_any sx w)
        have HTOK := Lib.hid htok
        clear hvs hvc hsx hwd hll htok
        have hzA : ((W2.setCell ⟨N9, 3, none⟩ (.string sx)).setCell ⟨N9, 0, none⟩ (.int .i64 1)).heap[N9]? = some (.cells #[.int .i64 1, .int .i64 0, .int .i64 a, .string sx] 52 (0, 0)) := set_blk (set_blk HB9.out 3 (.string sx)) 0 (.int .i64 1)
        have hTA : Touch (fun z => z = N9) W2 ((W2.setCell ⟨N9, 3, none⟩ (.string sx)).setCell ⟨N9, 0, none⟩ (.int .i64 1)) := ((Touch.refl (fun z => z = N9) W2).setCell (p := ⟨N9, 3, none⟩) (.inl rfl) _).setCell (p := ⟨N9, 0, none⟩) (.inl rfl) _
        have HA := Lib.hid (And.intro hzA hTA)
        clear hzA hTA
        go_wp2_with fail
        refine (HPD.out _).mono ?_
        rintro e w' ⟨rfl, rfl⟩
        go_wp2_with fail
        refine (HPL.out _).mono ?_
        rintro e w' ⟨rfl, rfl⟩
        go_wp2_with fail
        refine (HWD.out _).mono ?_
        rintro e w5 ⟨rfl, hT5⟩
        have hsA := HA.out.2.size
        have hz9 := (hT5.block N9 (blk_lt HA.out.1) (fun x => x)).trans HA.out.1
        have hz4 := (hT5.block N4 (by omega) (fun x => x)).trans ((HA.out.2.block N4 p4l h49).trans HB42.out)
        have HT5 := Lib.hid (HT2.out.trans (HA.out.2.trans (G := NoB) hT5 (fun _ x => x.elim)) (fun z hz => .inr (by rw [hz]; exact HN9)))
        have k0 := cell_blk hz9 0
        have k1 := cell_blk hz9 1
        have k2 := cell_blk hz9 2
        have k3 := cell_blk hz9 3
        have m0 := free_blk hz9 0
        have q0 := cell_blk hz4 0
        have q1 := cell_blk hz4 1
        have q2 := cell_blk hz4 2
        have q3 := cell_blk hz4 3
        have o0 := free_blk hz4 0
        have o1 := free_blk hz4 1
        have o2 := free_blk hz4 2
        have o3 := free_blk hz4 3
        have HZ9 := Lib.hid hz9
        have HZ4 := Lib.hid hz4
        have z4l := blk_lt hz4
        clear hT5 hz9 hz4 c0 c1 c2 c3 f0 f1 f2 f3 r0 r1 r2 r3 g0 g1 g2 g3 hsA hvs0 hvc0
        cases hwrd : wrd sx
        · have hlen : ((sx.size : Int) = ((k - a : Nat) : Int)) := by omega
          obtain ⟨kk, hkk⟩ : ∃ kk, k - a = kk := ⟨_, rfl⟩
          rw [hkk] at hsz
          by_cases h24 : 24 < kk
          · have hd24 : decide ((24 : Int) < (kk : Int)) = true := by simp; omega
            have HNo : Hid (tokL a (b.drop a) = none) := Lib.hid (by
              have := HTOK.out
              rw [hwrd, hkk, if_neg (by simp), if_neg (by omega)] at this
              exact this)
            clear hlen hkk
            go_wp2
            have hy := set4 HZ4.out (.int .i64 1) (.int .i64 0) (.int .i64 a) (.string sx)
            have d0 := cell_blk hy 0
            have d1 := cell_blk hy 1
            have d2 := cell_blk hy 2
            have d3 := cell_blk hy 3
            exact bodyPost_ret (v := .tuple #[.agg #[.int .i64 1, .int .i64 0, .int .i64 a, .string sx], .int .i64 a, .int .i64 2]) (by simp [results, Tryz.results31, go_sem, d0, d1, d2, d3]) rfl ⟨touch4 HT5.out (.inr HN4) _ _ _ _, by rw [HNo.out]; exact ⟨_, _, _, _, rfl⟩⟩
          · have hd24 : decide ((24 : Int) < (kk : Int)) = false := by simp; omega
            have HYes : Hid (tokL a (b.drop a) = some (⟨1, 0, a, cut b a k⟩, kk)) := Lib.hid (by
              have := HTOK.out
              rw [hwrd, hkk, if_neg (by simp), if_pos (by omega)] at this
              exact this)
            have HIK : Hid (a + kk = k) := Lib.hid (by omega)
            clear hlen hkk
            go_wp2
            have hy := set4 HZ4.out (.int .i64 1) (.int .i64 0) (.int .i64 a) (.string sx)
            have d0 := cell_blk hy 0
            have d1 := cell_blk hy 1
            have d2 := cell_blk hy 2
            have d3 := cell_blk hy 3
            exact bodyPost_ret (v := .tuple #[.agg #[.int .i64 1, .int .i64 0, .int .i64 a, .string sx], .int .i64 k, .int .i64 0]) (by simp [results, Tryz.results31, go_sem, d0, d1, d2, d3]) rfl ⟨touch4 HT5.out (.inr HN4) _ _ _ _, by rw [HYes.out]; show _ = _; rw [HIK.out, HSX.out]; rfl⟩
        · have HYes : Hid (tokL a (b.drop a) = some (⟨2, 0, a, cut b a k⟩, k - a)) := Lib.hid (by
            have := HTOK.out
            rw [hwrd, if_pos rfl] at this
            exact this)
          have HIK : Hid (a + (k - a) = k) := Lib.hid (by omega)
          clear hwrd
          go_wp2
          have hy := set4 (w := w5.setCell ⟨N9, 0, none⟩ (.int .i64 2)) (((Touch.refl (fun x => x = N9) w5).setCell (p := ⟨N9, 0, none⟩) (.inl rfl) (.int .i64 2) |>.block N4 z4l h49).trans HZ4.out) (.int .i64 2) (.int .i64 0) (.int .i64 a) (.string sx)
          have d0 := cell_blk hy 0
          have d1 := cell_blk hy 1
          have d2 := cell_blk hy 2
          have d3 := cell_blk hy 3
          exact bodyPost_ret (v := .tuple #[.agg #[.int .i64 2, .int .i64 0, .int .i64 a, .string sx], .int .i64 k, .int .i64 0]) (by simp [results, Tryz.results31, go_sem, d0, d1, d2, d3]) rfl ⟨touch4 (HT5.out.setCell (p := ⟨N9, 0, none⟩) (.inr HN9) _) (.inr HN4) _ _ _ _, by rw [HYes.out]; show _ = _; rw [HIK.out, HSX.out]; rfl⟩
end Go.Proofs.YtnphaaahdlkmhaaGreat
end
/-
  The document's own token, where neither a letter nor a digit begins it: a sign, or none. Conditions: at most 65536 bytes.
-/
section
namespace Go.Proofs.YtnphaaahdlkmhaaGreat
open Go.ChangeShapes Go.WideShapes Go.ChangeAt Go.RowKit
set_option maxRecDepth 100000
set_option maxHeartbeats 4000000

theorem token_sign {A : Option Addr} {n cap : Nat} {b : Bs} {w : World} (hn : b.length = n) (hcap : n ≤ cap) (hmax : n ≤ 65536) (hb : BAt w A b) {a : Nat} (ha : a < n) {c : UInt8} (hc : b[a]? = some c) (hL : bL c = false) (hD : bD c = false) :
    Calls Tryz.prog 31 #[.slice A n cap, .int .i64 a] w (TnPost w b a) := by
  have _ := hcap
  obtain ⟨blk, off, rfl, hblk, -, hcells⟩ := bat_at hb (by rw [hn]; exact ha)
  have hca := hcells a c hc
  have HCells := Lib.hid hcells
  have HN := Lib.hid hn
  have HC := Lib.hid hc
  have HB := Lib.hid hb
  have HLL := Lib.hid hL
  have HDD := Lib.hid hD
  have HCAP := Lib.hid hcap
  clear hL hD
  have HRL := Lib.hid (fun c w => rletter_any c w)
  have HRD := Lib.hid (fun c w => rdigit_any c w)
  clear hn hb hcells
  obtain ⟨x, hx⟩ : ∃ x, (c.toNat : Int) = x := ⟨_, rfl⟩
  rw [hx] at hca
  have HX := Lib.hid hx
  clear hx hc
  go_enter Tryz.func31, Tryz.ntmps31
  go_upto_region 1 with fail
  have hb4 := alloc_blk w #[.int .i64 0, .int .i64 0, .int .i64 0, .string ⟨#[]⟩] 52 rfl
  obtain ⟨W1, hW1⟩ : ∃ W1, w.alloc (.cells #[.int .i64 0, .int .i64 0, .int .i64 0, .string ⟨#[]⟩] 52) = W1 := ⟨_, rfl⟩
  have hT1 : Touch NoB w W1 := by rw [← hW1]; exact (Touch.refl _ _).alloc _
  obtain ⟨N4, hN4⟩ : ∃ N4, w.heap.size = N4 := ⟨_, rfl⟩
  rw [hN4, hW1] at hb4
  rw [hN4, hW1]
  have hca1 : W1.cell? ⟨blk, off + a, none⟩ = some (.int .u8 x) := (hT1.cell (p := ⟨blk, off + a, none⟩) hblk (fun x => x)).trans hca
  have HC1 := Lib.hid (fun (i : Nat) (d : UInt8) (hd : b[i]? = some d) => (hT1.cell (p := ⟨blk, off + i, none⟩) hblk (fun x => x)).trans (HCells.out i d hd))
  have hl1 : blk < W1.heap.size := Nat.lt_of_lt_of_le hblk hT1.size
  have hbn : blk < N4 := by omega
  have HN4 : w.heap.size ≤ N4 := by omega
  have HB4 := Lib.hid hb4
  have HT1 := Lib.hid hT1
  clear hW1 hN4 hca hb4 hT1
  go_wp2
  go_loopw [8] (fun v8 wr => TnRel b a W1 v8 wr) (fun v8 _ => n - (intOf v8).toNat)
  case atStart => exact ⟨a, Run.start _ (by rw [HN.out]; omega), rfl, rfl⟩
  case round =>
    obtain ⟨k, hrun, rfl, hwr⟩ := hrel
    subst hwr
    have hk : k ≤ n := by rw [← HN.out]; exact hrun.2.1
    have HRun := Lib.hid hrun
    have hak : a ≤ k := hrun.1
    clear hrun
    by_cases hgo : ∃ d, b[k]? = some d ∧ bW d = true
    · obtain ⟨d, hd, hdw⟩ := hgo
      have hlt : k < n := by rw [← HN.out]; exact (List.getElem?_eq_some_iff.1 hd).1
      have hcd := HC1.out k d hd
      have HP := Lib.hid (fun W => rletter_any (d.toNat : Int) W)
      rw [show okB (d.toNat : Int) = true from by rw [okB_b]; exact hdw] at HP
      have HD := Lib.hid (And.intro hd hdw)
      obtain ⟨y, hy⟩ : ∃ y, (d.toNat : Int) = y := ⟨_, rfl⟩
      rw [hy] at hcd HP
      clear hy hd hdw
      go_wp2_with fail
      refine (HP.out _).mono ?_
      rintro e w' ⟨rfl, rfl⟩
      go_wp2
      go_roundw
      case rel => exact ⟨k + 1, HRun.out.next HD.out.1 HD.out.2, by go_num, rfl⟩
      case measure => simp [intOf]; omega
    · have he : ∀ d, b[k]? = some d → bW d = false := fun d hd => by
        cases hw : bW d
        · rfl
        · exact absurd ⟨d, hd, hw⟩ hgo
      have HEnd := Lib.hid he
      have HG := Lib.hid hgo
      clear he hgo
      have hways : (k < n ∧ ∃ y, wr.cell? ⟨blk, off + k, none⟩ = some (.int .u8 y) ∧ okB y = false) ∨ k = n := by
        rcases Nat.lt_or_ge k n with h | h
        · obtain ⟨d, hd⟩ : ∃ d, b[k]? = some d := ⟨b[k]'(by rw [HN.out]; exact h), List.getElem?_eq_getElem _⟩
          exact .inl ⟨h, _, HC1.out k d hd, by rw [okB_b]; exact HEnd.out d hd⟩
        · exact .inr (by omega)
      rcases hways with hways | hkn
      all_goals
        first
        | (obtain ⟨hlt, y, hcy, hoy⟩ := hways
           have HP := Lib.hid (fun W => rletter_any y W)
           rw [hoy] at HP
           clear hoy
           go_wp2_with fail
           refine (HP.out _).mono ?_
           rintro e w' ⟨rfl, rfl⟩
           clear HP hcy hlt)
        | (have hd : decide ((k : Int) < (n : Int)) = false := by simp; omega
           have hnk : ¬ k < n := by omega
           clear hkn)
      all_goals
        go_upto_region 6 with fail
        have hb9 := alloc_blk wr #[.int .i64 0, .int .i64 0, .int .i64 a, .string ⟨#[]⟩] 52 rfl
        obtain ⟨W2, hW2⟩ : ∃ W2, wr.alloc (.cells #[.int .i64 0, .int .i64 0, .int .i64 a, .string ⟨#[]⟩] 52) = W2 := ⟨_, rfl⟩
        have hT2 : Touch NoB wr W2 := by rw [← hW2]; exact (Touch.refl _ _).alloc _
        have h4l := blk_lt HB4.out
        have hb4 := (hT2.block _ h4l (fun x => x)).trans HB4.out
        obtain ⟨N9, hN9⟩ : ∃ N9, wr.heap.size = N9 := ⟨_, rfl⟩
        have h49 : N4 ≠ N9 := by omega
        have h94 : N9 ≠ N4 := by omega
        have HN9 : w.heap.size ≤ N9 := by omega
        rw [hN9, hW2] at hb9
        rw [hN9, hW2]
        have HT2 := Lib.hid (HT1.out.same hT2)
        have HC2 := Lib.hid (fun (i : Nat) (d : UInt8) (hd : b[i]? = some d) => (hT2.cell (p := ⟨blk, off + i, none⟩) hl1 (fun x => x)).trans (HC1.out i d hd))
        have c0 := cell_blk hb9 0
        have c1 := cell_blk hb9 1
        have c2 := cell_blk hb9 2
        have c3 := cell_blk hb9 3
        have f0 := free_blk hb9 0
        have f1 := free_blk hb9 1
        have f2 := free_blk hb9 2
        have f3 := free_blk hb9 3
        have r0 := cell_blk hb4 0
        have r1 := cell_blk hb4 1
        have r2 := cell_blk hb4 2
        have r3 := cell_blk hb4 3
        have g0 := free_blk hb4 0
        have g1 := free_blk hb4 1
        have g2 := free_blk hb4 2
        have g3 := free_blk hb4 3
        have p9l := blk_lt hb9
        have p4l := blk_lt hb4
        have HB9 := Lib.hid hb9
        have HB42 := Lib.hid hb4
        clear hb4 hb9 hW2 hT2 hN9 h4l
        have HPD := Lib.hid (fun w => HRD.out x w)
        rw [show digB x = false from by rw [← HX.out, digB_b]; exact HDD.out] at HPD
        have HPL := Lib.hid (fun w => HRL.out x w)
        rw [show okB x = (x == 95) from by unfold okB; rw [show letB x = false from by rw [← HX.out, letB_b]; exact HLL.out, show digB x = false from by rw [← HX.out, digB_b]; exact HDD.out]; rfl] at HPL
        have HSG := Lib.hid (fun w => signs_any' w)
        go_wp2_with fail
        refine (HPD.out _).mono ?_
        rintro e w' ⟨rfl, rfl⟩
        go_wp2_with fail
        refine (HPL.out _).mono ?_
        rintro e w' ⟨rfl, rfl⟩
        have hx95 : ((x == 95) = true ∧ (x != 95) = false) ∨ (x == 95) = false := by
          cases h : x == 95
          · exact .inr rfl
          · refine .inl ⟨rfl, ?_⟩
            simp at h
            simp [h]
        have hb9t := HB9.out
        have hb4t := HB42.out
        clear c0 c1 c2 c3 f0 f1 f2 f3 r0 r1 r2 r3 g0 g1 g2 g3
        rcases hx95 with ⟨h95, h95'⟩ | h95
        all_goals
          simp only [h95]
          go_wp2_with fail
          refine (HSG.out _).mono ?_
          rintro e w5 ⟨gs, rfl, ⟨hgs0, hgs⟩, hcs, hT5⟩
          have hz9 := (hT5.block N9 (blk_lt hb9t) (fun x => x)).trans hb9t
          have hz4 := (hT5.block N4 (blk_lt hb4t) (fun x => x)).trans hb4t
          have HT5 := Lib.hid (HT2.out.same hT5)
          have HCS := Lib.hid hcs
          have HZ9 := Lib.hid hz9
          have HZ4 := Lib.hid hz4
          have hgs9 : N9 < w5.heap.size := blk_lt hz9
          have hgs4 : N4 < w5.heap.size := blk_lt hz4
          have HBG := Lib.hid (fun l (hl : l.length ≤ 100) => begins_any (w := w5) (l := l) HN.out HCAP.out hmax (HB.out.touch (HT2.out.same hT5)) (Nat.le_of_lt ha) hl)
          have hng : N9 ≠ gs := by omega
          have hgn : gs ≠ N9 := by omega
          have hn4g : N4 ≠ gs := by omega
          have hgn4 : gs ≠ N4 := by omega
          clear hT5 hcs hz9 hz4 hb9t hb4t hgs0
          go_wp2
          go_loopw [13] (fun v13 wr => TsRel b a w5 v13 wr) (fun v13 _ => 18 - (intOf v13).toNat)
          case atStart => exact ⟨0, by omega, rfl, fun j m hj => by omega, rfl⟩
          case round =>
            obtain ⟨i, hi, rfl, hno, hwr⟩ := hrel
            subst hwr
            have HNO := Lib.hid hno
            clear hno
            by_cases hlt : i < 18
            · obtain ⟨m, hm⟩ : ∃ m, sgS[i]? = some m := ⟨sgS[i]'(by rw [sgS_len]; exact hlt), List.getElem?_eq_getElem _⟩
              have hcm := HCS.out i m hm
              have hml : m.length ≤ 2 := by
                have : ∀ z ∈ sgS, z.length ≤ 2 := by decide
                exact this m (List.mem_of_getElem? hm)
              have HM := Lib.hid hm
              have HB1 := Lib.hid (HBG.out m (by omega))
              have hsz : (bs m).size = m.length := bs_size m
              obtain ⟨sm, hsm⟩ : ∃ sm, bs m = sm := ⟨_, rfl⟩
              rw [hsm] at hcm HB1 hsz
              have HSM := Lib.hid hsm
              clear hm hsm
              cases hbg : begB b a m
              · rw [hbg] at HB1
                have HBF := Lib.hid hbg
                clear hbg
                go_wp2_with fail
                refine HB1.out.mono ?_
                rintro e w' ⟨rfl, rfl⟩
                go_wp2
                go_roundw
                case rel =>
                  refine ⟨i + 1, by omega, by go_num, fun j q hj hq => ?_, rfl⟩
                  by_cases e : j = i
                  · subst e
                    have := HM.out.symm.trans hq
                    injection this with this
                    rw [← this]; exact HBF.out
                  · exact HNO.out j q (by omega) hq
                case measure => simp [intOf]; omega
              · rw [hbg] at HB1
                have HTK : Hid (tokL a (b.drop a) = some (⟨4, 0, a, m⟩, m.length)) := Lib.hid (sign_first HC.out HLL.out HDD.out HM.out hbg (fun j q hj hq => HNO.out j q hj hq))
                clear hbg
                obtain ⟨ln, hln⟩ : ∃ ln, m.length = ln := ⟨_, rfl⟩
                rw [hln] at hsz hml
                have HLN := Lib.hid hln
                clear hln
                go_wp2_with fail
                refine HB1.out.mono ?_
                rintro e w' ⟨rfl, rfl⟩
                go_wp2
                have l0 := cell_blk HZ9.out 0
                have l3 := cell_blk HZ9.out 3
                have n0 := free_blk HZ9.out 0
                have n3 := free_blk HZ9.out 3
                have cmw := hcm
                have k0 : wr.drew.cell? ⟨N9, 0, none⟩ = _ := cell_blk HZ9.out 0
                have k3 : wr.drew.cell? ⟨N9, 3, none⟩ = _ := cell_blk HZ9.out 3
                have m0 : wr.drew.frozen? ⟨N9, 0, none⟩ = false := free_blk HZ9.out 0
                have m3 : wr.drew.frozen? ⟨N9, 3, none⟩ = false := free_blk HZ9.out 3
                have cm : wr.drew.cell? ⟨gs, i, none⟩ = some (.string sm) := hcm
                clear hcm
                go_region
                have hb7 : ((wr.setCell ⟨N9, 0, none⟩ (.int .i64 4)).setCell ⟨N9, 3, none⟩ (.string sm)).drew.heap[N9]? = some (.cells #[.int .i64 4, .int .i64 0, .int .i64 a, .string sm] 52 (0, 0)) := set_blk (set_blk HZ9.out 0 (.int .i64 4)) 3 (.string sm)
                have hT7 : Touch (fun z => z = N9) wr ((wr.setCell ⟨N9, 0, none⟩ (.int .i64 4)).setCell ⟨N9, 3, none⟩ (.string sm)).drew := (((Touch.refl (fun z => z = N9) wr).setCell (p := ⟨N9, 0, none⟩) (.inl rfl) _).setCell (p := ⟨N9, 3, none⟩) (.inl rfl) _).drew
                obtain ⟨W7, hW7⟩ : ∃ W7, ((wr.setCell ⟨N9, 0, none⟩ (.int .i64 4)).setCell ⟨N9, 3, none⟩ (.string sm)).drew = W7 := ⟨_, rfl⟩
                rw [hW7] at hb7 hT7
                rw [hW7]
                have hb74 := (hT7.block N4 hgs4 h49).trans HZ4.out
                have cm7 : W7.cell? ⟨gs, i, none⟩ = some (.string sm) := (hT7.cell (p := ⟨gs, i, none⟩) hgs hgn).trans cmw
                have HT7 := Lib.hid (HT5.out.trans hT7 (fun z hz => .inr (by rw [hz]; exact HN9)))
                have HB74 := Lib.hid hb74
                clear k0 k3 m0 m3 cm l0 l3 n0 n3 cmw hW7 hT7
                have k0 : W7.drew.cell? ⟨N9, 0, none⟩ = _ := cell_blk hb7 0
                have k1 : W7.drew.cell? ⟨N9, 1, none⟩ = _ := cell_blk hb7 1
                have k2 : W7.drew.cell? ⟨N9, 2, none⟩ = _ := cell_blk hb7 2
                have k3 : W7.drew.cell? ⟨N9, 3, none⟩ = _ := cell_blk hb7 3
                have cm8 : W7.drew.cell? ⟨gs, i, none⟩ = some (.string sm) := cm7
                have q0 : W7.drew.cell? ⟨N4, 0, none⟩ = _ := cell_blk hb74 0
                have q1 : W7.drew.cell? ⟨N4, 1, none⟩ = _ := cell_blk hb74 1
                have q2 : W7.drew.cell? ⟨N4, 2, none⟩ = _ := cell_blk hb74 2
                have q3 : W7.drew.cell? ⟨N4, 3, none⟩ = _ := cell_blk hb74 3
                have o0 : W7.drew.frozen? ⟨N4, 0, none⟩ = false := free_blk hb74 0
                have o1 : W7.drew.frozen? ⟨N4, 1, none⟩ = false := free_blk hb74 1
                have o2 : W7.drew.frozen? ⟨N4, 2, none⟩ = false := free_blk hb74 2
                have o3 : W7.drew.frozen? ⟨N4, 3, none⟩ = false := free_blk hb74 3
                have kw0 := cell_blk hb7 0
                have kw1 := cell_blk hb7 1
                have kw2 := cell_blk hb7 2
                have kw3 := cell_blk hb7 3
                have qw0 := cell_blk hb74 0
                have qw1 := cell_blk hb74 1
                have qw2 := cell_blk hb74 2
                have qw3 := cell_blk hb74 3
                have ow0 := free_blk hb74 0
                have ow1 := free_blk hb74 1
                have ow2 := free_blk hb74 2
                have ow3 := free_blk hb74 3
                obtain ⟨hh, hhh⟩ : ∃ hh, a + ln = hh := ⟨_, rfl⟩
                have e5 : IntKind.i64.wrap ((a : Int) + (ln : Int)) = (hh : Int) := by
                  rw [show (a : Int) + (ln : Int) = (hh : Int) from by omega]; exact IntWalk.i64_in _ (by omega)
                have HHH := Lib.hid hhh
                clear hb7 hb74 hhh
                go_wp2
                go_region
                go_wp2
                have hy := set4 HB74.out (.int .i64 4) (.int .i64 0) (.int .i64 a) (.string sm)
                have hyt := touch4 HT7.out (.inr HN4) (.int .i64 4) (.int .i64 0) (.int .i64 a) (.string sm)
                obtain ⟨W8, hW8⟩ : ∃ W8, ((((W7.setCell ⟨N4, 0, none⟩ (.int .i64 4)).setCell ⟨N4, 1, none⟩ (.int .i64 0)).setCell ⟨N4, 2, none⟩ (.int .i64 a)).setCell ⟨N4, 3, none⟩ (.string sm)) = W8 := ⟨_, rfl⟩
                rw [hW8] at hy hyt
                rw [hW8]
                have d0 : W8.drew.cell? ⟨N4, 0, none⟩ = _ := cell_blk hy 0
                have d1 : W8.drew.cell? ⟨N4, 1, none⟩ = _ := cell_blk hy 1
                have d2 : W8.drew.cell? ⟨N4, 2, none⟩ = _ := cell_blk hy 2
                have d3 : W8.drew.cell? ⟨N4, 3, none⟩ = _ := cell_blk hy 3
                exact bodyPost_ret (v := .tuple #[.agg #[.int .i64 4, .int .i64 0, .int .i64 a, .string sm], .int .i64 hh, .int .i64 0]) (by simp [results, Tryz.results31, go_sem, d0, d1, d2, d3]) rfl ⟨hyt.drew, by rw [HTK.out]; show _ = _; rw [HLN.out, HHH.out, HSM.out]; rfl⟩
            · obtain rfl : i = 18 := by omega
              have HNo : Hid (tokL a (b.drop a) = none) := Lib.hid (sign_none HC.out HLL.out HDD.out (fun j q hq => HNO.out j q (by have := (List.getElem?_eq_some_iff.1 hq).1; rw [sgS_len] at this; exact this) hq))
              have k0 := cell_blk HZ9.out 0
              have k1 := cell_blk HZ9.out 1
              have k2 := cell_blk HZ9.out 2
              have k3 := cell_blk HZ9.out 3
              have q0 := cell_blk HZ4.out 0
              have q1 := cell_blk HZ4.out 1
              have q2 := cell_blk HZ4.out 2
              have q3 := cell_blk HZ4.out 3
              have o0 := free_blk HZ4.out 0
              have o1 := free_blk HZ4.out 1
              have o2 := free_blk HZ4.out 2
              have o3 := free_blk HZ4.out 3
              go_wp2
              have hy := set4 HZ4.out (.int .i64 0) (.int .i64 0) (.int .i64 a) (.string ⟨#[]⟩)
              have d0 := cell_blk hy 0
              have d1 := cell_blk hy 1
              have d2 := cell_blk hy 2
              have d3 := cell_blk hy 3
              exact bodyPost_ret (v := .tuple #[.agg #[.int .i64 0, .int .i64 0, .int .i64 a, .string ⟨#[]⟩], .int .i64 a, .int .i64 2]) (by simp [results, Tryz.results31, go_sem, d0, d1, d2, d3]) rfl ⟨touch4 HT5.out (.inr HN4) _ _ _ _, by rw [HNo.out]; exact ⟨_, _, _, _, rfl⟩⟩
end Go.Proofs.YtnphaaahdlkmhaaGreat
end
/-
  What the document's own token and Tokens return: what the lexer on lists of bytes comes to. No condition beyond those that each theorem names.
-/
section
namespace Go.Proofs.YtnphaaahdlkmhaaGreat
open Go.ChangeShapes Go.WideShapes Go.ChangeAt Go.RowKit
set_option maxRecDepth 100000
set_option maxHeartbeats 4000000

theorem rtoken_any {A : Option Addr} {n cap : Nat} {b : Bs} {w : World} (hn : b.length = n) (hcap : n ≤ cap) (hmax : n ≤ 65536) (hb : BAt w A b) {a : Nat} (ha : a < n) :
    Calls Tryz.prog 31 #[.slice A n cap, .int .i64 a] w (TnPost w b a) := by
  obtain ⟨c, hc⟩ : ∃ c, b[a]? = some c := ⟨b[a]'(by rw [hn]; exact ha), List.getElem?_eq_getElem _⟩
  cases hD : bD c
  · cases hL : bL c
    · exact token_sign hn hcap hmax hb ha hc hL hD
    · exact token_letter hn hcap hmax hb ha hc hL
  · exact token_digit hn hcap hmax hb ha hc hD

theorem sk_drop (b : Bs) {a : Nat} (ha : a ≤ b.length) : b.drop (skAt b a) = skipL false (b.drop a) ∧ a ≤ skAt b a ∧ skAt b a ≤ b.length := by
  have h := skip_suffix (b.drop a) false
  have hl := skip_len (b.drop a) false
  rw [List.length_drop] at h hl
  unfold skAt
  refine ⟨?_, by omega, by omega⟩
  conv => rhs; rw [h]
  rw [List.drop_drop, show a + (b.length - a - (skipL false (b.drop a)).length) = b.length - (skipL false (b.drop a)).length from by omega]
theorem sk_idem (l : Bs) : skipL false (skipL false l) = skipL false l := by
  cases h : skipL false l with
  | nil => rfl
  | cons c r =>
    obtain ⟨h1, h2⟩ := skip_head l false c r h
    exact skip_stay h1 h2
theorem sk_fix (b : Bs) {a : Nat} (ha : a ≤ b.length) : skipL false (b.drop (skAt b a)) = b.drop (skAt b a) := by
  rw [(sk_drop b ha).1, sk_idem]
theorem from_sk (b : Bs) {a : Nat} (ha : a ≤ b.length) : fromS false b (skAt b a) = fromS false b a := by
  unfold fromS
  rw [sk_fix b ha, (sk_drop b ha).1]
theorem at_token {b : Bs} {a : Nat} {c : UInt8} (h : b[a]? = some c) (hs : skipL false (b.drop a) = b.drop a) : bB c = false ∧ ¬ (c.toNat = 47 ∧ slash (b.drop (a + 1)) = true) := by
  rw [drop_at h] at hs
  exact skip_head (c :: b.drop (a + 1)) false c _ hs

def RkRel (w : World) (b : Bs) (v5 v6 : Value) (wr : World) : Prop := ∃ (ts : List Tk) (a : Nat), a ≤ b.length ∧ v6 = .int .i64 a ∧ wr.ownsRow w.heap.size 52 4 v5 ts.length (tkC ts) ∧ Lx.pre ts (fromS false b a) = lexL b ∧ skipL false (b.drop a) = b.drop a ∧ ts.length ≤ a ∧ Touch NoB w wr

theorem rtokens_any (A : Option Addr) (n cap : Nat) (b : Bs) (w : World) (hn : b.length = n) (hcap : n ≤ cap) (hb : BAt w A b) :
    Calls Tryz.prog 12 #[.slice A n cap] w (TokPost w b) := by
  by_cases h : n ≤ 65536
  · have hd : decide ((65536 : Int) < (n : Int)) = false := by simp; omega
    have HP : Hid (∀ e w', LxPost w n (lexL b) e w' → TokPost w b e w') := Lib.hid (fun e w' x => by unfold TokPost; rw [hn, if_pos h]; exact x)
    have HN := Lib.hid hn
    have HB := Lib.hid hb
    have HSK := Lib.hid (fun (W : World) (hW : Touch NoB w W) (a : Nat) (ha : a ≤ n) => skip_any (w := W) hn hcap h (hb.touch hW) ha)
    have HTK := Lib.hid (fun (W : World) (hW : Touch NoB w W) (a : Nat) (ha : a < n) => rtoken_any (w := W) hn hcap h (hb.touch hW) ha)
    clear hb hn
    obtain ⟨i0, hi0, hz0, hz1, hz2⟩ := info_tok'
    have hs0 := sk_drop b (Nat.zero_le b.length)
    have hf0 := from_sk b (Nat.zero_le b.length)
    have hx0 := sk_fix b (Nat.zero_le b.length)
    have HS0 := Lib.hid (And.intro hs0 (And.intro hf0 hx0))
    clear hs0 hf0 hx0
    go_enter Tryz.func12, Tryz.ntmps12
    go_wp2_with fail
    refine (HSK.out w (Touch.refl _ _) 0 (Nat.zero_le _)).mono ?_
    rintro e w' ⟨rfl, rfl⟩
    go_wp2
    go_loopw [5, 6] (fun v5 v6 wr => RkRel w b v5 v6 wr) (fun _ v6 _ => n - (intOf v6).toNat)
    case atStart => exact ⟨[], skAt b 0, HS0.out.1.2.2, rfl, World.ownsRow_nil _ _ _ _, by rw [HS0.out.2.1, Lx.pre_nil, lex_from], HS0.out.2.2, Nat.zero_le _, Touch.refl _ _⟩
    case round =>
      obtain ⟨ts, a, ha, rfl, hrow, hpre, hfix, hcnt, hTr⟩ := hrel
      rw [HN.out] at ha
      by_cases hlt : a < n
      · obtain ⟨c, hc⟩ : ∃ c, b[a]? = some c := ⟨b[a]'(by rw [HN.out]; exact hlt), List.getElem?_eq_getElem _⟩
        obtain ⟨hcb, hcs⟩ := at_token hc hfix
        have HROW := Lib.hid hrow
        have HTr := Lib.hid hTr
        have HCN := Lib.hid hcnt
        cases htk : tokL a (b.drop a) with
        | none =>
          have HBad := Lib.hid (hpre.symm.trans (from_wrong hc hcb hcs htk))
          have HT0 := Lib.hid htk
          clear hrow hpre hfix hcnt hTr hc hcb hcs htk
          go_wp2_with fail
          refine (HTK.out _ (by repeat (first | with_reducible exact HTr.out | with_reducible refine Touch.alloc ?_ _)) a hlt).mono ?_
          intro e w2 hp
          unfold TnPost at hp
          rw [HT0.out] at hp
          obtain ⟨hT2, x0, x1, x2, x3, rfl⟩ := hp
          have HT2 := Lib.hid (HTr.out.same hT2)
          clear hT2
          go_wp2
          exact bodyPost_ret (v := .tuple #[.slice none 0 0, .int .i64 a, .int .i64 2]) (by simp [results, Tryz.results12, go_sem]) rfl (HP.out _ _ (by rw [HBad.out]; exact ⟨by repeat (first | with_reducible exact HT2.out | with_reducible refine Touch.alloc ?_ _), rfl⟩))
        | some tk =>
          obtain ⟨t, k⟩ := tk
          have hlen := tok_len (a := a) (n := k) (c := c) (r := b.drop (a + 1)) (t := t) (by rw [← drop_at hc]; exact htk)
          rw [← drop_at hc, List.length_drop, HN.out] at hlen
          have htp := (tok_at htk).1
          have hk2 : a + k ≤ n := by omega
          have HT0 := Lib.hid (And.intro htk htp)
          have HGo := Lib.hid (hpre.symm.trans (from_told hc hcb hcs (by omega) (show tokL a (b.drop a) = some (t, a + k - a) from by rw [htk, Nat.add_sub_cancel_left])))
          have hs1 := sk_drop b (show a + k ≤ b.length by rw [HN.out]; exact hk2)
          have hf1 := from_sk b (show a + k ≤ b.length by rw [HN.out]; exact hk2)
          have hx1 := sk_fix b (show a + k ≤ b.length by rw [HN.out]; exact hk2)
          have HS1 := Lib.hid (And.intro hs1 (And.intro hf1 hx1))
          have hsk1 : a + k ≤ skAt b (a + k) := hs1.2.1
          have hkpos : 1 ≤ k := hlen.1
          clear hrow hpre hfix hcnt hTr hc hcb hcs htk hlen htp hs1 hf1 hx1
          go_wp2_with fail
          refine (HTK.out _ (by repeat (first | with_reducible exact HTr.out | with_reducible refine Touch.alloc ?_ _)) a hlt).mono ?_
          intro e w2 hp
          unfold TnPost at hp
          rw [HT0.out.1] at hp
          obtain ⟨hT2, rfl⟩ := hp
          have hrow2 := row_touch HROW.out hT2 (fun _ _ x => x)
          have hnew := hrow2.lt
          have HT2 := Lib.hid (HTr.out.same hT2)
          have HROW2 := Lib.hid hrow2
          clear hT2 hrow2
          obtain ⟨kd, hkd⟩ : ∃ kd, t.kd = kd := ⟨_, rfl⟩
          obtain ⟨nn, hnn⟩ : ∃ nn, t.n = nn := ⟨_, rfl⟩
          obtain ⟨pl, hpl⟩ : ∃ pl, t.pl = pl := ⟨_, rfl⟩
          obtain ⟨sx, hsx⟩ : ∃ sx, bs t.tx = sx := ⟨_, rfl⟩
          have hTV : TkV t = [.int .i64 kd, .int .i64 nn, .int .i64 pl, .string sx] := by rw [TkV, hkd, hnn, hpl, hsx]
          rw [hkd, hnn, hpl, hsx]
          have HTV := Lib.hid hTV
          clear hkd hnn hpl hsx hTV
          obtain ⟨ak, hak⟩ : ∃ ak, a + k = ak := ⟨_, rfl⟩
          rw [hak] at hk2 hsk1 HS1 HGo
          rw [hak]
          go_wp2_with (at_builtin; refine wpList_append_own_at _ rfl (.tmp 30) (.tmp 32) 45 rfl w.heap.size 52 i0 _ 4 40 Tryz.underlying45 hi0 hz0 hz1 hz2 rfl (by decide) _ ts.length (tkC ts) rfl ?o1 ⟨w2.heap.size + 1, 0, none⟩ 1 1 (TkV t) rfl rfl ?c1 ?c2 ?c3 ?c4 ?c5 ?go)
          case o1 => exact row_touch HROW2.out (((Touch.refl _ _).alloc _).alloc _) (fun _ _ x => x)
          case c1 =>
            rw [HTV.out]
            exact World.news_of_block (cs := #[.int .i64 kd, .int .i64 nn, .int .i64 pl, .string sx]) (alloc_blk _ _ 52 (by simp))
          case c2 => exact TkV_one t
          case c3 => have := HCN.out; unfold maxLen; omega
          case c4 => have := HCN.out; omega
          case c5 => have := HT2.out.size; simp; omega
          case go =>
          intro v2 w3 hown2 hgrow _ _
          have hT3 : Touch NoB w w3 := ((HT2.out.alloc _).alloc _).grown hgrow (fun x e => .inr (HROW.out.lt x e).1)
          have HT3 := Lib.hid (And.intro hT3 hown2)
          clear hown2 hgrow hT3
          go_wp2_with fail
          refine (HSK.out w3 HT3.out.1 ak hk2).mono ?_
          rintro e w' ⟨rfl, rfl⟩
          go_wp2
          go_roundw
          case rel =>
            refine ⟨ts ++ [t], skAt b ak, HS1.out.1.2.2, rfl, ?_, by rw [HS1.out.2.1]; exact HGo.out.symm, HS1.out.2.2, by rw [List.length_append]; have := HCN.out; simp; omega, HT3.out.1⟩
            rw [tkC_snoc, List.length_append]
            exact HT3.out.2
          case measure => simp [intOf]; omega
      · obtain rfl : a = n := by omega
        have hR : lexL b = .good (ts ++ [⟨0, 0, a, []⟩]) := by
          rw [← hpre]
          conv => lhs; rw [← HN.out]
          rw [from_end, HN.out]
          rfl
        have HR := Lib.hid hR
        have HROW := Lib.hid hrow
        have HTr := Lib.hid hTr
        clear hpre hfix hR hrow hTr
        go_wp2_with (at_builtin; refine wpList_append_own_at _ rfl (.tmp 37) (.tmp 41) 45 rfl w.heap.size 52 i0 _ 4 40 Tryz.underlying45 hi0 hz0 hz1 hz2 rfl (by decide) _ ts.length (tkC ts) rfl ?o1 ⟨wr.heap.size, 0, none⟩ 1 1 (TkV ⟨0, 0, a, []⟩) rfl rfl ?c1 ?c2 ?c3 ?c4 ?c5 ?go)
        case o1 => exact row_touch HROW.out ((Touch.refl _ _).alloc _) (fun _ _ x => x)
        case c1 => exact World.news_of_block (cs := #[.int .i64 0, .int .i64 0, .int .i64 (a : Int), .string ⟨#[]⟩]) (alloc_blk _ _ 52 rfl)
        case c2 => exact TkV_one _
        case c3 => unfold maxLen; omega
        case c4 => omega
        case c5 => have := HTr.out.size; simp; omega
        case go =>
        intro v2 w3 hown2 hgrow _ _
        have hT3 : Touch NoB w w3 := (HTr.out.alloc _).grown hgrow (fun x e => .inr (HROW.out.lt x e).1)
        have HT3 := Lib.hid (And.intro hT3 hown2)
        clear hown2 hgrow hT3
        go_wp2
        exact bodyPost_ret (v := .tuple #[v2, .int .i64 a, .int .i64 0]) (by simp [results, Tryz.results12, go_sem]) rfl (HP.out _ _ (by rw [HR.out]; exact ⟨HT3.out.1, v2, rfl, by rw [tkC_snoc, List.length_append]; exact HT3.out.2⟩))
  · have hd : decide ((65536 : Int) < (n : Int)) = true := by simp; omega
    have HP : Hid (∀ e w', e = .returned (.tuple #[.slice none 0 0, .int .i64 0, .int .i64 3]) ∧ w = w' → TokPost w b e w') := Lib.hid (fun e w' x => by unfold TokPost; rw [hn, if_neg h]; exact x)
    clear hb hn
    go_enter Tryz.func12, Tryz.ntmps12
    go_wp2
    exact bodyPost_ret (v := .tuple #[.slice none 0 0, .int .i64 0, .int .i64 3]) (by simp [results, Tryz.results12, go_sem]) rfl (HP.out _ _ ⟨rfl, rfl⟩)
end Go.Proofs.YtnphaaahdlkmhaaGreat
end
