/-
  The document's own token, where a letter begins it: a word, a name, or none. Conditions: at most 65536 bytes.
-/
import Derived.Test.YtbikpbmknneabaaGreatZs30
namespace Go.Proofs.YtbikpbmknneabaaGreat
open Go.ChangeShapes Go.WideShapes Go.ChangeAt Go.RowKit
set_option maxRecDepth 100000
set_option maxHeartbeats 4000000

theorem token_letter {A : Option Addr} {n cap : Nat} {b : Bs} {w : World} (hn : b.length = n) (hcap : n ≤ cap) (hmax : n ≤ 65536) (hb : BAt w A b) {a : Nat} (ha : a < n) {c : UInt8} (hc : b[a]? = some c) (hL : bL c = true) :
    Calls Tryz.prog 31 #[.slice A n cap, .int .i64 a] w (TnPost w b a) := by
  have _ := hcap
  obtain ⟨blk, off, rfl, hblk, -, hcells⟩ := bat_at hb (by rw [hn]; exact ha)
  have hca := hcells a c hc
  have HCells := Lib.hid hcells
  have HN := Lib.hid hn
  have HC := Lib.hid hc
  have HB := Lib.hid hb
  have HLL := Lib.hid hL
  have HCAP := Lib.hid hcap
  clear hL
  have HRL := Lib.hid (fun c w => rletter_any c w)
  have HRD := Lib.hid (fun c w => rdigit_any c w)
  clear hn hb hcells
  obtain ⟨x, hx⟩ : ∃ x, (c.toNat : Int) = x := ⟨_, rfl⟩
  rw [hx] at hca
  have HX := Lib.hid hx
  clear hx hc
  go_enter Tryz.func31, Tryz.ntmps31
  go_upto_region 1 with fail
  have hb4 := alloc_blk w #[.int .i64 0, .int .i64 0, .int .i64 0, .string ⟨#[]⟩] 52 rfl
  obtain ⟨W1, hW1⟩ : ∃ W1, w.alloc (.cells #[.int .i64 0, .int .i64 0, .int .i64 0, .string ⟨#[]⟩] 52) = W1 := ⟨_, rfl⟩
  have hT1 : Touch NoB w W1 := by rw [← hW1]; exact (Touch.refl _ _).alloc _
  obtain ⟨N4, hN4⟩ : ∃ N4, w.heap.size = N4 := ⟨_, rfl⟩
  rw [hN4, hW1] at hb4
  rw [hN4, hW1]
  have hca1 : W1.cell? ⟨blk, off + a, none⟩ = some (.int .u8 x) := (hT1.cell (p := ⟨blk, off + a, none⟩) hblk (fun x => x)).trans hca
  have HC1 := Lib.hid (fun (i : Nat) (d : UInt8) (hd : b[i]? = some d) => (hT1.cell (p := ⟨blk, off + i, none⟩) hblk (fun x => x)).trans (HCells.out i d hd))
  have hl1 : blk < W1.heap.size := Nat.lt_of_lt_of_le hblk hT1.size
  have hbn : blk < N4 := by omega
  have HN4 : w.heap.size ≤ N4 := by omega
  have HB4 := Lib.hid hb4
  have HT1 := Lib.hid hT1
  clear hW1 hN4 hca hb4 hT1
  go_wp2
  go_loopw [8] (fun v8 wr => TnRel b a W1 v8 wr) (fun v8 _ => n - (intOf v8).toNat)
  case atStart => exact ⟨a, Run.start _ (by rw [HN.out]; omega), rfl, rfl⟩
  case round =>
    obtain ⟨k, hrun, rfl, hwr⟩ := hrel
    subst hwr
    have hk : k ≤ n := by rw [← HN.out]; exact hrun.2.1
    have HRun := Lib.hid hrun
    have hak : a ≤ k := hrun.1
    clear hrun
    by_cases hgo : ∃ d, b[k]? = some d ∧ bW d = true
    · obtain ⟨d, hd, hdw⟩ := hgo
      have hlt : k < n := by rw [← HN.out]; exact (List.getElem?_eq_some_iff.1 hd).1
      have hcd := HC1.out k d hd
      have HP := Lib.hid (fun W => rletter_any (d.toNat : Int) W)
      rw [show okB (d.toNat : Int) = true from by rw [okB_b]; exact hdw] at HP
      have HD := Lib.hid (And.intro hd hdw)
      obtain ⟨y, hy⟩ : ∃ y, (d.toNat : Int) = y := ⟨_, rfl⟩
      rw [hy] at hcd HP
      clear hy hd hdw
      go_wp2_with fail
      refine (HP.out _).mono ?_
      rintro e w' ⟨rfl, rfl⟩
      go_wp2
      go_roundw
      case rel => exact ⟨k + 1, HRun.out.next HD.out.1 HD.out.2, by go_num, rfl⟩
      case measure => simp [intOf]; omega
    · have he : ∀ d, b[k]? = some d → bW d = false := fun d hd => by
        cases hw : bW d
        · rfl
        · exact absurd ⟨d, hd, hw⟩ hgo
      have HEnd := Lib.hid he
      have HG := Lib.hid hgo
      clear he hgo
      have hways : (k < n ∧ ∃ y, wr.cell? ⟨blk, off + k, none⟩ = some (.int .u8 y) ∧ okB y = false) ∨ k = n := by
        rcases Nat.lt_or_ge k n with h | h
        · obtain ⟨d, hd⟩ : ∃ d, b[k]? = some d := ⟨b[k]'(by rw [HN.out]; exact h), List.getElem?_eq_getElem _⟩
          exact .inl ⟨h, _, HC1.out k d hd, by rw [okB_b]; exact HEnd.out d hd⟩
        · exact .inr (by omega)
      rcases hways with hways | hkn
      all_goals
        first
        | (obtain ⟨hlt, y, hcy, hoy⟩ := hways
           have HP := Lib.hid (fun W => rletter_any y W)
           rw [hoy] at HP
           clear hoy
           go_wp2_with fail
           refine (HP.out _).mono ?_
           rintro e w' ⟨rfl, rfl⟩
           clear HP hcy hlt)
        | (have hd : decide ((k : Int) < (n : Int)) = false := by simp; omega
           have hnk : ¬ k < n := by omega
           clear hkn)
      all_goals
        go_upto_region 6 with fail
        have hb9 := alloc_blk wr #[.int .i64 0, .int .i64 0, .int .i64 a, .string ⟨#[]⟩] 52 rfl
        obtain ⟨W2, hW2⟩ : ∃ W2, wr.alloc (.cells #[.int .i64 0, .int .i64 0, .int .i64 a, .string ⟨#[]⟩] 52) = W2 := ⟨_, rfl⟩
        have hT2 : Touch NoB wr W2 := by rw [← hW2]; exact (Touch.refl _ _).alloc _
        have h4l := blk_lt HB4.out
        have hb4 := (hT2.block _ h4l (fun x => x)).trans HB4.out
        obtain ⟨N9, hN9⟩ : ∃ N9, wr.heap.size = N9 := ⟨_, rfl⟩
        have h49 : N4 ≠ N9 := by omega
        have h94 : N9 ≠ N4 := by omega
        have HN9 : w.heap.size ≤ N9 := by omega
        rw [hN9, hW2] at hb9
        rw [hN9, hW2]
        have HT2 := Lib.hid (HT1.out.same hT2)
        have HC2 := Lib.hid (fun (i : Nat) (d : UInt8) (hd : b[i]? = some d) => (hT2.cell (p := ⟨blk, off + i, none⟩) hl1 (fun x => x)).trans (HC1.out i d hd))
        have c0 := cell_blk hb9 0
        have c1 := cell_blk hb9 1
        have c2 := cell_blk hb9 2
        have c3 := cell_blk hb9 3
        have f0 := free_blk hb9 0
        have f1 := free_blk hb9 1
        have f2 := free_blk hb9 2
        have f3 := free_blk hb9 3
        have r0 := cell_blk hb4 0
        have r1 := cell_blk hb4 1
        have r2 := cell_blk hb4 2
        have r3 := cell_blk hb4 3
        have g0 := free_blk hb4 0
        have g1 := free_blk hb4 1
        have g2 := free_blk hb4 2
        have g3 := free_blk hb4 3
        have p9l := blk_lt hb9
        have p4l := blk_lt hb4
        have HB9 := Lib.hid hb9
        have HB42 := Lib.hid hb4
        clear hb4 hb9 hW2 hT2 hN9 h4l
        have HPD := Lib.hid (fun w => HRD.out x w)
        rw [show digB x = false from by rw [← HX.out, digB_b]; exact L_not_D HLL.out] at HPD
        have HPL := Lib.hid (fun w => HRL.out x w)
        rw [show okB x = true from by rw [← HX.out, okB_b]; exact bW_L HLL.out] at HPL
        have hx95 : (x != 95) = true := by
          have h1 := HX.out
          have h2 := HLL.out
          rw [bne_iff_ne]
          intro e
          have : c.toNat = 95 := by omega
          simp [bL, this] at h2
        have hkb : k ≤ n := by rw [← HN.out]; exact HRun.out.2.1
        have hakp := run_lt HRun.out HC.out (bW_L HLL.out) HEnd.out
        obtain ⟨vs, hvs, hvc⟩ := win_text (l := a) (h := k) HB.out HN.out HCAP.out hak hkb
        have hvs0 := hvs W2
        have hvc0 := hvc W2 HT2.out
        have htok := tok_letters HC.out HLL.out HRun.out HEnd.out
        have hsz : (bs (cut b a k)).size = k - a := by rw [bs_size]; exact HRun.out.len
        have hwd := wrd_bs (cut b a k)
        have hll : (cut b a k).length = k - a := HRun.out.len
        rw [hll, ← hwd] at htok
        obtain ⟨sx, hsx⟩ : ∃ sx, bs (cut b a k) = sx := ⟨_, rfl⟩
        rw [hsx] at hvc0 hsz htok
        have HSX := Lib.hid hsx
        have HWD := Lib.hid (fun w => rword_any sx w)
        have HTOK := Lib.hid htok
        clear hvs hvc hsx hwd hll htok
        have hzA : ((W2.setCell ⟨N9, 3, none⟩ (.string sx)).setCell ⟨N9, 0, none⟩ (.int .i64 1)).heap[N9]? = some (.cells #[.int .i64 1, .int .i64 0, .int .i64 a, .string sx] 52 (0, 0)) := set_blk (set_blk HB9.out 3 (.string sx)) 0 (.int .i64 1)
        have hTA : Touch (fun z => z = N9) W2 ((W2.setCell ⟨N9, 3, none⟩ (.string sx)).setCell ⟨N9, 0, none⟩ (.int .i64 1)) := ((Touch.refl (fun z => z = N9) W2).setCell (p := ⟨N9, 3, none⟩) (.inl rfl) _).setCell (p := ⟨N9, 0, none⟩) (.inl rfl) _
        have HA := Lib.hid (And.intro hzA hTA)
        clear hzA hTA
        go_wp2_with fail
        refine (HPD.out _).mono ?_
        rintro e w' ⟨rfl, rfl⟩
        go_wp2_with fail
        refine (HPL.out _).mono ?_
        rintro e w' ⟨rfl, rfl⟩
        go_wp2_with fail
        refine (HWD.out _).mono ?_
        rintro e w5 ⟨rfl, hT5⟩
        have hsA := HA.out.2.size
        have hz9 := (hT5.block N9 (blk_lt HA.out.1) (fun x => x)).trans HA.out.1
        have hz4 := (hT5.block N4 (by omega) (fun x => x)).trans ((HA.out.2.block N4 p4l h49).trans HB42.out)
        have HT5 := Lib.hid (HT2.out.trans (HA.out.2.trans (G := NoB) hT5 (fun _ x => x.elim)) (fun z hz => .inr (by rw [hz]; exact HN9)))
        have k0 := cell_blk hz9 0
        have k1 := cell_blk hz9 1
        have k2 := cell_blk hz9 2
        have k3 := cell_blk hz9 3
        have m0 := free_blk hz9 0
        have q0 := cell_blk hz4 0
        have q1 := cell_blk hz4 1
        have q2 := cell_blk hz4 2
        have q3 := cell_blk hz4 3
        have o0 := free_blk hz4 0
        have o1 := free_blk hz4 1
        have o2 := free_blk hz4 2
        have o3 := free_blk hz4 3
        have HZ9 := Lib.hid hz9
        have HZ4 := Lib.hid hz4
        have z4l := blk_lt hz4
        clear hT5 hz9 hz4 c0 c1 c2 c3 f0 f1 f2 f3 r0 r1 r2 r3 g0 g1 g2 g3 hsA hvs0 hvc0
        cases hwrd : wrd sx
        · have hlen : ((sx.size : Int) = ((k - a : Nat) : Int)) := by omega
          obtain ⟨kk, hkk⟩ : ∃ kk, k - a = kk := ⟨_, rfl⟩
          rw [hkk] at hsz
          by_cases h24 : 24 < kk
          · have hd24 : decide ((24 : Int) < (kk : Int)) = true := by simp; omega
            have HNo : Hid (tokL a (b.drop a) = none) := Lib.hid (by
              have := HTOK.out
              rw [hwrd, hkk, if_neg (by simp), if_neg (by omega)] at this
              exact this)
            clear hlen hkk
            go_wp2
            have hy := set4 HZ4.out (.int .i64 1) (.int .i64 0) (.int .i64 a) (.string sx)
            have d0 := cell_blk hy 0
            have d1 := cell_blk hy 1
            have d2 := cell_blk hy 2
            have d3 := cell_blk hy 3
            exact bodyPost_ret (v := .tuple #[.agg #[.int .i64 1, .int .i64 0, .int .i64 a, .string sx], .int .i64 a, .int .i64 2]) (by simp [results, Tryz.results31, go_sem, d0, d1, d2, d3]) rfl ⟨touch4 HT5.out (.inr HN4) _ _ _ _, by rw [HNo.out]; exact ⟨_, _, _, _, rfl⟩⟩
          · have hd24 : decide ((24 : Int) < (kk : Int)) = false := by simp; omega
            have HYes : Hid (tokL a (b.drop a) = some (⟨1, 0, a, cut b a k⟩, kk)) := Lib.hid (by
              have := HTOK.out
              rw [hwrd, hkk, if_neg (by simp), if_pos (by omega)] at this
              exact this)
            have HIK : Hid (a + kk = k) := Lib.hid (by omega)
            clear hlen hkk
            go_wp2
            have hy := set4 HZ4.out (.int .i64 1) (.int .i64 0) (.int .i64 a) (.string sx)
            have d0 := cell_blk hy 0
            have d1 := cell_blk hy 1
            have d2 := cell_blk hy 2
            have d3 := cell_blk hy 3
            exact bodyPost_ret (v := .tuple #[.agg #[.int .i64 1, .int .i64 0, .int .i64 a, .string sx], .int .i64 k, .int .i64 0]) (by simp [results, Tryz.results31, go_sem, d0, d1, d2, d3]) rfl ⟨touch4 HT5.out (.inr HN4) _ _ _ _, by rw [HYes.out]; show _ = _; rw [HIK.out, HSX.out]; rfl⟩
        · have HYes : Hid (tokL a (b.drop a) = some (⟨2, 0, a, cut b a k⟩, k - a)) := Lib.hid (by
            have := HTOK.out
            rw [hwrd, if_pos rfl] at this
            exact this)
          have HIK : Hid (a + (k - a) = k) := Lib.hid (by omega)
          clear hwrd
          go_wp2
          have hy := set4 (w := w5.setCell ⟨N9, 0, none⟩ (.int .i64 2)) (((Touch.refl (fun x => x = N9) w5).setCell (p := ⟨N9, 0, none⟩) (.inl rfl) (.int .i64 2) |>.block N4 z4l h49).trans HZ4.out) (.int .i64 2) (.int .i64 0) (.int .i64 a) (.string sx)
          have d0 := cell_blk hy 0
          have d1 := cell_blk hy 1
          have d2 := cell_blk hy 2
          have d3 := cell_blk hy 3
          exact bodyPost_ret (v := .tuple #[.agg #[.int .i64 2, .int .i64 0, .int .i64 a, .string sx], .int .i64 k, .int .i64 0]) (by simp [results, Tryz.results31, go_sem, d0, d1, d2, d3]) rfl ⟨touch4 (HT5.out.setCell (p := ⟨N9, 0, none⟩) (.inr HN9) _) (.inr HN4) _ _ _ _, by rw [HYes.out]; show _ = _; rw [HIK.out, HSX.out]; rfl⟩
end Go.Proofs.YtbikpbmknneabaaGreat
