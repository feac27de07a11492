/-
  What package tree's domain does with a parser in memory. Conditions: numbers among the tokens are such.
-/
import Derived.Test.YtanecdpcenkoeaaDoorZa2
namespace Go.Proofs.YtanecdpcenkoeaaDoor
open Go.ChangeShapes Go.WideShapes Go.ChangeAt Go.RowKit
set_option maxRecDepth 100000
set_option maxHeartbeats 4000000

def DomPost (w : World) (gp g n cp : Nat) (ts : List Tk) (v : Dm) (st : St) (x : Ending) (w' : World) : Prop := ∃ v1 v2 v3, x = .returned (.agg #[.string (bs v.nm), v1, v2, v3]) ∧
  DmAt w' (fun k => w.heap.size ≤ k) v [.string (bs v.nm), v1, v2, v3] ∧ PS2 59 w' gp g n cp ts st ∧ Touch (AtB gp) w w'
structure DR (ts : List Tk) (R0 : (List Va × List Ac × List Cn) × St) (n f : Nat) (a : List Va) (b : List Ac) (c : List Cn) (σ : St) : Prop where
  md : domR ts f a b c σ = R0
  fu : Fu f n σ
  la : a.length ≤ 8
  lb : b.length ≤ 20
  lc : c.length ≤ 8
/-- The way out of the loop. -/
theorem dom_out {w V : World} {gp g n cp q3 : Nat} {Q : Nat → Prop} {ts : List Tk} {nm : Bs} {a : List Va} {b : List Ac} {c : List Cn} {vv va vg : Value} {xs : List Value} {st : St} (h : DM w V gp q3 Q (bs nm) a b c vv va vg xs) (hp : PS2 59 V gp g n cp ts st) (hgp : gp < w.heap.size) (hgl : g < w.heap.size) :
    ∀ (x0 x1 x2 x3 : Value), let W := (((V.setCell ⟨w.heap.size, 0, none⟩ x0).setCell ⟨w.heap.size, 1, none⟩ x1).setCell ⟨w.heap.size, 2, none⟩ x2).setCell ⟨w.heap.size, 3, none⟩ x3
      DmAt W (fun k => w.heap.size ≤ k) ⟨nm, a, b, c⟩ [.string (bs nm), vv, va, vg] ∧ PS2 59 W gp g n cp ts st ∧ Touch (AtB gp) w W := by
  intro x0 x1 x2 x3
  have n1 := row_ne h.rv h.b2 (by decide)
  have n2 := row_ne h.ra h.b2 (by decide)
  have n3 := row_ne h.rg h.b2 (by decide)
  have tX := touch4 (F := fun k => k = w.heap.size) (Touch.refl _ V) (.inl rfl) x0 x1 x2 x3
  have r1 := row_aside (row_aside (row_aside (row_aside (i := 0) (x := x0) h.rv n1) n1 (i := 1) (x := x1)) n1 (i := 2) (x := x2)) n1 (i := 3) (x := x3)
  have r2 := row_aside (row_aside (row_aside (row_aside (i := 0) (x := x0) h.ra n2) n2 (i := 1) (x := x1)) n2 (i := 2) (x := x2)) n2 (i := 3) (x := x3)
  have r3 := row_aside (row_aside (row_aside (row_aside (i := 0) (x := x0) h.rg n3) n3 (i := 1) (x := x1)) n3 (i := 2) (x := x2)) n3 (i := 3) (x := x3)
  exact ⟨⟨_, _, _, xs, rfl, slat_of r1, slat_of r2, h.ls.mono (fun x ys hx => (hx.touch tX (fun k hk => by have := (h.hQ k hk).1; omega)).via (fun k hk _ => Nat.le_of_lt (h.hQ k hk).1)), slat_of r3⟩, PSt.own (PSt.own (PSt.own (PSt.own hp hgp hgl) hgp hgl) hgp hgl) hgp hgl, touch4 h.t (.inr (Nat.le_refl _)) x0 x1 x2 x3⟩
theorem domain_any {w : World} {gp g n cp : Nat} {ts : List Tk} {σ : St} (hnk : NumsOk ts) (h : PS2 59 w gp g n cp ts σ) :
    Calls Tryd.prog 33 #[.pointer (some ⟨gp, 0, none⟩)] w fun x w' => DomPost w gp g n cp ts (domV ts σ) (domS ts σ) x w' := by
  obtain ⟨W0, hW0⟩ : ∃ W, w.alloc (.cells #[.string ⟨#[]⟩, .slice none 0 0, .slice none 0 0, .slice none 0 0] 90) = W := ⟨_, rfl⟩
  have t0 : Touch NoB w W0 := by rw [← hW0]; exact (Touch.refl _ _).alloc _
  have b2 : B4 W0 90 w.heap.size (.string ⟨#[]⟩) (.slice none 0 0) (.slice none 0 0) (.slice none 0 0) := by rw [← hW0]; exact B4.new w _ _ _ _ _ rfl
  have hgp := blk_lt h.blk
  have hgl := h.tl.lt
  have hs0 : W0.heap.size = w.heap.size + 1 := by rw [← hW0]; simp only [World.size_alloc]
  have HP := Lib.hid (h.touch t0)
  have HB2 := Lib.hid b2
  have HT := Lib.hid (Touch.anyB (F := AtB gp) t0)
  have hln : ts.length = n := h.len
  obtain ⟨R0, hR0⟩ : ∃ z, domR ts (ts.length + 5) [] [] [] (exS ts [123] (naS ts σ)) = z := ⟨_, rfl⟩
  unfold domV domS
  simp only [hR0]
  obtain ⟨v1, hv1⟩ : ∃ z, naV ts σ = z := ⟨_, rfl⟩
  obtain ⟨s1, hs1⟩ : ∃ z, naS ts σ = z := ⟨_, rfl⟩
  have H1 := Lib.hid (fun (W : World) (q : PS2 59 W gp g n cp ts σ) => name_st q)
  simp only [hv1, hs1] at *
  obtain ⟨s4, hs4⟩ : ∃ z, exS ts [123] s1 = z := ⟨_, rfl⟩
  have H4 : Hid (∀ (W : World), PS2 59 W gp g n cp ts s1 → Calls Tryd.prog 70 #[.pointer (some ⟨gp, 0, none⟩), .string ⟨#[123]⟩] W fun x w' => x = .returned (.tuple #[]) ∧ PS2 59 w' gp g n cp ts s4 ∧ Touch (AtB gp) W w') := Lib.hid (fun W q => by rw [← hs4]; exact expect_st (s := [123]) q)
  simp only [hs4] at *
  obtain ⟨n1, hn1⟩ : ∃ z, bs v1 = z := ⟨_, rfl⟩
  have HN1 := Lib.hid hn1
  rw [hn1] at H1
  have HR0 := Lib.hid hR0
  have HNK := Lib.hid hnk
  have HLN := Lib.hid hln
  clear hs4 hs1 hv1 h t0 b2 hn1 hR0 hnk hln
  have HC := Lib.hid (H1.out W0 HP.out)
  go_enter Tryd.func33, Tryd.ntmps33
  go_wp2_with fail
  refine HC.out.mono ?_
  rintro r w1 ⟨rfl, hp, hT⟩
  obtain ⟨X, hX⟩ : ∃ X, w1.alloc (.cells #[.string n1, .slice none 0 0, .slice none 0 0, .slice none 0 0] 90) = X := ⟨_, rfl⟩
  have tx : Touch NoB w1 X := by rw [← hX]; exact (Touch.refl _ _).alloc _
  obtain ⟨q3, hq3⟩ : ∃ q3, w1.heap.size = q3 := ⟨_, rfl⟩
  have hsq : w.heap.size < q3 := by have := hT.size; omega
  have HB3 := Lib.hid (show B4 X 90 q3 (.string n1) (.slice none 0 0) (.slice none 0 0) (.slice none 0 0) by rw [← hX]; exact B4.new _ _ _ _ _ _ hq3)
  have HB2 := Lib.hid ((HB2.out.go hT (by omega)).go (Touch.anyB (F := AtB gp) tx) (by omega))
  have HT := Lib.hid (HT.out.same (hT.same (Touch.anyB tx)))
  have HP := Lib.hid (hp.touch tx)
  clear hp hT tx
  subst hX
  have HC := Lib.hid (H4.out _ HP.out)
  go_wp2_with fail
  refine HC.out.mono ?_
  rintro r ue ⟨rfl, hp, hT⟩
  have HB3 := Lib.hid (HB3.out.go hT (by omega))
  have HB2 := Lib.hid (HB2.out.go hT (by omega))
  have HT := Lib.hid (HT.out.same hT)
  have HR : Hid (∃ f a b c τ vv va vg xs Q, DM w ue gp q3 Q n1 a b c vv va vg xs ∧ PS2 59 ue gp g n cp ts τ ∧ DR ts R0 n f a b c τ) := Lib.hid ⟨ts.length + 5, [], [], [], s4, .slice none 0 0, .slice none 0 0, .slice none 0 0, [], fun _ => False, ⟨HT.out, HB2.out, HB3.out, World.ownsRow_nil _ _ _ _, World.ownsRow_nil _ _ _ _, .nil, World.ownsRow_nil _ _ _ _, fun _ hk => hk.elim⟩, hp, ⟨HR0.out, ⟨by omega, fun _ => by have := HLN.out; omega⟩, by simp, by simp, by simp⟩⟩
  clear HC HT HP HB2 HB3 HR0 H1 H4 hp hT
  go_wp2_with fail
  go_loopw [] (fun wr => ∃ f a b c τ vv va vg xs Q, DM w wr gp q3 Q n1 a b c vv va vg xs ∧ PS2 59 wr gp g n cp ts τ ∧ DR ts R0 n f a b c τ) (fun wr => meas2 gp n wr)
  case atStart => exact HR.out
  case round =>
    clear HR
    obtain ⟨f, a, b, c, τ, vv, va, vg, xs, Q, hD, hps, hdr⟩ := hrel
    obtain ⟨A1, kp1, rfl, hc1, hc2⟩ := row_any hD.rv
    obtain ⟨A2, kp2, rfl, hd1, hd2⟩ := row_any hD.ra
    obtain ⟨A3, kp3, rfl, he1, he2⟩ := row_any hD.rg
    have hrd := dom_round hdr.md hdr.fu
    have hme := meas2_at hps
    have HC := Lib.hid (within_st hps)
    have HD := Lib.hid hD
    have HDR := Lib.hid hdr
    clear hD hps hdr
    cases hw : wiV ts τ
    · rw [hw] at HC
      have he := hrd.1 hw
      clear hrd hme
      go_wp2_with fail
      refine HC.out.mono ?_
      rintro r V ⟨rfl, hp, hT⟩
      have HD := Lib.hid (HD.out.go hT hgp hsq)
      obtain ⟨z0, z1, z2, z3, zl⟩ := HD.out.b2.cells
      obtain ⟨f0, f1, f2, f3⟩ := HD.out.b2.free
      obtain ⟨p0, p1, p2, p3, pl⟩ := HD.out.b3.cells
      have HE := Lib.hid he
      have HO := Lib.hid (show DM w V gp q3 Q (bs v1) a b c _ _ _ xs from by rw [HN1.out]; exact HD.out)
      have HO := Lib.hid (dom_out HO.out hp hgp hgl)
      clear hT hp he
      go_wp2
      refine bodyPost_ret (v := .agg #[.string n1, .slice A1 a.length kp1, .slice A2 b.length kp2, .slice A3 c.length kp3]) (by simp [results, Tryd.results33, go_sem, z0, z1, z2, z3]) rfl ?_
      rw [HE.out, ← HN1.out]
      exact ⟨_, _, _, rfl, HO.out _ _ _ _⟩
    · rw [hw] at HC
      obtain ⟨f', rfl, h0, s1, s2, s3, hs1, hs2, hs3, r1, r2, r3, r4⟩ := hrd.2 hw
      rw [(wi_yes hw).2] at HC
      clear hrd hw
      obtain ⟨bn1, hbn1⟩ : ∃ z, beV ts varB a.length 8 τ = z := ⟨_, rfl⟩
      obtain ⟨bn2, hbn2⟩ : ∃ z, beV ts actB b.length 20 s1 = z := ⟨_, rfl⟩
      obtain ⟨bn3, hbn3⟩ : ∃ z, beV ts goalB c.length 8 s2 = z := ⟨_, rfl⟩
      have HBN1 : Hid (∀ (W : World), PS2 59 W gp g n cp ts τ → Calls Tryd.prog 30 #[.pointer (some ⟨gp, 0, none⟩), .string ⟨#[118, 97, 114]⟩, .int .i64 (a.length : Int), .int .i64 8] W fun x w' => x = .returned (.bool bn1) ∧ PS2 59 w' gp g n cp ts s1 ∧ Touch (AtB gp) W w') := Lib.hid (fun W q => by rw [← hs1, ← hbn1]; exact begins_st (s := varB) (hv := a.length) (most := 8) q)
      have HBN2 : Hid (∀ (W : World), PS2 59 W gp g n cp ts s1 → Calls Tryd.prog 30 #[.pointer (some ⟨gp, 0, none⟩), .string ⟨#[97, 99, 116]⟩, .int .i64 (b.length : Int), .int .i64 20] W fun x w' => x = .returned (.bool bn2) ∧ PS2 59 w' gp g n cp ts s2 ∧ Touch (AtB gp) W w') := Lib.hid (fun W q => by rw [← hs2, ← hbn2]; exact begins_st (s := actB) (hv := b.length) (most := 20) q)
      have HBN3 : Hid (∀ (W : World), PS2 59 W gp g n cp ts s2 → Calls Tryd.prog 30 #[.pointer (some ⟨gp, 0, none⟩), .string ⟨#[103, 111, 97, 108]⟩, .int .i64 (c.length : Int), .int .i64 8] W fun x w' => x = .returned (.bool bn3) ∧ PS2 59 w' gp g n cp ts s3 ∧ Touch (AtB gp) W w') := Lib.hid (fun W q => by rw [← hs3, ← hbn3]; exact begins_st (s := goalB) (hv := c.length) (most := 8) q)
      have hy1 : bn1 = true → s1.1 = τ.1 + 1 ∧ a.length < 8 := fun e => by rw [← hs1]; subst e; exact ⟨beT_yes hbn1, be_lt hbn1 HDR.out.la⟩
      have hy2 : bn2 = true → s2.1 = s1.1 + 1 ∧ b.length < 20 := fun e => by rw [← hs2]; subst e; exact ⟨beT_yes hbn2, be_lt hbn2 HDR.out.lb⟩
      have hy3 : bn3 = true → s3.1 = s2.1 + 1 ∧ c.length < 8 := fun e => by rw [← hs3]; subst e; exact ⟨beT_yes hbn3, be_lt hbn3 HDR.out.lc⟩
      have hz1 : bn1 = false → s1.1 = τ.1 := fun e => by rw [← hs1]; subst e; exact beT_no hbn1
      have hz2 : bn2 = false → s2.1 = s1.1 := fun e => by rw [← hs2]; subst e; exact beT_no hbn2
      have hz3 : bn3 = false → s3.1 = s2.1 := fun e => by rw [← hs3]; subst e; exact beT_no hbn3
      rw [hbn1] at r1 r2 r3 r4
      rw [hbn2] at r2 r3 r4
      rw [hbn3] at r3 r4
      have HR1 := Lib.hid r1
      have HR2 := Lib.hid r2
      have HR3 := Lib.hid r3
      have HR4 := Lib.hid r4
      have HY1 := Lib.hid hy1
      have HY2 := Lib.hid hy2
      have HY3 := Lib.hid hy3
      have HZ1 := Lib.hid hz1
      have HZ2 := Lib.hid hz2
      have HZ3 := Lib.hid hz3
      have H0 := Lib.hid h0
      have HME := Lib.hid hme
      clear hs1 hs2 hs3 hbn1 hbn2 hbn3 hy1 hy2 hy3 hz1 hz2 hz3 r1 r2 r3 r4 h0 hme
      go_wp2_with fail
      refine HC.out.mono ?_
      rintro r V0 ⟨rfl, hp, hT⟩
      have HD := Lib.hid (HD.out.go hT hgp hsq)
      have HP := Lib.hid hp
      clear hp hT
      obtain ⟨q0, q1, q2, q3', ql⟩ := HD.out.b3.cells
      have HC := Lib.hid (HBN1.out _ HP.out)
      go_wp2_with fail
      refine HC.out.mono ?_
      rintro r V1 ⟨rfl, hp, hT⟩
      have HD := Lib.hid (HD.out.go hT hgp hsq)
      have HP := Lib.hid hp
      clear hp hT q0 q1 q2 q3' ql
      cases bn1
      · skip
        obtain ⟨q0, q1, q2, q3', ql⟩ := HD.out.b3.cells
        have HC := Lib.hid (HBN2.out _ HP.out)
        go_wp2_with fail
        refine HC.out.mono ?_
        rintro r V2 ⟨rfl, hp, hT⟩
        have HD := Lib.hid (HD.out.go hT hgp hsq)
        have HP := Lib.hid hp
        clear hp hT q0 q1 q2 q3' ql
        cases bn2
        · skip
          obtain ⟨q0, q1, q2, q3', ql⟩ := HD.out.b3.cells
          have HC := Lib.hid (HBN3.out _ HP.out)
          go_wp2_with fail
          refine HC.out.mono ?_
          rintro r V3 ⟨rfl, hp, hT⟩
          have HD := Lib.hid (HD.out.go hT hgp hsq)
          have HP := Lib.hid hp
          clear hp hT q0 q1 q2 q3' ql
          cases bn3
          · have hz1 := HZ1.out (by trivial)
            have hz2 := HZ2.out (by trivial)
            have hz3 := HZ3.out (by trivial)
            have HF := Lib.hid (fail_st HP.out 2)
            have hr3 := Lib.hid (HR4.out (by trivial) (by trivial) (by trivial))
            obtain ⟨fs, hfs⟩ : ∃ z, failS 2 s3 = z := ⟨_, rfl⟩
            have hf1 : fs.1 = s3.1 := by rw [← hfs]; rfl
            have hf2 : fs.2 ≠ 0 := by rw [← hfs]; exact failS_bad (by decide) s3
            rw [hfs] at HF hr3
            clear hfs
            go_wp2_with fail
            refine HF.out.mono ?_
            rintro r V4 ⟨rfl, hp, hT⟩
            have HD := Lib.hid (HD.out.go hT hgp hsq)
            have HP := Lib.hid hp
            clear hp hT
            go_wp2
            go_roundw
            case rel => exact ⟨f', a, b, c, fs, _, _, _, _, _, HD.out, HP.out, hr3.out, HDR.out.fu.stop H0.out hf2, HDR.out.la, HDR.out.lb, HDR.out.lc⟩
            case measure =>
              rw [meas2_at HP.out, HME.out, if_pos H0.out, if_neg hf2]
              omega
          · obtain ⟨hy, hla⟩ := HY3.out (by trivial)
            have hz1 := HZ1.out (by trivial)
            have hz2 := HZ2.out (by trivial)
            obtain ⟨q0, q1, q2, q3', ql⟩ := HD.out.b3.cells
            obtain ⟨g0, g1, g2, g3⟩ := HD.out.b3.free
            have hr1 := HR3.out (by trivial) (by trivial) (by trivial)
            obtain ⟨cv, hcv⟩ : ∃ z, cndV ts s3 = z := ⟨_, rfl⟩
            obtain ⟨cs, hcs⟩ : ∃ z, cndS ts s3 = z := ⟨_, rfl⟩
            have hge : s3.1 ≤ cs.1 := by rw [← hcs]; exact cndS_ge ts s3
            have HCD := Lib.hid (fun (W : World) (q : PS2 59 W gp g n cp ts s3) => cond_st HNK.out q)
            rw [hcv, hcs] at hr1 HCD
            obtain ⟨cnm, hcnm⟩ : ∃ z, bs cv.nm = z := ⟨_, rfl⟩
            rw [hcnm] at HCD
            have HCV := Lib.hid hcnm
            have HRR := Lib.hid hr1
            clear hcv hcs hcnm hr1
            obtain ⟨i0, hi, hz0, hz1', hz2'⟩ := info_cond'
            unfold maxLen at he2
            go_wp2_with fail
            go_region_law? (first
              | (go_simp; go_at_call 75
                 refine (HCD.out _ (HP.out.touch (Touch.refl _ _).drew)).mono ?_
                 rintro r w3 ⟨rfl, hp, hT0⟩
                 have hT := (Touch.refl (AtB gp) V3).drew.same hT0
                 have HD3 := Lib.hid (HD.out.go hT hgp hsq)
                 obtain ⟨j0, j1, j2, j3, jl⟩ := HD3.out.b3.cells
                 obtain ⟨l0, l1, l2, l3⟩ := HD3.out.b3.free
                 have HX3 := Lib.hid (And.intro hp (And.intro hT trivial))
                 clear hp hT0 hT)
              | (refine step_append_lies _ rfl (.tmp 52) (.tmp 55) 88 rfl w.heap.size 127 i0 (.agg #[.string ⟨#[]⟩, .int .i64 0, .int .i64 0]) 3 32 Tryd.underlying88 hi hz0 hz1' hz2' rfl (by decide) (.slice A3 c.length kp3) c.length (cnC c) (by simp [Act.eval]) (by exact (HD3.out.rg.alloc _)) ⟨w3.heap.size, 0, none⟩ 1 1 [.string cnm, .int .i64 (cv.op : Int), .int .i64 cv.n] (by simp [Act.eval]) rfl (by exact World.news_of_block (cs := #[.string cnm, .int .i64 (cv.op : Int), .int .i64 cv.n]) (alloc_blk w3 _ 127 rfl)) (by intro u hu; simp at hu; rcases hu with rfl | rfl | rfl <;> rfl) (by decide) (by unfold maxLen; omega) (by omega) (by have := HX3.out.2.1.size; have := HD.out.t.size; simp only [World.size_alloc]; omega) (w3.heap.size + 1) (by simp) ?_
                 intro gd cap2 wx hown hgrow hat hlt
                 have TR : Touch (fun k9 => (Value.slice A3 c.length kp3).ownBlock = some k9) w3 wx := ((Touch.refl _ w3).alloc _).grown hgrow (fun _ e => .inl e)
                 have hbx := HD3.out.b3.goR TR (row_ne HD3.out.rg HD3.out.b3 (by decide))
                 obtain ⟨k0, k1', k2', k3, kl⟩ := hbx.cells
                 obtain ⟨m0, m1, m2, m3⟩ := hbx.free
                 have HX := Lib.hid (And.intro (HX3.out.1.touchR TR (row_base HD3.out.rg) hgp hgl) (HD3.out.addG (v := cv) hsq TR (by rw [HCV.out]; exact hown) hat))
                 clear hown hgrow hat TR hbx))
            all_goals
              go_wp2
              go_roundw
              case rel => exact ⟨f', a, b, c ++ [cv], cs, _, _, _, _, _, HX.out.2, HX.out.1.own (by omega) (by omega), HRR.out, HDR.out.fu.next H0.out (by have := HP.out.le; omega) (by omega), HDR.out.la, HDR.out.lb, by rw [List.length_append]; exact hla⟩
              case measure =>
                have hps := HX.out.1.own (q := q3) (i := 3) (v := .slice (some ⟨gd, 0, none⟩) (c.length + 1) cap2) (by omega) (by omega)
                rw [meas2_at hps, HME.out, if_pos H0.out]
                have := HP.out.le
                split <;> omega
        · obtain ⟨hy, hla⟩ := HY2.out (by trivial)
          have hz1 := HZ1.out (by trivial)
          obtain ⟨q0, q1, q2, q3', ql⟩ := HD.out.b3.cells
          obtain ⟨g0, g1, g2, g3⟩ := HD.out.b3.free
          have hr1 := HR2.out (by trivial) (by trivial)
          obtain ⟨cv, hcv⟩ : ∃ z, actV ts s2 = z := ⟨_, rfl⟩
          obtain ⟨cs, hcs⟩ : ∃ z, actS ts s2 = z := ⟨_, rfl⟩
          have hge : s2.1 ≤ cs.1 := by rw [← hcs]; exact actS_ge ts s2
          have HCD := Lib.hid (fun (W : World) (q : PS2 59 W gp g n cp ts s2) => act_any HNK.out q)
          rw [hcv, hcs] at hr1 HCD
          obtain ⟨cnm, hcnm⟩ : ∃ z, bs cv.nm = z := ⟨_, rfl⟩
          have HCV := Lib.hid hcnm
          have HRR := Lib.hid hr1
          clear hcv hcs hcnm hr1
          obtain ⟨i0, hi, hz0, hz1', hz2'⟩ := info_act'
          unfold maxLen at hd2
          go_wp2_with fail
          go_region_law? (first
            | (go_simp; go_at_call 74
               refine (HCD.out _ (HP.out.touch (Touch.refl _ _).drew)).mono ?_
               rintro r w3 ⟨nv, mv, rfl, hn, hm, hp, hT0⟩
               obtain ⟨B1, k1, rfl, -, -⟩ := row_any hn
               obtain ⟨B2, k2, rfl, -, -⟩ := row_any hm
               try rw [HCV.out]
               have hT := (Touch.refl (AtB gp) V2).drew.same hT0
               have HD3 := Lib.hid (HD.out.widen hT hgp hsq)
               have hav : AcAt w3 (fun k => Q k ∨ (V2.heap.size ≤ k ∧ k < w3.heap.size)) cv [.string cnm, .int .i64 (cv.cost : Int), .slice B1 cv.need.length k1, .slice B2 cv.make.length k2] := ⟨_, _, by rw [HCV.out], (slat_of hn).via (fun k h1 h2 => .inr ⟨h1, h2⟩), (slat_of hm).via (fun k h1 h2 => .inr ⟨h1, h2⟩)⟩
               obtain ⟨j0, j1, j2, j3, jl⟩ := HD3.out.b3.cells
               obtain ⟨l0, l1, l2, l3⟩ := HD3.out.b3.free
               have HX3 := Lib.hid (And.intro hp (And.intro hT hav))
               clear hp hT0 hT hn hm hav)
            | (refine step_append_lies _ rfl (.tmp 39) (.tmp 42) 87 rfl w.heap.size 124 i0 (.agg #[.string ⟨#[]⟩, .int .i64 0, .slice none 0 0, .slice none 0 0]) 4 72 Tryd.underlying87 hi hz0 hz1' hz2' rfl (by decide) (.slice A2 b.length kp2) b.length xs (by simp [Act.eval]) (by exact (HD3.out.ra.alloc _)) ⟨w3.heap.size, 0, none⟩ 1 1 [.string cnm, .int .i64 (cv.cost : Int), .slice B1 cv.need.length k1, .slice B2 cv.make.length k2] (by simp [Act.eval]) rfl (by exact World.news_of_block (cs := #[.string cnm, .int .i64 (cv.cost : Int), .slice B1 cv.need.length k1, .slice B2 cv.make.length k2]) (alloc_blk w3 _ 124 rfl)) (by intro u hu; simp at hu; rcases hu with rfl | rfl | rfl | rfl <;> rfl) (by decide) (by unfold maxLen; omega) (by omega) (by have := HX3.out.2.1.size; have := HD.out.t.size; simp only [World.size_alloc]; omega) (w3.heap.size + 1) (by simp) ?_
               intro gd cap2 wx hown hgrow hat hlt
               have TR : Touch (fun k9 => (Value.slice A2 b.length kp2).ownBlock = some k9) w3 wx := ((Touch.refl _ w3).alloc _).grown hgrow (fun _ e => .inl e)
               have hbx := HD3.out.b3.goR TR (row_ne HD3.out.ra HD3.out.b3 (by decide))
               obtain ⟨k0, k1', k2', k3, kl⟩ := hbx.cells
               obtain ⟨m0, m1, m2, m3⟩ := hbx.free
               have HX := Lib.hid (And.intro (HX3.out.1.touchR TR (row_base HD3.out.ra) hgp hgl) (HD3.out.addA hsq HX3.out.2.2 TR hown hat))
               clear hown hgrow hat TR hbx))
          all_goals
            go_wp2
            go_roundw
            case rel => exact ⟨f', a, b ++ [cv], c, cs, _, _, _, _, _, HX.out.2, HX.out.1.own (by omega) (by omega), HRR.out, HDR.out.fu.next H0.out (by have := HP.out.le; omega) (by omega), HDR.out.la, by rw [List.length_append]; exact hla, HDR.out.lc⟩
            case measure =>
              have hps := HX.out.1.own (q := q3) (i := 2) (v := .slice (some ⟨gd, 0, none⟩) (b.length + 1) cap2) (by omega) (by omega)
              rw [meas2_at hps, HME.out, if_pos H0.out]
              have := HP.out.le
              split <;> omega
      · obtain ⟨hy, hla⟩ := HY1.out (by trivial)
        obtain ⟨q0, q1, q2, q3', ql⟩ := HD.out.b3.cells
        obtain ⟨g0, g1, g2, g3⟩ := HD.out.b3.free
        have hr1 := HR1.out (by trivial)
        obtain ⟨cv, hcv⟩ : ∃ z, varV ts s1 = z := ⟨_, rfl⟩
        obtain ⟨cs, hcs⟩ : ∃ z, varS ts s1 = z := ⟨_, rfl⟩
        have hge : s1.1 ≤ cs.1 := by rw [← hcs]; exact varS_ge ts s1
        have HCD := Lib.hid (fun (W : World) (q : PS2 59 W gp g n cp ts s1) => variable_st HNK.out q)
        rw [hcv, hcs] at hr1 HCD
        obtain ⟨cnm, hcnm⟩ : ∃ z, bs cv.nm = z := ⟨_, rfl⟩
        rw [hcnm] at HCD
        have HCV := Lib.hid hcnm
        have HRR := Lib.hid hr1
        clear hcv hcs hcnm hr1
        obtain ⟨i0, hi, hz0, hz1', hz2'⟩ := info_var'
        unfold maxLen at hc2
        go_wp2_with fail
        go_region_law? (first
          | (go_simp; go_at_call 73
             refine (HCD.out _ (HP.out.touch (Touch.refl _ _).drew)).mono ?_
             rintro r w3 ⟨rfl, hp, hT0⟩
             have hT := (Touch.refl (AtB gp) V1).drew.same hT0
             have HD3 := Lib.hid (HD.out.go hT hgp hsq)
             obtain ⟨j0, j1, j2, j3, jl⟩ := HD3.out.b3.cells
             obtain ⟨l0, l1, l2, l3⟩ := HD3.out.b3.free
             have HX3 := Lib.hid (And.intro hp (And.intro hT trivial))
             clear hp hT0 hT)
          | (refine step_append_lies _ rfl (.tmp 26) (.tmp 29) 86 rfl w.heap.size 120 i0 (.agg #[.string ⟨#[]⟩, .int .i64 0, .int .i64 0]) 3 32 Tryd.underlying86 hi hz0 hz1' hz2' rfl (by decide) (.slice A1 a.length kp1) a.length (vaC a) (by simp [Act.eval]) (by exact (HD3.out.rv.alloc _)) ⟨w3.heap.size, 0, none⟩ 1 1 [.string cnm, .int .i64 cv.lo, .int .i64 cv.hi] (by simp [Act.eval]) rfl (by exact World.news_of_block (cs := #[.string cnm, .int .i64 cv.lo, .int .i64 cv.hi]) (alloc_blk w3 _ 120 rfl)) (by intro u hu; simp at hu; rcases hu with rfl | rfl | rfl <;> rfl) (by decide) (by unfold maxLen; omega) (by omega) (by have := HX3.out.2.1.size; have := HD.out.t.size; simp only [World.size_alloc]; omega) (w3.heap.size + 1) (by simp) ?_
             intro gd cap2 wx hown hgrow hat hlt
             have TR : Touch (fun k9 => (Value.slice A1 a.length kp1).ownBlock = some k9) w3 wx := ((Touch.refl _ w3).alloc _).grown hgrow (fun _ e => .inl e)
             have hbx := HD3.out.b3.goR TR (row_ne HD3.out.rv HD3.out.b3 (by decide))
             obtain ⟨k0, k1', k2', k3, kl⟩ := hbx.cells
             obtain ⟨m0, m1, m2, m3⟩ := hbx.free
             have HX := Lib.hid (And.intro (HX3.out.1.touchR TR (row_base HD3.out.rv) hgp hgl) (HD3.out.addV (v := cv) hsq TR (by rw [HCV.out]; exact hown) hat))
             clear hown hgrow hat TR hbx))
        all_goals
          go_wp2
          go_roundw
          case rel => exact ⟨f', a ++ [cv], b, c, cs, _, _, _, _, _, HX.out.2, HX.out.1.own (by omega) (by omega), HRR.out, HDR.out.fu.next H0.out (by have := HP.out.le; omega) (by omega), by rw [List.length_append]; exact hla, HDR.out.lb, HDR.out.lc⟩
          case measure =>
            have hps := HX.out.1.own (q := q3) (i := 1) (v := .slice (some ⟨gd, 0, none⟩) (a.length + 1) cap2) (by omega) (by omega)
            rw [meas2_at hps, HME.out, if_pos H0.out]
            have := HP.out.le
            split <;> omega
end Go.Proofs.YtanecdpcenkoeaaDoor
