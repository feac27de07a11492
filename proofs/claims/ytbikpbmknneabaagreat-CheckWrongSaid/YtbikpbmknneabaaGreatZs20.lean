/-
  What the document's own act does with a reader in memory. Conditions: numbers among the tokens are such.
-/
import Derived.Test.YtbikpbmknneabaaGreatZs19
import Derived.Deep.DeepCutAuto
import Derived.Deep.RegionWith
namespace Go.Proofs.YtbikpbmknneabaaGreat
open Go.ChangeShapes Go.WideShapes Go.ChangeAt Go.RowKit
set_option maxRecDepth 100000
set_option maxHeartbeats 8000000

theorem meas2_lt {w V : World} {gp g n cp L : Nat} {ts : List Tk} {σ τ : St} (h : RT w gp g n cp ts L σ) (h' : RT V gp g n cp ts L τ) (h0 : σ.2 = 0) (hg : σ.1 + 1 ≤ τ.1 ∨ (τ.2 ≠ 0 ∧ σ.1 ≤ τ.1)) : meas2 gp n V < meas2 gp n w := by
  rw [meas2_rt h, meas2_rt h', if_pos h0]
  have := h.le
  have := h.ln
  have := h'.le
  rcases hg with hg | hg
  · split <;> omega
  · rw [if_neg hg.1]; omega
theorem exS_yes' {ts : List Tk} {s : Bs} {σ : St} (h : isS ts s σ = true) : (exS ts s σ).1 = σ.1 + 1 := by unfold exS; rw [if_pos h]
theorem one_make {nm : ByteArray} {ad : Bool} {v : Int} : ∀ u ∈ [Value.string nm, .bool ad, .int .i64 v], u.oneCell' = true := by
  intro u hu
  simp only [List.mem_cons, List.not_mem_nil, or_false] at hu
  rcases hu with rfl | rfl | rfl <;> rfl
theorem ract_any {gp g n cp L : Nat} {ts : List Tk} (hnk : NumsOk ts) {w : World} {σ : St} (h : RT w gp g n cp ts L σ) :
    Calls Tryz.prog 37 #[.pointer (some ⟨gp, 0, none⟩)] w (RAcP w gp g n cp L ts (racV ts σ) (racS ts σ)) := by
  obtain ⟨W0, hW0⟩ : ∃ W, w.alloc (.cells #[.string ⟨#[]⟩, .int .i64 0, .slice none 0 0, .slice none 0 0] 95) = W := ⟨_, rfl⟩
  have t0 : Touch NoB w W0 := by rw [← hW0]; exact (Touch.refl _ _).alloc _
  have b2 : B4 W0 95 w.heap.size (.string ⟨#[]⟩) (.int .i64 0) (.slice none 0 0) (.slice none 0 0) := by rw [← hW0]; exact B4.new w _ _ _ _ _ rfl
  have hgp := h.lt
  have hgl : g < w.heap.size := h.rs.tl.lt
  have HB2 := Lib.hid b2
  have HT := Lib.hid (Touch.anyB (F := AtB gp) t0)
  have hln : ts.length = n := h.rs.len
  obtain ⟨R0, hR0⟩ : ∃ z, racR ts (ts.length + 5) [] [] (actH ts σ) = z := ⟨_, rfl⟩
  unfold racV racS
  simp only [hR0]
  unfold actH at hR0
  have HC := Lib.hid (t_name (h.touch t0))
  obtain ⟨n1, hn1⟩ : ∃ z, bs (naV ts σ) = z := ⟨_, rfl⟩
  obtain ⟨s1, hs1⟩ : ∃ z, naS ts σ = z := ⟨_, rfl⟩
  obtain ⟨s2, hs2⟩ : ∃ z, exS ts [99, 111, 115, 116] s1 = z := ⟨_, rfl⟩
  obtain ⟨v3, hv3⟩ : ∃ z, nuV ts s2 = z := ⟨_, rfl⟩
  obtain ⟨s3, hs3⟩ : ∃ z, nuS ts s2 = z := ⟨_, rfl⟩
  obtain ⟨s4, hs4⟩ : ∃ z, exS ts [123] s3 = z := ⟨_, rfl⟩
  rw [hn1, hs1] at HC
  rw [hs1, hs2, hs3, hs4] at hR0
  simp only [hs1, hs2, hv3]
  have HN1 := Lib.hid hn1
  have H2 := Lib.hid (fun (W : World) (q : RT W gp g n cp ts L s1) => t_want q [99, 111, 115, 116])
  have H3 := Lib.hid (fun (W : World) (q : RT W gp g n cp ts L s2) => t_number q)
  have H4 := Lib.hid (fun (W : World) (q : RT W gp g n cp ts L s3) => t_want q [123])
  rw [hs2] at H2
  rw [hv3, hs3] at H3
  rw [hs4] at H4
  have HR0 := Lib.hid hR0
  have HNK := Lib.hid hnk
  have HLN := Lib.hid hln
  clear hs4 hs3 hs1 hv3 h t0 b2 hs2 hn1 hR0 hnk hln
  go_enter Tryz.func37, Tryz.ntmps37
  go_wp2_with fail
  refine HC.out.mono ?_
  rintro r w1 ⟨rfl, hp, hT⟩
  obtain ⟨X, hX⟩ : ∃ X, w1.alloc (.cells #[.string n1, .int .i64 0, .slice none 0 0, .slice none 0 0] 95) = X := ⟨_, rfl⟩
  have tx : Touch NoB w1 X := by rw [← hX]; exact (Touch.refl _ _).alloc _
  obtain ⟨q3, hq3⟩ : ∃ q3, w1.heap.size = q3 := ⟨_, rfl⟩
  have hsq : w.heap.size < q3 := by have := hT.size; have := blk_lt HB2.out; omega
  have HB3 := Lib.hid (show B4 X 95 q3 (.string n1) (.int .i64 0) (.slice none 0 0) (.slice none 0 0) by rw [← hX]; exact B4.new _ _ _ _ _ _ hq3)
  have HB2 := Lib.hid ((HB2.out.go hT (by omega)).go (Touch.anyB (F := AtB gp) tx) (by omega))
  have HT := Lib.hid (HT.out.same (hT.same (Touch.anyB tx)))
  have HP := Lib.hid (hp.touch tx)
  clear hp hT tx
  subst hX
  have HC := Lib.hid (H2.out _ HP.out)
  go_wp2_with fail
  refine HC.out.mono ?_
  rintro r uy ⟨rfl, hp, hT⟩
  have HB3 := Lib.hid (HB3.out.go hT (by omega))
  have HB2 := Lib.hid (HB2.out.go hT (by omega))
  have HT := Lib.hid (HT.out.same hT)
  have HP := Lib.hid hp
  clear hp hT
  have HC := Lib.hid (H3.out uy HP.out)
  go_wp2_with fail
  refine HC.out.mono ?_
  rintro r un ⟨rfl, hp, hT⟩
  have HB3 := Lib.hid (HB3.out.go hT (by omega))
  have HB2 := Lib.hid (HB2.out.go hT (by omega))
  have HT := Lib.hid (HT.out.same hT)
  have HP := Lib.hid hp
  clear hp hT
  obtain ⟨x0, x1, x2, x3, xl⟩ := HB3.out.cells
  obtain ⟨y0, y1, y2, y3⟩ := HB3.out.free
  obtain ⟨V, hV⟩ : ∃ V, un.setCell ⟨q3, 1, none⟩ (.int .i64 (v3 : Int)) = V := ⟨_, rfl⟩
  have HP := Lib.hid (show RT V gp g n cp ts L s3 by rw [← hV]; exact HP.out.touchX ((Touch.refl (fun b => b = q3) un).setCell (p := ⟨q3, 1, none⟩) (.inl rfl) _) (by omega) (by omega))
  have HB3 := Lib.hid (show B4 V 95 q3 (.string n1) (.int .i64 (v3 : Int)) (.slice none 0 0) (.slice none 0 0) by rw [← hV]; exact HB3.out.set1 _)
  have HB2 := Lib.hid (show B4 V 95 w.heap.size (.string ⟨#[]⟩) (.int .i64 0) (.slice none 0 0) (.slice none 0 0) by rw [← hV]; exact HB2.out.aside (by omega))
  have HT := Lib.hid (show Touch (AtB gp) w V by rw [← hV]; exact HT.out.setCell (p := ⟨q3, 1, none⟩) (.inr (by simp only; omega)) _)
  have HC := Lib.hid (H4.out V HP.out)
  go_wp2_with fail
  refine HC.out.mono ?_
  rintro r ue ⟨rfl, hp, hT⟩
  have HB3 := Lib.hid (HB3.out.go hT (by omega))
  have HB2 := Lib.hid (HB2.out.go hT (by omega))
  have HT := Lib.hid (HT.out.same hT)
  have HP := Lib.hid hp
  clear hp hT
  have HR : Hid (∃ f a b τ nv mv, AM w gp g n cp L q3 ts R0 n1 (v3 : Int) f a b τ nv mv ue) := Lib.hid ⟨ts.length + 5, [], [], s4, .slice none 0 0, .slice none 0 0, HT.out, HB2.out, HB3.out, World.ownsRow_nil _ _ _ _, World.ownsRow_nil _ _ _ _, HP.out, HR0.out, ⟨by omega, fun _ => by have := HLN.out; omega⟩, by simp, by simp, fun _ => by simp⟩
  clear HC HT HP HB2 HB3 HR0 H2 H3 H4 x0 x1 x2 x3 xl y0 y1 y2 y3 hV
  go_wp2_with fail
  go_loopw [] (fun wr => ∃ f a b τ nv mv, AM w gp g n cp L q3 ts R0 n1 (v3 : Int) f a b τ nv mv wr) (fun wr => meas2 gp n wr)
  case atStart => exact HR.out
  case round =>
    clear HR
    obtain ⟨f, a, b, τ, nv, mv, hR⟩ := hrel
    obtain ⟨A1, kp1, rfl, hc1, hc2⟩ := row_any hR.rn
    obtain ⟨A2, kp2, rfl, hd1, hd2⟩ := row_any hR.rm
    obtain ⟨c1, c2, cl⟩ := hR.rt.cells
    obtain ⟨f1, rfl⟩ : ∃ f1, f = f1 + 1 := ⟨f - 1, by have := hR.fu.1; omega⟩
    have hs0 := hR.t.size
    have HR := Lib.hid hR
    clear hR
    by_cases he : τ.2 = 0
    · have hee : ((τ.2 : Int) == 0) = true := by rw [he]; rfl
      have HI := Lib.hid (t_is HR.out.rt [125] he)
      cases hi : isS ts [125] τ with
      | true =>
        rw [hi] at HI
        have HST := Lib.hid (show R0 = ((a, b), τ) from HR.out.md.symm.trans (racR_stop (by rw [hi]; intro h; cases h.2)))
        go_wp2_with fail
        refine HI.out.mono ?_
        rintro x V4 ⟨rfl, hT4⟩
        have HX := Lib.hid (t_want (HR.out.rt.touch hT4) [125])
        have HT4 := Lib.hid hT4
        clear hT4
        go_wp2_with fail
        refine HX.out.mono ?_
        rintro x V5 ⟨rfl, hp, hT⟩
        have tt : Touch (AtB gp) wr V5 := (Touch.anyB HT4.out).same hT
        obtain ⟨z0, z1, z2, z3, zl⟩ := (HR.out.b2.go tt (by omega)).cells
        obtain ⟨e0, e1, e2, e3⟩ := (HR.out.b2.go tt (by omega)).free
        obtain ⟨p0, p1, p2, p3, pl⟩ := (HR.out.b3.go tt (by omega)).cells
        have HO := Lib.hid (HR.out.out tt hp hgp hgl)
        clear hT hp tt
        go_wp2
        refine bodyPost_ret (v := .agg #[.string n1, .int .i64 (v3 : Int), .slice A1 a.length kp1, .slice A2 b.length kp2]) (by simp [results, Tryz.results37, go_sem, z0, z1, z2, z3]) rfl ?_
        rw [HST.out, ← HN1.out]
        exact ⟨_, _, rfl, HO.out _ _ _ _⟩
      | false =>
        rw [hi] at HI
        have HMD := Lib.hid (show τ.2 = 0 ∧ isS ts [125] τ = false from ⟨he, hi⟩)
        obtain ⟨N, hN⟩ : ∃ z, a.length = z := ⟨_, rfl⟩
        obtain ⟨M, hM⟩ : ∃ z, b.length = z := ⟨_, rfl⟩
        have hN8 : N ≤ 8 := by rw [← hN]; exact HR.out.la
        have hM8 : M ≤ 8 := by rw [← hM]; exact HR.out.lb.2 he
        rw [hN] at hc1
        rw [hM] at hd1
        have HN := Lib.hid hN
        have HM := Lib.hid hM
        clear hN hM
        go_wp2_with fail
        refine HI.out.mono ?_
        rintro x V4 ⟨rfl, hT4⟩
        have HP := Lib.hid (HR.out.rt.touch hT4)
        have HT := Lib.hid (Touch.anyB (F := AtB gp) hT4)
        clear hT4 HI
        cases hn : isS ts needB τ with
        | true =>
          obtain ⟨x0, x1, x2, x3, xl⟩ := (HR.out.b3.go HT.out (by omega)).cells
          rw [HN.out] at x2
          rw [HM.out] at x3
          by_cases h8 : 8 ≤ N
          · have hge : decide ((8 : Int) ≤ (N : Int)) = true := by simp; omega
            have HI := Lib.hid (t_is HP.out [110, 101, 101, 100] he)
            rw [show isS ts [110, 101, 101, 100] τ = true from hn] at HI
            go_wp2_with fail
            refine HI.out.mono ?_
            rintro x V5 ⟨rfl, hT⟩
            have HP := Lib.hid (HP.out.touch hT)
            have HT := Lib.hid (HT.out.same (Touch.anyB (F := AtB gp) hT))
            clear hT HI
            obtain ⟨y0, y1, y2, y3, yl⟩ := (HR.out.b3.go HT.out (by omega)).cells
            rw [HN.out] at y2
            rw [HM.out] at y3
            have HF := Lib.hid (t_fail HP.out 9)
            go_wp2_with fail
            refine HF.out.mono ?_
            rintro x V6 ⟨rfl, hp, hT⟩
            have hA := HR.out.next (HT.out.same hT) hp hgp hsq he (failS_bad (by decide) _) (by have := HR.out.md; rw [racR_many HMD.out (.inl ⟨hn, by rw [HN.out]; exact h8⟩)] at this; exact this)
            have HME := Lib.hid (meas2_lt HR.out.rt hp he (.inr ⟨failS_bad (by decide) _, Nat.le_refl _⟩))
            have HA := Lib.hid hA
            clear hA hp hT
            go_wp2
            go_roundw
            case rel => exact ⟨_, _, _, _, _, _, HA.out⟩
            case measure => exact HME.out
          · have hge : decide ((8 : Int) ≤ (N : Int)) = false := by simp; omega
            have HI := Lib.hid (t_is HP.out [110, 101, 101, 100] he)
            rw [show isS ts [110, 101, 101, 100] τ = true from hn] at HI
            go_wp2_with fail
            refine HI.out.mono ?_
            rintro x V5 ⟨rfl, hT⟩
            have HP := Lib.hid (HP.out.touch hT)
            have HT := Lib.hid (HT.out.same (Touch.anyB (F := AtB gp) hT))
            clear hT HI
            obtain ⟨y0, y1, y2, y3, yl⟩ := (HR.out.b3.go HT.out (by omega)).cells
            rw [HN.out] at y2
            rw [HM.out] at y3
            have hm : isS ts makeB τ = false := isS_other hn (by decide)
            have HI := Lib.hid (t_is HP.out [109, 97, 107, 101] he)
            rw [show isS ts [109, 97, 107, 101] τ = false from hm] at HI
            go_wp2_with fail
            refine HI.out.mono ?_
            rintro x V51 ⟨rfl, hT⟩
            have HP := Lib.hid (HP.out.touch hT)
            have HT := Lib.hid (HT.out.same (Touch.anyB (F := AtB gp) hT))
            clear hT HI
            have HC := Lib.hid (t_take HP.out [110, 101, 101, 100])
            rw [show isS ts [110, 101, 101, 100] τ = true from hn] at HC
            go_wp2_with fail
            refine HC.out.mono ?_
            rintro x V6 ⟨rfl, hp, hT⟩
            obtain ⟨tn, htn⟩ : ∃ z, acS ts needB τ = z := ⟨_, rfl⟩
            have ht1 : tn.1 = τ.1 + 1 := by rw [← htn, acS_yes hn]
            have hp : RT V6 gp g n cp ts L tn := by rw [← htn]; exact hp
            have HP := Lib.hid hp
            have HT := Lib.hid (HT.out.same hT)
            have hmd : racR ts f1 (a ++ [rcnV ts tn]) b (rcnS ts tn) = R0 := by have := HR.out.md; rw [racR_need HMD.out hn (by rw [HN.out]; omega), htn] at this; exact this
            obtain ⟨cv, hcv⟩ : ∃ z, rcnV ts tn = z := ⟨_, rfl⟩
            obtain ⟨cs, hcs⟩ : ∃ z, rcnS ts tn = z := ⟨_, rfl⟩
            have hge : tn.1 ≤ cs.1 := by rw [← hcs]; exact rcnS_ge ts tn
            have HCD := Lib.hid (fun (W : World) (q : RT W gp g n cp ts L tn) => rcond_any HNK.out q q.rs.tl.lt)
            rw [hcv, hcs] at HCD hmd
            obtain ⟨cnm, hcnm⟩ : ∃ z, bs cv.nm = z := ⟨_, rfl⟩
            rw [hcnm] at HCD
            have HCV := Lib.hid hcnm
            have HMD2 := Lib.hid hmd
            have HGE := Lib.hid (show τ.1 + 1 ≤ cs.1 by omega)
            have HE0 := Lib.hid he
            clear hp hT hcv hcs hcnm hmd htn ht1 hge HC x0 x1 x2 x3 xl y0 y1 y2 y3 yl c1 c2 hee hi hm he
            have HRN := Lib.hid (row_go HR.out.rn HT.out hgp)
            rw [HN.out] at HRN
            obtain ⟨i0, hi0, hz0, hz1, hz2⟩ := info_cond'
            unfold maxLen at hc2
            obtain ⟨q0, q1, q2, q3', ql⟩ := (HR.out.b3.go HT.out (by omega)).cells
            rw [HN.out] at q2
            obtain ⟨g0, g1, g2, g3⟩ := (HR.out.b3.go HT.out (by omega)).free
            go_wp2_with fail
            go_region_law? (first
              | (go_simp; go_at_call 38
                 refine (HCD.out _ (HP.out.touch (Touch.refl _ _).drew)).mono ?_
                 rintro r w3 ⟨rfl, hp, hT0⟩
                 have hT := (Touch.refl (AtB gp) V6).drew.same hT0
                 have HX3 := Lib.hid (And.intro hp (HT.out.same hT))
                 obtain ⟨j0, j1, j2, j3, jl⟩ := (HR.out.b3.go HX3.out.2 (by omega)).cells
                 rw [HN.out] at j2
                 obtain ⟨l0, l1, l2, l3⟩ := (HR.out.b3.go HX3.out.2 (by omega)).free
                 have HRN3 := Lib.hid (row_go HRN.out hT hgp)
                 clear hp hT0 hT)
              | (refine step_append_lies _ rfl (.tmp 83) (.tmp 86) 69 rfl w.heap.size 98 i0 (.agg #[.string ⟨#[]⟩, .int .i64 0, .int .i64 0]) 3 32 Tryz.underlying69 hi0 hz0 hz1 hz2 rfl (by decide) (.slice A1 N kp1) N (cnC a) (by simp [Act.eval]) (by exact (HRN3.out.alloc _)) ⟨w3.heap.size, 0, none⟩ 1 1 [.string cnm, .int .i64 (cv.op : Int), .int .i64 cv.n] (by simp [Act.eval]) rfl (by exact World.news_of_block (cs := #[.string cnm, .int .i64 (cv.op : Int), .int .i64 cv.n]) (alloc_blk w3 _ 98 rfl)) (by intro u hu; simp at hu; rcases hu with rfl | rfl | rfl <;> rfl) (by decide) (by unfold maxLen; omega) (by omega) (by have := HX3.out.2.size; simp only [World.size_alloc]; omega) (w3.heap.size + 1) (by simp) ?_
                 intro gd cap2 wx hown hgrow hat hlt
                 have TR : Touch (fun b => (Value.slice A1 N kp1).ownBlock = some b) w3 wx := ((Touch.refl _ w3).alloc _).grown hgrow (fun _ e => .inl e)
                 have hbx := (HR.out.b3.go HX3.out.2 (by omega)).goR TR (row_ne HRN3.out (HR.out.b3.go HX3.out.2 (by omega)) (by decide))
                 rw [HN.out] at hbx
                 obtain ⟨k0, k1, k2, k3, kl⟩ := hbx.cells
                 obtain ⟨m0, m1, m2, m3⟩ := hbx.free
                 have HX := Lib.hid (And.intro hown TR)
                 clear hown hgrow hat TR hbx))
            all_goals
              have hA : AM w gp g n cp L q3 ts R0 n1 (v3 : Int) f1 (a ++ [cv]) b cs (.slice (some ⟨gd, 0, none⟩) (N + 1) cap2) (.slice A2 b.length kp2) (wx.setCell ⟨q3, 2, none⟩ (.slice (some ⟨gd, 0, none⟩) (N + 1) cap2)) := by
                have hown := HX.out.1
                have TR := HX.out.2
                rw [← HCV.out] at hown
                rw [← HN.out] at hown TR ⊢
                exact HR.out.addN (v := cv) HX3.out.2 HX3.out.1 hgp hgl hsq HE0.out HGE.out (by rw [HN.out]; omega) TR hown HMD2.out
              have HA := Lib.hid hA
              clear hA
              have HME := Lib.hid (meas2_lt HR.out.rt HA.out.rt HE0.out (.inl HGE.out))
              go_wp2
              go_roundw
              case rel => exact ⟨_, _, _, _, _, _, HA.out⟩
              case measure => exact HME.out
        | false =>
          have HI := Lib.hid (t_is HP.out [110, 101, 101, 100] he)
          rw [show isS ts [110, 101, 101, 100] τ = false from hn] at HI
          go_wp2_with fail
          refine HI.out.mono ?_
          rintro x V5 ⟨rfl, hT⟩
          have HP := Lib.hid (HP.out.touch hT)
          have HT := Lib.hid (HT.out.same (Touch.anyB (F := AtB gp) hT))
          clear hT HI
          cases hm : isS ts makeB τ with
          | true =>
            have HI := Lib.hid (t_is HP.out [109, 97, 107, 101] he)
            rw [show isS ts [109, 97, 107, 101] τ = true from hm] at HI
            go_wp2_with fail
            refine HI.out.mono ?_
            rintro x V51 ⟨rfl, hT⟩
            have HP := Lib.hid (HP.out.touch hT)
            have HT := Lib.hid (HT.out.same (Touch.anyB (F := AtB gp) hT))
            clear hT HI
            obtain ⟨y0, y1, y2, y3, yl⟩ := (HR.out.b3.go HT.out (by omega)).cells
            rw [HN.out] at y2
            rw [HM.out] at y3
            by_cases h8 : 8 ≤ M
            · have hge : decide ((8 : Int) ≤ (M : Int)) = true := by simp; omega
              have HF := Lib.hid (t_fail HP.out 9)
              go_wp2_with fail
              refine HF.out.mono ?_
              rintro x V6 ⟨rfl, hp, hT⟩
              have hA := HR.out.next (HT.out.same hT) hp hgp hsq he (failS_bad (by decide) _) (by have := HR.out.md; rw [racR_many HMD.out (.inr ⟨hm, by rw [HM.out]; exact h8⟩)] at this; exact this)
              have HME := Lib.hid (meas2_lt HR.out.rt hp he (.inr ⟨failS_bad (by decide) _, Nat.le_refl _⟩))
              have HA := Lib.hid hA
              clear hA hp hT
              go_wp2
              go_roundw
              case rel => exact ⟨_, _, _, _, _, _, HA.out⟩
              case measure => exact HME.out
            · have hge : decide ((8 : Int) ≤ (M : Int)) = false := by simp; omega
              have hHG : τ.1 ≤ (rmkS ts (exS ts makeB τ)).1 ∧ (τ.1 + 1 ≤ (rmkS ts (exS ts makeB τ)).1 ∧ b.length < 8 ∨ (rmkS ts (exS ts makeB τ)).2 ≠ 0) := ⟨Nat.le_trans (exS_ge ts makeB τ) (rmkS_ge ts _), .inl ⟨by have := exS_yes' hm; have := rmkS_ge ts (exS ts makeB τ); omega, by rw [HM.out]; omega⟩⟩
              have hmd : racR ts f1 a (b ++ [rmkV ts (exS ts makeB τ)]) (rmkS ts (exS ts makeB τ)) = R0 := by have := HR.out.md; rw [racR_make HMD.out hn (fun _ => by rw [HM.out]; omega)] at this; exact this
              have HC := Lib.hid (t_no HP.out [110, 101, 101, 100] hn)
              go_wp2_with fail
              refine HC.out.mono ?_
              rintro x V6 ⟨rfl, hp, hT⟩
              have HP := Lib.hid hp
              have HT := Lib.hid (HT.out.same (Touch.anyB (F := AtB gp) hT))
              clear hp hT HC
              have HC := Lib.hid (t_want HP.out [109, 97, 107, 101])
              obtain ⟨s1, hs1⟩ : ∃ z, exS ts makeB τ = z := ⟨_, rfl⟩
              rw [show exS ts [109, 97, 107, 101] τ = s1 from hs1] at HC
              rw [hs1] at hHG hmd
              have HHG := Lib.hid hHG
              have HMD2 := Lib.hid hmd
              clear hHG hmd hs1
              go_wp2_with fail
              refine HC.out.mono ?_
              rintro x V7 ⟨rfl, hp, hT⟩
              have HP := Lib.hid hp
              have HT := Lib.hid (HT.out.same hT)
              clear hp hT HC
              have HC := Lib.hid (t_name HP.out)
              obtain ⟨nm, hnm⟩ : ∃ z, bs (naV ts s1) = z := ⟨_, rfl⟩
              obtain ⟨s2, hs2⟩ : ∃ z, naS ts s1 = z := ⟨_, rfl⟩
              have hVS : ∀ ad v s', ((isS ts [43] s2 = true ∧ ad = true ∧ v = (nuV ts (acS ts [43] s2) : Int) ∧ s' = nuS ts (acS ts [43] s2)) ∨ (isS ts [43] s2 = false ∧ isS ts [45] s2 = true ∧ ad = true ∧ v = -(nuV ts (acS ts [45] s2) : Int) ∧ s' = nuS ts (acS ts [45] s2)) ∨ (isS ts [43] s2 = false ∧ isS ts [45] s2 = false ∧ ad = false ∧ v = siV ts (exS ts [61] s2) ∧ s' = siS ts (exS ts [61] s2))) →
                  rmkV ts s1 = ⟨naV ts s1, ad, v⟩ ∧ rmkS ts s1 = exS ts [59] s' := by
                intro ad v s' hh
                unfold rmkV rmkS
                rw [hs2]
                rcases hh with ⟨h1, rfl, rfl, rfl⟩ | ⟨h1, h2, rfl, rfl, rfl⟩ | ⟨h1, h2, rfl, rfl, rfl⟩
                · simp [h1]
                · simp [h1, h2]
                · simp [h1, h2]
              have HVS := Lib.hid hVS
              rw [hnm, hs2] at HC
              have HNM := Lib.hid hnm
              clear hVS hnm hs2
              go_wp2_with fail
              refine HC.out.mono ?_
              rintro x V8 ⟨rfl, hp, hT⟩
              have HT8 := HT.out.same hT
              have hs8 := HT8.size
              obtain ⟨W1, hW1⟩ : ∃ W, V8.alloc (.cells #[.string nm, .bool false, .int .i64 0] 126) = W := ⟨_, rfl⟩
              have t1 : Touch NoB V8 W1 := by rw [← hW1]; exact (Touch.refl _ _).alloc _
              have HP := Lib.hid (hp.touch t1)
              have HT := Lib.hid (HT8.same (Touch.anyB (F := AtB gp) t1))
              obtain ⟨qm, hqm⟩ : ∃ z, V8.heap.size = z := ⟨_, rfl⟩
              have HBM := Lib.hid (show B3 W1 126 V8.heap.size (.string nm) (.bool false) (.int .i64 0) by rw [← hW1]; exact B3.new _ _ _ _ _ rfl)
              have hq8 : wr.heap.size ≤ V8.heap.size := hs8
              have HW1 := Lib.hid hW1
              clear hp hT t1 hs8 hW1 HC HT8 hqm
              cases hi3 : isS ts [43] s2 with
              | true =>
                have HC := Lib.hid (t_take HP.out [43])
                rw [hi3] at HC
                go_wp2_with fail
                rw [HW1.out]
                refine HC.out.mono ?_
                rintro x w3 ⟨rfl, hp, hT⟩
                have HP := Lib.hid hp
                have HT := Lib.hid (HT.out.same hT)
                have HBM := Lib.hid (HBM.out.go hT (by omega))
                clear hp hT HC
                obtain ⟨z0, z1, z2, zl⟩ := HBM.out.cells
                obtain ⟨e0, e1, e2⟩ := HBM.out.free
                obtain ⟨V, hV⟩ : ∃ V, w3.setCell ⟨V8.heap.size, 1, none⟩ (.bool true) = V := ⟨_, rfl⟩
                have tV : Touch (fun b => b = V8.heap.size) w3 V := by rw [← hV]; exact (Touch.refl (fun b => b = V8.heap.size) w3).setCell (p := ⟨V8.heap.size, 1, none⟩) (.inl rfl) _
                have HBM := Lib.hid (show B3 V 126 V8.heap.size (.string nm) (.bool true) (.int .i64 0) by rw [← hV]; exact HBM.out.set1 _)
                have HP := Lib.hid (HP.out.touchX tV (by omega) (by omega))
                have HT := Lib.hid (show Touch (AtB gp) wr V by rw [← hV]; exact HT.out.setCell (p := ⟨V8.heap.size, 1, none⟩) (.inr hq8) _)
                have HC := Lib.hid (t_number HP.out)
                clear tV
                go_wp2_with fail
                refine HC.out.mono ?_
                rintro x w5 ⟨rfl, hp, hT⟩
                obtain ⟨v, hv⟩ : ∃ v : Int, (nuV ts (acS ts [43] s2) : Int) = v := ⟨_, rfl⟩
                rw [hv]
                have hVV := HVS.out true v (nuS ts (acS ts [43] s2)) (.inl ⟨hi3, rfl, hv.symm, rfl⟩)
                have hbm := HBM.out.go hT (by omega)
                obtain ⟨z0, z1, z2, zl⟩ := hbm.cells
                obtain ⟨e0, e1, e2⟩ := hbm.free
                obtain ⟨Y, hY⟩ : ∃ V, w5.setCell ⟨V8.heap.size, 2, none⟩ (.int .i64 v) = V := ⟨_, rfl⟩
                have tY : Touch (fun b => b = V8.heap.size) w5 Y := by rw [← hY]; exact (Touch.refl (fun b => b = V8.heap.size) w5).setCell (p := ⟨V8.heap.size, 2, none⟩) (.inl rfl) _
                have HBM := Lib.hid (show B3 Y 126 V8.heap.size (.string nm) (.bool true) (.int .i64 v) by rw [← hY]; exact hbm.set2 _)
                have HT := Lib.hid (show Touch (AtB gp) wr Y by rw [← hY]; exact (HT.out.same hT).setCell (p := ⟨V8.heap.size, 2, none⟩) (.inr hq8) _)
                have HP := Lib.hid (hp.touchX tY (by omega) (by omega))
                have HC := Lib.hid (t_want HP.out [59])
                rw [← hVV.2] at HC
                have HVV := Lib.hid hVV.1
                clear hp hT tY hbm hVV hv
                go_wp2_with fail
                refine HC.out.mono ?_
                rintro x w6 ⟨rfl, hp, hT⟩
                have HT := Lib.hid (HT.out.same hT)
                have HBM := Lib.hid (HBM.out.go hT (by omega))
                obtain ⟨z0, z1, z2, zl⟩ := HBM.out.cells
                obtain ⟨p0, p1, p2, p3, pl⟩ := (HR.out.b3.go HT.out (by omega)).cells
                rw [HM.out] at p3
                have hrow := row_go HR.out.rm HT.out hgp
                rw [HM.out] at hrow
                obtain ⟨i0, hi0, hz0, hz1, hz2⟩ := info_make'
                have hs6 := HT.out.size
                obtain ⟨gd, cap2, w8, hrun, hown, TR, hat⟩ := own_app (S := 93) Tryz.underlying93 hi0 hz0 hz1 hz2 rfl (by decide) (by decide) hrow (by omega) [.string nm, .bool true, .int .i64 v] rfl one_make (by omega) rfl
                have HAP := Lib.hid hrun
                have hb38 := (HR.out.b3.go HT.out (by omega)).goR TR (row_ne hrow (HR.out.b3.go HT.out (by omega)) (by decide))
                rw [HM.out] at hb38
                obtain ⟨k0, k1, k2, k3, kl⟩ := hb38.cells
                obtain ⟨m0, m1, m2, m3⟩ := hb38.free
                have hA : AM w gp g n cp L q3 ts R0 n1 (v3 : Int) f1 a (b ++ [rmkV ts s1]) (rmkS ts s1) (.slice A1 a.length kp1) (.slice (some ⟨gd, 0, none⟩) (M + 1) cap2) (w8.setCell ⟨q3, 3, none⟩ (.slice (some ⟨gd, 0, none⟩) (M + 1) cap2)) := by
                  have e : bs (rmkV ts s1).nm = nm ∧ (rmkV ts s1).add = true ∧ (rmkV ts s1).n = v := by rw [HVV.out]; exact ⟨HNM.out, rfl, rfl⟩
                  have hown := hown
                  have TR := TR
                  rw [← e.1, ← e.2.1, ← e.2.2] at hown
                  rw [← HM.out] at hown TR ⊢
                  exact HR.out.addM (v := rmkV ts s1) HT.out hp hgp hgl hsq he HHG.out.2 TR hown HMD2.out
                have HA := Lib.hid hA
                clear hA
                have HME := Lib.hid (meas2_lt HR.out.rt HA.out.rt he (by rcases HHG.out.2 with h | h; exact .inl h.1; exact .inr ⟨h, HHG.out.1⟩))
                clear hp hT hrow hi0 hz0 hz1 hz2 hrun hown TR hat hb38 hs6 HC
                obtain ⟨v7, hv7⟩ : ∃ v7, Value.slice A2 M kp2 = v7 := ⟨_, rfl⟩
                rw [hv7] at HAP p3
                clear hv7
                go_wp2_with (at_builtin; refine Lib.wpList_append_run _ rfl _ _ _ _ rfl _ _ rfl rfl _ _ HAP.out ?_)
                go_roundw
                case rel => exact ⟨_, _, _, _, _, _, HA.out⟩
                case measure => exact HME.out
              | false =>
                have HC := Lib.hid (t_no HP.out [43] hi3)
                go_wp2_with fail
                rw [HW1.out]
                refine HC.out.mono ?_
                rintro x w2 ⟨rfl, hp, hT⟩
                have HP := Lib.hid hp
                have HT := Lib.hid (HT.out.same (Touch.anyB (F := AtB gp) hT))
                have HBM := Lib.hid (HBM.out.go (Touch.anyB (F := AtB gp) hT) (by omega))
                clear hp hT HC
                cases hj3 : isS ts [45] s2 with
                | true =>
                  have HC := Lib.hid (t_take HP.out [45])
                  rw [hj3] at HC
                  go_wp2_with fail
                  refine HC.out.mono ?_
                  rintro x w3 ⟨rfl, hp, hT⟩
                  have HP := Lib.hid hp
                  have HT := Lib.hid (HT.out.same hT)
                  have HBM := Lib.hid (HBM.out.go hT (by omega))
                  clear hp hT HC
                  obtain ⟨z0, z1, z2, zl⟩ := HBM.out.cells
                  obtain ⟨e0, e1, e2⟩ := HBM.out.free
                  obtain ⟨V, hV⟩ : ∃ V, w3.setCell ⟨V8.heap.size, 1, none⟩ (.bool true) = V := ⟨_, rfl⟩
                  have tV : Touch (fun b => b = V8.heap.size) w3 V := by rw [← hV]; exact (Touch.refl (fun b => b = V8.heap.size) w3).setCell (p := ⟨V8.heap.size, 1, none⟩) (.inl rfl) _
                  have HBM := Lib.hid (show B3 V 126 V8.heap.size (.string nm) (.bool true) (.int .i64 0) by rw [← hV]; exact HBM.out.set1 _)
                  have HP := Lib.hid (HP.out.touchX tV (by omega) (by omega))
                  have HT := Lib.hid (show Touch (AtB gp) wr V by rw [← hV]; exact HT.out.setCell (p := ⟨V8.heap.size, 1, none⟩) (.inr hq8) _)
                  have HC := Lib.hid (t_number HP.out)
                  clear tV
                  go_wp2_with fail
                  refine HC.out.mono ?_
                  rintro x w5 ⟨rfl, hp, hT⟩
                  have hmx : nuV ts (acS ts [45] s2) ≤ 9223372036854775807 := nuV_le' HNK.out _
                  obtain ⟨u, hu⟩ : ∃ u : Int, (nuV ts (acS ts [45] s2) : Int) = u := ⟨_, rfl⟩
                  obtain ⟨v, hv⟩ : ∃ v : Int, -u = v := ⟨_, rfl⟩
                  have hng : IntKind.i64.wrap (-u) = v := by rw [hv]; exact IntWalk.i64_in _ (by omega)
                  rw [hu]
                  have hVV := HVS.out true v (nuS ts (acS ts [45] s2)) (.inr (.inl ⟨hi3, hj3, rfl, (by rw [hu]; exact hv.symm), rfl⟩))
                  have hbm := HBM.out.go hT (by omega)
                  obtain ⟨z0, z1, z2, zl⟩ := hbm.cells
                  obtain ⟨e0, e1, e2⟩ := hbm.free
                  obtain ⟨Y, hY⟩ : ∃ V, w5.setCell ⟨V8.heap.size, 2, none⟩ (.int .i64 v) = V := ⟨_, rfl⟩
                  have tY : Touch (fun b => b = V8.heap.size) w5 Y := by rw [← hY]; exact (Touch.refl (fun b => b = V8.heap.size) w5).setCell (p := ⟨V8.heap.size, 2, none⟩) (.inl rfl) _
                  have HBM := Lib.hid (show B3 Y 126 V8.heap.size (.string nm) (.bool true) (.int .i64 v) by rw [← hY]; exact hbm.set2 _)
                  have HT := Lib.hid (show Touch (AtB gp) wr Y by rw [← hY]; exact (HT.out.same hT).setCell (p := ⟨V8.heap.size, 2, none⟩) (.inr hq8) _)
                  have HP := Lib.hid (hp.touchX tY (by omega) (by omega))
                  have HC := Lib.hid (t_want HP.out [59])
                  rw [← hVV.2] at HC
                  have HVV := Lib.hid hVV.1
                  clear hp hT tY hbm hVV hu hv hmx
                  go_wp2_with fail
                  refine HC.out.mono ?_
                  rintro x w6 ⟨rfl, hp, hT⟩
                  have HT := Lib.hid (HT.out.same hT)
                  have HBM := Lib.hid (HBM.out.go hT (by omega))
                  obtain ⟨z0, z1, z2, zl⟩ := HBM.out.cells
                  obtain ⟨p0, p1, p2, p3, pl⟩ := (HR.out.b3.go HT.out (by omega)).cells
                  rw [HM.out] at p3
                  have hrow := row_go HR.out.rm HT.out hgp
                  rw [HM.out] at hrow
                  obtain ⟨i0, hi0, hz0, hz1, hz2⟩ := info_make'
                  have hs6 := HT.out.size
                  obtain ⟨gd, cap2, w8, hrun, hown, TR, hat⟩ := own_app (S := 93) Tryz.underlying93 hi0 hz0 hz1 hz2 rfl (by decide) (by decide) hrow (by omega) [.string nm, .bool true, .int .i64 v] rfl one_make (by omega) rfl
                  have HAP := Lib.hid hrun
                  have hb38 := (HR.out.b3.go HT.out (by omega)).goR TR (row_ne hrow (HR.out.b3.go HT.out (by omega)) (by decide))
                  rw [HM.out] at hb38
                  obtain ⟨k0, k1, k2, k3, kl⟩ := hb38.cells
                  obtain ⟨m0, m1, m2, m3⟩ := hb38.free
                  have hA : AM w gp g n cp L q3 ts R0 n1 (v3 : Int) f1 a (b ++ [rmkV ts s1]) (rmkS ts s1) (.slice A1 a.length kp1) (.slice (some ⟨gd, 0, none⟩) (M + 1) cap2) (w8.setCell ⟨q3, 3, none⟩ (.slice (some ⟨gd, 0, none⟩) (M + 1) cap2)) := by
                    have e : bs (rmkV ts s1).nm = nm ∧ (rmkV ts s1).add = true ∧ (rmkV ts s1).n = v := by rw [HVV.out]; exact ⟨HNM.out, rfl, rfl⟩
                    have hown := hown
                    have TR := TR
                    rw [← e.1, ← e.2.1, ← e.2.2] at hown
                    rw [← HM.out] at hown TR ⊢
                    exact HR.out.addM (v := rmkV ts s1) HT.out hp hgp hgl hsq he HHG.out.2 TR hown HMD2.out
                  have HA := Lib.hid hA
                  clear hA
                  have HME := Lib.hid (meas2_lt HR.out.rt HA.out.rt he (by rcases HHG.out.2 with h | h; exact .inl h.1; exact .inr ⟨h, HHG.out.1⟩))
                  clear hp hT hrow hi0 hz0 hz1 hz2 hrun hown TR hat hb38 hs6 HC
                  obtain ⟨v7, hv7⟩ : ∃ v7, Value.slice A2 M kp2 = v7 := ⟨_, rfl⟩
                  rw [hv7] at HAP p3
                  clear hv7
                  go_wp2_with (at_builtin; refine Lib.wpList_append_run _ rfl _ _ _ _ rfl _ _ rfl rfl _ _ HAP.out ?_)
                  go_roundw
                  case rel => exact ⟨_, _, _, _, _, _, HA.out⟩
                  case measure => exact HME.out
                | false =>
                  have HC := Lib.hid (t_no HP.out [45] hj3)
                  go_wp2_with fail
                  refine HC.out.mono ?_
                  rintro x w4 ⟨rfl, hp, hT⟩
                  have HP := Lib.hid hp
                  have HT := Lib.hid (HT.out.same (Touch.anyB (F := AtB gp) hT))
                  have HBM := Lib.hid (HBM.out.go (Touch.anyB (F := AtB gp) hT) (by omega))
                  clear hp hT HC
                  have HC := Lib.hid (t_want HP.out [61])
                  go_wp2_with fail
                  refine HC.out.mono ?_
                  rintro x w3 ⟨rfl, hp, hT⟩
                  have HP := Lib.hid hp
                  have HT := Lib.hid (HT.out.same hT)
                  have HBM := Lib.hid (HBM.out.go hT (by omega))
                  clear hp hT HC
                  have HC := Lib.hid (t_signed HNK.out HP.out)
                  go_wp2_with fail
                  refine HC.out.mono ?_
                  rintro x w5 ⟨rfl, hp, hT⟩
                  obtain ⟨v, hv⟩ : ∃ v, siV ts (exS ts [61] s2) = v := ⟨_, rfl⟩
                  rw [hv]
                  have hVV := HVS.out false v (siS ts (exS ts [61] s2)) (.inr (.inr ⟨hi3, hj3, rfl, hv.symm, rfl⟩))
                  have hbm := HBM.out.go hT (by omega)
                  obtain ⟨z0, z1, z2, zl⟩ := hbm.cells
                  obtain ⟨e0, e1, e2⟩ := hbm.free
                  obtain ⟨Y, hY⟩ : ∃ V, w5.setCell ⟨V8.heap.size, 2, none⟩ (.int .i64 v) = V := ⟨_, rfl⟩
                  have tY : Touch (fun b => b = V8.heap.size) w5 Y := by rw [← hY]; exact (Touch.refl (fun b => b = V8.heap.size) w5).setCell (p := ⟨V8.heap.size, 2, none⟩) (.inl rfl) _
                  have HBM := Lib.hid (show B3 Y 126 V8.heap.size (.string nm) (.bool false) (.int .i64 v) by rw [← hY]; exact hbm.set2 _)
                  have HT := Lib.hid (show Touch (AtB gp) wr Y by rw [← hY]; exact (HT.out.same hT).setCell (p := ⟨V8.heap.size, 2, none⟩) (.inr hq8) _)
                  have HP := Lib.hid (hp.touchX tY (by omega) (by omega))
                  have HC := Lib.hid (t_want HP.out [59])
                  rw [← hVV.2] at HC
                  have HVV := Lib.hid hVV.1
                  clear hp hT tY hbm hVV hv
                  go_wp2_with fail
                  refine HC.out.mono ?_
                  rintro x w6 ⟨rfl, hp, hT⟩
                  have HT := Lib.hid (HT.out.same hT)
                  have HBM := Lib.hid (HBM.out.go hT (by omega))
                  obtain ⟨z0, z1, z2, zl⟩ := HBM.out.cells
                  obtain ⟨p0, p1, p2, p3, pl⟩ := (HR.out.b3.go HT.out (by omega)).cells
                  rw [HM.out] at p3
                  have hrow := row_go HR.out.rm HT.out hgp
                  rw [HM.out] at hrow
                  obtain ⟨i0, hi0, hz0, hz1, hz2⟩ := info_make'
                  have hs6 := HT.out.size
                  obtain ⟨gd, cap2, w8, hrun, hown, TR, hat⟩ := own_app (S := 93) Tryz.underlying93 hi0 hz0 hz1 hz2 rfl (by decide) (by decide) hrow (by omega) [.string nm, .bool false, .int .i64 v] rfl one_make (by omega) rfl
                  have HAP := Lib.hid hrun
                  have hb38 := (HR.out.b3.go HT.out (by omega)).goR TR (row_ne hrow (HR.out.b3.go HT.out (by omega)) (by decide))
                  rw [HM.out] at hb38
                  obtain ⟨k0, k1, k2, k3, kl⟩ := hb38.cells
                  obtain ⟨m0, m1, m2, m3⟩ := hb38.free
                  have hA : AM w gp g n cp L q3 ts R0 n1 (v3 : Int) f1 a (b ++ [rmkV ts s1]) (rmkS ts s1) (.slice A1 a.length kp1) (.slice (some ⟨gd, 0, none⟩) (M + 1) cap2) (w8.setCell ⟨q3, 3, none⟩ (.slice (some ⟨gd, 0, none⟩) (M + 1) cap2)) := by
                    have e : bs (rmkV ts s1).nm = nm ∧ (rmkV ts s1).add = false ∧ (rmkV ts s1).n = v := by rw [HVV.out]; exact ⟨HNM.out, rfl, rfl⟩
                    have hown := hown
                    have TR := TR
                    rw [← e.1, ← e.2.1, ← e.2.2] at hown
                    rw [← HM.out] at hown TR ⊢
                    exact HR.out.addM (v := rmkV ts s1) HT.out hp hgp hgl hsq he HHG.out.2 TR hown HMD2.out
                  have HA := Lib.hid hA
                  clear hA
                  have HME := Lib.hid (meas2_lt HR.out.rt HA.out.rt he (by rcases HHG.out.2 with h | h; exact .inl h.1; exact .inr ⟨h, HHG.out.1⟩))
                  clear hp hT hrow hi0 hz0 hz1 hz2 hrun hown TR hat hb38 hs6 HC
                  obtain ⟨v7, hv7⟩ : ∃ v7, Value.slice A2 M kp2 = v7 := ⟨_, rfl⟩
                  rw [hv7] at HAP p3
                  clear hv7
                  go_wp2_with (at_builtin; refine Lib.wpList_append_run _ rfl _ _ _ _ rfl _ _ rfl rfl _ _ HAP.out ?_)
                  go_roundw
                  case rel => exact ⟨_, _, _, _, _, _, HA.out⟩
                  case measure => exact HME.out
          | false =>
            have HI := Lib.hid (t_is HP.out [109, 97, 107, 101] he)
            rw [show isS ts [109, 97, 107, 101] τ = false from hm] at HI
            go_wp2_with fail
            refine HI.out.mono ?_
            rintro x V51 ⟨rfl, hT⟩
            have HP := Lib.hid (HP.out.touch hT)
            have HT := Lib.hid (HT.out.same (Touch.anyB (F := AtB gp) hT))
            clear hT HI
            have hHG : τ.1 ≤ (rmkS ts (exS ts makeB τ)).1 ∧ (τ.1 + 1 ≤ (rmkS ts (exS ts makeB τ)).1 ∧ b.length < 8 ∨ (rmkS ts (exS ts makeB τ)).2 ≠ 0) := ⟨Nat.le_trans (exS_ge ts makeB τ) (rmkS_ge ts _), .inr (rmkS_bad (exS_no hm))⟩
            have hmd : racR ts f1 a (b ++ [rmkV ts (exS ts makeB τ)]) (rmkS ts (exS ts makeB τ)) = R0 := by have := HR.out.md; rw [racR_make HMD.out hn (fun e => by rw [hm] at e; cases e)] at this; exact this
            have HC := Lib.hid (t_no HP.out [110, 101, 101, 100] hn)
            go_wp2_with fail
            refine HC.out.mono ?_
            rintro x V6 ⟨rfl, hp, hT⟩
            have HP := Lib.hid hp
            have HT := Lib.hid (HT.out.same (Touch.anyB (F := AtB gp) hT))
            clear hp hT HC
            have HC := Lib.hid (t_want HP.out [109, 97, 107, 101])
            obtain ⟨s1, hs1⟩ : ∃ z, exS ts makeB τ = z := ⟨_, rfl⟩
            rw [show exS ts [109, 97, 107, 101] τ = s1 from hs1] at HC
            rw [hs1] at hHG hmd
            have HHG := Lib.hid hHG
            have HMD2 := Lib.hid hmd
            clear hHG hmd hs1
            go_wp2_with fail
            refine HC.out.mono ?_
            rintro x V7 ⟨rfl, hp, hT⟩
            have HP := Lib.hid hp
            have HT := Lib.hid (HT.out.same hT)
            clear hp hT HC
            have HC := Lib.hid (t_name HP.out)
            obtain ⟨nm, hnm⟩ : ∃ z, bs (naV ts s1) = z := ⟨_, rfl⟩
            obtain ⟨s2, hs2⟩ : ∃ z, naS ts s1 = z := ⟨_, rfl⟩
            have hVS : ∀ ad v s', ((isS ts [43] s2 = true ∧ ad = true ∧ v = (nuV ts (acS ts [43] s2) : Int) ∧ s' = nuS ts (acS ts [43] s2)) ∨ (isS ts [43] s2 = false ∧ isS ts [45] s2 = true ∧ ad = true ∧ v = -(nuV ts (acS ts [45] s2) : Int) ∧ s' = nuS ts (acS ts [45] s2)) ∨ (isS ts [43] s2 = false ∧ isS ts [45] s2 = false ∧ ad = false ∧ v = siV ts (exS ts [61] s2) ∧ s' = siS ts (exS ts [61] s2))) →
                rmkV ts s1 = ⟨naV ts s1, ad, v⟩ ∧ rmkS ts s1 = exS ts [59] s' := by
              intro ad v s' hh
              unfold rmkV rmkS
              rw [hs2]
              rcases hh with ⟨h1, rfl, rfl, rfl⟩ | ⟨h1, h2, rfl, rfl, rfl⟩ | ⟨h1, h2, rfl, rfl, rfl⟩
              · simp [h1]
              · simp [h1, h2]
              · simp [h1, h2]
            have HVS := Lib.hid hVS
            rw [hnm, hs2] at HC
            have HNM := Lib.hid hnm
            clear hVS hnm hs2
            go_wp2_with fail
            refine HC.out.mono ?_
            rintro x V8 ⟨rfl, hp, hT⟩
            have HT8 := HT.out.same hT
            have hs8 := HT8.size
            obtain ⟨W1, hW1⟩ : ∃ W, V8.alloc (.cells #[.string nm, .bool false, .int .i64 0] 126) = W := ⟨_, rfl⟩
            have t1 : Touch NoB V8 W1 := by rw [← hW1]; exact (Touch.refl _ _).alloc _
            have HP := Lib.hid (hp.touch t1)
            have HT := Lib.hid (HT8.same (Touch.anyB (F := AtB gp) t1))
            obtain ⟨qm, hqm⟩ : ∃ z, V8.heap.size = z := ⟨_, rfl⟩
            have HBM := Lib.hid (show B3 W1 126 V8.heap.size (.string nm) (.bool false) (.int .i64 0) by rw [← hW1]; exact B3.new _ _ _ _ _ rfl)
            have hq8 : wr.heap.size ≤ V8.heap.size := hs8
            have HW1 := Lib.hid hW1
            clear hp hT t1 hs8 hW1 HC HT8 hqm
            cases hi3 : isS ts [43] s2 with
            | true =>
              have HC := Lib.hid (t_take HP.out [43])
              rw [hi3] at HC
              go_wp2_with fail
              rw [HW1.out]
              refine HC.out.mono ?_
              rintro x w3 ⟨rfl, hp, hT⟩
              have HP := Lib.hid hp
              have HT := Lib.hid (HT.out.same hT)
              have HBM := Lib.hid (HBM.out.go hT (by omega))
              clear hp hT HC
              obtain ⟨z0, z1, z2, zl⟩ := HBM.out.cells
              obtain ⟨e0, e1, e2⟩ := HBM.out.free
              obtain ⟨V, hV⟩ : ∃ V, w3.setCell ⟨V8.heap.size, 1, none⟩ (.bool true) = V := ⟨_, rfl⟩
              have tV : Touch (fun b => b = V8.heap.size) w3 V := by rw [← hV]; exact (Touch.refl (fun b => b = V8.heap.size) w3).setCell (p := ⟨V8.heap.size, 1, none⟩) (.inl rfl) _
              have HBM := Lib.hid (show B3 V 126 V8.heap.size (.string nm) (.bool true) (.int .i64 0) by rw [← hV]; exact HBM.out.set1 _)
              have HP := Lib.hid (HP.out.touchX tV (by omega) (by omega))
              have HT := Lib.hid (show Touch (AtB gp) wr V by rw [← hV]; exact HT.out.setCell (p := ⟨V8.heap.size, 1, none⟩) (.inr hq8) _)
              have HC := Lib.hid (t_number HP.out)
              clear tV
              go_wp2_with fail
              refine HC.out.mono ?_
              rintro x w5 ⟨rfl, hp, hT⟩
              obtain ⟨v, hv⟩ : ∃ v : Int, (nuV ts (acS ts [43] s2) : Int) = v := ⟨_, rfl⟩
              rw [hv]
              have hVV := HVS.out true v (nuS ts (acS ts [43] s2)) (.inl ⟨hi3, rfl, hv.symm, rfl⟩)
              have hbm := HBM.out.go hT (by omega)
              obtain ⟨z0, z1, z2, zl⟩ := hbm.cells
              obtain ⟨e0, e1, e2⟩ := hbm.free
              obtain ⟨Y, hY⟩ : ∃ V, w5.setCell ⟨V8.heap.size, 2, none⟩ (.int .i64 v) = V := ⟨_, rfl⟩
              have tY : Touch (fun b => b = V8.heap.size) w5 Y := by rw [← hY]; exact (Touch.refl (fun b => b = V8.heap.size) w5).setCell (p := ⟨V8.heap.size, 2, none⟩) (.inl rfl) _
              have HBM := Lib.hid (show B3 Y 126 V8.heap.size (.string nm) (.bool true) (.int .i64 v) by rw [← hY]; exact hbm.set2 _)
              have HT := Lib.hid (show Touch (AtB gp) wr Y by rw [← hY]; exact (HT.out.same hT).setCell (p := ⟨V8.heap.size, 2, none⟩) (.inr hq8) _)
              have HP := Lib.hid (hp.touchX tY (by omega) (by omega))
              have HC := Lib.hid (t_want HP.out [59])
              rw [← hVV.2] at HC
              have HVV := Lib.hid hVV.1
              clear hp hT tY hbm hVV hv
              go_wp2_with fail
              refine HC.out.mono ?_
              rintro x w6 ⟨rfl, hp, hT⟩
              have HT := Lib.hid (HT.out.same hT)
              have HBM := Lib.hid (HBM.out.go hT (by omega))
              obtain ⟨z0, z1, z2, zl⟩ := HBM.out.cells
              obtain ⟨p0, p1, p2, p3, pl⟩ := (HR.out.b3.go HT.out (by omega)).cells
              rw [HM.out] at p3
              have hrow := row_go HR.out.rm HT.out hgp
              rw [HM.out] at hrow
              obtain ⟨i0, hi0, hz0, hz1, hz2⟩ := info_make'
              have hs6 := HT.out.size
              obtain ⟨gd, cap2, w8, hrun, hown, TR, hat⟩ := own_app (S := 93) Tryz.underlying93 hi0 hz0 hz1 hz2 rfl (by decide) (by decide) hrow (by omega) [.string nm, .bool true, .int .i64 v] rfl one_make (by omega) rfl
              have HAP := Lib.hid hrun
              have hb38 := (HR.out.b3.go HT.out (by omega)).goR TR (row_ne hrow (HR.out.b3.go HT.out (by omega)) (by decide))
              rw [HM.out] at hb38
              obtain ⟨k0, k1, k2, k3, kl⟩ := hb38.cells
              obtain ⟨m0, m1, m2, m3⟩ := hb38.free
              have hA : AM w gp g n cp L q3 ts R0 n1 (v3 : Int) f1 a (b ++ [rmkV ts s1]) (rmkS ts s1) (.slice A1 a.length kp1) (.slice (some ⟨gd, 0, none⟩) (M + 1) cap2) (w8.setCell ⟨q3, 3, none⟩ (.slice (some ⟨gd, 0, none⟩) (M + 1) cap2)) := by
                have e : bs (rmkV ts s1).nm = nm ∧ (rmkV ts s1).add = true ∧ (rmkV ts s1).n = v := by rw [HVV.out]; exact ⟨HNM.out, rfl, rfl⟩
                have hown := hown
                have TR := TR
                rw [← e.1, ← e.2.1, ← e.2.2] at hown
                rw [← HM.out] at hown TR ⊢
                exact HR.out.addM (v := rmkV ts s1) HT.out hp hgp hgl hsq he HHG.out.2 TR hown HMD2.out
              have HA := Lib.hid hA
              clear hA
              have HME := Lib.hid (meas2_lt HR.out.rt HA.out.rt he (by rcases HHG.out.2 with h | h; exact .inl h.1; exact .inr ⟨h, HHG.out.1⟩))
              clear hp hT hrow hi0 hz0 hz1 hz2 hrun hown TR hat hb38 hs6 HC
              obtain ⟨v7, hv7⟩ : ∃ v7, Value.slice A2 M kp2 = v7 := ⟨_, rfl⟩
              rw [hv7] at HAP p3
              clear hv7
              go_wp2_with (at_builtin; refine Lib.wpList_append_run _ rfl _ _ _ _ rfl _ _ rfl rfl _ _ HAP.out ?_)
              go_roundw
              case rel => exact ⟨_, _, _, _, _, _, HA.out⟩
              case measure => exact HME.out
            | false =>
              have HC := Lib.hid (t_no HP.out [43] hi3)
              go_wp2_with fail
              rw [HW1.out]
              refine HC.out.mono ?_
              rintro x w2 ⟨rfl, hp, hT⟩
              have HP := Lib.hid hp
              have HT := Lib.hid (HT.out.same (Touch.anyB (F := AtB gp) hT))
              have HBM := Lib.hid (HBM.out.go (Touch.anyB (F := AtB gp) hT) (by omega))
              clear hp hT HC
              cases hj3 : isS ts [45] s2 with
              | true =>
                have HC := Lib.hid (t_take HP.out [45])
                rw [hj3] at HC
                go_wp2_with fail
                refine HC.out.mono ?_
                rintro x w3 ⟨rfl, hp, hT⟩
                have HP := Lib.hid hp
                have HT := Lib.hid (HT.out.same hT)
                have HBM := Lib.hid (HBM.out.go hT (by omega))
                clear hp hT HC
                obtain ⟨z0, z1, z2, zl⟩ := HBM.out.cells
                obtain ⟨e0, e1, e2⟩ := HBM.out.free
                obtain ⟨V, hV⟩ : ∃ V, w3.setCell ⟨V8.heap.size, 1, none⟩ (.bool true) = V := ⟨_, rfl⟩
                have tV : Touch (fun b => b = V8.heap.size) w3 V := by rw [← hV]; exact (Touch.refl (fun b => b = V8.heap.size) w3).setCell (p := ⟨V8.heap.size, 1, none⟩) (.inl rfl) _
                have HBM := Lib.hid (show B3 V 126 V8.heap.size (.string nm) (.bool true) (.int .i64 0) by rw [← hV]; exact HBM.out.set1 _)
                have HP := Lib.hid (HP.out.touchX tV (by omega) (by omega))
                have HT := Lib.hid (show Touch (AtB gp) wr V by rw [← hV]; exact HT.out.setCell (p := ⟨V8.heap.size, 1, none⟩) (.inr hq8) _)
                have HC := Lib.hid (t_number HP.out)
                clear tV
                go_wp2_with fail
                refine HC.out.mono ?_
                rintro x w5 ⟨rfl, hp, hT⟩
                have hmx : nuV ts (acS ts [45] s2) ≤ 9223372036854775807 := nuV_le' HNK.out _
                obtain ⟨u, hu⟩ : ∃ u : Int, (nuV ts (acS ts [45] s2) : Int) = u := ⟨_, rfl⟩
                obtain ⟨v, hv⟩ : ∃ v : Int, -u = v := ⟨_, rfl⟩
                have hng : IntKind.i64.wrap (-u) = v := by rw [hv]; exact IntWalk.i64_in _ (by omega)
                rw [hu]
                have hVV := HVS.out true v (nuS ts (acS ts [45] s2)) (.inr (.inl ⟨hi3, hj3, rfl, (by rw [hu]; exact hv.symm), rfl⟩))
                have hbm := HBM.out.go hT (by omega)
                obtain ⟨z0, z1, z2, zl⟩ := hbm.cells
                obtain ⟨e0, e1, e2⟩ := hbm.free
                obtain ⟨Y, hY⟩ : ∃ V, w5.setCell ⟨V8.heap.size, 2, none⟩ (.int .i64 v) = V := ⟨_, rfl⟩
                have tY : Touch (fun b => b = V8.heap.size) w5 Y := by rw [← hY]; exact (Touch.refl (fun b => b = V8.heap.size) w5).setCell (p := ⟨V8.heap.size, 2, none⟩) (.inl rfl) _
                have HBM := Lib.hid (show B3 Y 126 V8.heap.size (.string nm) (.bool true) (.int .i64 v) by rw [← hY]; exact hbm.set2 _)
                have HT := Lib.hid (show Touch (AtB gp) wr Y by rw [← hY]; exact (HT.out.same hT).setCell (p := ⟨V8.heap.size, 2, none⟩) (.inr hq8) _)
                have HP := Lib.hid (hp.touchX tY (by omega) (by omega))
                have HC := Lib.hid (t_want HP.out [59])
                rw [← hVV.2] at HC
                have HVV := Lib.hid hVV.1
                clear hp hT tY hbm hVV hu hv hmx
                go_wp2_with fail
                refine HC.out.mono ?_
                rintro x w6 ⟨rfl, hp, hT⟩
                have HT := Lib.hid (HT.out.same hT)
                have HBM := Lib.hid (HBM.out.go hT (by omega))
                obtain ⟨z0, z1, z2, zl⟩ := HBM.out.cells
                obtain ⟨p0, p1, p2, p3, pl⟩ := (HR.out.b3.go HT.out (by omega)).cells
                rw [HM.out] at p3
                have hrow := row_go HR.out.rm HT.out hgp
                rw [HM.out] at hrow
                obtain ⟨i0, hi0, hz0, hz1, hz2⟩ := info_make'
                have hs6 := HT.out.size
                obtain ⟨gd, cap2, w8, hrun, hown, TR, hat⟩ := own_app (S := 93) Tryz.underlying93 hi0 hz0 hz1 hz2 rfl (by decide) (by decide) hrow (by omega) [.string nm, .bool true, .int .i64 v] rfl one_make (by omega) rfl
                have HAP := Lib.hid hrun
                have hb38 := (HR.out.b3.go HT.out (by omega)).goR TR (row_ne hrow (HR.out.b3.go HT.out (by omega)) (by decide))
                rw [HM.out] at hb38
                obtain ⟨k0, k1, k2, k3, kl⟩ := hb38.cells
                obtain ⟨m0, m1, m2, m3⟩ := hb38.free
                have hA : AM w gp g n cp L q3 ts R0 n1 (v3 : Int) f1 a (b ++ [rmkV ts s1]) (rmkS ts s1) (.slice A1 a.length kp1) (.slice (some ⟨gd, 0, none⟩) (M + 1) cap2) (w8.setCell ⟨q3, 3, none⟩ (.slice (some ⟨gd, 0, none⟩) (M + 1) cap2)) := by
                  have e : bs (rmkV ts s1).nm = nm ∧ (rmkV ts s1).add = true ∧ (rmkV ts s1).n = v := by rw [HVV.out]; exact ⟨HNM.out, rfl, rfl⟩
                  have hown := hown
                  have TR := TR
                  rw [← e.1, ← e.2.1, ← e.2.2] at hown
                  rw [← HM.out] at hown TR ⊢
                  exact HR.out.addM (v := rmkV ts s1) HT.out hp hgp hgl hsq he HHG.out.2 TR hown HMD2.out
                have HA := Lib.hid hA
                clear hA
                have HME := Lib.hid (meas2_lt HR.out.rt HA.out.rt he (by rcases HHG.out.2 with h | h; exact .inl h.1; exact .inr ⟨h, HHG.out.1⟩))
                clear hp hT hrow hi0 hz0 hz1 hz2 hrun hown TR hat hb38 hs6 HC
                obtain ⟨v7, hv7⟩ : ∃ v7, Value.slice A2 M kp2 = v7 := ⟨_, rfl⟩
                rw [hv7] at HAP p3
                clear hv7
                go_wp2_with (at_builtin; refine Lib.wpList_append_run _ rfl _ _ _ _ rfl _ _ rfl rfl _ _ HAP.out ?_)
                go_roundw
                case rel => exact ⟨_, _, _, _, _, _, HA.out⟩
                case measure => exact HME.out
              | false =>
                have HC := Lib.hid (t_no HP.out [45] hj3)
                go_wp2_with fail
                refine HC.out.mono ?_
                rintro x w4 ⟨rfl, hp, hT⟩
                have HP := Lib.hid hp
                have HT := Lib.hid (HT.out.same (Touch.anyB (F := AtB gp) hT))
                have HBM := Lib.hid (HBM.out.go (Touch.anyB (F := AtB gp) hT) (by omega))
                clear hp hT HC
                have HC := Lib.hid (t_want HP.out [61])
                go_wp2_with fail
                refine HC.out.mono ?_
                rintro x w3 ⟨rfl, hp, hT⟩
                have HP := Lib.hid hp
                have HT := Lib.hid (HT.out.same hT)
                have HBM := Lib.hid (HBM.out.go hT (by omega))
                clear hp hT HC
                have HC := Lib.hid (t_signed HNK.out HP.out)
                go_wp2_with fail
                refine HC.out.mono ?_
                rintro x w5 ⟨rfl, hp, hT⟩
                obtain ⟨v, hv⟩ : ∃ v, siV ts (exS ts [61] s2) = v := ⟨_, rfl⟩
                rw [hv]
                have hVV := HVS.out false v (siS ts (exS ts [61] s2)) (.inr (.inr ⟨hi3, hj3, rfl, hv.symm, rfl⟩))
                have hbm := HBM.out.go hT (by omega)
                obtain ⟨z0, z1, z2, zl⟩ := hbm.cells
                obtain ⟨e0, e1, e2⟩ := hbm.free
                obtain ⟨Y, hY⟩ : ∃ V, w5.setCell ⟨V8.heap.size, 2, none⟩ (.int .i64 v) = V := ⟨_, rfl⟩
                have tY : Touch (fun b => b = V8.heap.size) w5 Y := by rw [← hY]; exact (Touch.refl (fun b => b = V8.heap.size) w5).setCell (p := ⟨V8.heap.size, 2, none⟩) (.inl rfl) _
                have HBM := Lib.hid (show B3 Y 126 V8.heap.size (.string nm) (.bool false) (.int .i64 v) by rw [← hY]; exact hbm.set2 _)
                have HT := Lib.hid (show Touch (AtB gp) wr Y by rw [← hY]; exact (HT.out.same hT).setCell (p := ⟨V8.heap.size, 2, none⟩) (.inr hq8) _)
                have HP := Lib.hid (hp.touchX tY (by omega) (by omega))
                have HC := Lib.hid (t_want HP.out [59])
                rw [← hVV.2] at HC
                have HVV := Lib.hid hVV.1
                clear hp hT tY hbm hVV hv
                go_wp2_with fail
                refine HC.out.mono ?_
                rintro x w6 ⟨rfl, hp, hT⟩
                have HT := Lib.hid (HT.out.same hT)
                have HBM := Lib.hid (HBM.out.go hT (by omega))
                obtain ⟨z0, z1, z2, zl⟩ := HBM.out.cells
                obtain ⟨p0, p1, p2, p3, pl⟩ := (HR.out.b3.go HT.out (by omega)).cells
                rw [HM.out] at p3
                have hrow := row_go HR.out.rm HT.out hgp
                rw [HM.out] at hrow
                obtain ⟨i0, hi0, hz0, hz1, hz2⟩ := info_make'
                have hs6 := HT.out.size
                obtain ⟨gd, cap2, w8, hrun, hown, TR, hat⟩ := own_app (S := 93) Tryz.underlying93 hi0 hz0 hz1 hz2 rfl (by decide) (by decide) hrow (by omega) [.string nm, .bool false, .int .i64 v] rfl one_make (by omega) rfl
                have HAP := Lib.hid hrun
                have hb38 := (HR.out.b3.go HT.out (by omega)).goR TR (row_ne hrow (HR.out.b3.go HT.out (by omega)) (by decide))
                rw [HM.out] at hb38
                obtain ⟨k0, k1, k2, k3, kl⟩ := hb38.cells
                obtain ⟨m0, m1, m2, m3⟩ := hb38.free
                have hA : AM w gp g n cp L q3 ts R0 n1 (v3 : Int) f1 a (b ++ [rmkV ts s1]) (rmkS ts s1) (.slice A1 a.length kp1) (.slice (some ⟨gd, 0, none⟩) (M + 1) cap2) (w8.setCell ⟨q3, 3, none⟩ (.slice (some ⟨gd, 0, none⟩) (M + 1) cap2)) := by
                  have e : bs (rmkV ts s1).nm = nm ∧ (rmkV ts s1).add = false ∧ (rmkV ts s1).n = v := by rw [HVV.out]; exact ⟨HNM.out, rfl, rfl⟩
                  have hown := hown
                  have TR := TR
                  rw [← e.1, ← e.2.1, ← e.2.2] at hown
                  rw [← HM.out] at hown TR ⊢
                  exact HR.out.addM (v := rmkV ts s1) HT.out hp hgp hgl hsq he HHG.out.2 TR hown HMD2.out
                have HA := Lib.hid hA
                clear hA
                have HME := Lib.hid (meas2_lt HR.out.rt HA.out.rt he (by rcases HHG.out.2 with h | h; exact .inl h.1; exact .inr ⟨h, HHG.out.1⟩))
                clear hp hT hrow hi0 hz0 hz1 hz2 hrun hown TR hat hb38 hs6 HC
                obtain ⟨v7, hv7⟩ : ∃ v7, Value.slice A2 M kp2 = v7 := ⟨_, rfl⟩
                rw [hv7] at HAP p3
                clear hv7
                go_wp2_with (at_builtin; refine Lib.wpList_append_run _ rfl _ _ _ _ rfl _ _ rfl rfl _ _ HAP.out ?_)
                go_roundw
                case rel => exact ⟨_, _, _, _, _, _, HA.out⟩
                case measure => exact HME.out
    · have hee : ((τ.2 : Int) == 0) = false := by simp; omega
      have HST := Lib.hid (show R0 = ((a, b), τ) from HR.out.md.symm.trans (racR_stop (fun h => he h.1)))
      have HX := Lib.hid (t_want HR.out.rt [125])
      go_wp2_with fail
      refine HX.out.mono ?_
      rintro x V5 ⟨rfl, hp, hT⟩
      have tt : Touch (AtB gp) wr V5 := hT
      obtain ⟨z0, z1, z2, z3, zl⟩ := (HR.out.b2.go tt (by omega)).cells
      obtain ⟨e0, e1, e2, e3⟩ := (HR.out.b2.go tt (by omega)).free
      obtain ⟨p0, p1, p2, p3, pl⟩ := (HR.out.b3.go tt (by omega)).cells
      have HO := Lib.hid (HR.out.out tt hp hgp hgl)
      clear hT hp tt
      go_wp2
      refine bodyPost_ret (v := .agg #[.string n1, .int .i64 (v3 : Int), .slice A1 a.length kp1, .slice A2 b.length kp2]) (by simp [results, Tryz.results37, go_sem, z0, z1, z2, z3]) rfl ?_
      rw [HST.out, ← HN1.out]
      exact ⟨_, _, rfl, HO.out _ _ _ _⟩
end Go.Proofs.YtbikpbmknneabaaGreat
