/-
  What the document's own domain does with a reader in memory. Conditions: numbers among the tokens are such.
-/
import Derived.Test.YtbikpbmknneabaaGreatZs21
import Derived.Deep.DeepCutAuto
import Derived.Deep.RegionWith
namespace Go.Proofs.YtbikpbmknneabaaGreat
open Go.ChangeShapes Go.WideShapes Go.ChangeAt Go.RowKit
set_option maxRecDepth 100000
set_option maxHeartbeats 8000000

theorem one_var {nm : ByteArray} {u v : Int} : ∀ x ∈ [Value.string nm, .int .i64 u, .int .i64 v], x.oneCell' = true := by
  intro x hx
  simp only [List.mem_cons, List.not_mem_nil, or_false] at hx
  rcases hx with rfl | rfl | rfl <;> rfl
theorem rdom_any {gp g n cp L : Nat} {ts : List Tk} (hnk : NumsOk ts) {w : World} {σ : St} (h : RT w gp g n cp ts L σ) :
    Calls Tryz.prog 21 #[.pointer (some ⟨gp, 0, none⟩)] w (RDoP w gp g n cp L ts (rdoV ts σ) (rdoS ts σ)) := by
  obtain ⟨W0, hW0⟩ : ∃ W, w.alloc (.cells #[.string ⟨#[]⟩, .slice none 0 0, .slice none 0 0, .slice none 0 0] 71) = W := ⟨_, rfl⟩
  have t0 : Touch NoB w W0 := by rw [← hW0]; exact (Touch.refl _ _).alloc _
  have b2 : B4 W0 71 w.heap.size (.string ⟨#[]⟩) (.slice none 0 0) (.slice none 0 0) (.slice none 0 0) := by rw [← hW0]; exact B4.new w _ _ _ _ _ rfl
  have hgp := h.lt
  have hgl : g < w.heap.size := h.rs.tl.lt
  have HB2 := Lib.hid b2
  have HT := Lib.hid (Touch.anyB (F := AtB gp) t0)
  have hln : ts.length = n := h.rs.len
  obtain ⟨R0, hR0⟩ : ∃ z, rdoR ts (ts.length + 5) [] [] [] (exS ts [123] (naS ts σ)) = z := ⟨_, rfl⟩
  unfold rdoV rdoS
  simp only [hR0]
  have HC := Lib.hid (t_name (h.touch t0))
  obtain ⟨v1, hv1⟩ : ∃ z, naV ts σ = z := ⟨_, rfl⟩
  obtain ⟨n1, hn1⟩ : ∃ z, bs v1 = z := ⟨_, rfl⟩
  obtain ⟨s1, hs1⟩ : ∃ z, naS ts σ = z := ⟨_, rfl⟩
  obtain ⟨s4, hs4⟩ : ∃ z, exS ts [123] s1 = z := ⟨_, rfl⟩
  rw [hv1, hn1, hs1] at HC
  rw [hs1, hs4] at hR0
  simp only [hv1]
  have HN1 := Lib.hid hn1
  have H4 := Lib.hid (fun (W : World) (q : RT W gp g n cp ts L s1) => t_want q [123])
  rw [hs4] at H4
  have HR0 := Lib.hid hR0
  have HNK := Lib.hid hnk
  have HLN := Lib.hid hln
  clear hs4 hs1 hv1 h t0 b2 hn1 hR0 hnk hln
  go_enter Tryz.func21, Tryz.ntmps21
  go_wp2_with fail
  refine HC.out.mono ?_
  rintro r w1 ⟨rfl, hp, hT⟩
  obtain ⟨X, hX⟩ : ∃ X, w1.alloc (.cells #[.string n1, .slice none 0 0, .slice none 0 0, .slice none 0 0] 71) = X := ⟨_, rfl⟩
  have tx : Touch NoB w1 X := by rw [← hX]; exact (Touch.refl _ _).alloc _
  obtain ⟨q3, hq3⟩ : ∃ q3, w1.heap.size = q3 := ⟨_, rfl⟩
  have hsq : w.heap.size < q3 := by have := hT.size; have := blk_lt HB2.out; omega
  have HB3 := Lib.hid (show B4 X 71 q3 (.string n1) (.slice none 0 0) (.slice none 0 0) (.slice none 0 0) by rw [← hX]; exact B4.new _ _ _ _ _ _ hq3)
  have HB2 := Lib.hid ((HB2.out.go hT (by omega)).go (Touch.anyB (F := AtB gp) tx) (by omega))
  have HT := Lib.hid (HT.out.same (hT.same (Touch.anyB tx)))
  have HP := Lib.hid (hp.touch tx)
  clear hp hT tx
  subst hX
  have HC := Lib.hid (H4.out _ HP.out)
  go_wp2_with fail
  refine HC.out.mono ?_
  rintro r ue ⟨rfl, hp, hT⟩
  have HB3 := Lib.hid (HB3.out.go hT (by omega))
  have HB2 := Lib.hid (HB2.out.go hT (by omega))
  have HT := Lib.hid (HT.out.same hT)
  have HP := Lib.hid hp
  clear hp hT
  have HR : Hid (∃ f a b c τ vv va vg xs Q, DM w ue gp q3 Q n1 a b c vv va vg xs ∧ RT ue gp g n cp ts L τ ∧ DQ ts R0 n f a b c τ) := Lib.hid ⟨ts.length + 5, [], [], [], s4, .slice none 0 0, .slice none 0 0, .slice none 0 0, [], fun _ => False, ⟨HT.out, HB2.out, HB3.out, World.ownsRow_nil _ _ _ _, World.ownsRow_nil _ _ _ _, .nil, World.ownsRow_nil _ _ _ _, fun k hk => hk.elim⟩, HP.out, HR0.out, ⟨by omega, fun _ => by have := HLN.out; omega⟩, by simp, by simp, by simp, fun _ => by simp⟩
  clear HC HT HP HB2 HB3 HR0 H4
  go_wp2_with fail
  go_loopw [] (fun wr => ∃ f a b c τ vv va vg xs Q, DM w wr gp q3 Q n1 a b c vv va vg xs ∧ RT wr gp g n cp ts L τ ∧ DQ ts R0 n f a b c τ) (fun wr => meas2 gp n wr)
  case atStart => exact HR.out
  case round =>
    clear HR
    obtain ⟨f, a, b, c, τ, vv, va, vg, xs, Q, hR⟩ := hrel
    obtain ⟨A1, kp1, rfl, hc1, hc2⟩ := row_any hR.1.rv
    obtain ⟨A2, kp2, rfl, hd1, hd2⟩ := row_any hR.1.ra
    obtain ⟨A3, kp3, rfl, he1, he2⟩ := row_any hR.1.rg
    obtain ⟨c1, c2, cl⟩ := hR.2.1.cells
    obtain ⟨f1, rfl⟩ : ∃ f1, f = f1 + 1 := ⟨f - 1, by have := hR.2.2.fu.1; omega⟩
    have hs0 := hR.1.t.size
    have hw0 := blk_lt hR.1.b2
    have HR := Lib.hid hR
    clear hR
    by_cases he : τ.2 = 0
    · have hee : ((τ.2 : Int) == 0) = true := by rw [he]; rfl
      have HI := Lib.hid (t_is HR.out.2.1 [125] he)
      cases hi : isS ts [125] τ with
      | true =>
        rw [hi] at HI
        have HST := Lib.hid (show R0 = ((a, b, c), τ) from HR.out.2.2.md.symm.trans (rdoR_stop (by rw [hi]; intro h; cases h.2)))
        go_wp2_with fail
        refine HI.out.mono ?_
        rintro x V4 ⟨rfl, hT4⟩
        have HX := Lib.hid (t_want (HR.out.2.1.touch hT4) [125])
        have HT4 := Lib.hid hT4
        clear hT4
        go_wp2_with fail
        refine HX.out.mono ?_
        rintro x V5 ⟨rfl, hp, hT⟩
        have tt : Touch (AtB gp) wr V5 := (Touch.anyB HT4.out).same hT
        have hd := HR.out.1.go tt hgp hsq
        obtain ⟨z0, z1, z2, z3, zl⟩ := hd.b2.cells
        obtain ⟨e0, e1, e2, e3⟩ := hd.b2.free
        obtain ⟨p0, p1, p2, p3, pl⟩ := hd.b3.cells
        have hfin := rdom_out (nm := v1) (by rw [HN1.out]; exact hd) hp hgp hgl
        rw [HN1.out] at hfin
        have HO := Lib.hid hfin
        clear hT hp tt hd hfin
        go_wp2
        refine bodyPost_ret (v := .agg #[.string n1, .slice A1 a.length kp1, .slice A2 b.length kp2, .slice A3 c.length kp3]) (by simp [results, Tryz.results21, go_sem, z0, z1, z2, z3]) rfl ?_
        rw [HST.out]
        exact ⟨_, rfl, HO.out _ _ _ _⟩
      | false =>
        rw [hi] at HI
        have HMD := Lib.hid (show τ.2 = 0 ∧ isS ts [125] τ = false from ⟨he, hi⟩)
        obtain ⟨N, hN⟩ : ∃ z, a.length = z := ⟨_, rfl⟩
        obtain ⟨M, hM⟩ : ∃ z, b.length = z := ⟨_, rfl⟩
        obtain ⟨K, hK⟩ : ∃ z, c.length = z := ⟨_, rfl⟩
        have hN8 : N ≤ 8 := by rw [← hN]; exact HR.out.2.2.la
        have hM8 : M ≤ 20 := by rw [← hM]; exact HR.out.2.2.lb
        have hK8 : K ≤ 8 := by rw [← hK]; exact HR.out.2.2.lc.2 he
        rw [hN] at hc1
        rw [hM] at hd1
        rw [hK] at he1
        have HN := Lib.hid hN
        have HM := Lib.hid hM
        have HK := Lib.hid hK
        clear hN hM hK
        go_wp2_with fail
        refine HI.out.mono ?_
        rintro x V4 ⟨rfl, hT4⟩
        have HP := Lib.hid (HR.out.2.1.touch hT4)
        have HT := Lib.hid (Touch.anyB (F := AtB gp) hT4)
        clear hT4 HI
        cases hn : isS ts varB τ with
        | true =>
          by_cases h8 : 8 ≤ N
          · have hge : decide ((8 : Int) ≤ (N : Int)) = true := by simp; omega
            have HI := Lib.hid (t_is HP.out [118, 97, 114] he)
            rw [show isS ts [118, 97, 114] τ = true from hn] at HI
            go_wp2_with fail
            refine HI.out.mono ?_
            rintro x V5 ⟨rfl, hT⟩
            have HP := Lib.hid (HP.out.touch hT)
            have HT := Lib.hid (HT.out.same (Touch.anyB (F := AtB gp) hT))
            clear hT HI
            obtain ⟨y0, y1, y2, y3, yl⟩ := (HR.out.1.go HT.out hgp hsq).b3.cells
            rw [HN.out] at y1
            rw [HM.out] at y2
            rw [HK.out] at y3
            have HF := Lib.hid (t_fail HP.out 9)
            go_wp2_with fail
            refine HF.out.mono ?_
            rintro x V6 ⟨rfl, hp, hT⟩
            have hbad : (failS 9 τ).2 ≠ 0 := failS_bad (by decide) _
            have hmd : rdoR ts f1 a b c (failS 9 τ) = R0 := by have := HR.out.2.2.md; rw [rdoR_many HMD.out (.inl ⟨hn, by rw [HN.out]; exact h8⟩)] at this; exact this
            have HA := Lib.hid (And.intro (HR.out.1.go (HT.out.same hT) hgp hsq) (And.intro hp (DQ.mk hmd (HR.out.2.2.fu.stop he hbad) HR.out.2.2.la HR.out.2.2.lb ⟨HR.out.2.2.lc.1, fun e => absurd e hbad⟩)))
            have HME := Lib.hid (meas2_lt HR.out.2.1 hp he (.inr ⟨hbad, Nat.le_refl _⟩))
            clear hp hT hbad hmd
            go_wp2
            go_roundw
            case rel => exact ⟨_, _, _, _, _, _, _, _, _, _, HA.out⟩
            case measure => exact HME.out
          · have hge : decide ((8 : Int) ≤ (N : Int)) = false := by simp; omega
            have HI := Lib.hid (t_is HP.out [118, 97, 114] he)
            rw [show isS ts [118, 97, 114] τ = true from hn] at HI
            go_wp2_with fail
            refine HI.out.mono ?_
            rintro x V5 ⟨rfl, hT⟩
            have HP := Lib.hid (HP.out.touch hT)
            have HT := Lib.hid (HT.out.same (Touch.anyB (F := AtB gp) hT))
            clear hT HI
            obtain ⟨y0, y1, y2, y3, yl⟩ := (HR.out.1.go HT.out hgp hsq).b3.cells
            rw [HN.out] at y1
            rw [HM.out] at y2
            rw [HK.out] at y3
            have hm : isS ts actB τ = false := isS_other hn (by decide)
            have hg : isS ts goalB τ = false := isS_other hn (by decide)
            have HI := Lib.hid (t_is HP.out [97, 99, 116] he)
            rw [show isS ts [97, 99, 116] τ = false from hm] at HI
            go_wp2_with fail
            refine HI.out.mono ?_
            rintro x V51 ⟨rfl, hT⟩
            have HP := Lib.hid (HP.out.touch hT)
            have HT := Lib.hid (HT.out.same (Touch.anyB (F := AtB gp) hT))
            clear hT HI
            have HI := Lib.hid (t_is HP.out [103, 111, 97, 108] he)
            rw [show isS ts [103, 111, 97, 108] τ = false from hg] at HI
            go_wp2_with fail
            refine HI.out.mono ?_
            rintro x V52 ⟨rfl, hT⟩
            have HP := Lib.hid (HP.out.touch hT)
            have HT := Lib.hid (HT.out.same (Touch.anyB (F := AtB gp) hT))
            clear hT HI
            have HC := Lib.hid (t_take HP.out [118, 97, 114])
            rw [show isS ts [118, 97, 114] τ = true from hn] at HC
            go_wp2_with fail
            refine HC.out.mono ?_
            rintro x V6 ⟨rfl, hp, hT⟩
            have HT := Lib.hid (HT.out.same hT)
            obtain ⟨s1, hs1⟩ : ∃ z, acS ts varB τ = z := ⟨_, rfl⟩
            have ht1 : s1.1 = τ.1 + 1 := by rw [← hs1, acS_yes hn]
            have hp : RT V6 gp g n cp ts L s1 := by rw [← hs1]; exact hp
            have hmd : rdoR ts f1 (a ++ [varV ts s1]) b c (varS ts s1) = R0 := by have := HR.out.2.2.md; rw [rdoR_var HMD.out hn (by rw [HN.out]; omega), hs1] at this; exact this
            have hge : τ.1 + 1 ≤ (varS ts s1).1 := by have := varS_ge ts s1; omega
            have HMD2 := Lib.hid hmd
            have HGE := Lib.hid hge
            have HC := Lib.hid (t_name hp)
            obtain ⟨nm, hnm⟩ : ∃ z, bs (naV ts s1) = z := ⟨_, rfl⟩
            obtain ⟨s2, hs2⟩ : ∃ z, naS ts s1 = z := ⟨_, rfl⟩
            have hvv : varV ts s1 = ⟨naV ts s1, siV ts s2, siV ts (siS ts s2)⟩ ∧ varS ts s1 = exS ts [59] (siS ts (siS ts s2)) := by unfold varV varS; rw [hs2]; exact ⟨rfl, rfl⟩
            have HVV := Lib.hid hvv
            rw [hnm, hs2] at HC
            have HNM := Lib.hid hnm
            clear hp hT hs1 ht1 hmd hge hnm hs2 hvv
            go_wp2_with fail
            refine HC.out.mono ?_
            rintro x V8 ⟨rfl, hp, hT⟩
            have HT8 := HT.out.same hT
            have hs8 := HT8.size
            obtain ⟨W1, hW1⟩ : ∃ W, V8.alloc (.cells #[.string nm, .int .i64 0, .int .i64 0] 92) = W := ⟨_, rfl⟩
            have t1 : Touch NoB V8 W1 := by rw [← hW1]; exact (Touch.refl _ _).alloc _
            have HP := Lib.hid (hp.touch t1)
            have HT := Lib.hid (HT8.same (Touch.anyB (F := AtB gp) t1))
            have HBM := Lib.hid (show B3 W1 92 V8.heap.size (.string nm) (.int .i64 0) (.int .i64 0) by rw [← hW1]; exact B3.new _ _ _ _ _ rfl)
            have HW1 := Lib.hid hW1
            clear hp hT t1 hW1 HC HT8
            have HC := Lib.hid (t_signed HNK.out HP.out)
            go_wp2_with fail
            rw [HW1.out]
            refine HC.out.mono ?_
            rintro x w5u ⟨rfl, hp, hT⟩
            obtain ⟨u, hu⟩ : ∃ u, siV ts s2 = u := ⟨_, rfl⟩
            rw [hu]
            have hbm := HBM.out.go hT (by omega)
            obtain ⟨z0, z1, z2, zl⟩ := hbm.cells
            obtain ⟨e0, e1, e2⟩ := hbm.free
            obtain ⟨Yu, hYu⟩ : ∃ V, w5u.setCell ⟨V8.heap.size, 1, none⟩ (.int .i64 u) = V := ⟨_, rfl⟩
            have tY : Touch (fun b => b = V8.heap.size) w5u Yu := by rw [← hYu]; exact (Touch.refl (fun b => b = V8.heap.size) w5u).setCell (p := ⟨V8.heap.size, 1, none⟩) (.inl rfl) _
            have HBM := Lib.hid (show B3 Yu 92 V8.heap.size (.string nm) (.int .i64 u) (.int .i64 0) by rw [← hYu]; exact hbm.set1 _)
            have HT := Lib.hid (show Touch (AtB gp) wr Yu by rw [← hYu]; exact (HT.out.same hT).setCell (p := ⟨V8.heap.size, 1, none⟩) (.inr hs8) _)
            have HP := Lib.hid (hp.touchX tY (by omega) (by omega))
            have HHu := Lib.hid hu
            clear hp hT tY hbm hu
            have HC := Lib.hid (t_signed HNK.out HP.out)
            go_wp2_with fail
            refine HC.out.mono ?_
            rintro x w5v ⟨rfl, hp, hT⟩
            obtain ⟨v, hv⟩ : ∃ v, siV ts (siS ts s2) = v := ⟨_, rfl⟩
            rw [hv]
            have hbm := HBM.out.go hT (by omega)
            obtain ⟨z0, z1, z2, zl⟩ := hbm.cells
            obtain ⟨e0, e1, e2⟩ := hbm.free
            obtain ⟨Yv, hYv⟩ : ∃ V, w5v.setCell ⟨V8.heap.size, 2, none⟩ (.int .i64 v) = V := ⟨_, rfl⟩
            have tY : Touch (fun b => b = V8.heap.size) w5v Yv := by rw [← hYv]; exact (Touch.refl (fun b => b = V8.heap.size) w5v).setCell (p := ⟨V8.heap.size, 2, none⟩) (.inl rfl) _
            have HBM := Lib.hid (show B3 Yv 92 V8.heap.size (.string nm) (.int .i64 u) (.int .i64 v) by rw [← hYv]; exact hbm.set2 _)
            have HT := Lib.hid (show Touch (AtB gp) wr Yv by rw [← hYv]; exact (HT.out.same hT).setCell (p := ⟨V8.heap.size, 2, none⟩) (.inr hs8) _)
            have HP := Lib.hid (hp.touchX tY (by omega) (by omega))
            have HHv := Lib.hid hv
            clear hp hT tY hbm hv
            have HC := Lib.hid (t_want HP.out [59])
            rw [← HVV.out.2] at HC
            go_wp2_with fail
            refine HC.out.mono ?_
            rintro x w6 ⟨rfl, hp, hT⟩
            have HT := Lib.hid (HT.out.same hT)
            have HBM := Lib.hid (HBM.out.go hT (by omega))
            obtain ⟨z0, z1, z2, zl⟩ := HBM.out.cells
            have hd := HR.out.1.go HT.out hgp hsq
            obtain ⟨p0, p1, p2, p3, pl⟩ := hd.b3.cells
            rw [HN.out] at p1
            have hrow := hd.rv
            rw [HN.out] at hrow
            obtain ⟨i0, hi0, hz0, hz1, hz2⟩ := info_var'
            have hs6 := HT.out.size
            obtain ⟨gd, cap2, w8, hrun, hown, TR, hat⟩ := own_app (S := 67) Tryz.underlying67 hi0 hz0 hz1 hz2 rfl (by decide) (by decide) hrow (by omega) [.string nm, .int .i64 u, .int .i64 v] rfl one_var (by omega) rfl
            have HAP := Lib.hid hrun
            have hb38 := hd.b3.goR TR (row_ne hrow hd.b3 (by decide))
            obtain ⟨k0, k1, k2, k3, kl⟩ := hb38.cells
            rw [HN.out] at k1
            obtain ⟨m0, m1, m2, m3⟩ := hb38.free
            have hr8 := (hp.row TR (fun e => by have := row_base hrow _ e; omega) (fun e => by have := row_base hrow _ e; omega)).touchX ((Touch.refl (fun b => b = q3) w8).setCell (p := ⟨q3, 1, none⟩) (.inl rfl) (.slice (some ⟨gd, 0, none⟩) (N + 1) cap2)) (by omega) (by omega)
            have hA : DM w (w8.setCell ⟨q3, 1, none⟩ (.slice (some ⟨gd, 0, none⟩) (N + 1) cap2)) gp q3 Q n1 (a ++ [varV ts s1]) b c (.slice (some ⟨gd, 0, none⟩) (N + 1) cap2) (.slice A2 b.length kp2) (.slice A3 c.length kp3) xs := by
              have e : bs (varV ts s1).nm = nm ∧ (varV ts s1).lo = u ∧ (varV ts s1).hi = v := by rw [HVV.out.1]; exact ⟨HNM.out, HHu.out, HHv.out⟩
              have hown := hown
              have TR := TR
              have hat := hat
              rw [← e.1, ← e.2.1, ← e.2.2] at hown
              rw [← HN.out] at hown TR hat ⊢
              exact hd.addV' (v := varV ts s1) hsq TR hown hat
            have hdq : DQ ts R0 n f1 (a ++ [varV ts s1]) b c (varS ts s1) := ⟨HMD2.out, HR.out.2.2.fu.next he (by have := HR.out.2.1.le; have := HR.out.2.1.ln; omega) HGE.out, by rw [List.length_append, HN.out]; simp; omega, HR.out.2.2.lb, HR.out.2.2.lc.1, fun _ => HR.out.2.2.lc.2 he⟩
            have HA := Lib.hid (And.intro hA (And.intro hr8 hdq))
            have HME := Lib.hid (meas2_lt HR.out.2.1 hr8 he (.inl HGE.out))
            clear hp hT hrow hi0 hz0 hz1 hz2 hrun hown TR hat hb38 hs6 HC hA hr8 hdq hd
            obtain ⟨v7, hv7⟩ : ∃ v7, Value.slice A1 N kp1 = v7 := ⟨_, rfl⟩
            rw [hv7] at HAP p1
            clear hv7
            go_wp2_with (at_builtin; refine Lib.wpList_append_run _ rfl _ _ _ _ rfl _ _ rfl rfl _ _ HAP.out ?_)
            go_roundw
            case rel => exact ⟨_, _, _, _, _, _, _, _, _, _, HA.out⟩
            case measure => exact HME.out
        | false =>
          have HI := Lib.hid (t_is HP.out [118, 97, 114] he)
          rw [show isS ts [118, 97, 114] τ = false from hn] at HI
          go_wp2_with fail
          refine HI.out.mono ?_
          rintro x V5 ⟨rfl, hT⟩
          have HP := Lib.hid (HP.out.touch hT)
          have HT := Lib.hid (HT.out.same (Touch.anyB (F := AtB gp) hT))
          clear hT HI
          cases hm : isS ts actB τ with
          | true =>
            by_cases h8 : 20 ≤ M
            · have hge : decide ((20 : Int) ≤ (M : Int)) = true := by simp; omega
              have HI := Lib.hid (t_is HP.out [97, 99, 116] he)
              rw [show isS ts [97, 99, 116] τ = true from hm] at HI
              go_wp2_with fail
              refine HI.out.mono ?_
              rintro x V51 ⟨rfl, hT⟩
              have HP := Lib.hid (HP.out.touch hT)
              have HT := Lib.hid (HT.out.same (Touch.anyB (F := AtB gp) hT))
              clear hT HI
              obtain ⟨y0, y1, y2, y3, yl⟩ := (HR.out.1.go HT.out hgp hsq).b3.cells
              rw [HN.out] at y1
              rw [HM.out] at y2
              rw [HK.out] at y3
              have HF := Lib.hid (t_fail HP.out 9)
              go_wp2_with fail
              refine HF.out.mono ?_
              rintro x V6 ⟨rfl, hp, hT⟩
              have hbad : (failS 9 τ).2 ≠ 0 := failS_bad (by decide) _
              have hmd : rdoR ts f1 a b c (failS 9 τ) = R0 := by have := HR.out.2.2.md; rw [rdoR_many HMD.out (.inr (.inl ⟨hm, by rw [HM.out]; exact h8⟩))] at this; exact this
              have HA := Lib.hid (And.intro (HR.out.1.go (HT.out.same hT) hgp hsq) (And.intro hp (DQ.mk hmd (HR.out.2.2.fu.stop he hbad) HR.out.2.2.la HR.out.2.2.lb ⟨HR.out.2.2.lc.1, fun e => absurd e hbad⟩)))
              have HME := Lib.hid (meas2_lt HR.out.2.1 hp he (.inr ⟨hbad, Nat.le_refl _⟩))
              clear hp hT hbad hmd
              go_wp2
              go_roundw
              case rel => exact ⟨_, _, _, _, _, _, _, _, _, _, HA.out⟩
              case measure => exact HME.out
            · have hge : decide ((20 : Int) ≤ (M : Int)) = false := by simp; omega
              have HI := Lib.hid (t_is HP.out [97, 99, 116] he)
              rw [show isS ts [97, 99, 116] τ = true from hm] at HI
              go_wp2_with fail
              refine HI.out.mono ?_
              rintro x V51 ⟨rfl, hT⟩
              have HP := Lib.hid (HP.out.touch hT)
              have HT := Lib.hid (HT.out.same (Touch.anyB (F := AtB gp) hT))
              clear hT HI
              obtain ⟨y0, y1, y2, y3, yl⟩ := (HR.out.1.go HT.out hgp hsq).b3.cells
              rw [HN.out] at y1
              rw [HM.out] at y2
              rw [HK.out] at y3
              have hg : isS ts goalB τ = false := isS_other hm (by decide)
              have HI := Lib.hid (t_is HP.out [103, 111, 97, 108] he)
              rw [show isS ts [103, 111, 97, 108] τ = false from hg] at HI
              go_wp2_with fail
              refine HI.out.mono ?_
              rintro x V52 ⟨rfl, hT⟩
              have HP := Lib.hid (HP.out.touch hT)
              have HT := Lib.hid (HT.out.same (Touch.anyB (F := AtB gp) hT))
              clear hT HI
              clear y0 y1 y2 y3 yl hge
              have HC := Lib.hid (t_no HP.out [118, 97, 114] hn)
              go_wp2_with fail
              refine HC.out.mono ?_
              rintro x V6 ⟨rfl, hp, hT⟩
              have HP := Lib.hid hp
              have HT := Lib.hid (HT.out.same (Touch.anyB (F := AtB gp) hT))
              clear hp hT HC
              have HC := Lib.hid (t_take HP.out [97, 99, 116])
              rw [show isS ts [97, 99, 116] τ = true from hm] at HC
              go_wp2_with fail
              refine HC.out.mono ?_
              rintro x V7 ⟨rfl, hp, hT⟩
              have HT := Lib.hid (HT.out.same hT)
              obtain ⟨tn, htn⟩ : ∃ z, acS ts actB τ = z := ⟨_, rfl⟩
              have ht1 : tn.1 = τ.1 + 1 := by rw [← htn, acS_yes hm]
              have hp : RT V7 gp g n cp ts L tn := by rw [← htn]; exact hp
              have HP := Lib.hid hp
              have hmd : rdoR ts f1 a (b ++ [racV ts tn]) c (racS ts tn) = R0 := by have := HR.out.2.2.md; rw [rdoR_act HMD.out hm (by rw [HM.out]; omega), htn] at this; exact this
              obtain ⟨cv, hcv⟩ : ∃ z, racV ts tn = z := ⟨_, rfl⟩
              obtain ⟨cs, hcs⟩ : ∃ z, racS ts tn = z := ⟨_, rfl⟩
              have hge : tn.1 ≤ cs.1 := by rw [← hcs]; exact racS_ge ts tn
              have HCD := Lib.hid (fun (W : World) (q : RT W gp g n cp ts L tn) => ract_any HNK.out q)
              rw [hcv, hcs] at HCD hmd
              obtain ⟨cnm, hcnm⟩ : ∃ z, bs cv.nm = z := ⟨_, rfl⟩
              have HCV := Lib.hid hcnm
              have hge2 : τ.1 + 1 ≤ cs.1 := by omega
              have HDQ := Lib.hid (show DQ ts R0 n f1 a (b ++ [cv]) c cs from ⟨hmd, HR.out.2.2.fu.next he (by have := HR.out.2.1.le; have := HR.out.2.1.ln; omega) hge2, HR.out.2.2.la, by rw [List.length_append, HM.out]; simp; omega, HR.out.2.2.lc.1, fun _ => HR.out.2.2.lc.2 he⟩)
              have HGE := Lib.hid hge2
              have HE0 := Lib.hid he
              have HD := Lib.hid (HR.out.1.go HT.out hgp hsq)
              have hs7 := HT.out.size
              obtain ⟨i0, hi0, hz0, hz1', hz2'⟩ := info_act'
              unfold maxLen at hd2
              obtain ⟨q0, q1, q2, q3', ql⟩ := HD.out.b3.cells
              rw [HM.out] at q2
              obtain ⟨g0, g1, g2, g3⟩ := HD.out.b3.free
              clear hp hT hcv hcs hcnm hmd htn ht1 hge hge2 HC c1 c2 hee hi hm hn he
              go_wp2_with fail
              go_region_law? (first
                | (go_simp; go_at_call 37
                   refine (HCD.out _ (HP.out.touch (Touch.refl _ _).drew)).mono ?_
                   rintro r w3 ⟨nv, mv, rfl, hn, hm, hp, hT0⟩
                   obtain ⟨B1, k1, rfl, -, -⟩ := row_any hn
                   obtain ⟨B2, k2, rfl, -, -⟩ := row_any hm
                   try rw [HCV.out]
                   have hT := (Touch.refl (AtB gp) V7).drew.same hT0
                   have HD3 := Lib.hid (HD.out.widen hT hgp hsq)
                   have hav : AcAt w3 (fun k => Q k ∨ (V7.heap.size ≤ k ∧ k < w3.heap.size)) cv [.string cnm, .int .i64 (cv.cost : Int), .slice B1 cv.need.length k1, .slice B2 cv.make.length k2] := ⟨_, _, by rw [HCV.out], (slat_of hn).via (fun k h1 h2 => .inr ⟨h1, h2⟩), (slat_of hm).via (fun k h1 h2 => .inr ⟨h1, h2⟩)⟩
                   obtain ⟨j0, j1, j2, j3, jl⟩ := HD3.out.b3.cells
                   rw [HM.out] at j2
                   obtain ⟨l0, l1, l2, l3⟩ := HD3.out.b3.free
                   have HX3 := Lib.hid (And.intro hp (And.intro hT hav))
                   have HRA := Lib.hid HD3.out.ra
                   rw [HM.out] at HRA
                   clear hp hT0 hT hn hm hav)
                | (refine step_append_lies _ rfl (.tmp 84) (.tmp 87) 68 rfl w.heap.size 95 i0 (.agg #[.string ⟨#[]⟩, .int .i64 0, .slice none 0 0, .slice none 0 0]) 4 72 Tryz.underlying68 hi0 hz0 hz1' hz2' rfl (by decide) (.slice A2 M kp2) M xs (by simp [Act.eval]) (by exact (HRA.out.alloc _)) ⟨w3.heap.size, 0, none⟩ 1 1 [.string cnm, .int .i64 (cv.cost : Int), .slice B1 cv.need.length k1, .slice B2 cv.make.length k2] (by simp [Act.eval]) rfl (by exact World.news_of_block (cs := #[.string cnm, .int .i64 (cv.cost : Int), .slice B1 cv.need.length k1, .slice B2 cv.make.length k2]) (alloc_blk w3 _ 95 rfl)) (by intro u hu; simp at hu; rcases hu with rfl | rfl | rfl | rfl <;> rfl) (by decide) (by unfold maxLen; omega) (by omega) (by have := HX3.out.2.1.size; simp only [World.size_alloc]; omega) (w3.heap.size + 1) (by simp) ?_
                   intro gd cap2 wx hown hgrow hat hlt
                   have TR : Touch (fun k9 => (Value.slice A2 M kp2).ownBlock = some k9) w3 wx := ((Touch.refl _ w3).alloc _).grown hgrow (fun _ e => .inl e)
                   have hbx := HD3.out.b3.goR TR (row_ne HRA.out HD3.out.b3 (by decide))
                   obtain ⟨k0, k1', k2', k3, kl⟩ := hbx.cells
                   rw [HM.out] at k2'
                   obtain ⟨m0, m1, m2, m3⟩ := hbx.free
                   have hr8 := (HX3.out.1.row TR (fun e => by have := row_base HRA.out _ e; omega) (fun e => by have := row_base HRA.out _ e; omega)).touchX ((Touch.refl (fun b => b = q3) wx).setCell (p := ⟨q3, 2, none⟩) (.inl rfl) (.slice (some ⟨gd, 0, none⟩) (M + 1) cap2)) (by omega) (by omega)
                   have hA : DM w (wx.setCell ⟨q3, 2, none⟩ (.slice (some ⟨gd, 0, none⟩) (M + 1) cap2)) gp q3 (fun k => Q k ∨ (V7.heap.size ≤ k ∧ k < w3.heap.size)) n1 a (b ++ [cv]) c (.slice A1 a.length kp1) (.slice (some ⟨gd, 0, none⟩) (M + 1) cap2) (.slice A3 c.length kp3) (xs ++ [.string cnm, .int .i64 (cv.cost : Int), .slice B1 cv.need.length k1, .slice B2 cv.make.length k2]) := by
                     have hown := hown
                     have TR := TR
                     have hat := hat
                     rw [← HM.out] at hown TR hat ⊢
                     exact HD3.out.addA hsq HX3.out.2.2 TR hown hat
                   have HA := Lib.hid (And.intro hA (And.intro hr8 HDQ.out))
                   have HME := Lib.hid (meas2_lt HR.out.2.1 hr8 HE0.out (.inl HGE.out))
                   clear hown hgrow hat TR hbx hA hr8))
              all_goals
                go_wp2
                go_roundw
                case rel => exact ⟨_, _, _, _, _, _, _, _, _, _, HA.out⟩
                case measure => exact HME.out
          | false =>
            have HI := Lib.hid (t_is HP.out [97, 99, 116] he)
            rw [show isS ts [97, 99, 116] τ = false from hm] at HI
            go_wp2_with fail
            refine HI.out.mono ?_
            rintro x V51 ⟨rfl, hT⟩
            have HP := Lib.hid (HP.out.touch hT)
            have HT := Lib.hid (HT.out.same (Touch.anyB (F := AtB gp) hT))
            clear hT HI
            cases hg : isS ts goalB τ with
            | true =>
              by_cases h8 : 8 ≤ K
              · have hge : decide ((8 : Int) ≤ (K : Int)) = true := by simp; omega
                have HI := Lib.hid (t_is HP.out [103, 111, 97, 108] he)
                rw [show isS ts [103, 111, 97, 108] τ = true from hg] at HI
                go_wp2_with fail
                refine HI.out.mono ?_
                rintro x V52 ⟨rfl, hT⟩
                have HP := Lib.hid (HP.out.touch hT)
                have HT := Lib.hid (HT.out.same (Touch.anyB (F := AtB gp) hT))
                clear hT HI
                obtain ⟨y0, y1, y2, y3, yl⟩ := (HR.out.1.go HT.out hgp hsq).b3.cells
                rw [HN.out] at y1
                rw [HM.out] at y2
                rw [HK.out] at y3
                have HF := Lib.hid (t_fail HP.out 9)
                go_wp2_with fail
                refine HF.out.mono ?_
                rintro x V6 ⟨rfl, hp, hT⟩
                have hbad : (failS 9 τ).2 ≠ 0 := failS_bad (by decide) _
                have hmd : rdoR ts f1 a b c (failS 9 τ) = R0 := by have := HR.out.2.2.md; rw [rdoR_many HMD.out (.inr (.inr ⟨hg, by rw [HK.out]; exact h8⟩))] at this; exact this
                have HA := Lib.hid (And.intro (HR.out.1.go (HT.out.same hT) hgp hsq) (And.intro hp (DQ.mk hmd (HR.out.2.2.fu.stop he hbad) HR.out.2.2.la HR.out.2.2.lb ⟨HR.out.2.2.lc.1, fun e => absurd e hbad⟩)))
                have HME := Lib.hid (meas2_lt HR.out.2.1 hp he (.inr ⟨hbad, Nat.le_refl _⟩))
                clear hp hT hbad hmd
                go_wp2
                go_roundw
                case rel => exact ⟨_, _, _, _, _, _, _, _, _, _, HA.out⟩
                case measure => exact HME.out
              · have hge : decide ((8 : Int) ≤ (K : Int)) = false := by simp; omega
                have HI := Lib.hid (t_is HP.out [103, 111, 97, 108] he)
                rw [show isS ts [103, 111, 97, 108] τ = true from hg] at HI
                go_wp2_with fail
                refine HI.out.mono ?_
                rintro x V52 ⟨rfl, hT⟩
                have HP := Lib.hid (HP.out.touch hT)
                have HT := Lib.hid (HT.out.same (Touch.anyB (F := AtB gp) hT))
                clear hT HI
                obtain ⟨y0, y1, y2, y3, yl⟩ := (HR.out.1.go HT.out hgp hsq).b3.cells
                rw [HN.out] at y1
                rw [HM.out] at y2
                rw [HK.out] at y3
                have hHG : τ.1 ≤ (rcnS ts (exS ts goalB τ)).1 ∧ (τ.1 + 1 ≤ (rcnS ts (exS ts goalB τ)).1 ∧ c.length < 8 ∨ (rcnS ts (exS ts goalB τ)).2 ≠ 0) := ⟨Nat.le_trans (exS_ge ts goalB τ) (rcnS_ge ts _), (.inl ⟨by have := exS_yes' hg; have := rcnS_ge ts (exS ts goalB τ); omega, by rw [HK.out]; omega⟩)⟩
                have hmd : rdoR ts f1 a b (c ++ [rcnV ts (exS ts goalB τ)]) (rcnS ts (exS ts goalB τ)) = R0 := by have := HR.out.2.2.md; rw [rdoR_goal HMD.out hn hm (fun _ => by rw [HK.out]; omega)] at this; exact this
                have HC := Lib.hid (t_no HP.out [118, 97, 114] hn)
                go_wp2_with fail
                refine HC.out.mono ?_
                rintro x V6 ⟨rfl, hp, hT⟩
                have HP := Lib.hid hp
                have HT := Lib.hid (HT.out.same (Touch.anyB (F := AtB gp) hT))
                clear hp hT HC
                have HC := Lib.hid (t_no HP.out [97, 99, 116] hm)
                go_wp2_with fail
                refine HC.out.mono ?_
                rintro x V61 ⟨rfl, hp, hT⟩
                have HP := Lib.hid hp
                have HT := Lib.hid (HT.out.same (Touch.anyB (F := AtB gp) hT))
                clear hp hT HC
                have HC := Lib.hid (t_want HP.out [103, 111, 97, 108])
                go_wp2_with fail
                refine HC.out.mono ?_
                rintro x V7 ⟨rfl, hp, hT⟩
                have HT := Lib.hid (HT.out.same hT)
                obtain ⟨tn, htn⟩ : ∃ z, exS ts goalB τ = z := ⟨_, rfl⟩
                have hp : RT V7 gp g n cp ts L tn := by rw [← htn]; exact hp
                have HP := Lib.hid hp
                rw [htn] at hHG hmd
                obtain ⟨cv, hcv⟩ : ∃ z, rcnV ts tn = z := ⟨_, rfl⟩
                obtain ⟨cs, hcs⟩ : ∃ z, rcnS ts tn = z := ⟨_, rfl⟩
                have HCD := Lib.hid (fun (W : World) (q : RT W gp g n cp ts L tn) => rcond_any HNK.out q q.rs.tl.lt)
                rw [hcv, hcs] at HCD hmd
                rw [hcs] at hHG
                obtain ⟨cnm, hcnm⟩ : ∃ z, bs cv.nm = z := ⟨_, rfl⟩
                rw [hcnm] at HCD
                have HCV := Lib.hid hcnm
                have hc8 := HR.out.2.2.lc.2 he
                have HDQ := Lib.hid (show DQ ts R0 n f1 a b (c ++ [cv]) cs from ⟨hmd, by rcases hHG.2 with h | h; exact HR.out.2.2.fu.next he (by have := HR.out.2.1.le; have := HR.out.2.1.ln; omega) h.1; exact HR.out.2.2.fu.stop he h, HR.out.2.2.la, HR.out.2.2.lb, by simp; omega, fun e => by rcases hHG.2 with h | h; simp; omega; exact absurd e h⟩)
                have HGE := Lib.hid hHG
                have HE0 := Lib.hid he
                have HD := Lib.hid (HR.out.1.go HT.out hgp hsq)
                have hs7 := HT.out.size
                obtain ⟨i0, hi0, hz0, hz1', hz2'⟩ := info_cond'
                unfold maxLen at he2
                obtain ⟨q0, q1, q2, q3', ql⟩ := HD.out.b3.cells
                rw [HK.out] at q3'
                obtain ⟨g0, g1, g2, g3⟩ := HD.out.b3.free
                clear hp hT hcv hcs hcnm hmd htn hHG hc8 HC c1 c2 hee hi hm hn he
                go_wp2_with fail
                go_region_law? (first
                  | (go_simp; go_at_call 38
                     refine (HCD.out _ (HP.out.touch (Touch.refl _ _).drew)).mono ?_
                     rintro r w3 ⟨rfl, hp, hT0⟩
                     have hT := (Touch.refl (AtB gp) V7).drew.same hT0
                     have HD3 := Lib.hid (HD.out.go hT hgp hsq)
                     obtain ⟨j0, j1, j2, j3, jl⟩ := HD3.out.b3.cells
                     rw [HK.out] at j3
                     obtain ⟨l0, l1, l2, l3⟩ := HD3.out.b3.free
                     have HX3 := Lib.hid (And.intro hp hT)
                     have HRG := Lib.hid HD3.out.rg
                     rw [HK.out] at HRG
                     clear hp hT0 hT)
                  | (refine step_append_lies _ rfl (.tmp 23) (.tmp 26) 69 rfl w.heap.size 98 i0 (.agg #[.string ⟨#[]⟩, .int .i64 0, .int .i64 0]) 3 32 Tryz.underlying69 hi0 hz0 hz1' hz2' rfl (by decide) (.slice A3 K kp3) K (cnC c) (by simp [Act.eval]) (by exact (HRG.out.alloc _)) ⟨w3.heap.size, 0, none⟩ 1 1 [.string cnm, .int .i64 (cv.op : Int), .int .i64 cv.n] (by simp [Act.eval]) rfl (by exact World.news_of_block (cs := #[.string cnm, .int .i64 (cv.op : Int), .int .i64 cv.n]) (alloc_blk w3 _ 98 rfl)) (by intro u hu; simp at hu; rcases hu with rfl | rfl | rfl <;> rfl) (by decide) (by unfold maxLen; omega) (by omega) (by have := HX3.out.2.size; simp only [World.size_alloc]; omega) (w3.heap.size + 1) (by simp) ?_
                     intro gd cap2 wx hown hgrow hat hlt
                     have TR : Touch (fun k9 => (Value.slice A3 K kp3).ownBlock = some k9) w3 wx := ((Touch.refl _ w3).alloc _).grown hgrow (fun _ e => .inl e)
                     have hbx := HD3.out.b3.goR TR (row_ne HRG.out HD3.out.b3 (by decide))
                     obtain ⟨k0, k1', k2', k3, kl⟩ := hbx.cells
                     rw [HK.out] at k3
                     obtain ⟨m0, m1, m2, m3⟩ := hbx.free
                     have hr8 := (HX3.out.1.row TR (fun e => by have := row_base HRG.out _ e; omega) (fun e => by have := row_base HRG.out _ e; omega)).touchX ((Touch.refl (fun b => b = q3) wx).setCell (p := ⟨q3, 3, none⟩) (.inl rfl) (.slice (some ⟨gd, 0, none⟩) (K + 1) cap2)) (by omega) (by omega)
                     have hA : DM w (wx.setCell ⟨q3, 3, none⟩ (.slice (some ⟨gd, 0, none⟩) (K + 1) cap2)) gp q3 Q n1 a b (c ++ [cv]) (.slice A1 a.length kp1) (.slice A2 b.length kp2) (.slice (some ⟨gd, 0, none⟩) (K + 1) cap2) xs := by
                       have hown := hown
                       have TR := TR
                       have hat := hat
                       rw [← HCV.out] at hown
                       rw [← HK.out] at hown TR hat ⊢
                       exact HD3.out.addG hsq TR hown hat
                     have HA := Lib.hid (And.intro hA (And.intro hr8 HDQ.out))
                     have HME := Lib.hid (meas2_lt HR.out.2.1 hr8 HE0.out (by rcases HGE.out.2 with h | h; exact .inl h.1; exact .inr ⟨h, HGE.out.1⟩))
                     clear hown hgrow hat TR hbx hA hr8))
                all_goals
                  go_wp2
                  go_roundw
                  case rel => exact ⟨_, _, _, _, _, _, _, _, _, _, HA.out⟩
                  case measure => exact HME.out
            | false =>
              have HI := Lib.hid (t_is HP.out [103, 111, 97, 108] he)
              rw [show isS ts [103, 111, 97, 108] τ = false from hg] at HI
              go_wp2_with fail
              refine HI.out.mono ?_
              rintro x V52 ⟨rfl, hT⟩
              have HP := Lib.hid (HP.out.touch hT)
              have HT := Lib.hid (HT.out.same (Touch.anyB (F := AtB gp) hT))
              clear hT HI
              have hHG : τ.1 ≤ (rcnS ts (exS ts goalB τ)).1 ∧ (τ.1 + 1 ≤ (rcnS ts (exS ts goalB τ)).1 ∧ c.length < 8 ∨ (rcnS ts (exS ts goalB τ)).2 ≠ 0) := ⟨Nat.le_trans (exS_ge ts goalB τ) (rcnS_ge ts _), (.inr (rcnS_bad (exS_no hg)))⟩
              have hmd : rdoR ts f1 a b (c ++ [rcnV ts (exS ts goalB τ)]) (rcnS ts (exS ts goalB τ)) = R0 := by have := HR.out.2.2.md; rw [rdoR_goal HMD.out hn hm (fun e => by rw [hg] at e; cases e)] at this; exact this
              have HC := Lib.hid (t_no HP.out [118, 97, 114] hn)
              go_wp2_with fail
              refine HC.out.mono ?_
              rintro x V6 ⟨rfl, hp, hT⟩
              have HP := Lib.hid hp
              have HT := Lib.hid (HT.out.same (Touch.anyB (F := AtB gp) hT))
              clear hp hT HC
              have HC := Lib.hid (t_no HP.out [97, 99, 116] hm)
              go_wp2_with fail
              refine HC.out.mono ?_
              rintro x V61 ⟨rfl, hp, hT⟩
              have HP := Lib.hid hp
              have HT := Lib.hid (HT.out.same (Touch.anyB (F := AtB gp) hT))
              clear hp hT HC
              have HC := Lib.hid (t_want HP.out [103, 111, 97, 108])
              go_wp2_with fail
              refine HC.out.mono ?_
              rintro x V7 ⟨rfl, hp, hT⟩
              have HT := Lib.hid (HT.out.same hT)
              obtain ⟨tn, htn⟩ : ∃ z, exS ts goalB τ = z := ⟨_, rfl⟩
              have hp : RT V7 gp g n cp ts L tn := by rw [← htn]; exact hp
              have HP := Lib.hid hp
              rw [htn] at hHG hmd
              obtain ⟨cv, hcv⟩ : ∃ z, rcnV ts tn = z := ⟨_, rfl⟩
              obtain ⟨cs, hcs⟩ : ∃ z, rcnS ts tn = z := ⟨_, rfl⟩
              have HCD := Lib.hid (fun (W : World) (q : RT W gp g n cp ts L tn) => rcond_any HNK.out q q.rs.tl.lt)
              rw [hcv, hcs] at HCD hmd
              rw [hcs] at hHG
              obtain ⟨cnm, hcnm⟩ : ∃ z, bs cv.nm = z := ⟨_, rfl⟩
              rw [hcnm] at HCD
              have HCV := Lib.hid hcnm
              have hc8 := HR.out.2.2.lc.2 he
              have HDQ := Lib.hid (show DQ ts R0 n f1 a b (c ++ [cv]) cs from ⟨hmd, by rcases hHG.2 with h | h; exact HR.out.2.2.fu.next he (by have := HR.out.2.1.le; have := HR.out.2.1.ln; omega) h.1; exact HR.out.2.2.fu.stop he h, HR.out.2.2.la, HR.out.2.2.lb, by simp; omega, fun e => by rcases hHG.2 with h | h; simp; omega; exact absurd e h⟩)
              have HGE := Lib.hid hHG
              have HE0 := Lib.hid he
              have HD := Lib.hid (HR.out.1.go HT.out hgp hsq)
              have hs7 := HT.out.size
              obtain ⟨i0, hi0, hz0, hz1', hz2'⟩ := info_cond'
              unfold maxLen at he2
              obtain ⟨q0, q1, q2, q3', ql⟩ := HD.out.b3.cells
              rw [HK.out] at q3'
              obtain ⟨g0, g1, g2, g3⟩ := HD.out.b3.free
              clear hp hT hcv hcs hcnm hmd htn hHG hc8 HC c1 c2 hee hi hm hn he
              go_wp2_with fail
              go_region_law? (first
                | (go_simp; go_at_call 38
                   refine (HCD.out _ (HP.out.touch (Touch.refl _ _).drew)).mono ?_
                   rintro r w3 ⟨rfl, hp, hT0⟩
                   have hT := (Touch.refl (AtB gp) V7).drew.same hT0
                   have HD3 := Lib.hid (HD.out.go hT hgp hsq)
                   obtain ⟨j0, j1, j2, j3, jl⟩ := HD3.out.b3.cells
                   rw [HK.out] at j3
                   obtain ⟨l0, l1, l2, l3⟩ := HD3.out.b3.free
                   have HX3 := Lib.hid (And.intro hp hT)
                   have HRG := Lib.hid HD3.out.rg
                   rw [HK.out] at HRG
                   clear hp hT0 hT)
                | (refine step_append_lies _ rfl (.tmp 23) (.tmp 26) 69 rfl w.heap.size 98 i0 (.agg #[.string ⟨#[]⟩, .int .i64 0, .int .i64 0]) 3 32 Tryz.underlying69 hi0 hz0 hz1' hz2' rfl (by decide) (.slice A3 K kp3) K (cnC c) (by simp [Act.eval]) (by exact (HRG.out.alloc _)) ⟨w3.heap.size, 0, none⟩ 1 1 [.string cnm, .int .i64 (cv.op : Int), .int .i64 cv.n] (by simp [Act.eval]) rfl (by exact World.news_of_block (cs := #[.string cnm, .int .i64 (cv.op : Int), .int .i64 cv.n]) (alloc_blk w3 _ 98 rfl)) (by intro u hu; simp at hu; rcases hu with rfl | rfl | rfl <;> rfl) (by decide) (by unfold maxLen; omega) (by omega) (by have := HX3.out.2.size; simp only [World.size_alloc]; omega) (w3.heap.size + 1) (by simp) ?_
                   intro gd cap2 wx hown hgrow hat hlt
                   have TR : Touch (fun k9 => (Value.slice A3 K kp3).ownBlock = some k9) w3 wx := ((Touch.refl _ w3).alloc _).grown hgrow (fun _ e => .inl e)
                   have hbx := HD3.out.b3.goR TR (row_ne HRG.out HD3.out.b3 (by decide))
                   obtain ⟨k0, k1', k2', k3, kl⟩ := hbx.cells
                   rw [HK.out] at k3
                   obtain ⟨m0, m1, m2, m3⟩ := hbx.free
                   have hr8 := (HX3.out.1.row TR (fun e => by have := row_base HRG.out _ e; omega) (fun e => by have := row_base HRG.out _ e; omega)).touchX ((Touch.refl (fun b => b = q3) wx).setCell (p := ⟨q3, 3, none⟩) (.inl rfl) (.slice (some ⟨gd, 0, none⟩) (K + 1) cap2)) (by omega) (by omega)
                   have hA : DM w (wx.setCell ⟨q3, 3, none⟩ (.slice (some ⟨gd, 0, none⟩) (K + 1) cap2)) gp q3 Q n1 a b (c ++ [cv]) (.slice A1 a.length kp1) (.slice A2 b.length kp2) (.slice (some ⟨gd, 0, none⟩) (K + 1) cap2) xs := by
                     have hown := hown
                     have TR := TR
                     have hat := hat
                     rw [← HCV.out] at hown
                     rw [← HK.out] at hown TR hat ⊢
                     exact HD3.out.addG hsq TR hown hat
                   have HA := Lib.hid (And.intro hA (And.intro hr8 HDQ.out))
                   have HME := Lib.hid (meas2_lt HR.out.2.1 hr8 HE0.out (by rcases HGE.out.2 with h | h; exact .inl h.1; exact .inr ⟨h, HGE.out.1⟩))
                   clear hown hgrow hat TR hbx hA hr8))
              all_goals
                go_wp2
                go_roundw
                case rel => exact ⟨_, _, _, _, _, _, _, _, _, _, HA.out⟩
                case measure => exact HME.out
    · have hee : ((τ.2 : Int) == 0) = false := by simp; omega
      have HST := Lib.hid (show R0 = ((a, b, c), τ) from HR.out.2.2.md.symm.trans (rdoR_stop (fun h => he h.1)))
      have HX := Lib.hid (t_want HR.out.2.1 [125])
      go_wp2_with fail
      refine HX.out.mono ?_
      rintro x V5 ⟨rfl, hp, hT⟩
      have tt : Touch (AtB gp) wr V5 := hT
      have hd := HR.out.1.go tt hgp hsq
      obtain ⟨z0, z1, z2, z3, zl⟩ := hd.b2.cells
      obtain ⟨e0, e1, e2, e3⟩ := hd.b2.free
      obtain ⟨p0, p1, p2, p3, pl⟩ := hd.b3.cells
      have hfin := rdom_out (nm := v1) (by rw [HN1.out]; exact hd) hp hgp hgl
      rw [HN1.out] at hfin
      have HO := Lib.hid hfin
      clear hT hp tt hd hfin
      go_wp2
      refine bodyPost_ret (v := .agg #[.string n1, .slice A1 a.length kp1, .slice A2 b.length kp2, .slice A3 c.length kp3]) (by simp [results, Tryz.results21, go_sem, z0, z1, z2, z3]) rfl ?_
      rw [HST.out]
      exact ⟨_, rfl, HO.out _ _ _ _⟩
end Go.Proofs.YtbikpbmknneabaaGreat
