/-
  What the document's own expr does at a level that has signs. Conditions: what it calls does as the model says.
-/
import Derived.Test.YtnphaaahdlkmhaaGreatZs21
namespace Go.Proofs.YtnphaaahdlkmhaaGreat
open Go.ChangeShapes Go.WideShapes Go.ChangeAt Go.RowKit
set_option maxRecDepth 100000
set_option maxHeartbeats 4000000

theorem rbin_level {gp g n cp d lv lv1 j D D1 : Nat} {ts : List Tk} {u : Nat → Rs} (HS : RBinOk gp g n cp ts lv1 d D (binL ts u j)) (hlv : lv1 = lv + 1) (hj : lv + j = 4) (hD : D + 1 = D1) (hD1 : 41 ≤ D) (hD2 : D ≤ 9000)
    (hfw : ∀ k, k ≤ ts.length → (binL ts u j k).fwd ts.length k) : RBinOk gp g n cp ts lv d D1 (binL ts u (j + 1)) := by
  intro w k e h
  obtain ⟨R0, hR0⟩ : ∃ R0, binL ts u (j + 1) k = R0 := ⟨_, rfl⟩
  have hstart := fun (k1 e1 : Nat) (x : Ex) (ho : Out (binL ts u j k) k e x k1 e1) => bin_start (u := u) ho
  rw [hR0] at hstart ⊢
  clear hR0
  have h4j : 4 - j = lv := by omega
  rw [h4j] at hstart
  obtain ⟨sub, hsub⟩ : ∃ sub, binL ts u j = sub := ⟨_, rfl⟩
  rw [hsub] at HS hfw hstart
  clear hsub h4j
  have hlv5 : decide ((4 : Int) < (lv : Int)) = false := by simp; omega
  have hlv5' : decide (4 < lv) = false := by simp; omega
  have hw1 : IntKind.i64.wrap ((lv : Int) + 1) = (lv1 : Int) := by rw [show (lv : Int) + 1 = (lv1 : Int) from by omega]; exact IntWalk.i64_in _ (by omega)
  obtain ⟨ops, hops⟩ : ∃ ops, lvs[lv]? = some ops := ⟨lvs[lv]'(by simp [lvs]; omega), List.getElem?_eq_getElem _⟩
  obtain ⟨W0, hW0⟩ : ∃ W, w.alloc (.cells #[.int .i64 0, .int .i64 0, .string ⟨#[]⟩, .slice none 0 0] 44) = W := ⟨_, rfl⟩
  have hT0 : Touch NoB w W0 := by rw [← hW0]; exact (Touch.refl _ _).alloc _
  have hs0 : W0.heap.size = w.heap.size + 1 := by rw [← hW0]; simp only [World.size_alloc]
  have hb6 : XB W0 w.heap.size 0 0 ⟨#[]⟩ none 0 0 := by rw [← hW0]; exact XB.new w _ _ _ _ _ _ rfl
  have hgp := h.lt
  have hgl := h.tl.lt
  have hlen := h.len
  have hsm := h.small
  have HC := Lib.hid (HS W0 k e (h.touch hT0))
  have HB6 := Lib.hid hb6
  have HT0 := Lib.hid hT0
  have HST := Lib.hid hstart
  have HLV := Lib.hid (fun W => rlevel_any lv ops hops W)
  have HH := Lib.hid (And.intro HS (And.intro hfw (And.intro hops (And.intro hlen (And.intro hD1 (And.intro hD2 hD))))))
  have hl2 : lv ≤ 4 := by omega
  clear h hb6 hT0 HS hstart hfw hops hlen hD hD1 hD2 hlv hj
  go_enter Tryz.func35, Tryz.ntmps35
  go_wp2_with fail
  refine HC.out.mono ?_
  rintro r w1 ⟨hT1, x, k1, e1, a, b, s, A, m, c, rfl, hx, hp1, ho1, hxd⟩
  obtain ⟨W1, hW1⟩ : ∃ W, w1.alloc (.cells #[.int .i64 a, .int .i64 b, .string s, .slice A m c] 44) = W := ⟨_, rfl⟩
  have hTA : Touch NoB w1 W1 := by rw [← hW1]; exact (Touch.refl _ _).alloc _
  have hb7 : XB W1 w1.heap.size a b s A m c := by rw [← hW1]; exact XB.new _ _ _ _ _ _ _ rfl
  obtain ⟨q7, hq7⟩ : ∃ q7, w1.heap.size = q7 := ⟨_, rfl⟩
  have hs1 := hT1.size
  have hq : w.heap.size < q7 := by omega
  have hW1s : W1.heap.size = q7 + 1 := by rw [← hW1]; simp only [World.size_alloc]; omega
  have hT01 : Touch (AtB gp) W0 W1 := hT1.same (Touch.anyB hTA)
  have hx1 : ET W1 (fun b => w.heap.size < b ∧ b ≠ q7) x a b s A m c := (hx.via (R := fun b => w.heap.size < b ∧ b ≠ q7) (fun b h1 h2 => by
    rcases h1 with h1 | h1
    · exact h1.elim
    · exact ⟨by omega, by omega⟩)).touch0 hTA
  rw [hq7] at hb7
  have HK := Lib.hid (And.intro hT01 (And.intro hb7 (And.intro hx1 (And.intro (hp1.touch hTA) (And.intro ho1 hxd)))))
  have HLW := Lib.hid (HLV.out W1)
  clear hT1 hx hp1 ho1 hxd hTA hb7 hT01 hx1 hs1 HC
  go_wp2_with fail
  refine HLW.out.mono ?_
  rintro r w2 ⟨b1, b2, mm, rfl, hlr, hn1, hn2, hT2⟩
  have hstart := HST.out k1 e1 x HK.out.2.2.2.2.1
  have HR : Hid (RbRel gp g n cp ts lv D k e w.heap.size q7 b1 b2 mm ops sub R0 w x k1 e1 a b s A m c w2) := Lib.hid ⟨((Touch.anyB HT0.out).same HK.out.1).same (Touch.anyB hT2), HK.out.2.1.go (gp := gp) (Touch.anyB hT2) (by omega), (HB6.out.go HK.out.1 (by omega)).go (gp := gp) (Touch.anyB hT2) (by omega), HK.out.2.2.1.touch0 hT2, HK.out.2.2.2.1.touch hT2, hlr, fun he => ⟨hstart.1 he, by have := HK.out.2.2.2.2.2; omega⟩, fun he => ⟨(hstart.2 he).1, HK.out.2.2.2.2.2, _, by have := HK.out.2.2.2.1.le; rw [HK.out.2.2.2.1.len]; omega, (hstart.2 he).2⟩⟩
  have hbn : gp < b1 ∧ gp < b2 ∧ q7 < b1 ∧ q7 < b2 := by refine ⟨?_, ?_, ?_, ?_⟩ <;> omega
  have hmm := hlr.len
  have hm3 : mm ≤ 2 := by
    have : ∀ l ∈ lvs, l.length ≤ 2 := by decide
    have := this ops (List.mem_of_getElem? HH.out.2.2.1)
    omega
  have HMM := Lib.hid hmm
  clear hlr hT2 hstart HST HLV HLW HK hmm hn1 hn2 hW1
  go_wp2_with fail
  go_loopw [10] (fun _ wr => ∃ x kx ex a b s A m c, RbRel gp g n cp ts lv D k e w.heap.size q7 b1 b2 mm ops sub R0 w x kx ex a b s A m c wr) (fun _ wr => meas gp n wr)
  case atStart => exact ⟨_, _, _, _, _, _, _, _, _, HR.out⟩
  case round =>
    clear HR
    obtain ⟨x, kx, ex, a, b, s, A, m, c, hR⟩ := hrel
    have HR := Lib.hid hR
    have hme := rmeas_at hR.ps
    have HM := Lib.hid hme
    have c2 := hR.ps.cell2
    obtain ⟨wo, rfl⟩ : ∃ x, x = wr := ⟨_, rfl⟩
    clear hR hme
    by_cases he : ex = 0
    · subst he
      have hee : (((0 : Nat) : Int) == 0) = true := rfl
      go_wp2_with fail
      go_loopw [10, 11] (fun v10 v11 wr => HitRel ts kx mm ops wo v10 v11 wr) (fun _ v11 _ => mm - (intOf v11).toNat)
      case atStart => exact ⟨0, Nat.zero_le _, rfl, Touch.refl _ _, .inl ⟨rfl, fun j q hj => by omega⟩⟩
      case round =>
        obtain ⟨i, hi, rfl, hT, hh⟩ := hrel
        by_cases hlt : i < mm
        · obtain ⟨q, hqi⟩ : ∃ q, ops[i]? = some q := ⟨ops[i]'(by rw [HMM.out]; exact hlt), List.getElem?_eq_getElem _⟩
          have hcell : wr.cell? ⟨b1, i, none⟩ = some (.string (bs (wordB q))) := (hT.cell (p := ⟨b1, i, none⟩) HR.out.lr.l1 (fun x => x)).trans (HR.out.lr.s i q hqi)
          have hb1l : b1 < wr.heap.size := Nat.lt_of_lt_of_le HR.out.lr.l1 hT.size
          have HIS := Lib.hid (ris_any (s := wordB q) (HR.out.ps.touch hT))
          have HHH := Lib.hid (And.intro hT (And.intro hh hqi))
          obtain ⟨sw, hsw⟩ : ∃ sw, bs (wordB q) = sw := ⟨_, rfl⟩
          rw [hsw] at hcell HIS
          clear hT hh hqi hsw
          cases ha : acc (nxt ts kx 0) (wordB q)
          · rw [ha] at HIS
            have HA := Lib.hid ha
            clear ha
            go_wp2_with fail
            refine HIS.out.mono ?_
            rintro r w3 ⟨rfl, hT3⟩
            have HT3 := Lib.hid hT3
            clear hT3
            go_wp2
            go_roundw
            case rel =>
              refine ⟨i + 1, by omega, by go_num, HHH.out.1.same HT3.out, ?_⟩
              rcases HHH.out.2.1 with ⟨h10, hno⟩ | ⟨j, q', h10, hj, hja⟩
              · refine .inl ⟨h10, fun j q' hj hq' => ?_⟩
                by_cases ej : j = i
                · subst ej
                  have := HHH.out.2.2.symm.trans hq'
                  injection this with this
                  subst this
                  exact HA.out
                · exact hno j q' (by omega) hq'
              · exact .inr ⟨j, q', h10, hj, hja⟩
            case measure => simp [intOf]; omega
          · rw [ha] at HIS
            have HA := Lib.hid ha
            clear ha
            go_wp2_with fail
            refine HIS.out.mono ?_
            rintro r w3 ⟨rfl, hT3⟩
            have HT3 := Lib.hid hT3
            clear hT3
            go_wp2
            go_roundw
            case rel => exact ⟨i + 1, by omega, by go_num, HHH.out.1.same HT3.out, .inr ⟨i, q, rfl, HHH.out.2.2, HA.out⟩⟩
            case measure => simp [intOf]; omega
        · obtain rfl : i = mm := by omega
          have HT := Lib.hid hT
          rcases hh with ⟨rfl, hno⟩ | ⟨jj, kd, rfl, hjj, hja⟩
          · have HO : Hid (Out R0 k e x kx 0 ∧ x.depth ≤ D1) := Lib.hid (by
              obtain ⟨he0, hd, f, hf, hlp⟩ := HR.out.good rfl
              subst he0
              have hfn : firstK ts kx 0 ops = none := first_none (fun j q hj hq => hno j q (by rw [HMM.out] at hj; exact hj) hq)
              rw [← opk_first ts lv kx ops HH.out.2.2.1] at hfn
              exact ⟨bin_none hlp hfn, by have := HH.out.2.2.2.2.2.2; omega⟩)
            have hTo := HR.out.t.same (Touch.anyB hT)
            have HQ := Lib.hid (And.intro (HR.out.ps.touch hT) (And.intro hTo (HR.out.et.touch0 hT)))
            obtain ⟨p70, p71, p72, p73, p74⟩ := (HR.out.x7.go (gp := gp) (Touch.anyB hT) (by omega)).cells
            have hb6 := HR.out.x6.go (gp := gp) (Touch.anyB hT) (by omega)
            obtain ⟨z0, z1, z2, z3, z4⟩ := hb6.cells
            obtain ⟨f0, f1, f2, f3⟩ := hb6.free
            clear hT hTo hno hb6
            go_wp2
            have hTE := touch4 (F := AtB gp) HQ.out.2.1 (.inr (Nat.le_refl w.heap.size)) (.int .i64 a) (.int .i64 b) (.string s) (.slice A m c)
            have hTX := touch4 (F := fun b => b = w.heap.size) (Touch.refl _ wr) (.inl rfl) (.int .i64 a) (.int .i64 b) (.string s) (.slice A m c)
            exact bodyPost_ret (v := .agg #[.int .i64 a, .int .i64 b, .string s, .slice A m c]) (by simp [results, Tryz.results35, go_sem, z0, z1, z2, z3]) rfl ⟨hTE, x, kx, 0, _, _, _, _, _, _, rfl, (HQ.out.2.2.aside hTX (fun q => by omega)).via (fun b h1 _ => .inr (by omega)), HQ.out.1.touchX hTX hgp hgl, HO.out.1, HO.out.2⟩
          · have hl : firstK ts kx 0 ops = some kd := first_hit HH.out.2.2.1 hjj hja
            have hkl : kx < n := HR.out.ps.acc_lt hja
            obtain ⟨he0, hxd, f, hf, hlp⟩ := HR.out.good rfl
            subst he0
            rw [← opk_first ts lv kx ops HH.out.2.2.1] at hl
            have HBO := Lib.hid (fun (k2 e2 e3 : Nat) (y : Ex) (ho : Out (sub (kx + 1)) (kx + 1) 0 y k2 e2) (he3 : e3 = if e2 = 0 ∧ 40 < (Ex.two kd x y).depth then 4 else e2) => bin_op (k := k) HH.out.2.1 hf hlp hl ho he3)
            have HXD := Lib.hid (And.intro hxd hkl)
            have hjm : jj < i := by have := (List.getElem?_eq_some_iff.1 hjj).1; rw [HMM.out] at this; exact this
            have hj0 : decide ((jj : Int) < 0) = false := by simp
            obtain ⟨kx1, hkk⟩ : ∃ kx1, kx + 1 = kx1 := ⟨_, rfl⟩
            have hkx1 : IntKind.i64.wrap ((kx : Int) + 1) = (kx1 : Int) := by rw [show (kx : Int) + 1 = (kx1 : Int) from by omega]; exact IntWalk.i64_in _ (by omega)
            have hk1n : kx1 ≤ n := by omega
            rw [hkk] at HBO
            have hps := HR.out.ps.touch hT
            have c1 : wr.cell? ⟨gp, 1, none⟩ = some (.int .i64 (kx : Int)) := hps.cell1
            have q1 : wr.frozen? ⟨gp, 1, none⟩ = false := hps.free1
            obtain ⟨V, hV⟩ : ∃ V, wr.setCell ⟨gp, 1, none⟩ (.int .i64 (kx1 : Int)) = V := ⟨_, rfl⟩
            have hTV0 : Touch (AtB gp) wr V := by rw [← hV]; exact touch_set (gp := gp) (Touch.refl _ wr) 1 _
            have hp : RS V gp g n cp ts kx1 0 := by rw [← hV]; exact hps.setk kx1 hk1n
            have hToV : Touch (AtB gp) wo V := (Touch.anyB hT).same hTV0
            have HCB := Lib.hid (HH.out.1 V kx1 0 hp)
            have HTV := Lib.hid (And.intro hToV (And.intro hjj (And.intro (HR.out.x7.go hToV (by omega)) (And.intro (HR.out.x6.go hToV (by omega)) (And.intro (And.intro (HR.out.et.touch hToV (HR.out.ps.nox _)) (hp.nox (fun b => w.heap.size < b ∧ b ≠ q7))) (HR.out.lr.touch hToV (by unfold AtB; omega) (by unfold AtB; omega)))))))
            clear hT hl hf hlp hxd hkl hja hjj hps hTV0 hp hToV hkk
            go_wp2_with fail
            refine HCB.out.mono ?_
            rintro r w3 ⟨hT3, y, k2, e2, a2, b2', s2, A2, m2, c2', rfl, hy2, hp2, ho2, hyd⟩
            obtain ⟨W3, hW3⟩ : ∃ W, w3.alloc (.cells #[.int .i64 a2, .int .i64 b2', .string s2, .slice A2 m2 c2'] 44) = W := ⟨_, rfl⟩
            have tA : Touch NoB w3 W3 := by rw [← hW3]; exact (Touch.refl _ _).alloc _
            obtain ⟨q12, hq12⟩ : ∃ q12, w3.heap.size = q12 := ⟨_, rfl⟩
            have hxy : XB W3 q12 a2 b2' s2 A2 m2 c2' := by rw [← hW3]; exact XB.new _ _ _ _ _ _ _ hq12
            have hVs : V.heap.size ≤ q12 := by have := hT3.size; omega
            have hq7V : q7 < V.heap.size := HTV.out.2.2.1.cells.2.2.2.2
            have hT3A : Touch (AtB gp) V W3 := hT3.same (Touch.anyB tA)
            have hx73 := HTV.out.2.2.1.go hT3A (by omega)
            have hlr3 := HTV.out.2.2.2.2.2.touch hT3A (by unfold AtB; omega) (by unfold AtB; omega)
            have hy3 : ET W3 (fun b => w.heap.size < b ∧ b ≠ q7) y a2 b2' s2 A2 m2 c2' := (hy2.via (R := fun b => w.heap.size < b ∧ b ≠ q7) (fun b h1 _ => by
              rcases h1 with h1 | h1
              · exact h1.elim
              · exact ⟨by omega, by omega⟩)).touch0 tA
            have hx3 := HTV.out.2.2.2.2.1.1.touch hT3A HTV.out.2.2.2.2.1.2
            obtain ⟨t70, t71, t72, t73, t74⟩ := hx73.cells
            obtain ⟨u70, u71, u72, u73, u74⟩ := hxy.cells
            have r70 : W3.drew.cell? ⟨q7, 0, none⟩ = some (.int .i64 a) := t70
            have r71 : W3.drew.cell? ⟨q7, 1, none⟩ = some (.int .i64 b) := t71
            have r72 : W3.drew.cell? ⟨q7, 2, none⟩ = some (.string s) := t72
            have r73 : W3.drew.cell? ⟨q7, 3, none⟩ = some (.slice A m c) := t73
            have y70 : W3.drew.cell? ⟨q12, 0, none⟩ = some (.int .i64 a2) := u70
            have y71 : W3.drew.cell? ⟨q12, 1, none⟩ = some (.int .i64 b2') := u71
            have y72 : W3.drew.cell? ⟨q12, 2, none⟩ = some (.string s2) := u72
            have y73 : W3.drew.cell? ⟨q12, 3, none⟩ = some (.slice A2 m2 c2') := u73
            have rk : W3.drew.cell? ⟨b2, jj, none⟩ = some (.int .i64 kd) := hlr3.k jj kd HTV.out.2.1
            have hb2l : b2 < W3.heap.size := hlr3.l2
            obtain ⟨W4, hW4⟩ : ∃ W, W3.drew.alloc (.cells #[.int .i64 a, .int .i64 b, .string s, .slice A m c, .int .i64 a2, .int .i64 b2', .string s2, .slice A2 m2 c2'] 44) = W := ⟨_, rfl⟩
            have tB : Touch NoB W3 W4 := by rw [← hW4]; exact (Touch.refl NoB W3).drew.alloc _
            obtain ⟨q13, hq13⟩ : ∃ q13, W3.heap.size = q13 := ⟨_, rfl⟩
            have hq13' : W3.drew.heap.size = q13 := hq13
            have het : ET W4 (fun b => w.heap.size < b ∧ b ≠ q7) (.two kd x y) kd 0 ⟨#[]⟩ (some ⟨q13, 0, none⟩) 2 2 := by
              rw [← hW4]
              exact (hx3.touch0 (Touch.refl NoB W3).drew).mk2 (hy3.touch0 (Touch.refl NoB W3).drew) kd hq13' ⟨by omega, by omega⟩
            have hdd : (Ex.two kd x y).depth ≤ D + 1 := by have := HXD.out.1; simp only [Ex.depth]; omega
            have hp3 := (hp2.touch tA).touch tB
            have rk4 : W4.cell? ⟨b2, jj, none⟩ = some (.int .i64 kd) := (hlr3.touch tB (fun x => x) (fun x => x)).k jj kd HTV.out.2.1
            have hb2l4 : b2 < W4.heap.size := Nat.lt_of_lt_of_le hb2l tB.size
            have HF := Lib.hid (rmade_any hp3 het (by have := HH.out.2.2.2.2.2.1; omega))
            have HX2 := Lib.hid (And.intro (show Touch (AtB gp) V W4 from hT3A.same (Touch.anyB tB)) (And.intro het (And.intro (hp3.nox (fun b => w.heap.size < b ∧ b ≠ q7)) (And.intro hdd (And.intro ho2 (And.intro hx73 (And.intro (Touch.anyB (F := AtB gp) tB) hlr3)))))))
            obtain ⟨e3, he3⟩ : ∃ e3, (if e2 = 0 ∧ 40 < (Ex.two kd x y).depth then 4 else e2) = e3 := ⟨_, rfl⟩
            rw [he3] at HF
            have HBO := Lib.hid (HBO.out k2 e2 e3 y ho2 he3.symm)
            clear hT3 hy2 hp2 ho2 hyd tA hxy hT3A hx73 hlr3 hy3 hx3 t70 t71 t72 t73 u70 u71 u72 u73 tB het hdd hp3 he3 HCB
            go_wp2_with fail
            go_region_law
              (go_simp
               go_at_call 62
               try rw [hW4]
               refine HF.out.mono ?_
               rintro r w5 ⟨rfl, hp5, hT5⟩
               have hx75 : XB w5 q7 a b s A m c := (HX2.out.2.2.2.2.2.1.go HX2.out.2.2.2.2.2.2.1 (by omega)).go hT5 (by omega)
               obtain ⟨v70, v71, v72, v73, v74⟩ := hx75.cells
               obtain ⟨g0, g1, g2, g3⟩ := hx75.free
               obtain ⟨W6, hW6⟩ : ∃ W, (((w5.setCell ⟨q7, 0, none⟩ (.int .i64 kd)).setCell ⟨q7, 1, none⟩ (.int .i64 0)).setCell ⟨q7, 2, none⟩ (.string ⟨#[]⟩)).setCell ⟨q7, 3, none⟩ (.slice (some ⟨q13, 0, none⟩) 2 2) = W := ⟨_, rfl⟩
               have hTX : Touch (fun b => b = q7) w5 W6 := by rw [← hW6]; exact touch4 (F := fun b => b = q7) (Touch.refl _ w5) (.inl rfl) _ _ _ _
               have hx76 : XB W6 q7 kd 0 ⟨#[]⟩ (some ⟨q13, 0, none⟩) 2 2 := by rw [← hW6]; exact set4 hx75 _ _ _ _
               have hTV5 : Touch (AtB gp) V w5 := HX2.out.1.same hT5
               have hx6 := HTV.out.2.2.2.1.go hTV5 (by omega)
               have hx66 : XB W6 w.heap.size 0 0 ⟨#[]⟩ none 0 0 := (hTX.block _ (blk_lt hx6) (by omega)).trans hx6
               have hTw6 : Touch (AtB gp) w W6 := (HR.out.t.same (HTV.out.1.same hTV5)).trans hTX (fun b hb => .inr (by omega))
               have het6 : ET W6 (fun b => w.heap.size < b ∧ b ≠ q7) (.two kd x y) kd 0 ⟨#[]⟩ (some ⟨q13, 0, none⟩) 2 2 := (HX2.out.2.1.touch hT5 HX2.out.2.2.1).aside hTX (fun h => h.2 rfl)
               have hlr6 : LvRow W6 b1 b2 i ops := ((HX2.out.2.2.2.2.2.2.2.touch HX2.out.2.2.2.2.2.2.1 (by unfold AtB; omega) (by unfold AtB; omega)).touch hT5 (by unfold AtB; omega) (by unfold AtB; omega)).touch hTX (by omega) (by omega)
               have HW6 := Lib.hid (And.intro hTw6 (And.intro hx76 (And.intro hx66 (And.intro het6 (And.intro (hp5.touchX hTX (by omega) (by omega)) (And.intro hlr6 (And.intro HBO.out HX2.out.2.2.2.1)))))))
               clear hx75 hTX hx76 hTV5 hx6 hx66 hTw6 het6 hlr6 hp5 hT5)
            all_goals
              clear HF HX2 HTV r70 r71 r72 r73 y70 y71 y72 y73 v70 v71 v72 v73 v74 g0 g1 g2 g3 hW6 hW4 rk rk4 hb2l4
              obtain ⟨p70, p71, p72, p73, p74⟩ := HW6.out.2.1.cells
              obtain ⟨z0, z1, z2, z3, z4⟩ := HW6.out.2.2.1.cells
              obtain ⟨f0, f1, f2, f3⟩ := HW6.out.2.2.1.free
              have hmm := rmeas_at HW6.out.2.2.2.2.1
              have HME := Lib.hid hmm
              clear hmm
              cases h2 : ((lv : Int) == 2)
              · have HL2 : Hid (lv ≠ 2) := Lib.hid (by intro e; subst e; simp at h2)
                go_wp2
                go_roundw
                case rel =>
                  refine ⟨.two kd x y, k2, e3, kd, 0, ⟨#[]⟩, some ⟨q13, 0, none⟩, 2, 2, HW6.out.1, HW6.out.2.1, HW6.out.2.2.1, HW6.out.2.2.2.1, HW6.out.2.2.2.2.1, HW6.out.2.2.2.2.2.1, fun he => ⟨HW6.out.2.2.2.2.2.2.1.2.1 he, HW6.out.2.2.2.2.2.2.2⟩, fun he => ?_⟩
                  obtain ⟨h40, f, hf, hlp⟩ := HW6.out.2.2.2.2.2.2.1.2.2.1 HL2.out he
                  exact ⟨rfl, by have := HH.out.2.2.2.2.1; omega, f, hf, hlp⟩
                case measure =>
                  rw [HM.out, HME.out]
                  have h1 := HW6.out.2.2.2.2.2.2.1.2.2.2
                  have h3 := HW6.out.2.2.2.2.1.le
                  omega
              · have HL2 : Hid (lv = 2) := Lib.hid (by simp at h2; omega)
                go_wp2
                have hTE := touch4 (F := AtB gp) HW6.out.1 (.inr (Nat.le_refl w.heap.size)) (.int .i64 kd) (.int .i64 0) (.string ⟨#[]⟩) (.slice (some ⟨q13, 0, none⟩) 2 2)
                have hTX := touch4 (F := fun b => b = w.heap.size) (Touch.refl _ W6) (.inl rfl) (.int .i64 kd) (.int .i64 0) (.string ⟨#[]⟩) (.slice (some ⟨q13, 0, none⟩) 2 2)
                exact bodyPost_ret (v := .agg #[.int .i64 kd, .int .i64 0, .string ⟨#[]⟩, .slice (some ⟨q13, 0, none⟩) 2 2]) (by simp [results, Tryz.results35, go_sem, z0, z1, z2, z3]) rfl ⟨hTE, .two kd x y, k2, e3, _, _, _, _, _, _, rfl, (HW6.out.2.2.2.1.aside hTX (fun q => by omega)).via (fun b h1 _ => .inr (by omega)), HW6.out.2.2.2.2.1.touchX hTX hgp hgl, HW6.out.2.2.2.2.2.2.1.1 HL2.out, by have := HW6.out.2.2.2.2.2.2.2; have := HH.out.2.2.2.2.2.2; omega⟩
    · have hee : ((ex : Int) == 0) = false := by simp; omega
      have HO := Lib.hid (HR.out.bad he)
      obtain ⟨p70, p71, p72, p73, p74⟩ := HR.out.x7.cells
      obtain ⟨z0, z1, z2, z3, z4⟩ := HR.out.x6.cells
      obtain ⟨f0, f1, f2, f3⟩ := HR.out.x6.free
      go_wp2
      have hTE := touch4 (F := AtB gp) HR.out.t (.inr (Nat.le_refl w.heap.size)) (.int .i64 a) (.int .i64 b) (.string s) (.slice A m c)
      have hTX := touch4 (F := fun b => b = w.heap.size) (Touch.refl _ wo) (.inl rfl) (.int .i64 a) (.int .i64 b) (.string s) (.slice A m c)
      exact bodyPost_ret (v := .agg #[.int .i64 a, .int .i64 b, .string s, .slice A m c]) (by simp [results, Tryz.results35, go_sem, z0, z1, z2, z3]) rfl ⟨hTE, x, kx, ex, _, _, _, _, _, _, rfl, (HR.out.et.aside hTX (fun q => by omega)).via (fun b h1 _ => .inr (by omega)), HR.out.ps.touchX hTX hgp hgl, HO.out.1, by have := HO.out.2; have := HH.out.2.2.2.2.2.2; omega⟩
end Go.Proofs.YtnphaaahdlkmhaaGreat
