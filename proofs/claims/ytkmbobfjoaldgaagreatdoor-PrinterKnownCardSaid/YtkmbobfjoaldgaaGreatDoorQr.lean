/-
  What package expr's binary does at a level that has operators. Conditions: the table of levels can be read; what it calls does as the model says.
-/
import Derived.Test.YtkmbobfjoaldgaaGreatDoorQo
import Derived.Deep.RegionLaw
namespace Go.Proofs.YtkmbobfjoaldgaaGreatDoor
open Go.ChangeShapes Go.WideShapes Go.ChangeAt Go.RowKit
set_option maxRecDepth 100000
set_option maxHeartbeats 4000000

theorem bin_level {gp g n cp B d lv lv1 j D D1 : Nat} {ts : List Tk} {u : Nat → Rs} (HS : BinOk gp g n cp B ts lv1 d D (binL ts u j)) (hlv : lv1 = lv + 1) (hj : lv + j = 4) (hB : B ≤ gp) (hD : D + 1 = D1) (hD1 : 41 ≤ D) (hD2 : D ≤ 9000)
    (hfw : ∀ k, k ≤ ts.length → (binL ts u j k).fwd ts.length k) : BinOk gp g n cp B ts lv d D1 (binL ts u (j + 1)) := by
  intro w k e h hv
  obtain ⟨R0, hR0⟩ : ∃ R0, binL ts u (j + 1) k = R0 := ⟨_, rfl⟩
  have hstart := fun (k1 e1 : Nat) (x : Ex) (ho : Out (binL ts u j k) k e x k1 e1) => bin_start (u := u) ho
  rw [hR0] at hstart ⊢
  clear hR0
  have h4j : 4 - j = lv := by omega
  rw [h4j] at hstart
  obtain ⟨sub, hsub⟩ : ∃ sub, binL ts u j = sub := ⟨_, rfl⟩
  rw [hsub] at HS hfw hstart
  clear hsub h4j
  have hlv5 : ((lv : Int) == 5) = false := by simp; omega
  have hw1 : IntKind.i64.wrap ((lv : Int) + 1) = (lv1 : Int) := by rw [show (lv : Int) + 1 = (lv1 : Int) from by omega]; exact IntWalk.i64_in _ (by omega)
  obtain ⟨ops, hops⟩ : ∃ ops, lvs[lv]? = some ops := ⟨lvs[lv]'(by simp [lvs]; omega), List.getElem?_eq_getElem _⟩
  obtain ⟨W0, hW0⟩ : ∃ W, w.alloc (.cells #[.int .i64 0, .int .i64 0, .string ⟨#[]⟩, .slice none 0 0] 44) = W := ⟨_, rfl⟩
  have hT0 : Touch NoB w W0 := by rw [← hW0]; exact (Touch.refl _ _).alloc _
  have hs0 : W0.heap.size = w.heap.size + 1 := by rw [← hW0]; simp only [World.size_alloc]
  have hb6 : XB W0 w.heap.size 0 0 ⟨#[]⟩ none 0 0 := by rw [← hW0]; exact XB.new w _ _ _ _ _ _ rfl
  have hgp := blk_lt h.blk
  have hgl := h.tl.lt
  have hlen := h.len
  have HC := Lib.hid (HS W0 k e (h.touch hT0) (hv.touch0 hT0))
  have HV := Lib.hid (hv.touch0 hT0)
  have HB6 := Lib.hid hb6
  have HT0 := Lib.hid hT0
  have HST := Lib.hid hstart
  have HH := Lib.hid (And.intro HS (And.intro hB (And.intro hfw (And.intro hops (And.intro hlen (And.intro hD1 (And.intro hD2 hD)))))))
  have hl2 : lv ≤ 4 := by omega
  clear h hv hb6 hT0 HS hstart hB hfw hops hlen hD hD1 hD2 hlv hj
  go_enter Tryz.func161, Tryz.ntmps161
  go_wp2_with fail
  refine HC.out.mono ?_
  rintro r w1 ⟨hT1, x, k1, e1, a, b, s, A, m, c, rfl, hx, hp1, ho1, hxd⟩
  obtain ⟨W1, hW1⟩ : ∃ W, w1.alloc (.cells #[.int .i64 a, .int .i64 b, .string s, .slice A m c] 44) = W := ⟨_, rfl⟩
  have hTA : Touch NoB w1 W1 := by rw [← hW1]; exact (Touch.refl _ _).alloc _
  have hb7 : XB W1 w1.heap.size a b s A m c := by rw [← hW1]; exact XB.new _ _ _ _ _ _ _ rfl
  obtain ⟨q7, hq7⟩ : ∃ q7, w1.heap.size = q7 := ⟨_, rfl⟩
  have hs1 := hT1.size
  have hq : w.heap.size < q7 := by omega
  have hT01 : Touch (AtB gp) W0 W1 := hT1.same (Touch.anyB hTA)
  have hx1 : ET W1 (fun b => w.heap.size < b ∧ b ≠ q7) x a b s A m c := (hx.via (R := fun b => w.heap.size < b ∧ b ≠ q7) (fun b h1 h2 => by
    rcases h1 with h1 | h1
    · exact h1.elim
    · exact ⟨by omega, by omega⟩)).touch0 hTA
  have hstart := HST.out k1 e1 x ho1
  have HR : Hid (BinRel gp g n cp B ts lv D k e w.heap.size q7 sub R0 w x k1 e1 a b s A m c W1) := Lib.hid ⟨(Touch.anyB HT0.out).same hT01, by rw [← hq7]; exact hb7, HB6.out.go hT01 (by omega), hx1, hp1.touch hTA, HV.out.touchP hT01 HH.out.2.1, fun he => ⟨hstart.1 he, by omega⟩, fun he => ⟨(hstart.2 he).1, hxd, _, by have := hp1.le; rw [hp1.len]; omega, (hstart.2 he).2⟩⟩
  clear hT1 hx hp1 ho1 hxd hTA hb7 hT01 hx1 hstart hs1 HC HST
  go_wp2_with fail
  go_loopw [20] (fun _ wr => ∃ x kx ex a b s A m c, BinRel gp g n cp B ts lv D k e w.heap.size q7 sub R0 w x kx ex a b s A m c wr) (fun _ wr => meas gp n wr)
  case atStart => exact ⟨_, _, _, _, _, _, _, _, _, HR.out⟩
  case round =>
    clear HR
    obtain ⟨x, kx, ex, a, b, s, A, m, c, hR⟩ := hrel
    obtain ⟨l, hl⟩ : ∃ l, firstK ts kx ex ops = l := ⟨_, rfl⟩
    have HOP := Lib.hid (operator_any hR.ps hR.hv HH.out.2.2.2.1)
    rw [hl] at HOP
    have hme := meas_at hR.ps
    have HM := Lib.hid hme
    have HR := Lib.hid hR
    clear hR hme
    cases l with
    | none =>
      have HO : Hid (Out R0 k e x kx ex ∧ x.depth ≤ D1) := Lib.hid (by
        by_cases he : ex = 0
        · obtain ⟨he0, hd, f, hf, hlp⟩ := HR.out.good he
          subst he he0
          rw [← opk_first ts lv kx ops HH.out.2.2.2.1] at hl
          exact ⟨bin_none hlp hl, by have := HH.out.2.2.2.2.2.2.2; omega⟩
        · have := HR.out.bad he
          exact ⟨this.1, by have := HH.out.2.2.2.2.2.2.2; omega⟩)
      clear hl
      go_wp2_with fail
      refine HOP.out.mono ?_
      rintro r V ⟨rfl, hp, hT⟩
      have HQ := Lib.hid (And.intro hp ((HR.out.t).same (Touch.anyB (F := AtB gp) hT)))
      obtain ⟨p70, p71, p72, p73, p74⟩ := (HR.out.x7.go (gp := gp) (Touch.anyB hT) (by omega)).cells
      have hb6 := HR.out.x6.go (gp := gp) (Touch.anyB hT) (by omega)
      obtain ⟨z0, z1, z2, z3, z4⟩ := hb6.cells
      obtain ⟨f0, f1, f2, f3⟩ := hb6.free
      have HZ := Lib.hid (HR.out.et.touch0 hT)
      clear hp hT hb6
      go_wp2
      have hTE := touch4 (F := AtB gp) HQ.out.2 (.inr (Nat.le_refl w.heap.size)) (.int .i64 a) (.int .i64 b) (.string s) (.slice A m c)
      have hTX := touch4 (F := fun b => b = w.heap.size) (Touch.refl _ V) (.inl rfl) (.int .i64 a) (.int .i64 b) (.string s) (.slice A m c)
      exact bodyPost_ret (v := .agg #[.int .i64 a, .int .i64 b, .string s, .slice A m c]) (by simp [results, Tryz.results161, go_sem, z0, z1, z2, z3]) rfl ⟨hTE, x, kx, ex, _, _, _, _, _, _, rfl, (HZ.out.aside hTX (fun q => by omega)).via (fun b h1 _ => .inr (by omega)), HQ.out.1.touchX hTX hgp hgl, HO.out.1, HO.out.2⟩
    | some kd =>
      have hex : ex = 0 := acc_zero (first_lt hl)
      subst hex
      obtain ⟨he0, hxd, f, hf, hlp⟩ := HR.out.good rfl
      subst he0
      rw [← opk_first ts lv kx ops HH.out.2.2.2.1] at hl
      have HBO := Lib.hid (fun (k2 e2 e3 : Nat) (y : Ex) (ho : Out (sub (kx + 1)) (kx + 1) 0 y k2 e2) (he3 : e3 = if e2 = 0 ∧ 40 < (Ex.two kd x y).depth then 4 else e2) => bin_op (k := k) HH.out.2.2.1 hf hlp hl ho he3)
      have HXD := Lib.hid hxd
      clear hl hf hlp hxd
      go_wp2_with fail
      refine HOP.out.mono ?_
      rintro r V ⟨rfl, hp, hT⟩
      have hx7 := HR.out.x7.go hT (by omega)
      obtain ⟨p70, p71, p72, p73, p74⟩ := hx7.cells
      have r70 : V.drew.cell? ⟨q7, 0, none⟩ = some (.int .i64 a) := p70
      have r71 : V.drew.cell? ⟨q7, 1, none⟩ = some (.int .i64 b) := p71
      have r72 : V.drew.cell? ⟨q7, 2, none⟩ = some (.string s) := p72
      have r73 : V.drew.cell? ⟨q7, 3, none⟩ = some (.slice A m c) := p73
      have hTw : Touch (AtB gp) w V := HR.out.t.same hT
      have HCB := Lib.hid (HH.out.1 V.drew (kx + 1) 0 (hp.touch (Touch.refl _ _).drew) ((HR.out.hv.touchP hT HH.out.2.1).touch0 (Touch.refl _ _).drew))
      have HTW := Lib.hid (And.intro hTw (And.intro hx7 (And.intro (HR.out.x6.go hT (by omega)) (And.intro (HR.out.et.touch hT (HR.out.ps.nox _)) (And.intro (hp.nox (fun b => w.heap.size < b ∧ b ≠ q7)) (HR.out.hv.touchP hT HH.out.2.1))))))
      clear hp hT hx7 hTw HOP
      go_wp2_with fail
      go_region_law
        (first
          | (go_simp; go_at_call 161
             refine HCB.out.mono ?_
             rintro r w2 ⟨hT2, y, k2, e2, a2, b2, s2, A2, m2, c2, rfl, hy2, hp2, ho2, hyd⟩
             have hs2 := hT2.size
             have hx7 : XB w2 q7 a b s A m c := HTW.out.2.1.go ((Touch.refl _ _).drew.same hT2) (by omega)
             obtain ⟨t70, t71, t72, t73, t74⟩ := hx7.cells
             have HY := Lib.hid (And.intro hT2 (And.intro hy2 (And.intro hp2 (And.intro ho2 (And.intro hyd (And.intro hx7 (HTW.out.2.2.2.1.touch ((Touch.refl _ _).drew.same hT2) HTW.out.2.2.2.2.1)))))))
             clear hT2 hy2 hp2 ho2 hyd hx7)
          | (go_simp; go_at_call 174
             obtain ⟨hT2, hy2, hp2, ho2, hyd, hx7, hx2⟩ := HY.out
             obtain ⟨W2, hW2⟩ : ∃ W, w2.alloc (.cells #[.int .i64 a, .int .i64 b, .string s, .slice A m c, .int .i64 a2, .int .i64 b2, .string s2, .slice A2 m2 c2] 44) = W := ⟨_, rfl⟩
             have hTA : Touch NoB w2 W2 := by rw [← hW2]; exact (Touch.refl _ _).alloc _
             have hqV : q7 < V.heap.size := HTW.out.2.1.cells.2.2.2.2
             have hVw : V.heap.size ≤ w2.heap.size := hT2.size
             have hy3 : ET w2 (fun b => w.heap.size < b ∧ b ≠ q7) y a2 b2 s2 A2 m2 c2 := hy2.via (fun b h1 _ => by
               rcases h1 with h1 | h1
               · exact h1.elim
               · have h1' : V.heap.size ≤ b := h1
                 exact ⟨by omega, by omega⟩)
             have het : ET W2 (fun b => w.heap.size < b ∧ b ≠ q7) (.two kd x y) kd 0 ⟨#[]⟩ (some ⟨w2.heap.size, 0, none⟩) 2 2 := by rw [← hW2]; exact hx2.mk2 hy3 kd rfl ⟨by omega, by omega⟩
             have hdd : (Ex.two kd x y).depth ≤ D + 1 := by have := HXD.out; simp only [Ex.depth]; omega
             have hp2' := hp2.touch hTA
             have HX2 := Lib.hid (And.intro (show Touch (AtB gp) V W2 from ((Touch.refl _ _).drew.same hT2).same (Touch.anyB hTA)) (And.intro het (And.intro (hp2'.nox (fun b => w.heap.size < b ∧ b ≠ q7)) (And.intro hdd ho2))))
             rw [hW2]
             refine (form_any hp2' het (by have := HH.out.2.2.2.2.2.2.1; omega)).mono ?_
             clear hT2 hy2 hp2 hp2' ho2 hyd hx7 hx2 hTA hy3 het hdd
             rintro r w4 ⟨rfl, hp4, hT4⟩
             obtain ⟨e3, he3⟩ : ∃ e3, (if e2 = 0 ∧ 40 < (Ex.two kd x y).depth then 4 else e2) = e3 := ⟨_, rfl⟩
             rw [he3] at hp4
             have hTV4 : Touch (AtB gp) V w4 := HX2.out.1.same hT4
             have hx74 : XB w4 q7 a b s A m c := HTW.out.2.1.go hTV4 (by omega)
             obtain ⟨f0, f1, f2, f3⟩ := hx74.free
             obtain ⟨v70, v71, v72, v73, v74⟩ := hx74.cells
             obtain ⟨W5, hW5⟩ : ∃ W, (((w4.setCell ⟨q7, 0, none⟩ (.int .i64 kd)).setCell ⟨q7, 1, none⟩ (.int .i64 0)).setCell ⟨q7, 2, none⟩ (.string ⟨#[]⟩)).setCell ⟨q7, 3, none⟩ (.slice (some ⟨w2.heap.size, 0, none⟩) 2 2) = W := ⟨_, rfl⟩
             have hTX : Touch (fun b => b = q7) w4 W5 := by rw [← hW5]; exact touch4 (F := fun b => b = q7) (Touch.refl _ w4) (.inl rfl) _ _ _ _
             have hx75 : XB W5 q7 kd 0 ⟨#[]⟩ (some ⟨w2.heap.size, 0, none⟩) 2 2 := by rw [← hW5]; exact set4 hx74 _ _ _ _
             have hx65 : XB W5 w.heap.size 0 0 ⟨#[]⟩ none 0 0 := (hTX.block _ (blk_lt (HTW.out.2.2.1.go hTV4 (by omega))) (by omega)).trans (HTW.out.2.2.1.go hTV4 (by omega))
             have hTw5 : Touch (AtB gp) w W5 := (HTW.out.1.same hTV4).trans hTX (fun b hb => .inr (by omega))
             have het5 : ET W5 (fun b => w.heap.size < b ∧ b ≠ q7) (.two kd x y) kd 0 ⟨#[]⟩ (some ⟨w2.heap.size, 0, none⟩) 2 2 := (HX2.out.2.1.touch hT4 HX2.out.2.2.1).aside hTX (fun h => h.2 rfl)
             have hlv5' : LV W5 B := (HTW.out.2.2.2.2.2.touchP hTV4 HH.out.2.1).touch hTX (fun b hb => by have := HH.out.2.1; omega)
             have hqgp : gp < q7 := by omega
             have hqg : g < q7 := by omega
             have HW5 := Lib.hid (And.intro hTw5 (And.intro hx75 (And.intro hx65 (And.intro het5 (And.intro (hp4.touchX hTX hqgp hqg) (And.intro hlv5' (And.intro (HBO.out k2 e2 e3 y HX2.out.2.2.2.2 he3.symm) HX2.out.2.2.2.1)))))))
             clear he3 hp4 hTV4 hx74 hTX hx75 hx65 hTw5 het5 hlv5' hT4))
      all_goals
        clear HCB HY HX2 HTW r70 r71 r72 r73 p70 p71 p72 p73 p74 t70 t71 t72 t73 t74 f0 f1 f2 f3 v70 v71 v72 v73 v74 hW5 hW2
        obtain ⟨p70, p71, p72, p73, p74⟩ := HW5.out.2.1.cells
        obtain ⟨z0, z1, z2, z3, z4⟩ := HW5.out.2.2.1.cells
        obtain ⟨f0, f1, f2, f3⟩ := HW5.out.2.2.1.free
        have hmm := meas_at HW5.out.2.2.2.2.1
        have HMM := Lib.hid hmm
        clear hmm
        cases h2 : ((lv : Int) == 2)
        · have HL2 : Hid (lv ≠ 2) := Lib.hid (by intro e; subst e; simp at h2)
          go_wp2
          go_roundw
          case rel =>
            refine ⟨.two kd x y, k2, e3, kd, 0, ⟨#[]⟩, some ⟨w2.heap.size, 0, none⟩, 2, 2, HW5.out.1, HW5.out.2.1, HW5.out.2.2.1, HW5.out.2.2.2.1, HW5.out.2.2.2.2.1, HW5.out.2.2.2.2.2.1, fun he => ⟨HW5.out.2.2.2.2.2.2.1.2.1 he, HW5.out.2.2.2.2.2.2.2⟩, fun he => ?_⟩
            obtain ⟨h40, f, hf, hlp⟩ := HW5.out.2.2.2.2.2.2.1.2.2.1 HL2.out he
            exact ⟨rfl, by have := HH.out.2.2.2.2.2.1; omega, f, hf, hlp⟩
          case measure =>
            rw [HM.out, HMM.out]
            have h1 := HW5.out.2.2.2.2.2.2.1.2.2.2
            have h3 := HW5.out.2.2.2.2.1.le
            omega
        · have HL2 : Hid (lv = 2) := Lib.hid (by simp at h2; omega)
          go_wp2
          have hTE := touch4 (F := AtB gp) HW5.out.1 (.inr (Nat.le_refl w.heap.size)) (.int .i64 kd) (.int .i64 0) (.string ⟨#[]⟩) (.slice (some ⟨w2.heap.size, 0, none⟩) 2 2)
          have hTX := touch4 (F := fun b => b = w.heap.size) (Touch.refl _ W5) (.inl rfl) (.int .i64 kd) (.int .i64 0) (.string ⟨#[]⟩) (.slice (some ⟨w2.heap.size, 0, none⟩) 2 2)
          exact bodyPost_ret (v := .agg #[.int .i64 kd, .int .i64 0, .string ⟨#[]⟩, .slice (some ⟨w2.heap.size, 0, none⟩) 2 2]) (by simp [results, Tryz.results161, go_sem, z0, z1, z2, z3]) rfl ⟨hTE, .two kd x y, k2, e3, _, _, _, _, _, _, rfl, (HW5.out.2.2.2.1.aside hTX (fun q => by omega)).via (fun b h1 _ => .inr (by omega)), HW5.out.2.2.2.2.1.touchX hTX hgp hgl, HW5.out.2.2.2.2.2.2.1.1 HL2.out, by have := HW5.out.2.2.2.2.2.2.2; have := HH.out.2.2.2.2.2.2.2; omega⟩
end Go.Proofs.YtkmbobfjoaldgaaGreatDoor
