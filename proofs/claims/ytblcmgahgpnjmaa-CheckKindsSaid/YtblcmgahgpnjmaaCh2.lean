/-
  What the document's own kind returns of an expression of any shape. Conditions: those that each theorem names.
-/
import Derived.Test.YtblcmgahgpnjmaaCh
namespace Go.Proofs.Ytblcmgahgpnjmaa
open Go.ChangeShapes Go.WideShapes Go.ChangeAt Go.RowKit Go.Maps
set_option maxRecDepth 100000
set_option maxHeartbeats 16000000

theorem rk_one {ks : List KyG} {K : Option Addr} {nk cp : Nat} (hnk : ks.length = nk) (hnk2 : nk ≤ 1000000) {f : Nat} (IH : RkOk ks K nk cp f) {n : Int} {t : ByteArray} {k : Int} {l : List GE} (hr : rightG (f + 1) (.mk k n t l) = true) (hgrp : (k = 14 ∨ k = 16 ∨ k = 17 ∨ k = 18) ∧ ∀ vs, kidsG (kindG ks f) l = .ok vs → True) {w : World} {d : Nat} {a b : Int} {s : ByteArray} {A : Option Addr} {m c : Nat} (hx : GAt w (d + 1) (.mk k n t l) a b s A m) (hc : m ≤ c) (hM : KAtG w NoB K ks) :
    Calls Try.prog 13 #[.agg #[.int .i64 a, .int .i64 b, .string s, .slice A m c], .slice K nk cp] w fun e w' => e = .returned (.tuple #[.int .i64 (kindG ks (f + 1) (.mk k n t l)).1, .int .i64 (kindG ks (f + 1) (.mk k n t l)).2]) ∧ Touch NoB w w' := by
    have ih := Lib.hid (fun (y : GE) (hy0 : rightG f y = true) (w : World) (a b : Int) (s : ByteArray) (A : Option Addr) (m c : Nat) (hy : GAt w d y a b s A m) (hm : m ≤ c) (hM : KAtG w NoB K ks) => IH y hy0 w d hy hm hM)
    have HGR := Lib.hid hgrp
    have HX := Lib.hid hx
    have HM := Lib.hid hM
    have HNK := Lib.hid (And.intro hnk hnk2)
    obtain ⟨rfl, rfl, rfl, hl, -, -, hs, hm, -⟩ := hx
    unfold rightG at hr
    rw [hl, Bool.and_eq_true, List.all_eq_true] at hr
    obtain ⟨hr1, hr2⟩ := hr
    obtain ⟨hkm, hal⟩ := alone_yes hr1
    have hm2 : m ≤ 2 := by unfold kidsI at hkm; split at hkm <;> (try split at hkm) <;> omega
    have hrng : 0 ≤ a ∧ a ≤ 19 := by omega
    obtain ⟨R, hR⟩ : ∃ R, kindG ks (f + 1) (.mk a b s l) = R := ⟨_, rfl⟩
    rw [hR]
    unfold kindG at hR
    obtain ⟨g, hg⟩ : ∃ g, kindG ks f = g := ⟨_, rfl⟩
    rw [hg] at ih hR HGR
    have HRR := Lib.hid hR
    have HL := Lib.hid (And.intro hl (And.intro hc (And.intro hr2 (And.intro hkm (And.intro hrng hs)))))
    clear hg hl hm hgrp hr1 hr2 hal hkm hM hs hR hnk hnk2
    go_enter Try.func13, Try.ntmps13
    go_wp2
    go_loopw [7] (fun v7 wr => RkRel g l m w a b s A c v7 wr) (fun v7 _ => m - (intOf v7).toNat)
    case atStart => exact ⟨0, [], Nat.zero_le _, rfl, rfl, rfl, by unfold GB; rw [heap_alloc_old _ _ (by rw [World.size_alloc]; omega)]; exact GB.new w a b s A m c, alloc_blk _ _ _ (by rw [World.size_alloc]), ((Touch.refl _ _).alloc _).alloc _⟩
    case round =>
      obtain ⟨i, vs, hi6, rfl, hks, hvl, hgb, hka, hTr⟩ := hrel
      obtain ⟨p0, p1, p2, p3, p4⟩ := hgb.cells
      obtain ⟨k0, hk0⟩ : ∃ z, vs.getD 0 0 = z := ⟨_, rfl⟩
      obtain ⟨k1, hk1⟩ : ∃ z, vs.getD 1 0 = z := ⟨_, rfl⟩
      rw [hk0, hk1] at hka
      have HGB := Lib.hid hgb
      by_cases hlt : i < m
      · obtain ⟨y, hy⟩ : ∃ y, l[i]? = some y := ⟨l[i]'(by rw [HL.out.1]; exact hlt), List.getElem?_eq_getElem _⟩
        obtain ⟨gk, o, a1, b1, s1, A1, m1, c1, rfl, -, q0, q1, q2, q3, hm1, ket⟩ := HX.out.kid hTr hy
        have hry := HL.out.2.2.1 y (List.mem_of_getElem? hy)
        have HR := Lib.hid (ih.out y hry wr a1 b1 s1 A1 m1 c1 ket hm1 (HM.out.touch hTr))
        have HN := Lib.hid (And.intro hks (And.intro hy (And.intro hvl (And.intro hk0 hk1))))
        have HT := Lib.hid hTr
        have HKA := Lib.hid hka
        clear hTr ket hks hy hry hvl hk0 hk1 hka hgb
        obtain ⟨v, hv⟩ : ∃ v, (g y).1 = v := ⟨_, rfl⟩
        obtain ⟨e, he⟩ : ∃ e, (g y).2 = e := ⟨_, rfl⟩
        rw [hv, he] at HR
        have HV := Lib.hid (And.intro hv he)
        clear hv he
        by_cases he0 : e = 0
        · have hne : (e != 0) = false := by simpa using he0
          have HS := Lib.hid (kidsG_step HN.out.2.1 HN.out.1 (HV.out.2.trans he0))
          clear he0
          go_wp2_with fail
          refine HR.out.mono ?_
          rintro r w2 ⟨rfl, hT2⟩
          have hka2 := HKA.out.touch hT2
          have hgb2 := HGB.out.touch hT2
          obtain ⟨r0, r1, r2, r3, r4⟩ := hgb2.cells
          have s0 := cell_blk hka2 0
          have s1' := cell_blk hka2 1
          have s2 := blk_lt hka2
          have f0 := free_blk hka2 0
          have f1 := free_blk hka2 1
          have HT2 := Lib.hid (HT.out.same hT2)
          have hi01 : i = 0 ∨ i = 1 := by omega
          have HK2 := Lib.hid hka2
          have HG2 := Lib.hid hgb2
          clear hT2 hka2 hgb2
          rcases hi01 with rfl | rfl
          · go_wp2
            go_roundw
            case rel =>
              have e0 : vs = [] := List.length_eq_zero_iff.1 HN.out.2.2.1
              refine ⟨1, [v], by omega, by go_num, ?_, rfl, ?_, ?_, ?_⟩
              · have h := HS.out
                rw [HV.out.1, e0] at h
                exact h
              · exact (Touch.block ((Touch.refl (fun b => b = w.heap.size + 1) w2).setCell (p := ⟨w.heap.size + 1, 0, none⟩) (.inl rfl) _) _ (blk_lt HG2.out) (by omega)).trans HG2.out
              · have h := set_blk HK2.out 0 (.int .i64 v)
                have e1 : k1 = 0 := by rw [← HN.out.2.2.2.2, e0]; rfl
                rw [e1] at h
                exact h
              · exact HT2.out.setCell (p := ⟨w.heap.size + 1, 0, none⟩) (.inr (by show w.heap.size ≤ w.heap.size + 1; omega)) _
            case measure => simp [intOf]; omega
          · go_wp2
            go_roundw
            case rel =>
              obtain ⟨v0, e0⟩ : ∃ v0, vs = [v0] := ⟨_, one_of HN.out.2.2.1⟩
              refine ⟨2, [v0, v], by omega, by go_num, ?_, rfl, ?_, ?_, ?_⟩
              · have h := HS.out
                rw [HV.out.1, e0] at h
                exact h
              · exact (Touch.block ((Touch.refl (fun b => b = w.heap.size + 1) w2).setCell (p := ⟨w.heap.size + 1, 1, none⟩) (.inl rfl) _) _ (blk_lt HG2.out) (by omega)).trans HG2.out
              · have h := set_blk HK2.out 1 (.int .i64 v)
                have e1 : k0 = v0 := by rw [← HN.out.2.2.2.1, e0]; rfl
                rw [e1] at h
                exact h
              · exact HT2.out.setCell (p := ⟨w.heap.size + 1, 1, none⟩) (.inr (by show w.heap.size ≤ w.heap.size + 1; omega)) _
            case measure => simp [intOf]; omega
        · have hne : (e != 0) = true := by simpa using he0
          have HE : Hid (kidsG g l = .error e) := Lib.hid (by
            have := kidsG_bad HN.out.2.1 HN.out.1 (fun h => he0 (HV.out.2.symm.trans h))
            rw [this, HV.out.2])
          clear he0
          go_wp2_with fail
          refine HR.out.mono ?_
          rintro r w2 ⟨rfl, hT2⟩
          have HT2 := Lib.hid (HT.out.same hT2)
          clear hT2
          go_wp2
          go_ret2
          have e9 : R = (0, e) := by have h := HRR.out; rw [HE.out] at h; exact h.symm
          exact ⟨by simp [e9], HT2.out⟩
      · obtain rfl : i = m := by omega
        have hks' : kidsG g l = .ok vs := by rw [← hks, List.take_of_length_le (by have := HL.out.1; omega)]
        have HT := Lib.hid hTr
        have hR2 : R = headG ks a s vs := by have h := HRR.out; rw [hks'] at h; exact h.symm
        unfold headG at hR2
        have t0 := cell_blk hka 0
        have t1 := cell_blk hka 1
        have t2 := blk_lt hka
        have HRS := Lib.hid (fun (h2 : a ≠ 2) => res_eq HL.out.2.2.2.2.1 h2 (vs := vs) (by rw [hvl]; exact HL.out.2.2.2.1))
        rw [hk0, hk1] at HRS
        have HVS := Lib.hid (And.intro hvl (And.intro hk0 hk1))
        have HR2 := Lib.hid hR2
        have HKT := Lib.hid (HM.out.touch hTr)
        have hks0 := hks'
        clear hTr hks hks' hvl hk0 hk1 hka hgb hR2
        have hgr := HGR.out.2 vs hks0
        have h2 : a ≠ 2 := by have := HGR.out.1; omega
        have hR3 := HR2.out
        rw [if_neg h2, HRS.out h2] at hR3
        have hc := HGR.out.1
        have hlen : (i : Int) = kidsI a := HL.out.2.2.2.1
        have hzero : i < 2 → k1 = 0 := fun h => by rw [← HVS.out.2.2]; rw [List.getD_eq_getElem?_getD, List.getElem?_eq_none (by have := HVS.out.1; omega)]; rfl
        have hi1 : i = 1 := by rcases hc with rfl | rfl | rfl | rfl <;> (simp [kidsI] at hlen; omega)
        have y1 := hzero (by omega)
        have hcls : ((k0 == 0) = true ∧ (k0 == 4) = false ∧ (k0 == 1) = false ∧ k0 = 0) ∨ ((k0 == 0) = false ∧ (k0 == 4) = true ∧ (k0 == 1) = false ∧ k0 = 4) ∨ ((k0 == 0) = false ∧ (k0 == 4) = false ∧ (k0 == 1) = true ∧ k0 = 1) ∨ ((k0 == 0) = false ∧ (k0 == 4) = false ∧ (k0 == 1) = false ∧ k0 ≠ 0 ∧ k0 ≠ 4 ∧ k0 ≠ 1) := class_of k0
        clear hzero hlen hgr
        clear h2 HRS HR2 HRR HX HM HKT ih hrng hks0 HGR
        subst y1
        rcases hcls with ⟨e0, e4, e1, dd⟩ | ⟨e0, e4, e1, dd⟩ | ⟨e0, e4, e1, dd⟩ | ⟨e0, e4, e1, dd⟩
        all_goals
          have HDD := Lib.hid dd
          clear dd
          rcases hc with rfl | rfl | rfl | rfl
          all_goals
            simp [resD, HDD.out] at hR3
            have HR4 := Lib.hid hR3
            clear hR3
            go_wp2
            go_ret2
            exact ⟨by first | (simp [HR4.out]; done) | (simp [HR4.out, HDD.out]; done), HT.out⟩
end Go.Proofs.Ytblcmgahgpnjmaa
