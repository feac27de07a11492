/-
  What the document's own single does with a reader in memory. Conditions: numbers among the tokens are such; what it calls does as the model says.
-/
import Derived.Test.YtnphaaahdlkmhaaGreatZs22
namespace Go.Proofs.YtnphaaahdlkmhaaGreat
open Go.ChangeShapes Go.WideShapes Go.ChangeAt Go.RowKit
set_option maxRecDepth 100000
set_option maxHeartbeats 4000000

def RPriOk (gp g n cp : Nat) (ts : List Tk) (d D : Nat) (U : Nat → Rs) : Prop := ∀ (W : World) (k : Nat), RS W gp g n cp ts k 0 →
  Calls Tryz.prog 79 #[.pointer (some ⟨gp, 0, none⟩), .int .i64 (d : Int)] W (RP W NoB gp g n cp ts (U k) k 0 D)
theorem rnumber_yes {w : World} {gp g n cp : Nat} {ts : List Tk} {k m : Nat} (h : RS w gp g n cp ts k 0) (hn : numAt ts k = some m) :
    Calls Tryz.prog 32 #[.pointer (some ⟨gp, 0, none⟩)] w fun x w' => x = .returned (.int .i64 (m : Int)) ∧ RS w' gp g n cp ts (k + 1) 0 ∧ Touch (AtB gp) w w' := by
  obtain ⟨h3, h4⟩ := num_nxt hn
  have H := rnumber_any h
  unfold numR stepK stepE at H
  rw [if_pos h3, if_pos h3, if_pos h3, h4] at H
  exact H
theorem rnumber_no {w : World} {gp g n cp : Nat} {ts : List Tk} {k : Nat} (h : RS w gp g n cp ts k 0) (hn : numAt ts k = none) :
    Calls Tryz.prog 32 #[.pointer (some ⟨gp, 0, none⟩)] w fun x w' => x = .returned (.int .i64 0) ∧ RS w' gp g n cp ts k 2 ∧ Touch (AtB gp) w w' := by
  have h3 := num_not hn
  have H := rnumber_any h
  unfold numR stepK stepE at H
  rw [if_neg h3, if_neg h3, if_neg h3, if_pos rfl] at H
  exact H
/-- Behind an error, single reads nothing. -/
theorem rsingle_bad {gp g n cp d D : Nat} {ts : List Tk} {U : Nat → Rs} (hD : 1 ≤ D) {w : World} {k e : Nat} (h : RS w gp g n cp ts k e) (he : e ≠ 0) :
    Calls Tryz.prog 60 #[.pointer (some ⟨gp, 0, none⟩), .int .i64 (d : Int)] w (RP w NoB gp g n cp ts (U k) k e D) := by
  obtain ⟨W0, hW0⟩ : ∃ W, w.alloc (.cells #[.int .i64 0, .int .i64 0, .string ⟨#[]⟩, .slice none 0 0] 44) = W := ⟨_, rfl⟩
  have hT0 : Touch NoB w W0 := by rw [← hW0]; exact (Touch.refl _ _).alloc _
  have hb4 : XB W0 w.heap.size 0 0 ⟨#[]⟩ none 0 0 := by rw [← hW0]; exact XB.new w _ _ _ _ _ _ rfl
  have hgp := h.lt
  have hgl := h.tl.lt
  have c2 := (h.touch hT0).cell2
  have hee : ((e : Int) != 0) = true := by simp; omega
  obtain ⟨z0, z1, z2, z3, z4⟩ := hb4.cells
  obtain ⟨f0, f1, f2, f3⟩ := hb4.free
  have HQ := Lib.hid (And.intro (h.touch hT0) hT0)
  clear h hb4 hT0
  go_enter Tryz.func60, Tryz.ntmps60
  go_wp2
  have hTE := touch4 (F := AtB gp) (Touch.anyB (F := AtB gp) HQ.out.2) (.inr (Nat.le_refl w.heap.size)) (.int .i64 0) (.int .i64 0) (.string ⟨#[]⟩) (.slice none 0 0)
  have hTX := touch4 (F := fun b => b = w.heap.size) (Touch.refl _ W0) (.inl rfl) (.int .i64 0) (.int .i64 0) (.string ⟨#[]⟩) (.slice none 0 0)
  exact bodyPost_ret (v := .agg #[.int .i64 0, .int .i64 0, .string ⟨#[]⟩, .slice none 0 0]) (by simp [results, Tryz.results60, go_sem, z0, z1, z2, z3]) rfl ⟨hTE, .leaf 0 0 [], k, e, _, _, _, _, _, _, rfl, ⟨rfl, rfl, rfl, rfl, rfl, rfl⟩, HQ.out.1.touchX hTX hgp hgl, Out.bad he, by simp only [Ex.depth]; omega⟩
theorem runa_deep {gp g n cp D : Nat} {ts : List Tk} (hD : 1 ≤ D) : RUnaOk gp g n cp ts 41 D (unaL ts 0) := by
  intro w k e h
  by_cases he : e = 0
  · subst he
    obtain ⟨W0, hW0⟩ : ∃ W, w.alloc (.cells #[.int .i64 0, .int .i64 0, .string ⟨#[]⟩, .slice none 0 0] 44) = W := ⟨_, rfl⟩
    have hT0 : Touch NoB w W0 := by rw [← hW0]; exact (Touch.refl _ _).alloc _
    have hb4 : XB W0 w.heap.size 0 0 ⟨#[]⟩ none 0 0 := by rw [← hW0]; exact XB.new w _ _ _ _ _ _ rfl
    have hgp := h.lt
    have hgl := h.tl.lt
    have c2 := (h.touch hT0).cell2
    have hee : (((0 : Nat) : Int) != 0) = false := rfl
    have HF := Lib.hid (rfail_yes (h.touch hT0) 4)
    have HO : Hid (Out (unaL ts 0 k) k 0 (.leaf 0 0 []) k 4) := Lib.hid (by
      unfold Out unaL
      rw [if_pos rfl]; exact ⟨rfl, rfl, by decide⟩)
    have HB4 := Lib.hid hb4
    have HT0 := Lib.hid hT0
    clear h hb4 hT0
    go_enter Tryz.func60, Tryz.ntmps60
    go_wp2_with fail
    refine HF.out.mono ?_
    rintro r V ⟨rfl, hp, hT⟩
    have HQ := Lib.hid (And.intro hp hT)
    clear hp hT
    have hb4 := HB4.out.go HQ.out.2 (by omega)
    obtain ⟨z0, z1, z2, z3, z4⟩ := hb4.cells
    obtain ⟨f0, f1, f2, f3⟩ := hb4.free
    clear hb4
    go_wp2
    have hTE := touch4 (F := AtB gp) ((Touch.anyB (F := AtB gp) HT0.out).same HQ.out.2) (.inr (Nat.le_refl w.heap.size)) (.int .i64 0) (.int .i64 0) (.string ⟨#[]⟩) (.slice none 0 0)
    have hTX := touch4 (F := fun b => b = w.heap.size) (Touch.refl _ V) (.inl rfl) (.int .i64 0) (.int .i64 0) (.string ⟨#[]⟩) (.slice none 0 0)
    exact bodyPost_ret (v := .agg #[.int .i64 0, .int .i64 0, .string ⟨#[]⟩, .slice none 0 0]) (by simp [results, Tryz.results60, go_sem, z0, z1, z2, z3]) rfl ⟨hTE, .leaf 0 0 [], k, 4, _, _, _, _, _, _, rfl, ⟨rfl, rfl, rfl, rfl, rfl, rfl⟩, HQ.out.1.touchX hTX hgp hgl, HO.out, by simp only [Ex.depth]; omega⟩
  · exact rsingle_bad (U := unaL ts 0) hD h he
theorem runa_step {gp g n cp d d1 m D D2 D3 : Nat} {ts : List Tk} (HU : RUnaOk gp g n cp ts d1 D (unaL ts m)) (HR : RPriOk gp g n cp ts d D2 (primL ts (binL ts (unaL ts m) 5))) (hd1 : d1 = d + 1) (hds : d ≤ 40) (hD : D + 1 ≤ D3) (hD2 : D2 ≤ D3) (hD3 : D3 ≤ 10000) (hnk : NumsOk ts) :
    RUnaOk gp g n cp ts d D3 (unaL ts (m + 1)) := by
  intro w k e h
  by_cases he : e = 0
  case neg => exact rsingle_bad (U := unaL ts (m + 1)) (by omega) h he
  subst he
  have hee : (((0 : Nat) : Int) != 0) = false := rfl
  have hwr : IntKind.i64.wrap ((d : Int) + 1) = (d1 : Int) := by rw [show (d : Int) + 1 = (d1 : Int) from by omega]; exact IntWalk.i64_in _ (by omega)
  have hgt : decide ((40 : Int) < (d : Int)) = false := by simp; omega
  have hgt' : decide (40 < d) = false := by simp; omega
  obtain ⟨W0, hW0⟩ : ∃ W, w.alloc (.cells #[.int .i64 0, .int .i64 0, .string ⟨#[]⟩, .slice none 0 0] 44) = W := ⟨_, rfl⟩
  have hT0 : Touch NoB w W0 := by rw [← hW0]; exact (Touch.refl _ _).alloc _
  have c2 := (h.touch hT0).cell2
  have hs0 : W0.heap.size = w.heap.size + 1 := by rw [← hW0]; simp only [World.size_alloc]
  obtain ⟨W9, hW9⟩ : ∃ W, W0.alloc (.cells #[.string ⟨#[110, 111, 116]⟩, .string ⟨#[114, 101]⟩, .string ⟨#[105, 109]⟩, .string ⟨#[116, 117, 114, 110]⟩] 9) = W := ⟨_, rfl⟩
  have hT09 : Touch NoB W0 W9 := by rw [← hW9]; exact (Touch.refl _ _).alloc _
  have hs9 : W9.heap.size = w.heap.size + 2 := by rw [← hW9]; simp only [World.size_alloc]; omega
  have hstr0 : W9.heap[W0.heap.size]? = some (.cells #[.string ⟨#[110, 111, 116]⟩, .string ⟨#[114, 101]⟩, .string ⟨#[105, 109]⟩, .string ⟨#[116, 117, 114, 110]⟩] 9 (0, 0)) := by rw [← hW9]; exact alloc_blk _ _ _ rfl
  obtain ⟨W1, hW1⟩ : ∃ W, W9.alloc (.cells #[.int .i64 14, .int .i64 16, .int .i64 17, .int .i64 18] 3) = W := ⟨_, rfl⟩
  have hT91 : Touch NoB W9 W1 := by rw [← hW1]; exact (Touch.refl _ _).alloc _
  have hs1 : W1.heap.size = w.heap.size + 3 := by rw [← hW1]; simp only [World.size_alloc]; omega
  have hT01 : Touch NoB W0 W1 := hT09.same hT91
  have hT1 : Touch NoB w W1 := hT0.same hT01
  have hb4 : XB W1 w.heap.size 0 0 ⟨#[]⟩ none 0 0 := by rw [← hW1, ← hW9, ← hW0]; exact ((XB.new w _ _ _ _ _ _ rfl).old _).old _
  have hstr : W1.heap[W0.heap.size]? = some (.cells #[.string ⟨#[110, 111, 116]⟩, .string ⟨#[114, 101]⟩, .string ⟨#[105, 109]⟩, .string ⟨#[116, 117, 114, 110]⟩] 9 (0, 0)) := (hT91.block _ (by omega) (fun x => x)).trans hstr0
  have hops : W1.heap[W9.heap.size]? = some (.cells #[.int .i64 14, .int .i64 16, .int .i64 17, .int .i64 18] 3 (0, 0)) := by rw [← hW1]; exact alloc_blk _ _ _ rfl
  have hocell : ∀ (i : Nat) (q : Int), unOps[i]? = some q → W1.cell? ⟨w.heap.size + 1, i, none⟩ = some (.string (bs (wordB q))) ∧ W1.cell? ⟨w.heap.size + 2, i, none⟩ = some (.int .i64 q) := by
    intro i q hi
    rw [hs9] at hops
    rw [hs0] at hstr
    have hl := (List.getElem?_eq_some_iff.1 hi).1
    have : i = 0 ∨ i = 1 ∨ i = 2 ∨ i = 3 := by simp [unOps] at hl; omega
    rcases this with rfl | rfl | rfl | rfl <;> simp [unOps] at hi <;> subst hi <;> exact ⟨cell_blk hstr _, cell_blk hops _⟩
  have hgp := h.lt
  have hgl := h.tl.lt
  have HP := Lib.hid (h.touch hT1)
  have HB4 := Lib.hid hb4
  have HT1 := Lib.hid hT1
  have HOC := Lib.hid hocell
  have HH := Lib.hid (And.intro HU (And.intro HR (And.intro hnk (And.intro hD (And.intro hD2 hD3)))))
  clear h hT0 hT01 hb4 hT1 hops hocell HU HR hnk hd1 hds hD hD2 hD3 hstr hstr0 hT09 hT91
  go_enter Tryz.func60, Tryz.ntmps60
  go_wp2
  go_loopw [7] (fun v7 wr => UnRel ts k 0 W1 v7 wr) (fun v7 _ => 4 - (intOf v7).toNat)
  case atStart => exact ⟨0, by omega, rfl, fun j q hj => by omega, Touch.refl _ _⟩
  case round =>
    obtain ⟨i, hi, rfl, hno, hTr⟩ := hrel
    by_cases hlt : i < 4
    · obtain ⟨kd, hkd⟩ : ∃ kd, unOps[i]? = some kd := ⟨unOps[i]'(by simp [unOps]; exact hlt), List.getElem?_eq_getElem _⟩
      have hwrs : w.heap.size + 3 ≤ wr.heap.size := by have := hTr.size; omega
      have hcell : wr.cell? ⟨w.heap.size + 1, i, none⟩ = some (.string (bs (wordB kd))) := (hTr.cell (p := ⟨w.heap.size + 1, i, none⟩) (by simp only; omega) (fun x => x)).trans (HOC.out i kd hkd).1
      have HPr := Lib.hid (HP.out.touch hTr)
      have HNo := Lib.hid (And.intro hno (And.intro hkd hTr))
      have HTAK := Lib.hid (fun hf => rtake_no (s := wordB kd) HPr.out hf)
      have HTAY := Lib.hid (fun hf => rtake_yes (s := wordB kd) HPr.out hf)
      obtain ⟨sw, hsw⟩ : ∃ sw, bs (wordB kd) = sw := ⟨_, rfl⟩
      rw [hsw] at hcell HTAK HTAY
      clear hno hkd hTr hsw
      cases ha : acc (nxt ts k 0) (wordB kd)
      · have HA := Lib.hid (HTAK.out ha)
        have HX := Lib.hid ha
        clear ha
        go_wp2_with fail
        refine HA.out.mono ?_
        rintro x w2 ⟨rfl, h1, h2⟩
        have HT := Lib.hid (HNo.out.2.2.same h2)
        clear h1 h2
        go_wp2
        go_roundw
        case rel =>
          refine ⟨i + 1, by omega, by go_num, fun j q hj hq => ?_, HT.out⟩
          by_cases ej : j = i
          · subst ej
            have := HNo.out.2.1.symm.trans hq
            injection this with this
            subst this
            exact HX.out
          · exact HNo.out.1 j q (by omega) hq
        case measure => simp [intOf]; omega
      · have HA := Lib.hid (HTAY.out ha)
        have HX := Lib.hid (show firstK ts k 0 [14, 16, 17, 18] = some kd from first_at HNo.out.2.1 HNo.out.1 ha)
        clear ha
        go_wp2_with fail
        refine HA.out.mono ?_
        rintro x V ⟨rfl, hp, hT⟩
        have hTV : Touch (AtB gp) W1 V := (Touch.anyB HNo.out.2.2).same hT
        have HC := Lib.hid (HH.out.1 V (k + 1) 0 hp)
        have HTV := Lib.hid hTV
        have hVs : w.heap.size + 3 ≤ V.heap.size := by have := hTV.size; omega
        clear hp hT hTV
        go_wp2_with fail
        refine HC.out.mono ?_
        rintro r w2 ⟨hT2, y, k2, e2, a2, b2, s2, A2, m2, c2', rfl, hy2, hp2, ho2, hyd⟩
        have hs2 := hT2.size
        obtain ⟨W3, hW3⟩ : ∃ W, w2.alloc (.cells #[.int .i64 a2, .int .i64 b2, .string s2, .slice A2 m2 c2'] 44) = W := ⟨_, rfl⟩
        have tA : Touch NoB w2 W3 := by rw [← hW3]; exact (Touch.refl _ _).alloc _
        obtain ⟨q8, hq8⟩ : ∃ q8, w2.heap.size = q8 := ⟨_, rfl⟩
        have hxy : XB W3 q8 a2 b2 s2 A2 m2 c2' := by rw [← hW3]; exact XB.new _ _ _ _ _ _ _ hq8
        have hT13 : Touch (AtB gp) W1 W3 := HTV.out.same (hT2.same (Touch.anyB tA))
        have hkd3 : W3.cell? ⟨w.heap.size + 2, i, none⟩ = some (.int .i64 kd) := (hT13.cell (p := ⟨w.heap.size + 2, i, none⟩) (by simp only; omega) (by unfold AtB; simp only; omega)).trans (HOC.out i kd HNo.out.2.1).2
        have rk : W3.drew.cell? ⟨w.heap.size + 2, i, none⟩ = some (.int .i64 kd) := hkd3
        obtain ⟨u70, u71, u72, u73, u74⟩ := hxy.cells
        have y70 : W3.drew.cell? ⟨q8, 0, none⟩ = some (.int .i64 a2) := u70
        have y71 : W3.drew.cell? ⟨q8, 1, none⟩ = some (.int .i64 b2) := u71
        have y72 : W3.drew.cell? ⟨q8, 2, none⟩ = some (.string s2) := u72
        have y73 : W3.drew.cell? ⟨q8, 3, none⟩ = some (.slice A2 m2 c2') := u73
        obtain ⟨W4, hW4⟩ : ∃ W, W3.drew.alloc (.cells #[.int .i64 a2, .int .i64 b2, .string s2, .slice A2 m2 c2'] 44) = W := ⟨_, rfl⟩
        have tB : Touch NoB W3 W4 := by rw [← hW4]; exact (Touch.refl NoB W3).drew.alloc _
        have rk4 : W4.cell? ⟨w.heap.size + 2, i, none⟩ = some (.int .i64 kd) := (tB.cell (p := ⟨w.heap.size + 2, i, none⟩) (by have := hT13.size; simp only; omega) (fun x => x)).trans hkd3
        have hl3 : w.heap.size + 2 < W3.heap.size := by have := hT13.size; omega
        have hl4 : w.heap.size + 2 < W4.heap.size := Nat.lt_of_lt_of_le hl3 tB.size
        obtain ⟨q13, hq13⟩ : ∃ q13, W3.heap.size = q13 := ⟨_, rfl⟩
        have hq13' : W3.drew.heap.size = q13 := hq13
        have het : ET W4 (fun b => NoB b ∨ V.heap.size ≤ b) (.one kd y) kd 0 ⟨#[]⟩ (some ⟨q13, 0, none⟩) 1 1 := by
          rw [← hW4]
          exact ((hy2.touch0 tA).touch0 (Touch.refl NoB W3).drew).mk1 kd hq13' (.inr (by have := tA.size; omega))
        have hdd : (Ex.one kd y).depth ≤ D + 1 := by simp only [Ex.depth]; omega
        have hp3 := (hp2.touch tA).touch tB
        have HF := Lib.hid (rmade_any hp3 het (by have := HH.out.2.2.2.2; have := HH.out.2.2.2.1; omega))
        obtain ⟨e4, he4⟩ : ∃ e4, (if e2 = 0 ∧ 40 < (Ex.one kd y).depth then 4 else e2) = e4 := ⟨_, rfl⟩
        have hopre := out_pre HX.out ho2
        rw [he4] at HF hopre
        have HO2 := Lib.hid (And.intro hopre hdd)
        have HT2 := Lib.hid (And.intro (hT13.same (Touch.anyB tB)) (And.intro het (hp3.nox (fun b => NoB b ∨ V.heap.size ≤ b))))
        clear hT2 hy2 hp2 ho2 hyd tA hxy hT13 hkd3 u70 u71 u72 u73 tB het hdd hp3 he4 hopre HC
        go_wp2_with fail
        go_region_law
          (go_simp
           go_at_call 62
           try rw [hW4]
           refine HF.out.mono ?_
           rintro r w4 ⟨rfl, hp4, hT4⟩
           have HQ := Lib.hid (And.intro hp4 (HT2.out.1.same hT4))
           have HZ := Lib.hid (HT2.out.2.1.touch hT4 HT2.out.2.2)
           clear hp4 hT4
           have hb4 := HB4.out.go HQ.out.2 (by omega)
           obtain ⟨z0, z1, z2, z3, z4⟩ := hb4.cells
           obtain ⟨f0, f1, f2, f3⟩ := hb4.free
           clear hb4)
        all_goals
          go_wp2
          have hTE := touch4 (F := AtB gp) ((Touch.anyB (F := AtB gp) HT1.out).same HQ.out.2) (.inr (Nat.le_refl w.heap.size)) (.int .i64 kd) (.int .i64 0) (.string ⟨#[]⟩) (.slice (some ⟨q13, 0, none⟩) 1 1)
          have hTX := touch4 (F := fun b => b = w.heap.size) (Touch.refl _ w4) (.inl rfl) (.int .i64 kd) (.int .i64 0) (.string ⟨#[]⟩) (.slice (some ⟨q13, 0, none⟩) 1 1)
          exact bodyPost_ret (v := .agg #[.int .i64 kd, .int .i64 0, .string ⟨#[]⟩, .slice (some ⟨q13, 0, none⟩) 1 1]) (by simp [results, Tryz.results60, go_sem, z0, z1, z2, z3]) rfl ⟨hTE, .one kd y, k2, e4, _, _, _, _, _, _, rfl, (HZ.out.aside hTX (by intro q; rcases q with q | q; exact q.elim; omega)).via (fun b h1 _ => by rcases h1 with h1 | h1; exact h1.elim; exact .inr (by omega)), HQ.out.1.touchX hTX hgp hgl, HO2.out.1, by have := HO2.out.2; have := HH.out.2.2.2.1; omega⟩
    · obtain rfl : i = 4 := by omega
      have HX : Hid (firstK ts k 0 [14, 16, 17, 18] = none) := Lib.hid (first_none (fun j q hj hq => hno j q (by simpa using hj) hq))
      have HPr := Lib.hid (HP.out.touch hTr)
      have HTr := Lib.hid hTr
      have hwrs : w.heap.size + 3 ≤ wr.heap.size := by have := hTr.size; omega
      clear hno hTr
      cases ha : acc (nxt ts k 0) [45]
      · have HA : Hid (Calls Tryz.prog 16 #[.pointer (some ⟨gp, 0, none⟩), .string ⟨#[45]⟩] wr fun x w' => x = .returned (.bool false) ∧ RS w' gp g n cp ts k 0 ∧ Touch NoB wr w') := Lib.hid (rtake_no (s := [45]) HPr.out ha)
        have HAF := Lib.hid ha
        clear ha
        go_wp2_with fail
        refine HA.out.mono ?_
        rintro r V ⟨rfl, hp, hT⟩
        have hTV : Touch NoB W1 V := HTr.out.same hT
        have HC := Lib.hid (HH.out.2.1 V k hp)
        have hVs : w.heap.size < V.heap.size := by have := hTV.size; omega
        have HTV := Lib.hid hTV
        clear hp hT hTV
        go_wp2_with fail
        refine HC.out.mono ?_
        rintro r w4 ⟨hT4, z, k3, e3, a3, b3, s3, A3, m3, c3, rfl, hz, hp4, ho4, hzd⟩
        have HQ := Lib.hid (And.intro hp4 ((Touch.anyB HTV.out).same hT4))
        have HZ := Lib.hid (And.intro hz (And.intro (out_pri HX.out HAF.out ho4) hzd))
        clear hp4 hT4 hz ho4 hzd
        have hb4 := HB4.out.go HQ.out.2 (by omega)
        obtain ⟨z0, z1, z2, z3, z4⟩ := hb4.cells
        obtain ⟨f0, f1, f2, f3⟩ := hb4.free
        clear hb4
        go_wp2
        have hTE := touch4 (F := AtB gp) ((Touch.anyB (F := AtB gp) HT1.out).same HQ.out.2) (.inr (Nat.le_refl w.heap.size)) (.int .i64 a3) (.int .i64 b3) (.string s3) (.slice A3 m3 c3)
        have hTX := touch4 (F := fun b => b = w.heap.size) (Touch.refl _ w4) (.inl rfl) (.int .i64 a3) (.int .i64 b3) (.string s3) (.slice A3 m3 c3)
        exact bodyPost_ret (v := .agg #[.int .i64 a3, .int .i64 b3, .string s3, .slice A3 m3 c3]) (by simp [results, Tryz.results60, go_sem, z0, z1, z2, z3]) rfl ⟨hTE, z, k3, e3, _, _, _, _, _, _, rfl, (HZ.out.1.aside hTX (by intro q; rcases q with q | q; exact q.elim; omega)).via (fun b h1 _ => by rcases h1 with h1 | h1; exact h1.elim; exact .inr (by omega)), HQ.out.1.touchX hTX hgp hgl, HZ.out.2.1, by have := HZ.out.2.2; have := HH.out.2.2.2.2.1; omega⟩
      · have HA : Hid (Calls Tryz.prog 16 #[.pointer (some ⟨gp, 0, none⟩), .string ⟨#[45]⟩] wr fun x w' => x = .returned (.bool true) ∧ RS w' gp g n cp ts (k + 1) 0 ∧ Touch (AtB gp) wr w') := Lib.hid (rtake_yes (s := [45]) HPr.out ha)
        have HOn := Lib.hid (out_neg (m := m) HX.out ha)
        clear ha
        go_wp2_with fail
        refine HA.out.mono ?_
        rintro r V ⟨rfl, hp, hT⟩
        have HTV := Lib.hid (And.intro ((Touch.anyB (F := AtB gp) HTr.out).same hT) hp)
        clear hp hT
        cases hnm : numAt ts (k + 1) with
        | some q =>
          have hq := HH.out.2.2.1.1 (k + 1) q hnm
          have HNM := Lib.hid (rnumber_yes HTV.out.2 hnm)
          have HO := Lib.hid (HOn.out.1 q hnm)
          have hng : IntKind.i64.wrap (-(q : Int)) = -(q : Int) := IntWalk.i64_in _ (by omega)
          clear hnm
          go_wp2_with fail
          refine HNM.out.mono ?_
          rintro r V2 ⟨rfl, hp, hT⟩
          have HQ := Lib.hid (And.intro hp (HTV.out.1.same hT))
          clear hp hT
          have hb4 := HB4.out.go HQ.out.2 (by omega)
          obtain ⟨z0, z1, z2, z3, z4⟩ := hb4.cells
          obtain ⟨f0, f1, f2, f3⟩ := hb4.free
          clear hb4
          obtain ⟨nq, hnq⟩ : ∃ nq, -(q : Int) = nq := ⟨_, rfl⟩
          rw [hnq] at hng HO
          go_wp2
          have hTE := touch4 (F := AtB gp) ((Touch.anyB (F := AtB gp) HT1.out).same HQ.out.2) (.inr (Nat.le_refl w.heap.size)) (.int .i64 0) (.int .i64 nq) (.string ⟨#[]⟩) (.slice none 0 0)
          have hTX := touch4 (F := fun b => b = w.heap.size) (Touch.refl _ V2) (.inl rfl) (.int .i64 0) (.int .i64 nq) (.string ⟨#[]⟩) (.slice none 0 0)
          exact bodyPost_ret (v := .agg #[.int .i64 0, .int .i64 nq, .string ⟨#[]⟩, .slice none 0 0]) (by simp [results, Tryz.results60, go_sem, z0, z1, z2, z3]) rfl ⟨hTE, .leaf 0 nq [], k + 1 + 1, 0, _, _, _, _, _, _, rfl, ⟨rfl, rfl, rfl, rfl, rfl, rfl⟩, HQ.out.1.touchX hTX hgp hgl, HO.out, by simp only [Ex.depth]; have := HH.out.2.2.2.1; omega⟩
        | none =>
          have HNM := Lib.hid (rnumber_no HTV.out.2 hnm)
          have HO := Lib.hid (HOn.out.2 hnm)
          clear hnm
          go_wp2_with fail
          refine HNM.out.mono ?_
          rintro r V2 ⟨rfl, hp, hT⟩
          have HQ := Lib.hid (And.intro hp (HTV.out.1.same hT))
          clear hp hT
          have hb4 := HB4.out.go HQ.out.2 (by omega)
          obtain ⟨z0, z1, z2, z3, z4⟩ := hb4.cells
          obtain ⟨f0, f1, f2, f3⟩ := hb4.free
          clear hb4
          go_wp2
          have hTE := touch4 (F := AtB gp) ((Touch.anyB (F := AtB gp) HT1.out).same HQ.out.2) (.inr (Nat.le_refl w.heap.size)) (.int .i64 0) (.int .i64 0) (.string ⟨#[]⟩) (.slice none 0 0)
          have hTX := touch4 (F := fun b => b = w.heap.size) (Touch.refl _ V2) (.inl rfl) (.int .i64 0) (.int .i64 0) (.string ⟨#[]⟩) (.slice none 0 0)
          exact bodyPost_ret (v := .agg #[.int .i64 0, .int .i64 0, .string ⟨#[]⟩, .slice none 0 0]) (by simp [results, Tryz.results60, go_sem, z0, z1, z2, z3]) rfl ⟨hTE, .leaf 0 0 [], k + 1, 2, _, _, _, _, _, _, rfl, ⟨rfl, rfl, rfl, rfl, rfl, rfl⟩, HQ.out.1.touchX hTX hgp hgl, HO.out, by simp only [Ex.depth]; have := HH.out.2.2.2.1; omega⟩
end Go.Proofs.YtnphaaahdlkmhaaGreat
