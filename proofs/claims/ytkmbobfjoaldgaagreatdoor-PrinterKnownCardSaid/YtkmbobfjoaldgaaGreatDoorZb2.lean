/-
  What package printer's change and act write. Conditions: numbers fit; those that each theorem names.
-/
import Derived.Test.YtkmbobfjoaldgaaGreatDoorZb1
namespace Go.Proofs.YtkmbobfjoaldgaaGreatDoor
open Go.ChangeShapes Go.WideShapes Go.ChangeAt Go.RowKit
set_option maxRecDepth 100000
set_option maxHeartbeats 4000000

/-- A make, however its sign is written. -/
theorem change_as {w : World} {B b : Nat} {l : Bs} (hw : WB w B b l) (ht : TbB B w) (nm : Bs) (ad : Bool) (n : Int) (h0 : -9223372036854775807 ≤ n) (h1 : n ≤ 9223372036854775807) (sg : Bs) (k : Int)
    (hs : (ad = false ∧ sg = [61] ∧ k = n) ∨ (ad = true ∧ n < 0 ∧ sg = [45] ∧ k = -n) ∨ (ad = true ∧ ¬ n < 0 ∧ sg = [43] ∧ k = n)) (hl : l.length + (lnL 2 [makeB, nm, sg, Lib.itoa k, [59]]).length ≤ 900000) :
    Calls Tryz.prog 102 #[.pointer (some ⟨b, 0, none⟩), .agg #[.string (bs nm), .bool ad, .int .i64 n]] w fun e w' => e = .returned (.tuple #[]) ∧ WB w' B b (l ++ lnL 2 [makeB, nm, sg, Lib.itoa k, [59]]) ∧ Wr B b w w' := by
  obtain ⟨W0, hW0⟩ : ∃ W, w.alloc (.cells #[.string (bs nm), .bool ad, .int .i64 n] 131) = W := ⟨_, rfl⟩
  have t0 : Touch NoB w W0 := by rw [← hW0]; exact (Touch.refl _ _).alloc _
  have hb : B3 W0 131 w.heap.size (.string (bs nm)) (.bool ad) (.int .i64 n) := by rw [← hW0]; exact B3.new _ _ _ _ _ rfl
  have hB := hw.leB
  have HLN := Lib.hid (fun (cur W5 : World) (t : Touch NoB w cur) (e : cur.alloc (.cells #[.string ⟨#[109, 97, 107, 101]⟩, .string (bs nm), .string (bs sg), .string (bs (Lib.itoa k)), .string ⟨#[59]⟩] 9) = W5) => line_lit hw t 2 [makeB, nm, sg, Lib.itoa k, [59]] (m := 5) rfl rfl e hl (by omega))
  have HIT := Lib.hid (fun (cur : World) (t : Touch NoB w cur) => itoa_at hB ht t k (by omega) (by omega))
  have HBK := Lib.hid (fun (W : World) (t : Touch NoB W0 W) => B3.cells ((t.block _ (blk_lt hb) (fun x => x)).trans hb))
  obtain ⟨x0, x1, x2, xl⟩ := HBK.out W0 (Touch.refl _ _)
  obtain ⟨y0, y1, y2, yl⟩ := HBK.out W0.drew (Touch.refl _ _).drew
  obtain ⟨z0, z1, z2, zl⟩ := HBK.out W0.drew.drew (Touch.refl _ _).drew.drew
  have HT := Lib.hid (show Touch NoB w W0.drew.drew from t0.drew.drew)
  have HTT := Lib.hid (show Touch NoB W0 W0.drew.drew from (Touch.refl _ _).drew.drew)
  clear hw ht hl t0 hb hB
  rcases hs with ⟨rfl, rfl, hk⟩ | ⟨rfl, hn, rfl, hk⟩ | ⟨rfl, hn, rfl, hk⟩
  · obtain rfl : n = k := hk.symm
    go_enter Tryz.func102, Tryz.ntmps102
    go_wp2_with fail
    go_region
    go_wp2_with fail
    go_region_law (first
      | (go_simp; go_at_call 64; refine (HIT.out _ HT.out).mono ?_
         rintro r w1 ⟨rfl, hT1⟩
         have hx := HT.out.same hT1
         have hy := HTT.out.same hT1
         obtain ⟨x0, x1, x2, xl⟩ := HBK.out _ hy
         clear HT HTT
         have HT := Lib.hid hx
         have HTT := Lib.hid hy
         clear hx hy hT1)
      | (go_simp; go_at_call 60; refine (HLN.out _ _ HT.out rfl).mono ?_
         rintro r w1 ⟨rfl, hw1, hk1⟩
         have HG := Lib.hid (And.intro hw1 hk1)
         clear hw1 hk1))
    all_goals
      go_wp2
      go_end0
      exact ⟨rfl, HG.out.1, HG.out.2⟩
  · obtain rfl : k = -n := hk
    have hneg : IntKind.i64.wrap (-n) = -n := IntWalk.i64_in _ (by omega)
    have hlt : decide (n < 0) = true := by simpa using hn
    go_enter Tryz.func102, Tryz.ntmps102
    go_wp2_with fail
    go_region
    go_wp2_with fail
    go_region_law (first
      | (go_simp; go_at_call 64; refine (HIT.out _ HT.out).mono ?_
         rintro r w1 ⟨rfl, hT1⟩
         have hx := HT.out.same hT1
         have hy := HTT.out.same hT1
         obtain ⟨x0, x1, x2, xl⟩ := HBK.out _ hy
         clear HT HTT
         have HT := Lib.hid hx
         have HTT := Lib.hid hy
         clear hx hy hT1)
      | (go_simp; go_at_call 60; refine (HLN.out _ _ HT.out rfl).mono ?_
         rintro r w1 ⟨rfl, hw1, hk1⟩
         have HG := Lib.hid (And.intro hw1 hk1)
         clear hw1 hk1))
    all_goals
      go_wp2
      go_end0
      exact ⟨rfl, HG.out.1, HG.out.2⟩
  · obtain rfl : n = k := hk.symm
    have hlt : decide (n < 0) = false := by simp; omega
    go_enter Tryz.func102, Tryz.ntmps102
    go_wp2_with fail
    go_region
    go_wp2_with fail
    go_region_law (first
      | (go_simp; go_at_call 64; refine (HIT.out _ HT.out).mono ?_
         rintro r w1 ⟨rfl, hT1⟩
         have hx := HT.out.same hT1
         have hy := HTT.out.same hT1
         obtain ⟨x0, x1, x2, xl⟩ := HBK.out _ hy
         clear HT HTT
         have HT := Lib.hid hx
         have HTT := Lib.hid hy
         clear hx hy hT1)
      | (go_simp; go_at_call 60; refine (HLN.out _ _ HT.out rfl).mono ?_
         rintro r w1 ⟨rfl, hw1, hk1⟩
         have HG := Lib.hid (And.intro hw1 hk1)
         clear hw1 hk1))
    all_goals
      go_wp2
      go_end0
      exact ⟨rfl, HG.out.1, HG.out.2⟩
theorem change_any {w : World} {B b : Nat} {l : Bs} (hw : WB w B b l) (ht : TbB B w) (m : Mk) (h0 : -9223372036854775807 ≤ m.n) (h1 : m.n ≤ 9223372036854775807) (hl : l.length + (mkL m).length ≤ 900000) :
    Calls Tryz.prog 102 #[.pointer (some ⟨b, 0, none⟩), .agg #[.string (bs m.nm), .bool m.add, .int .i64 m.n]] w fun e w' => e = .returned (.tuple #[]) ∧ WB w' B b (l ++ mkL m) ∧ Wr B b w w' := by
  obtain ⟨nm, ad, n⟩ := m
  simp only at h0 h1 ⊢
  unfold mkL at hl ⊢
  simp only at hl ⊢
  cases ad with
  | false => exact change_as hw ht nm false n h0 h1 [61] n (.inl ⟨rfl, rfl, rfl⟩) (by simpa using hl)
  | true =>
    by_cases hn : n < 0
    · simp only [hn, if_true, and_self] at hl ⊢
      exact change_as hw ht nm true n h0 h1 [45] (-n) (.inr (.inl ⟨rfl, hn, rfl, rfl⟩)) hl
    · simp only [hn, if_true, if_false, and_false] at hl ⊢
      exact change_as hw ht nm true n h0 h1 [43] n (.inr (.inr ⟨rfl, hn, rfl, rfl⟩)) hl
end Go.Proofs.YtkmbobfjoaldgaaGreatDoor

/-
  What package printer's key writes. Conditions: those that the theorem names.
-/
namespace Go.Proofs.YtkmbobfjoaldgaaGreatDoor
open Go.ChangeShapes Go.WideShapes Go.ChangeAt Go.RowKit
set_option maxRecDepth 100000
set_option maxHeartbeats 4000000

theorem wkey_own {w : World} {B b : Nat} {l : Bs} (hw : WB w B b l) (nm : Bs) (kd : Nat) (sh : Bool) (i : Nat) (own : Bs) (hs : sh = false ∧ i = 0 ∧ own = [111, 119, 110]) (hl : l.length + (lnL 0 [keyB, own, nm, kindW.getD kd [], [59]]).length ≤ 900000) :
    Calls Tryz.prog 31 #[.pointer (some ⟨b, 0, none⟩), .agg #[.string (bs nm), .int .i64 (kd : Int), .bool sh]] w fun e w' => e = .returned (.tuple #[]) ∧ WB w' B b (l ++ lnL 0 [keyB, own, nm, kindW.getD kd [], [59]]) ∧ Wr B b w w' := by
  obtain ⟨W0, hW0⟩ : ∃ W, w.alloc (.cells #[.string (bs nm), .int .i64 (kd : Int), .bool sh] 62) = W := ⟨_, rfl⟩
  have t0 : Touch NoB w W0 := by rw [← hW0]; exact (Touch.refl _ _).alloc _
  have hb : B3 W0 62 w.heap.size (.string (bs nm)) (.int .i64 (kd : Int)) (.bool sh) := by rw [← hW0]; exact B3.new _ _ _ _ _ rfl
  have HLN := Lib.hid (fun (cur W5 : World) (t : Touch NoB w cur) (e : cur.alloc (.cells #[.string ⟨#[107, 101, 121]⟩, .string (bs own), .string (bs nm), .string (bs (kindW.getD kd [])), .string ⟨#[59]⟩] 9) = W5) => line_lit hw t 0 [keyB, own, nm, kindW.getD kd [], [59]] (m := 5) rfl rfl e hl (by omega))
  have HT := Lib.hid (show Touch NoB w W0.drew from t0.drew)
  have HBK := Lib.hid (fun (W : World) (t : Touch NoB W0 W) => B3.cells ((t.block _ (blk_lt hb) (fun x => x)).trans hb))
  obtain ⟨u0, u1, u2, ul⟩ := HBK.out W0 (Touch.refl _ _)
  obtain ⟨x0, x1, x2, xl⟩ := HBK.out W0.drew (Touch.refl _ _).drew
  have HTT := Lib.hid (show Touch NoB W0 W0.drew from (Touch.refl _ _).drew)
  have HO := Lib.hid (fun (W : World) (q : Nat) (h : WdAt W q 2 ownW) => h.2.2 i own (by obtain ⟨-, rfl, rfl⟩ := hs; rfl))
  have hi : i < 2 := by obtain ⟨-, rfl, rfl⟩ := hs; omega
  obtain ⟨kw, hkw⟩ : ∃ z, kindW.getD kd [] = z := ⟨_, rfl⟩
  rw [hkw] at HLN ⊢
  obtain ⟨ow, how⟩ : ∃ z, bs own = z := ⟨_, rfl⟩
  rw [how] at HLN HO
  clear hw hl t0 hb
  obtain ⟨rfl, rfl, h3⟩ := hs
  clear h3 how
  go_enter Tryz.func31, Tryz.ntmps31
  go_wp2_with fail
  go_region_law (first
    | (go_simp; go_at_call 61; refine (owners_any _).mono ?_
       rintro r w1 ⟨q, rfl, hq, hT1⟩
       have hx := HT.out.same hT1
       have hy := HTT.out.same hT1
       obtain ⟨x0, x1, x2, xl⟩ := HBK.out _ hy
       clear HT HTT
       have HT := Lib.hid hx
       have HTT := Lib.hid hy
       have oc := HO.out _ _ hq
       have HQO := Lib.hid hq
       have hql := hq.2.1
       (try (have hv := HQV.out.touch hT1; clear HQV; have HQV := Lib.hid hv; clear hv))
       clear hx hy hq hT1)
    | (go_simp; go_at_call 63; refine (values_any _).mono ?_
       rintro r w1 ⟨q, rfl, hq, hT1⟩
       have hx := HT.out.same hT1
       have hy := HTT.out.same hT1
       obtain ⟨x0, x1, x2, xl⟩ := HBK.out _ hy
       clear HT HTT
       have HT := Lib.hid hx
       have HTT := Lib.hid hy
       have HQV := Lib.hid hq
       (try (have ho := HQO.out.touch hT1; clear HQO; have HQO := Lib.hid ho; have oc := HO.out _ _ ho; have hql := ho.2.1; clear ho))
       clear hx hy hq hT1)
    | (go_simp; go_at_call 62; refine (word_any HQV.out kd).mono ?_
       rintro r w1 ⟨rfl, rfl⟩
       rw [hkw])
    | (go_simp; go_at_call 60; refine (HLN.out _ _ HT.out rfl).mono ?_
       rintro r w1 ⟨rfl, hw1, hk1⟩
       have HG := Lib.hid (And.intro hw1 hk1)
       clear hw1 hk1))
  all_goals
    go_wp2
    go_end0
    exact ⟨rfl, HG.out.1, HG.out.2⟩
end Go.Proofs.YtkmbobfjoaldgaaGreatDoor
