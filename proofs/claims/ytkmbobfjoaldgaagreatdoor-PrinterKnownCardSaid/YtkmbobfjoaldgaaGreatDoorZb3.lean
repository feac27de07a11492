/-
  What package printer's key writes. Conditions: those that the theorem names.
-/
import Derived.Test.YtkmbobfjoaldgaaGreatDoorZb1
import Derived.Test.YtkmbobfjoaldgaaGreatDoorZb2
import Derived.Test.YtkmbobfjoaldgaaGreatDoorZa16
namespace Go.Proofs.YtkmbobfjoaldgaaGreatDoor
open Go.ChangeShapes Go.WideShapes Go.ChangeAt Go.RowKit
set_option maxRecDepth 100000
set_option maxHeartbeats 4000000

theorem wkey_shd {w : World} {B b : Nat} {l : Bs} (hw : WB w B b l) (nm : Bs) (kd : Nat) (sh : Bool) (i : Nat) (own : Bs) (hs : sh = true ∧ i = 1 ∧ own = [115, 104, 97, 114, 101, 100]) (hl : l.length + (lnL 0 [keyB, own, nm, kindW.getD kd [], [59]]).length ≤ 900000) :
    Calls Tryz.prog 31 #[.pointer (some ⟨b, 0, none⟩), .agg #[.string (bs nm), .int .i64 (kd : Int), .bool sh]] w fun e w' => e = .returned (.tuple #[]) ∧ WB w' B b (l ++ lnL 0 [keyB, own, nm, kindW.getD kd [], [59]]) ∧ Wr B b w w' := by
  obtain ⟨W0, hW0⟩ : ∃ W, w.alloc (.cells #[.string (bs nm), .int .i64 (kd : Int), .bool sh] 62) = W := ⟨_, rfl⟩
  have t0 : Touch NoB w W0 := by rw [← hW0]; exact (Touch.refl _ _).alloc _
  have hb : B3 W0 62 w.heap.size (.string (bs nm)) (.int .i64 (kd : Int)) (.bool sh) := by rw [← hW0]; exact B3.new _ _ _ _ _ rfl
  have HLN := Lib.hid (fun (cur W5 : World) (t : Touch NoB w cur) (e : cur.alloc (.cells #[.string ⟨#[107, 101, 121]⟩, .string (bs own), .string (bs nm), .string (bs (kindW.getD kd [])), .string ⟨#[59]⟩] 9) = W5) => line_lit hw t 0 [keyB, own, nm, kindW.getD kd [], [59]] (m := 5) rfl rfl e hl (by omega))
  have HT := Lib.hid (show Touch NoB w W0.drew from t0.drew)
  have HBK := Lib.hid (fun (W : World) (t : Touch NoB W0 W) => B3.cells ((t.block _ (blk_lt hb) (fun x => x)).trans hb))
  obtain ⟨u0, u1, u2, ul⟩ := HBK.out W0 (Touch.refl _ _)
  obtain ⟨x0, x1, x2, xl⟩ := HBK.out W0.drew (Touch.refl _ _).drew
  have HTT := Lib.hid (show Touch NoB W0 W0.drew from (Touch.refl _ _).drew)
  have HO := Lib.hid (fun (W : World) (q : Nat) (h : WdAt W q 2 ownW) => h.2.2 i own (by obtain ⟨-, rfl, rfl⟩ := hs; rfl))
  have hi : i < 2 := by obtain ⟨-, rfl, rfl⟩ := hs; omega
  obtain ⟨kw, hkw⟩ : ∃ z, kindW.getD kd [] = z := ⟨_, rfl⟩
  rw [hkw] at HLN ⊢
  obtain ⟨ow, how⟩ : ∃ z, bs own = z := ⟨_, rfl⟩
  rw [how] at HLN HO
  clear hw hl t0 hb
  obtain ⟨rfl, rfl, h3⟩ := hs
  clear h3 how
  go_enter Tryz.func31, Tryz.ntmps31
  go_wp2_with fail
  go_region_law (first
    | (go_simp; go_at_call 61; refine (owners_any _).mono ?_
       rintro r w1 ⟨q, rfl, hq, hT1⟩
       have hx := HT.out.same hT1
       have hy := HTT.out.same hT1
       obtain ⟨x0, x1, x2, xl⟩ := HBK.out _ hy
       clear HT HTT
       have HT := Lib.hid hx
       have HTT := Lib.hid hy
       have oc := HO.out _ _ hq
       have HQO := Lib.hid hq
       have hql := hq.2.1
       (try (have hv := HQV.out.touch hT1; clear HQV; have HQV := Lib.hid hv; clear hv))
       clear hx hy hq hT1)
    | (go_simp; go_at_call 63; refine (values_any _).mono ?_
       rintro r w1 ⟨q, rfl, hq, hT1⟩
       have hx := HT.out.same hT1
       have hy := HTT.out.same hT1
       obtain ⟨x0, x1, x2, xl⟩ := HBK.out _ hy
       clear HT HTT
       have HT := Lib.hid hx
       have HTT := Lib.hid hy
       have HQV := Lib.hid hq
       (try (have ho := HQO.out.touch hT1; clear HQO; have HQO := Lib.hid ho; have oc := HO.out _ _ ho; have hql := ho.2.1; clear ho))
       clear hx hy hq hT1)
    | (go_simp; go_at_call 62; refine (word_any HQV.out kd).mono ?_
       rintro r w1 ⟨rfl, rfl⟩
       rw [hkw])
    | (go_simp; go_at_call 60; refine (HLN.out _ _ HT.out rfl).mono ?_
       rintro r w1 ⟨rfl, hw1, hk1⟩
       have HG := Lib.hid (And.intro hw1 hk1)
       clear hw1 hk1))
  all_goals
    go_wp2
    go_end0
    exact ⟨rfl, HG.out.1, HG.out.2⟩
end Go.Proofs.YtkmbobfjoaldgaaGreatDoor

/-
  What package printer's key writes. Conditions: those that the theorem names.
-/
namespace Go.Proofs.YtkmbobfjoaldgaaGreatDoor
open Go.ChangeShapes Go.WideShapes Go.ChangeAt Go.RowKit
set_option maxRecDepth 100000
set_option maxHeartbeats 4000000

theorem wkey_any {w : World} {B b : Nat} {l : Bs} (hw : WB w B b l) (k : Ky) (hl : l.length + (kyL k).length ≤ 900000) :
    Calls Tryz.prog 31 #[.pointer (some ⟨b, 0, none⟩), .agg #[.string (bs k.nm), .int .i64 (k.kd : Int), .bool k.sh]] w fun e w' => e = .returned (.tuple #[]) ∧ WB w' B b (l ++ kyL k) ∧ Wr B b w w' := by
  obtain ⟨nm, kd, sh⟩ := k
  unfold kyL at hl ⊢
  cases sh with
  | false => exact wkey_own hw nm kd false 0 _ ⟨rfl, rfl, rfl⟩ hl
  | true => exact wkey_shd hw nm kd true 1 _ ⟨rfl, rfl, rfl⟩ hl
end Go.Proofs.YtkmbobfjoaldgaaGreatDoor

/-
  What package printer's act writes. Conditions: numbers fit; those that the theorem names.
-/
namespace Go.Proofs.YtkmbobfjoaldgaaGreatDoor
open Go.ChangeShapes Go.WideShapes Go.ChangeAt Go.RowKit
set_option maxRecDepth 100000
set_option maxHeartbeats 4000000

theorem fl_take {α : Type} {f : α → Bs} {l : List α} {i : Nat} {x : α} (h : l[i]? = some x) : (l.take (i + 1)).flatMap f = (l.take i).flatMap f ++ f x := by
  rw [List.take_add_one, h, Option.toList_some, List.flatMap_append]
  simp
theorem fl_le {α : Type} (f : α → Bs) (l : List α) (i : Nat) : ((l.take i).flatMap f).length ≤ (l.flatMap f).length := by
  have h : (l.take i).flatMap f ++ (l.drop i).flatMap f = l.flatMap f := by rw [← List.flatMap_append, List.take_append_drop]
  rw [← h, List.length_append]
  omega
/-- A loop that writes a list's elements, one behind another. -/
def FlRel {α : Type} (w0 : World) (B b : Nat) (l : Bs) (f : α → Bs) (xs : List α) (v : Value) (wr : World) : Prop := ∃ i : Nat, i ≤ xs.length ∧ v = .int .i64 i ∧ WB wr B b (l ++ (xs.take i).flatMap f) ∧ Wr B b w0 wr
def cnOk (c : Cn) : Prop := -9223372036854775807 ≤ c.n ∧ c.n ≤ 9223372036854775807
def mkOk (c : Mk) : Prop := -9223372036854775807 ≤ c.n ∧ c.n ≤ 9223372036854775807
structure AcOk (a : Ac) : Prop where
  cost : (a.cost : Int) ≤ 9223372036854775807
  nl : a.need.length ≤ 1000
  ml : a.make.length ≤ 1000
  need : ∀ c ∈ a.need, cnOk c
  make : ∀ c ∈ a.make, mkOk c
theorem wact_any {w : World} {B b : Nat} {l : Bs} (hw : WB w B b l) (ht : TbB B w) (a : Ac) (ho : AcOk a) {A1 A2 : Option Addr} {c1 c2 : Nat}
    (h1 : SlAt w (fun k => k < B) (.slice A1 a.need.length c1) a.need.length (cnC a.need)) (h2 : SlAt w (fun k => k < B) (.slice A2 a.make.length c2) a.make.length (mkC a.make)) (hl : l.length + (acL a).length ≤ 900000) :
    Calls Tryz.prog 65 #[.pointer (some ⟨b, 0, none⟩), .agg #[.string (bs a.nm), .int .i64 (a.cost : Int), .slice A1 a.need.length c1, .slice A2 a.make.length c2]] w fun e w' => e = .returned (.tuple #[]) ∧ WB w' B b (l ++ acL a) ∧ Wr B b w w' := by
  obtain ⟨hco, hnl, hml, hne, hma⟩ := ho
  obtain ⟨L, hL⟩ : ∃ L, a.need.length = L := ⟨_, rfl⟩
  obtain ⟨M, hM⟩ : ∃ M, a.make.length = M := ⟨_, rfl⟩
  rw [hL] at h1 hnl
  rw [hM] at h2 hml
  rw [hL, hM]
  obtain ⟨X1, hX1⟩ : ∃ X, lnL 1 [actB, a.nm, [99, 111, 115, 116], Lib.itoa a.cost, [123]] = X := ⟨_, rfl⟩
  obtain ⟨X2, hX2⟩ : ∃ X, a.need.flatMap (cnL 2 needB) = X := ⟨_, rfl⟩
  obtain ⟨X3, hX3⟩ : ∃ X, a.make.flatMap mkL = X := ⟨_, rfl⟩
  obtain ⟨X4, hX4⟩ : ∃ X, lnL 1 [[125]] = X := ⟨_, rfl⟩
  have htx : acL a = X1 ++ X2 ++ X3 ++ X4 := by rw [← hX1, ← hX2, ← hX3, ← hX4]; rfl
  rw [htx] at hl ⊢
  simp only [List.length_append] at hl
  obtain ⟨W0, hW0⟩ : ∃ W, w.alloc (.cells #[.string (bs a.nm), .int .i64 (a.cost : Int), .slice A1 L c1, .slice A2 M c2] 106) = W := ⟨_, rfl⟩
  have t0 : Touch NoB w W0 := by rw [← hW0]; exact (Touch.refl _ _).alloc _
  have hb : B4 W0 106 w.heap.size (.string (bs a.nm)) (.int .i64 (a.cost : Int)) (.slice A1 L c1) (.slice A2 M c2) := by rw [← hW0]; exact B4.new _ _ _ _ _ _ rfl
  have hB := hw.leB
  have hbne : w.heap.size ≠ b := by have := hw.lt; omega
  have HLN := Lib.hid (fun (cur W5 : World) (t : Touch NoB W0 cur) (e : cur.alloc (.cells #[.string ⟨#[97, 99, 116]⟩, .string (bs a.nm), .string ⟨#[99, 111, 115, 116]⟩, .string (bs (Lib.itoa a.cost)), .string ⟨#[123]⟩] 9) = W5) => line_lit (hw.touch t0) t 1 [actB, a.nm, [99, 111, 115, 116], Lib.itoa a.cost, [123]] (m := 5) rfl rfl e (by rw [hX1]; omega) (by omega))
  rw [hX1] at HLN
  have HIT := Lib.hid (fun (cur : World) (t : Touch NoB w cur) => itoa_at hB ht t (a.cost : Int) (by omega) (by omega))
  have HBK := Lib.hid (fun (W : World) (t : Touch NoB W0 W) => B4.cells ((t.block _ (blk_lt hb) (fun x => x)).trans hb))
  have HBW := Lib.hid (fun (W : World) (t : Wr B b W0 W) => B4.cells (show B4 W 106 w.heap.size (.string (bs a.nm)) (.int .i64 (a.cost : Int)) (.slice A1 L c1) (.slice A2 M c2) from t.oth _ _ _ _ hb (by decide) hbne))
  obtain ⟨u0, u1, u2, u3, ul⟩ := HBK.out W0 (Touch.refl _ _)
  obtain ⟨x0, x1, x2, x3, xl⟩ := HBK.out W0.drew (Touch.refl _ _).drew
  have HT := Lib.hid (show Touch NoB w W0.drew from t0.drew)
  have HTT := Lib.hid (show Touch NoB W0 W0.drew from (Touch.refl _ _).drew)
  have HN := Lib.hid (fun (W : World) (t : Below B w W) => h1.touch t.touchB (fun _ h h' => by omega))
  have HM := Lib.hid (fun (W : World) (t : Below B w W) => h2.touch t.touchB (fun _ h h' => by omega))
  have HK := Lib.hid (And.intro hne (And.intro hma (And.intro hL (And.intro hM (And.intro ht hl)))))
  have HX := Lib.hid (And.intro hX2 (And.intro hX3 hX4))
  have HW0 := Lib.hid (Wr.touch (b := b) hB t0)
  clear hw ht hl t0 hb hB htx hX1 hX2 hX3 hX4 h1 h2 hne hma hL hM hbne
  go_enter Tryz.func65, Tryz.ntmps65
  go_wp2_with fail
  go_region_law (first
    | (go_simp; go_at_call 64; refine (HIT.out _ HT.out).mono ?_
       rintro r w1 ⟨rfl, hT1⟩
       have hx := HT.out.same hT1
       have hy := HTT.out.same hT1
       obtain ⟨x0, x1, x2, x3, xl⟩ := HBK.out _ hy
       clear HT HTT
       have HT := Lib.hid hx
       have HTT := Lib.hid hy
       clear hx hy hT1)
    | (go_simp; go_at_call 60; refine (HLN.out _ _ HTT.out rfl).mono ?_
       rintro r w1 ⟨rfl, hw1, hk1⟩
       have HG := Lib.hid (And.intro hw1 hk1)
       clear hw1 hk1))
  all_goals
    obtain ⟨v0, v1, v2, v3, vl⟩ := HBW.out _ HG.out.2
    go_wp2
    go_loopw [19] (fun v wr => FlRel W0 B b (l ++ X1) (cnL 2 needB) a.need v wr) (fun v _ => L - (intOf v).toNat)
    case atStart => exact ⟨0, Nat.zero_le _, rfl, by simpa using HG.out.1, HG.out.2⟩
    case round =>
      obtain ⟨i, hi, rfl, hwb, hwr⟩ := hrel
      rw [HK.out.2.2.1] at hi
      by_cases hlt : i < L
      · obtain ⟨y, hy⟩ : ∃ y, a.need[i]? = some y := ⟨a.need[i]'(by rw [HK.out.2.2.1]; exact hlt), List.getElem?_eq_getElem _⟩
        have hbw : Below B w wr := HW0.out.below.trans hwr.below
        obtain ⟨e0, e1, e2⟩ := cnC_at a.need i y hy
        obtain ⟨g, rfl, k0, k1, k2⟩ := (HN.out _ hbw).cells3 e0 e1 e2
        have htk := fl_take (f := cnL 2 needB) hy
        have hle := fl_le (cnL 2 needB) a.need (i + 1)
        rw [htk, List.length_append, HX.out.1] at hle
        obtain ⟨Wk, hWk⟩ : ∃ W, wr.alloc (.cells #[.string (bs y.nm), .int .i64 (y.op : Int), .int .i64 y.n] 118) = W := ⟨_, rfl⟩
        have tk : Touch NoB wr Wk := by rw [← hWk]; exact (Touch.refl _ _).alloc _
        have hkb : B3 Wk 118 wr.heap.size (.string (bs y.nm)) (.int .i64 (y.op : Int)) (.int .i64 y.n) := by rw [← hWk]; exact B3.new _ _ _ _ _ rfl
        obtain ⟨q0, q1, q2, ql⟩ := hkb.cells
        have hyo := HK.out.1 y (List.mem_of_getElem? hy)
        have HC := Lib.hid (cond_any (hwb.touch tk) (HK.out.2.2.2.2.1.go (hbw.trans (tk.belowB hwb.leB))) 2 needB y (by have := hyo.1; omega) hyo.2 (by have := HK.out.2.2.2.2.2; simp only [List.length_append]; omega))
        have HE := Lib.hid (And.intro htk (hwr.trans (Wr.touch hwb.leB tk)))
        have hbl := hwb.lt
        have hgl : g < wr.heap.size := by
          have := k0
          exact Nat.lt_of_not_le (fun hc => by rw [World.cell?, Array.getElem?_eq_none (by simpa using hc)] at this; cases this)
        clear hwb hwr hbw htk hle tk hkb hy e0 e1 e2 hyo
        go_wp2_with fail
        refine HC.out.mono ?_
        rintro r w2 ⟨rfl, hw2, hk2⟩
        have HG2 := Lib.hid (And.intro hw2 (HE.out.2.trans hk2))
        clear hw2 hk2
        go_wp2
        go_roundw
        case rel => exact ⟨i + 1, by rw [HK.out.2.2.1]; omega, by go_num, by rw [HE.out.1, ← List.append_assoc]; exact HG2.out.1, HG2.out.2⟩
        case measure => simp [intOf]; omega
      · obtain rfl : i = L := by omega
        rw [List.take_of_length_le (by rw [HK.out.2.2.1]; exact Nat.le_refl _), HX.out.1] at hwb
        obtain ⟨s0, s1, s2, s3, sl⟩ := HBW.out _ hwr
        have HE := Lib.hid (And.intro hwb hwr)
        clear hwb hwr v0 v1 v2 v3 vl
        go_wp2
        go_loopw [30] (fun v wr => FlRel W0 B b (l ++ X1 ++ X2) mkL a.make v wr) (fun v _ => M - (intOf v).toNat)
        case atStart => exact ⟨0, Nat.zero_le _, rfl, by simpa using HE.out.1, HE.out.2⟩
        case round =>
          obtain ⟨i, hi, rfl, hwb, hwr⟩ := hrel
          rw [HK.out.2.2.2.1] at hi
          by_cases hlt : i < M
          · obtain ⟨y, hy⟩ : ∃ y, a.make[i]? = some y := ⟨a.make[i]'(by rw [HK.out.2.2.2.1]; exact hlt), List.getElem?_eq_getElem _⟩
            have hbw : Below B w wr := HW0.out.below.trans hwr.below
            obtain ⟨e0, e1, e2⟩ := mkC_at a.make i y hy
            obtain ⟨g, rfl, k0, k1, k2⟩ := (HM.out _ hbw).cells3 e0 e1 e2
            have htk := fl_take (f := mkL) hy
            have hle := fl_le mkL a.make (i + 1)
            rw [htk, List.length_append, HX.out.2.1] at hle
            obtain ⟨Wk, hWk⟩ : ∃ W, wr.alloc (.cells #[.string (bs y.nm), .bool y.add, .int .i64 y.n] 131) = W := ⟨_, rfl⟩
            have tk : Touch NoB wr Wk := by rw [← hWk]; exact (Touch.refl _ _).alloc _
            have hkb : B3 Wk 131 wr.heap.size (.string (bs y.nm)) (.bool y.add) (.int .i64 y.n) := by rw [← hWk]; exact B3.new _ _ _ _ _ rfl
            obtain ⟨q0, q1, q2, ql⟩ := hkb.cells
            have hyo := HK.out.2.1 y (List.mem_of_getElem? hy)
            have HC := Lib.hid (change_any (hwb.touch tk) (HK.out.2.2.2.2.1.go (hbw.trans (tk.belowB hwb.leB))) y hyo.1 hyo.2 (by have := HK.out.2.2.2.2.2; simp only [List.length_append]; omega))
            have HE2 := Lib.hid (And.intro htk (hwr.trans (Wr.touch hwb.leB tk)))
            have hbl := hwb.lt
            have hgl : g < wr.heap.size := by
              have := k0
              exact Nat.lt_of_not_le (fun hc => by rw [World.cell?, Array.getElem?_eq_none (by simpa using hc)] at this; cases this)
            clear hwb hwr hbw htk hle tk hkb hy e0 e1 e2 hyo
            go_wp2_with fail
            refine HC.out.mono ?_
            rintro r w2 ⟨rfl, hw2, hk2⟩
            have HG2 := Lib.hid (And.intro hw2 (HE2.out.2.trans hk2))
            clear hw2 hk2
            go_wp2
            go_roundw
            case rel => exact ⟨i + 1, by rw [HK.out.2.2.2.1]; omega, by go_num, by rw [HE2.out.1, ← List.append_assoc]; exact HG2.out.1, HG2.out.2⟩
            case measure => simp [intOf]; omega
          · obtain rfl : i = M := by omega
            rw [List.take_of_length_le (by rw [HK.out.2.2.2.1]; exact Nat.le_refl _), HX.out.2.1] at hwb
            have HLN2 := Lib.hid (fun (W5 : World) (e : wr.alloc (.cells #[.string ⟨#[125]⟩] 9) = W5) => line_lit hwb (Touch.refl _ _) 1 [[125]] (m := 1) rfl rfl e (by rw [HX.out.2.2]; have := HK.out.2.2.2.2.2; simp only [List.length_append]; omega) (by omega))
            rw [HX.out.2.2] at HLN2
            have HE2 := Lib.hid (HW0.out.trans hwr)
            have hbl := hwb.lt
            clear hwb hwr
            go_wp2_with fail
            refine (HLN2.out _ rfl).mono ?_
            rintro r w2 ⟨rfl, hw2, hk2⟩
            go_wp2
            go_end0
            exact ⟨rfl, by simpa only [List.append_assoc] using hw2, HE2.out.trans hk2⟩
end Go.Proofs.YtkmbobfjoaldgaaGreatDoor

/-
  What package printer's domain writes. Conditions: numbers fit; those that the theorem names.
-/
namespace Go.Proofs.YtkmbobfjoaldgaaGreatDoor
open Go.ChangeShapes Go.WideShapes Go.ChangeAt Go.RowKit
set_option maxRecDepth 100000
set_option maxHeartbeats 8000000

def vaOk (v : Va) : Prop := (-9223372036854775807 ≤ v.lo ∧ v.lo ≤ 9223372036854775807) ∧ -9223372036854775807 ≤ v.hi ∧ v.hi ≤ 9223372036854775807
structure DmOk (d : Dm) : Prop where
  vl : d.vars.length ≤ 1000
  al : d.acts.length ≤ 1000
  gl : d.goal.length ≤ 1000
  vars : ∀ v ∈ d.vars, vaOk v
  acts : ∀ a ∈ d.acts, AcOk a
  goal : ∀ c ∈ d.goal, cnOk c
theorem cell_lt {w : World} {g i : Nat} {v : Value} (h : w.cell? ⟨g, i, none⟩ = some v) : g < w.heap.size :=
  Nat.lt_of_not_le (fun hc => by rw [World.cell?, Array.getElem?_eq_none (by simpa using hc)] at h; cases h)
theorem wdom_any {w : World} {B b : Nat} {l : Bs} (hw : WB w B b l) (ht : TbB B w) (d : Dm) (ho : DmOk d) {A1 A2 A3 : Option Addr} {c1 c2 c3 : Nat} {xs : List Value}
    (h1 : SlAt w (fun k => k < B) (.slice A1 d.vars.length c1) d.vars.length (vaC d.vars)) (h2 : SlAt w (fun k => k < B) (.slice A2 d.acts.length c2) d.acts.length xs) (h2' : LsAt (AcAt w (fun k => k < B)) d.acts xs) (h3 : SlAt w (fun k => k < B) (.slice A3 d.goal.length c3) d.goal.length (cnC d.goal)) (hl : l.length + (dmL d).length ≤ 900000) :
    Calls Tryz.prog 33 #[.pointer (some ⟨b, 0, none⟩), .agg #[.string (bs d.nm), .slice A1 d.vars.length c1, .slice A2 d.acts.length c2, .slice A3 d.goal.length c3]] w fun e w' => e = .returned (.tuple #[]) ∧ WB w' B b (l ++ dmL d) ∧ Wr B b w w' := by
  obtain ⟨hvl, hal, hgl, hva, hac, hgo⟩ := ho
  obtain ⟨L, hL⟩ : ∃ L, d.vars.length = L := ⟨_, rfl⟩
  obtain ⟨M, hM⟩ : ∃ M, d.acts.length = M := ⟨_, rfl⟩
  obtain ⟨O, hO⟩ : ∃ M, d.goal.length = M := ⟨_, rfl⟩
  rw [hL] at h1 hvl
  rw [hM] at h2 hal
  rw [hO] at h3 hgl
  rw [hL, hM, hO]
  obtain ⟨X1, hX1⟩ : ∃ X, lnL 0 [domB, d.nm, [123]] = X := ⟨_, rfl⟩
  obtain ⟨X2, hX2⟩ : ∃ X, d.vars.flatMap vaL = X := ⟨_, rfl⟩
  obtain ⟨X3, hX3⟩ : ∃ X, d.acts.flatMap acL = X := ⟨_, rfl⟩
  obtain ⟨X4, hX4⟩ : ∃ X, d.goal.flatMap (cnL 1 goalB) = X := ⟨_, rfl⟩
  obtain ⟨X5, hX5⟩ : ∃ X, lnL 0 [[125]] = X := ⟨_, rfl⟩
  have htx : dmL d = X1 ++ X2 ++ X3 ++ X4 ++ X5 := by rw [← hX1, ← hX2, ← hX3, ← hX4, ← hX5]; rfl
  rw [htx] at hl ⊢
  simp only [List.length_append] at hl
  obtain ⟨W0, hW0⟩ : ∃ W, w.alloc (.cells #[.string (bs d.nm), .slice A1 L c1, .slice A2 M c2, .slice A3 O c3] 69) = W := ⟨_, rfl⟩
  have t0 : Touch NoB w W0 := by rw [← hW0]; exact (Touch.refl _ _).alloc _
  have hb : B4 W0 69 w.heap.size (.string (bs d.nm)) (.slice A1 L c1) (.slice A2 M c2) (.slice A3 O c3) := by rw [← hW0]; exact B4.new _ _ _ _ _ _ rfl
  have hB := hw.leB
  have hbne : w.heap.size ≠ b := by have := hw.lt; omega
  have HLN := Lib.hid (fun (W5 : World) (e : W0.alloc (.cells #[.string ⟨#[100, 111, 109, 97, 105, 110]⟩, .string (bs d.nm), .string ⟨#[123]⟩] 9) = W5) => line_lit (hw.touch t0) (Touch.refl _ _) 0 [domB, d.nm, [123]] (m := 3) rfl rfl e (by rw [hX1]; omega) (by omega))
  rw [hX1] at HLN
  have HBW := Lib.hid (fun (W : World) (t : Wr B b W0 W) => B4.cells (show B4 W 69 w.heap.size (.string (bs d.nm)) (.slice A1 L c1) (.slice A2 M c2) (.slice A3 O c3) from t.oth _ _ _ _ hb (by decide) hbne))
  obtain ⟨u0, u1, u2, u3, ul⟩ := hb.cells
  have HN := Lib.hid (fun (W : World) (t : Below B w W) => h1.touch t.touchB (fun _ h h' => by omega))
  have HM := Lib.hid (fun (W : World) (t : Below B w W) (i : Nat) (y : Ac) (hy : d.acts[i]? = some y) => act_at (h2.touch t.touchB (fun _ h h' => by omega)) (h2'.mono (fun x ys hx => hx.touch t.touchB (fun _ h h' => by omega))) hy)
  have HO := Lib.hid (fun (W : World) (t : Below B w W) => h3.touch t.touchB (fun _ h h' => by omega))
  have HK := Lib.hid (And.intro hva (And.intro hac (And.intro hgo (And.intro ht hl))))
  have HS := Lib.hid (And.intro hL (And.intro hM hO))
  have HX := Lib.hid (And.intro hX2 (And.intro hX3 (And.intro hX4 hX5)))
  have HW0 := Lib.hid (Wr.touch (b := b) hB t0)
  clear hw ht hl t0 hb hB htx hX1 hX2 hX3 hX4 hX5 h1 h2 h2' h3 hva hac hgo hL hM hO hbne
  go_enter Tryz.func33, Tryz.ntmps33
  go_wp2_with fail
  refine (HLN.out _ rfl).mono ?_
  rintro r w1 ⟨rfl, hw1, hk1⟩
  have HG := Lib.hid (And.intro hw1 hk1)
  obtain ⟨v0, v1, v2, v3, vl⟩ := HBW.out _ HG.out.2
  have hbl1 := hw1.lt
  clear hw1 hk1
  go_wp2
  go_loopw [18] (fun v wr => FlRel W0 B b (l ++ X1) (vaL) d.vars v wr) (fun v _ => L - (intOf v).toNat)
  case atStart => exact ⟨0, Nat.zero_le _, rfl, by simpa using HG.out.1, HG.out.2⟩
  case round =>
    obtain ⟨i, hi, rfl, hwb, hwr⟩ := hrel
    rw [HS.out.1] at hi
    by_cases hlt : i < L
    · obtain ⟨y, hy⟩ : ∃ y, d.vars[i]? = some y := ⟨d.vars[i]'(by rw [HS.out.1]; exact hlt), List.getElem?_eq_getElem _⟩
      have hbw : Below B w wr := HW0.out.below.trans hwr.below
      obtain ⟨e0, e1, e2⟩ := vaC_at d.vars i y hy
      obtain ⟨g, rfl, k0, k1, k2⟩ := (HN.out _ hbw).cells3 e0 e1 e2
      have htk := fl_take (f := vaL) hy
      have hle := fl_le (vaL) d.vars (i + 1)
      rw [htk, List.length_append, HX.out.1] at hle
      obtain ⟨Wk, hWk⟩ : ∃ W, wr.alloc (.cells #[.string (bs y.nm), .int .i64 y.lo, .int .i64 y.hi] 102) = W := ⟨_, rfl⟩
      have tk : Touch NoB wr Wk := by rw [← hWk]; exact (Touch.refl _ _).alloc _
      have hkb : B3 Wk 102 wr.heap.size (.string (bs y.nm)) (.int .i64 y.lo) (.int .i64 y.hi) := by rw [← hWk]; exact B3.new _ _ _ _ _ rfl
      have HBK := Lib.hid (fun (W : World) (t : Touch NoB Wk W) => B3.cells ((t.block _ (blk_lt hkb) (fun x => x)).trans hkb))
      obtain ⟨q0, q1, q2, ql⟩ := HBK.out Wk (Touch.refl _ _)
      obtain ⟨x0, x1, x2, xl⟩ := HBK.out Wk.drew (Touch.refl _ _).drew
      have hyo := HK.out.1 y (List.mem_of_getElem? hy)
      have hlv : (vaL y).length = (lnL 1 [varB, y.nm, Lib.itoa y.lo, Lib.itoa y.hi, [59]]).length := rfl
      have HLV := Lib.hid (fun (cur W5 : World) (t : Touch NoB Wk cur) (e : cur.alloc (.cells #[.string ⟨#[118, 97, 114]⟩, .string (bs y.nm), .string (bs (Lib.itoa y.lo)), .string (bs (Lib.itoa y.hi)), .string ⟨#[59]⟩] 9) = W5) => line_lit (hwb.touch tk) t 1 [varB, y.nm, Lib.itoa y.lo, Lib.itoa y.hi, [59]] (m := 5) rfl rfl e (by have := HK.out.2.2.2.2; rw [hlv] at hle; simp only [List.length_append]; omega) (by omega))
      have htb := HK.out.2.2.2.1.go (hbw.trans (tk.belowB hwb.leB))
      have hBk : B ≤ Wk.heap.size := Nat.le_trans hwb.leB tk.size
      have HI1 := Lib.hid (fun (cur : World) (t : Touch NoB Wk cur) => itoa_at hBk htb t y.lo (by have := hyo.1; omega) hyo.1.2)
      have HI2 := Lib.hid (fun (cur : World) (t : Touch NoB Wk cur) => itoa_at hBk htb t y.hi (by have := hyo.2; omega) hyo.2.2)
      have HTT := Lib.hid (show Touch NoB Wk Wk.drew from (Touch.refl _ _).drew)
      have HE := Lib.hid (And.intro htk (hwr.trans (Wr.touch hwb.leB tk)))
      have hgl := cell_lt k0
      clear hwb hwr hbw htk hle tk hkb hy e0 e1 e2 hyo hlv htb hBk
      go_wp2_with fail
      go_region_law (first
        | (go_simp; go_at_call 64; refine (HI1.out _ HTT.out).mono ?_
           rintro r w3 ⟨rfl, hT1⟩
           have hz := HTT.out.same hT1
           obtain ⟨x0, x1, x2, xl⟩ := HBK.out _ hz
           clear HTT
           have HTT := Lib.hid hz
           clear hz hT1)
        | (go_simp; go_at_call 64; refine (HI2.out _ HTT.out).mono ?_
           rintro r w3 ⟨rfl, hT1⟩
           have hz := HTT.out.same hT1
           obtain ⟨x0, x1, x2, xl⟩ := HBK.out _ hz
           clear HTT
           have HTT := Lib.hid hz
           clear hz hT1)
        | (go_simp; go_at_call 60; refine (HLV.out _ _ HTT.out rfl).mono ?_
           rintro r w3 ⟨rfl, hw3, hk3⟩
           have HG2 := Lib.hid (And.intro hw3 (HE.out.2.trans hk3))
           clear hw3 hk3))
      all_goals
        go_wp2
        go_roundw
        case rel => exact ⟨i + 1, by rw [HS.out.1]; omega, by go_num, by rw [HE.out.1, ← List.append_assoc]; exact HG2.out.1, HG2.out.2⟩
        case measure => simp [intOf]; omega
    · obtain rfl : i = L := by omega
      rw [List.take_of_length_le (by rw [HS.out.1]; exact Nat.le_refl _), HX.out.1] at hwb
      obtain ⟨v0, v1, v2, v3, vl⟩ := HBW.out _ hwr
      have HG18 := Lib.hid (And.intro hwb hwr)
      have hbl18 := hwb.lt
      clear hwb hwr
      go_wp2
      go_loopw [37] (fun v wr => FlRel W0 B b (l ++ X1 ++ X2) (acL) d.acts v wr) (fun v _ => M - (intOf v).toNat)
      case atStart => exact ⟨0, Nat.zero_le _, rfl, by simpa using HG18.out.1, HG18.out.2⟩
      case round =>
        obtain ⟨i, hi, rfl, hwb, hwr⟩ := hrel
        rw [HS.out.2.1] at hi
        by_cases hlt : i < M
        · obtain ⟨y, hy⟩ : ∃ y, d.acts[i]? = some y := ⟨d.acts[i]'(by rw [HS.out.2.1]; exact hlt), List.getElem?_eq_getElem _⟩
          have hbw : Below B w wr := HW0.out.below.trans hwr.below
          obtain ⟨g, N1, n1, N2, n2, rfl, k0, k1, k2, k3, s1, s2⟩ := HM.out _ hbw i y hy
          have htk := fl_take (f := acL) hy
          have hle := fl_le (acL) d.acts (i + 1)
          rw [htk, List.length_append, HX.out.2.1] at hle
          obtain ⟨Wk, hWk⟩ : ∃ W, wr.alloc (.cells #[.string (bs y.nm), .int .i64 (y.cost : Int), .slice N1 y.need.length n1, .slice N2 y.make.length n2] 106) = W := ⟨_, rfl⟩
          have tk : Touch NoB wr Wk := by rw [← hWk]; exact (Touch.refl _ _).alloc _
          have hkb : B4 Wk 106 wr.heap.size (.string (bs y.nm)) (.int .i64 (y.cost : Int)) (.slice N1 y.need.length n1) (.slice N2 y.make.length n2) := by rw [← hWk]; exact B4.new _ _ _ _ _ _ rfl
          obtain ⟨q0, q1, q2, q3, ql⟩ := hkb.cells
          have hyo := HK.out.2.1 y (List.mem_of_getElem? hy)
          have HC := Lib.hid (wact_any (hwb.touch tk) (HK.out.2.2.2.1.go (hbw.trans (tk.belowB hwb.leB))) y hyo (s1.touch tk (fun _ _ x => x)) (s2.touch tk (fun _ _ x => x)) (by have := HK.out.2.2.2.2; simp only [List.length_append]; omega))
          have HE := Lib.hid (And.intro htk (hwr.trans (Wr.touch hwb.leB tk)))
          have hbl := hwb.lt
          have hgl := cell_lt k0
          clear hwb hwr hbw htk hle tk hkb hy hyo s1 s2
          go_wp2_with fail
          refine HC.out.mono ?_
          rintro r w3 ⟨rfl, hw3, hk3⟩
          have HG2 := Lib.hid (And.intro hw3 (HE.out.2.trans hk3))
          clear hw3 hk3
          go_wp2
          go_roundw
          case rel => exact ⟨i + 1, by rw [HS.out.2.1]; omega, by go_num, by rw [HE.out.1, ← List.append_assoc]; exact HG2.out.1, HG2.out.2⟩
          case measure => simp [intOf]; omega
        · obtain rfl : i = M := by omega
          rw [List.take_of_length_le (by rw [HS.out.2.1]; exact Nat.le_refl _), HX.out.2.1] at hwb
          obtain ⟨v0, v1, v2, v3, vl⟩ := HBW.out _ hwr
          have HG37 := Lib.hid (And.intro hwb hwr)
          have hbl37 := hwb.lt
          clear hwb hwr
          go_wp2
          go_loopw [48] (fun v wr => FlRel W0 B b (l ++ X1 ++ X2 ++ X3) (cnL 1 goalB) d.goal v wr) (fun v _ => O - (intOf v).toNat)
          case atStart => exact ⟨0, Nat.zero_le _, rfl, by simpa using HG37.out.1, HG37.out.2⟩
          case round =>
            obtain ⟨i, hi, rfl, hwb, hwr⟩ := hrel
            rw [HS.out.2.2] at hi
            by_cases hlt : i < O
            · obtain ⟨y, hy⟩ : ∃ y, d.goal[i]? = some y := ⟨d.goal[i]'(by rw [HS.out.2.2]; exact hlt), List.getElem?_eq_getElem _⟩
              have hbw : Below B w wr := HW0.out.below.trans hwr.below
              obtain ⟨e0, e1, e2⟩ := cnC_at d.goal i y hy
              obtain ⟨g, rfl, k0, k1, k2⟩ := (HO.out _ hbw).cells3 e0 e1 e2
              have htk := fl_take (f := cnL 1 goalB) hy
              have hle := fl_le (cnL 1 goalB) d.goal (i + 1)
              rw [htk, List.length_append, HX.out.2.2.1] at hle
              obtain ⟨Wk, hWk⟩ : ∃ W, wr.alloc (.cells #[.string (bs y.nm), .int .i64 (y.op : Int), .int .i64 y.n] 118) = W := ⟨_, rfl⟩
              have tk : Touch NoB wr Wk := by rw [← hWk]; exact (Touch.refl _ _).alloc _
              have hkb : B3 Wk 118 wr.heap.size (.string (bs y.nm)) (.int .i64 (y.op : Int)) (.int .i64 y.n) := by rw [← hWk]; exact B3.new _ _ _ _ _ rfl
              obtain ⟨q0, q1, q2, ql⟩ := hkb.cells
              have hyo := HK.out.2.2.1 y (List.mem_of_getElem? hy)
              have HC := Lib.hid (cond_any (hwb.touch tk) (HK.out.2.2.2.1.go (hbw.trans (tk.belowB hwb.leB))) 1 goalB y (by have := hyo.1; omega) hyo.2 (by have := HK.out.2.2.2.2; simp only [List.length_append]; omega))
              have HE := Lib.hid (And.intro htk (hwr.trans (Wr.touch hwb.leB tk)))
              have hbl := hwb.lt
              have hgl := cell_lt k0
              clear hwb hwr hbw htk hle tk hkb hy e0 e1 e2 hyo
              go_wp2_with fail
              refine HC.out.mono ?_
              rintro r w3 ⟨rfl, hw3, hk3⟩
              have HG2 := Lib.hid (And.intro hw3 (HE.out.2.trans hk3))
              clear hw3 hk3
              go_wp2
              go_roundw
              case rel => exact ⟨i + 1, by rw [HS.out.2.2]; omega, by go_num, by rw [HE.out.1, ← List.append_assoc]; exact HG2.out.1, HG2.out.2⟩
              case measure => simp [intOf]; omega
            · obtain rfl : i = O := by omega
              rw [List.take_of_length_le (by rw [HS.out.2.2]; exact Nat.le_refl _), HX.out.2.2.1] at hwb
              obtain ⟨v0, v1, v2, v3, vl⟩ := HBW.out _ hwr
              have HG48 := Lib.hid (And.intro hwb hwr)
              have hbl48 := hwb.lt
              have HLN2 := Lib.hid (fun (W5 : World) (e : wr.alloc (.cells #[.string ⟨#[125]⟩] 9) = W5) => line_lit hwb (Touch.refl _ _) 0 [[125]] (m := 1) rfl rfl e (by rw [HX.out.2.2.2]; have := HK.out.2.2.2.2; simp only [List.length_append]; omega) (by omega))
              rw [HX.out.2.2.2] at HLN2
              have HE2 := Lib.hid (HW0.out.trans hwr)
              clear hwb hwr
              go_wp2_with fail
              refine (HLN2.out _ rfl).mono ?_
              rintro r w2 ⟨rfl, hw2, hk2⟩
              go_wp2
              go_end0
              exact ⟨rfl, by simpa only [List.append_assoc] using hw2, HE2.out.trans hk2⟩
end Go.Proofs.YtkmbobfjoaldgaaGreatDoor

/-
  What package printer's tree writes. Conditions: those that the theorem names.
-/
namespace Go.Proofs.YtkmbobfjoaldgaaGreatDoor
open Go.ChangeShapes Go.WideShapes Go.ChangeAt Go.RowKit
set_option maxRecDepth 100000
set_option maxHeartbeats 8000000

theorem kdL_congr {f g : Nat → Nd → Bs} (p : Bool) (ws : List Ex) : ∀ (l : List Nd) (lv i : Nat), (∀ k ∈ l, ∀ lv, f lv k = g lv k) → kdL f p lv ws i l = kdL g p lv ws i l
  | [], _, _, _ => rfl
  | x :: r, lv, i, h => by
    simp only [kdL]
    rw [kdL_congr p ws r lv (i + 1) (fun k hk => h k (List.mem_cons_of_mem _ hk)), h x (by simp) (lv + 1), h x (by simp) lv]
theorem ndL_more : ∀ (D E : Nat) (n : Nd) (lv : Nat), PrN D n → D ≤ E → ndL D lv n = ndL E lv n
  | 0, _, _, _, h, _ => h.elim
  | D + 1, 0, _, _, _, h => absurd h (by omega)
  | D + 1, E + 1, n, lv, h, hE => by
    have hk : ∀ k ∈ n.ks, ∀ lv, ndL D lv k = ndL E lv k := fun k hk lv => ndL_more D E k lv (h.2.2.2.2.2.2.2 k hk) (by omega)
    simp only [ndL]
    rw [kdL_congr (n.kd == 11) n.ws n.ks (lv + 1) 0 hk]
theorem tr_cells {W : World} {N : Nat} {T : TypeId} {fz : Nat × Nat} {u v0 v1 v2 v3 v4 v5 v6 v7 v8 v9 : Value} (h : W.heap[N]? = some (.cells #[u, v0, v1, v2, v3, v4, v5, v6, v7, v8, v9] T fz)) :
    W.cell? ⟨N, 0, none⟩ = some u ∧ W.cell? ⟨N, 1, none⟩ = some v0 ∧ W.cell? ⟨N, 2, none⟩ = some v1 ∧ W.cell? ⟨N, 3, none⟩ = some v2 ∧ W.cell? ⟨N, 4, none⟩ = some v3 ∧ W.cell? ⟨N, 5, none⟩ = some v4 ∧ W.cell? ⟨N, 6, none⟩ = some v5 ∧ W.cell? ⟨N, 7, none⟩ = some v6 ∧ W.cell? ⟨N, 8, none⟩ = some v7 ∧ W.cell? ⟨N, 9, none⟩ = some v8 ∧ W.cell? ⟨N, 10, none⟩ = some v9 ∧ N < W.heap.size :=
  ⟨by rw [Lib.cell_of_heap h]; rfl, by rw [Lib.cell_of_heap h]; rfl, by rw [Lib.cell_of_heap h]; rfl, by rw [Lib.cell_of_heap h]; rfl, by rw [Lib.cell_of_heap h]; rfl, by rw [Lib.cell_of_heap h]; rfl, by rw [Lib.cell_of_heap h]; rfl, by rw [Lib.cell_of_heap h]; rfl, by rw [Lib.cell_of_heap h]; rfl, by rw [Lib.cell_of_heap h]; rfl, by rw [Lib.cell_of_heap h]; rfl, blk_lt h⟩
theorem wtree_any {w : World} {B b : Nat} {l : Bs} (hw : WB w B b l) (ht : TbB B w) (t : Tr) (hp : PrN 40 t.root) {e0 e1 : Int} {e2 : ByteArray} {A : Option Addr} {m c : Nat} {A1 : Option Addr} {c1 : Nat} {A2 : Option Addr} {c2 : Nat}
    (hn : NT w (fun k => k < B) 40 t.root [.int .i64 (t.root.kd : Int), .int .i64 (t.root.a : Int), .int .i64 (t.root.b : Int), .string (bs t.root.nm), .int .i64 e0, .int .i64 e1, .string e2, .slice A m c, .slice A1 t.root.ks.length c1, .slice A2 t.root.ws.length c2]) (hl : l.length + (trL t).length ≤ 900000) :
    Calls Tryz.prog 32 #[.pointer (some ⟨b, 0, none⟩), .agg #[.string (bs t.nm), .int .i64 (t.root.kd : Int), .int .i64 (t.root.a : Int), .int .i64 (t.root.b : Int), .string (bs t.root.nm), .int .i64 e0, .int .i64 e1, .string e2, .slice A m c, .slice A1 t.root.ks.length c1, .slice A2 t.root.ws.length c2]] w fun e w' => e = .returned (.tuple #[]) ∧ WB w' B b (l ++ trL t) ∧ Wr B b w w' := by
  obtain ⟨X1, hX1⟩ : ∃ X, lnL 0 [treeB, t.nm, [123]] = X := ⟨_, rfl⟩
  obtain ⟨X2, hX2⟩ : ∃ X, ndL 40 1 t.root = X := ⟨_, rfl⟩
  obtain ⟨X3, hX3⟩ : ∃ X, lnL 0 [[125]] = X := ⟨_, rfl⟩
  have htx : trL t = X1 ++ X2 ++ X3 := by rw [← hX1, ← hX2, ← hX3, ndL_more 40 41 _ _ hp (by omega)]; rfl
  rw [htx] at hl ⊢
  simp only [List.length_append] at hl
  have HRO := Lib.hid (fun (W : World) (l' : Bs) (hb : Below B w W) (hw' : WB W B b l') (hl' : l'.length + (ndL 40 1 t.root).length ≤ 900000) => root_any (Nat.le_refl 40) t.root hp W B b 1 l' (NT.touch hb.touchB (fun _ h h' => by omega) 40 t.root _ hn) hw' (ht.go hb) hl' (by omega))
  rw [hX2] at HRO
  obtain ⟨L, hL⟩ : ∃ L, t.root.ks.length = L := ⟨_, rfl⟩
  obtain ⟨M, hM⟩ : ∃ M, t.root.ws.length = M := ⟨_, rfl⟩
  rw [hL, hM] at HRO ⊢
  obtain ⟨W0, hW0⟩ : ∃ W, w.alloc (.cells #[.string (bs t.nm), .int .i64 (t.root.kd : Int), .int .i64 (t.root.a : Int), .int .i64 (t.root.b : Int), .string (bs t.root.nm), .int .i64 e0, .int .i64 e1, .string e2, .slice A m c, .slice A1 L c1, .slice A2 M c2] 49) = W := ⟨_, rfl⟩
  have t0 : Touch NoB w W0 := by rw [← hW0]; exact (Touch.refl _ _).alloc _
  have hb : W0.heap[w.heap.size]? = some (.cells #[.string (bs t.nm), .int .i64 (t.root.kd : Int), .int .i64 (t.root.a : Int), .int .i64 (t.root.b : Int), .string (bs t.root.nm), .int .i64 e0, .int .i64 e1, .string e2, .slice A m c, .slice A1 L c1, .slice A2 M c2] 49 (0, 0)) := by rw [← hW0]; exact alloc_blk _ _ _ rfl
  have hB := hw.leB
  have hbne : w.heap.size ≠ b := by have := hw.lt; omega
  have HLN := Lib.hid (fun (W5 : World) (e : W0.alloc (.cells #[.string ⟨#[116, 114, 101, 101]⟩, .string (bs t.nm), .string ⟨#[123]⟩] 9) = W5) => line_lit (hw.touch t0) (Touch.refl _ _) 0 [treeB, t.nm, [123]] (m := 3) rfl rfl e (by rw [hX1]; omega) (by omega))
  rw [hX1] at HLN
  have HBW := Lib.hid (fun (W : World) (k : Wr B b W0 W) => tr_cells (k.oth _ _ _ _ hb (by decide) hbne))
  obtain ⟨u0, u1, u2, u3, u4, u5, u6, u7, u8, u9, u10, ul⟩ := tr_cells hb
  have HW0 := Lib.hid (Wr.touch (b := b) hB t0)
  have HL := Lib.hid hl
  have HX3 := Lib.hid hX3
  clear hw ht hl t0 hb hB htx hX1 hn hp hbne hX2 hX3
  go_enter Tryz.func32, Tryz.ntmps32
  go_wp2_with fail
  refine (HLN.out _ rfl).mono ?_
  rintro r w1 ⟨rfl, hw1, hk1⟩
  obtain ⟨v0, v1, v2, v3, v4, v5, v6, v7, v8, v9, v10, vl⟩ := HBW.out _ hk1
  have HC := Lib.hid (HRO.out w1 _ (HW0.out.below.trans hk1.below) hw1 (by have := HL.out; simp only [List.length_append]; omega))
  have HK1 := Lib.hid hk1
  have hbl := hw1.lt
  clear hw1 hk1 u0 u1 u2 u3 u4 u5 u6 u7 u8 u9 u10 ul
  go_wp2_with fail
  refine HC.out.mono ?_
  rintro r w2 ⟨rfl, hw2, hk2⟩
  have HLN2 := Lib.hid (fun (W5 : World) (e : w2.alloc (.cells #[.string ⟨#[125]⟩] 9) = W5) => line_lit hw2 (Touch.refl _ _) 0 [[125]] (m := 1) rfl rfl e (by rw [HX3.out]; have := HL.out; simp only [List.length_append]; omega) (by omega))
  rw [HX3.out] at HLN2
  have HE2 := Lib.hid (HW0.out.trans (HK1.out.trans hk2))
  have hbl2 := hw2.lt
  clear hw2 hk2
  go_wp2_with fail
  refine (HLN2.out _ rfl).mono ?_
  rintro r w3 ⟨rfl, hw3, hk3⟩
  go_wp2
  go_end0
  exact ⟨rfl, by simpa only [List.append_assoc] using hw3, HE2.out.trans hk3⟩
end Go.Proofs.YtkmbobfjoaldgaaGreatDoor
