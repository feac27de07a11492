/-
  What Write of package board returns of an int for a key of ints, and what it leaves in memory.
-/
import Derived.Test.YteacpfknfbmjkaaBe
namespace Go.Proofs.Yteacpfknfbmjkaa
open Go.ChangeShapes Go.WideShapes Go.ChangeAt Go.RowKit Go.Maps
set_option maxRecDepth 100000
set_option maxHeartbeats 4000000

attribute [local go_sem] run_equalIn_complex run_store_complex

theorem same_ints (n m : Int) (w : World) :
    Calls Try.prog 17 #[val 0 n 0 ⟨#[]⟩, val 0 m 0 ⟨#[]⟩] w fun e w' => e = .returned (.bool (n == m)) ∧ Touch NoB w w' := by
  obtain ⟨q, hq⟩ : ∃ q, (n == m) = q := ⟨_, rfl⟩
  have h0 : Op.floatEq .f64 0 0 = true := by kernel_rfl
  have hs : ((⟨#[]⟩ : ByteArray).toList == (⟨#[]⟩ : ByteArray).toList) = true := by simp
  rw [hq]
  unfold val
  cases q
  · go_enter Try.func17, Try.ntmps17
    go_wp2
    go_ret
    exact ⟨rfl, ((Touch.refl _ w).alloc _).alloc _⟩
  · go_enter Try.func17, Try.ntmps17
    go_wp2
    go_ret
    exact ⟨rfl, ((Touch.refl _ w).alloc _).alloc _⟩
theorem right_int (n : Int) (w : World) :
    Calls Try.prog 16 #[val 0 n 0 ⟨#[]⟩] w fun e w' => e = .returned (.bool true) ∧ Touch NoB w w' := by
  have HS := Lib.hid (fun w => same_val 0 n 0 ⟨#[]⟩ w)
  unfold val at HS
  unfold val
  go_enter Try.func16, Try.ntmps16
  go_wp2_with fail
  refine (HS.out _).mono ?_
  rintro e w2 ⟨rfl, hT2⟩
  have HT2 := Lib.hid (((Touch.refl NoB w).alloc _).same hT2)
  clear hT2
  go_wp2
  go_ret
  exact ⟨rfl, HT2.out⟩

/-- The cells behind a Write of n, and the count of changes. -/
def wrC (C : Ow → Nat → Int × Int) (o : Ow) (j : Nat) (n now : Int) : Ow → Nat → Int × Int := if n = (C o j).1 then C else setC C o j (n, now + 1)
def wrN (C : Ow → Nat → Int × Int) (o : Ow) (j : Nat) (n now : Int) : Int := if n = (C o j).1 then now else now + 1
section
variable {w : World} {F : Nat → Prop} {g : Nat} {l : List Ky} {C : Ow → Nat → Int × Int} {now : Int} {cnt : Nat} {v : Value} {bo : Nat} {D : DataW Unit}
theorem write_yes (h : BB w F g l C now cnt v bo D) (hF : InW w 0 F) (hc : cnt ≤ 1000) (hl : l.length ≤ 100) {s : ByteArray} {j : Nat} {k : Ky} (hf : findK l s = some j) (hj : l[j]? = some k) {i x : Int} (hi : I64 i) (hx : I64 x) (n : Int) (hn0 : 0 ≤ now) (hn1 : now ≤ 1000) :
    Calls Try.prog 9 #[.pointer (some ⟨g, 0, none⟩), .agg #[.int .i64 i, .int .i64 x], .string s, val 0 n 0 ⟨#[]⟩] w fun e w' => e = .returned (.int .i64 0) ∧ BD w' (Ext F w w') g l (wrC C (ownO k i x) j n now) (wrN C (ownO k i x) j n now) (cnt + 2) ∧ Touch F w w' := by
  have HF := Lib.hid (fun w' (t : Touch NoB w w') => find_yes (h.quiet t) hl hf hj hi hx)
  have hjl := (List.getElem?_eq_some_iff.1 hj).1
  have hok := ownO_ok (k := k) hi hx
  obtain ⟨o, ho⟩ : ∃ o, ownO k i x = o := ⟨_, rfl⟩
  rw [ho] at HF hok
  rw [ho]
  obtain ⟨⟨c1, c2⟩, hcc⟩ : ∃ c, C o j = c := ⟨_, rfl⟩
  unfold findV at HF
  rw [hcc] at HF
  have HB := Lib.hid h
  have HPut := Lib.hid (fun W (t : Touch F w W) (hW : BB W F g l C (now + 1) cnt v bo D) => put_any hW (fun b hb => ⟨Nat.zero_le _, Nat.lt_of_lt_of_le (hF b hb).2 t.size⟩) hc hok (j := j) (by omega) (n, now + 1))
  have HR := Lib.hid (right_int n)
  have HS := Lib.hid (same_ints n c1)
  have HFW := Lib.hid hF
  obtain ⟨q, hq⟩ : ∃ q, (n == c1) = q := ⟨_, rfl⟩
  rw [hq] at HS
  unfold cellV at HF HPut
  unfold val at HR HS
  unfold val
  obtain ⟨oi, ox, oe⟩ := o
  have HQ := Lib.hid (And.intro hcc hq)
  have hb0 : ∀ W, Touch NoB ((w.alloc (.cells #[.int .i64 i, .int .i64 x] 23)).alloc (.cells #[.int .i64 0, .int .i64 n, .int .i64 0, .string ⟨#[]⟩, .complex .f64 0 0] 36)) W →
      W.heap[w.heap.size + 1]? = some (.cells #[.int .i64 0, .int .i64 n, .int .i64 0, .string ⟨#[]⟩, .complex .f64 0 0] 36 (0, 0)) ∧ w.heap.size + 1 < W.heap.size := by
    intro W hW
    have hs := hW.size
    simp only [World.size_alloc] at hs
    refine ⟨?_, by omega⟩
    rw [hW.block _ (by simp only [World.size_alloc]; omega) (fun e => e)]
    exact alloc_blk _ _ _ (by simp only [World.size_alloc])
  have H0 := Lib.hid hb0
  clear hb0 h hf hj hi hx hcc ho hok hF hq
  go_enter Try.func9, Try.ntmps9
  go_wp2_with fail
  refine (HF.out _ (by repeat (first | with_reducible exact Touch.refl _ _ | with_reducible refine Touch.alloc ?_ _))).mono ?_
  rintro e w1 ⟨rfl, hT1⟩
  have HT1 := Lib.hid hT1
  clear hT1
  go_upto_region 4 with fail
  obtain ⟨w2, hw2⟩ : ∃ w2, (w1.alloc (.cells #[.int .i64 oi, .int .i64 ox, .bool oe, .int .i64 j] 61)).alloc (.cells #[.int .i64 0, .int .i64 c1, .int .i64 0, .string ⟨#[]⟩, .complex .f64 0 0, .int .i64 c2] 63) = w2 := ⟨_, rfl⟩
  have hcb : w2.heap[w1.heap.size + 1]? = some (.cells #[.int .i64 0, .int .i64 c1, .int .i64 0, .string ⟨#[]⟩, .complex .f64 0 0, .int .i64 c2] 63 (0, 0)) := by rw [← hw2]; exact alloc_blk _ _ _ (by simp only [World.size_alloc])
  have hsb : w2.heap[w1.heap.size]? = some (.cells #[.int .i64 oi, .int .i64 ox, .bool oe, .int .i64 j] 61 (0, 0)) := by
    rw [← hw2, heap_alloc_old _ _ (by simp only [World.size_alloc]; omega)]; exact alloc_blk _ _ _ rfl
  have T2 : Touch NoB w1 w2 := by rw [← hw2]; exact ((Touch.refl NoB w1).alloc _).alloc _
  obtain ⟨hvb, -⟩ := H0.out _ (HT1.out.same T2)
  obtain ⟨-, hs1⟩ := H0.out _ HT1.out
  have HT2 := Lib.hid ((((Touch.refl NoB w).alloc _).alloc _).same (HT1.out.same T2))
  simp only [hw2]
  clear hw2 T2 HT1
  have e0 : w2.cell? ⟨w.heap.size + 1, 0, none⟩ = some (.int .i64 0) := cell_blk hvb 0
  have e1 : w2.cell? ⟨w.heap.size + 1, 1, none⟩ = some (.int .i64 n) := cell_blk hvb 1
  have e2 : w2.cell? ⟨w.heap.size + 1, 2, none⟩ = some (.int .i64 0) := cell_blk hvb 2
  have e3 : w2.cell? ⟨w.heap.size + 1, 3, none⟩ = some (.string ⟨#[]⟩) := cell_blk hvb 3
  have e4 : w2.cell? ⟨w.heap.size + 1, 4, none⟩ = some (.complex .f64 0 0) := cell_blk hvb 4
  have HBk := Lib.hid (And.intro hvb (And.intro hsb hcb))
  clear hvb hsb hcb
  go_wp2_with fail
  refine (HR.out _).mono ?_
  rintro e w3 ⟨rfl, hT3⟩
  have hvb := (hT3.block _ (blk_lt HBk.out.1) (fun e => e)).trans HBk.out.1
  have hsb := (hT3.block _ (blk_lt HBk.out.2.1) (fun e => e)).trans HBk.out.2.1
  have hcb := (hT3.block _ (blk_lt HBk.out.2.2) (fun e => e)).trans HBk.out.2.2
  have HT3 := Lib.hid (HT2.out.same hT3)
  clear hT3 HT2 e0 e1 e2 e3 e4 HBk
  have e0 : w3.cell? ⟨w.heap.size + 1, 0, none⟩ = some (.int .i64 0) := cell_blk hvb 0
  have e1 : w3.cell? ⟨w.heap.size + 1, 1, none⟩ = some (.int .i64 n) := cell_blk hvb 1
  have e2 : w3.cell? ⟨w.heap.size + 1, 2, none⟩ = some (.int .i64 0) := cell_blk hvb 2
  have e3 : w3.cell? ⟨w.heap.size + 1, 3, none⟩ = some (.string ⟨#[]⟩) := cell_blk hvb 3
  have e4 : w3.cell? ⟨w.heap.size + 1, 4, none⟩ = some (.complex .f64 0 0) := cell_blk hvb 4
  have d0 : w3.cell? ⟨w1.heap.size + 1, 0, none⟩ = some (.int .i64 0) := cell_blk hcb 0
  have d1 : w3.cell? ⟨w1.heap.size + 1, 1, none⟩ = some (.int .i64 c1) := cell_blk hcb 1
  have d2 : w3.cell? ⟨w1.heap.size + 1, 2, none⟩ = some (.int .i64 0) := cell_blk hcb 2
  have d3 : w3.cell? ⟨w1.heap.size + 1, 3, none⟩ = some (.string ⟨#[]⟩) := cell_blk hcb 3
  have d4 : w3.cell? ⟨w1.heap.size + 1, 4, none⟩ = some (.complex .f64 0 0) := cell_blk hcb 4
  have d5 : w3.cell? ⟨w1.heap.size + 1, 5, none⟩ = some (.int .i64 c2) := cell_blk hcb 5
  have hvl := blk_lt hvb
  have hcl := blk_lt hcb
  have HBk := Lib.hid (And.intro hvb (And.intro hsb hcb))
  clear hvb hsb hcb
  go_wp2_with fail
  refine (HS.out _).mono ?_
  rintro e w4 ⟨rfl, hT4⟩
  have hvb := (hT4.block _ (blk_lt HBk.out.1) (fun e => e)).trans HBk.out.1
  have hsb := (hT4.block _ (blk_lt HBk.out.2.1) (fun e => e)).trans HBk.out.2.1
  have hcb := (hT4.block _ (blk_lt HBk.out.2.2) (fun e => e)).trans HBk.out.2.2
  have HT4 := Lib.hid (HT3.out.same hT4)
  clear hT4 HT3 e0 e1 e2 e3 e4 d0 d1 d2 d3 d4 d5 HBk hvl hcl
  cases q
  case true =>
    have hw : wrC C ⟨oi, ox, oe⟩ j n now = C ∧ wrN C ⟨oi, ox, oe⟩ j n now = now := by
      have e : n = c1 := by simpa using HQ.out.2
      unfold wrC wrN
      rw [HQ.out.1]
      exact ⟨if_pos e, if_pos e⟩
    have hend : BD w4 (Ext F w w4) g l (wrC C ⟨oi, ox, oe⟩ j n now) (wrN C ⟨oi, ox, oe⟩ j n now) (cnt + 2) ∧ Touch F w w4 := by
      rw [hw.1, hw.2]
      exact ⟨⟨_, _, _, ((HB.out.quiet HT4.out).up (by omega)).more (fun b hb => .inl hb)⟩, HT4.out.mono (fun _ e => e.elim)⟩
    have HEnd := Lib.hid hend
    clear hw hend hvb hsb hcb
    go_wp2
    go_ret
    exact ⟨rfl, HEnd.out⟩
  case false =>
    have hne : ¬ n = c1 := by simpa using HQ.out.2
    have hw : wrC C ⟨oi, ox, oe⟩ j n now = setC C ⟨oi, ox, oe⟩ j (n, now + 1) ∧ wrN C ⟨oi, ox, oe⟩ j n now = now + 1 := by
      unfold wrC wrN
      rw [HQ.out.1]
      exact ⟨if_neg hne, if_neg hne⟩
    have h4 := HB.out.quiet HT4.out
    have k2 := h4.at2
    have z2 := h4.free 2
    have hgl := h4.lt
    go_upto_region 9 with fail
    obtain ⟨w5, hw5⟩ : ∃ w5, w4.setCell ⟨g, 2, none⟩ (.int .i64 (now + 1)) = w5 := ⟨_, rfl⟩
    have h5 := hw5 ▸ h4.putNow (now + 1)
    have T5 : Touch F w w5 := hw5 ▸ (HT4.out.mono (fun _ e => e.elim)).setCell (p := ⟨g, 2, none⟩) (.inl h4.fg) (.int .i64 (now + 1))
    have hng : ∀ b, w.heap.size ≤ b → b ≠ g := fun b hb e => by have := (HFW.out g h4.fg).2; omega
    have hvb := (hw5 ▸ Below.heap_setCell w4 ⟨g, 2, none⟩ (.int .i64 (now + 1)) (w.heap.size + 1) (hng _ (by omega)) : w5.heap[w.heap.size + 1]? = w4.heap[w.heap.size + 1]?).trans hvb
    have hsb := (hw5 ▸ Below.heap_setCell w4 ⟨g, 2, none⟩ (.int .i64 (now + 1)) w1.heap.size (hng _ (by omega)) : w5.heap[w1.heap.size]? = w4.heap[w1.heap.size]?).trans hsb
    simp only [hw5]
    clear hw5 hcb k2 z2 hgl hng h4
    have e0 : w5.cell? ⟨w.heap.size + 1, 0, none⟩ = some (.int .i64 0) := cell_blk hvb 0
    have e1 : w5.cell? ⟨w.heap.size + 1, 1, none⟩ = some (.int .i64 n) := cell_blk hvb 1
    have e2 : w5.cell? ⟨w.heap.size + 1, 2, none⟩ = some (.int .i64 0) := cell_blk hvb 2
    have e3 : w5.cell? ⟨w.heap.size + 1, 3, none⟩ = some (.string ⟨#[]⟩) := cell_blk hvb 3
    have e4 : w5.cell? ⟨w.heap.size + 1, 4, none⟩ = some (.complex .f64 0 0) := cell_blk hvb 4
    have s0 : w5.cell? ⟨w1.heap.size, 0, none⟩ = some (.int .i64 oi) := cell_blk hsb 0
    have s1 : w5.cell? ⟨w1.heap.size, 1, none⟩ = some (.int .i64 ox) := cell_blk hsb 1
    have s2 : w5.cell? ⟨w1.heap.size, 2, none⟩ = some (.bool oe) := cell_blk hsb 2
    have s3 : w5.cell? ⟨w1.heap.size, 3, none⟩ = some (.int .i64 j) := cell_blk hsb 3
    have k2 := h5.at2
    have hgl := h5.lt
    have hvl := blk_lt hvb
    have hsl := blk_lt hsb
    have HP := Lib.hid (HPut.out w5.drew T5.drew (h5.quiet ((Touch.refl NoB w5).drew)))
    have HT5 := Lib.hid T5
    have HW := Lib.hid hw
    clear T5 h5 hvb hsb hw HT4 HPut hne HQ
    go_region_with (first | (go_at_call 18
                             refine HP.out.mono ?_
                             rintro e w6 ⟨rfl, hD6, hT6⟩
                             have H6 := Lib.hid (And.intro hD6 hT6)
                             clear hD6 hT6))
    all_goals
      go_wp2
      go_ret
      refine ⟨rfl, ?_⟩
      rw [HW.out.1, HW.out.2]
      refine ⟨H6.out.1.more (fun b hb => ?_), HT5.out.drew.same H6.out.2⟩
      rcases hb with hb | hb
      · exact .inl hb
      · exact .inr ⟨Nat.le_trans HT5.out.size hb.1, hb.2⟩
end
end Go.Proofs.Yteacpfknfbmjkaa
