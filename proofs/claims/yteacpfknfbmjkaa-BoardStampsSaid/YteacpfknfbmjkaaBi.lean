/-
  The walk of BoardScopes.
-/
import Derived.Test.YteacpfknfbmjkaaBh
namespace Go.Proofs.Yteacpfknfbmjkaa
open Go.ChangeShapes Go.WideShapes Go.ChangeAt Go.RowKit Go.Maps
set_option maxRecDepth 100000
set_option maxHeartbeats 4000000

attribute [local go_sem] run_equalIn_complex run_store_complex

theorem wrC_same (C : Ow → Nat → Int × Int) (o : Ow) (j : Nat) (n now : Int) : (wrC C o j n now o j).1 = n := by
  unfold wrC
  split
  · rename_i h; exact h.symm
  · rw [setC_same]
theorem wrC_other (C : Ow → Nat → Int × Int) {o p : Ow} (j : Nat) (n now : Int) (h : p ≠ o) : wrC C o j n now p = C p := by
  unfold wrC
  split
  · rfl
  · exact setC_other C j _ h
theorem wrN_range (C : Ow → Nat → Int × Int) (o : Ow) (j : Nat) (n now : Int) : now ≤ wrN C o j n now ∧ wrN C o j n now ≤ now + 1 := by
  unfold wrN
  split <;> omega

/-- The key of BoardScopes. -/
def keyK (sh : Bool) : Ky := ⟨⟨#[107]⟩, 0, sh⟩
theorem errK_K (sh : Bool) : errK [keyK sh] = 0 := by cases sh <;> decide +kernel
theorem find_K (sh : Bool) : findK [keyK sh] ⟨#[107]⟩ = some 0 := by cases sh <;> decide +kernel
theorem bkeys_K (sh : Bool) : ∀ (j : Nat) (k : Ky), [keyK sh][j]? = some k → k.nm.size ≤ 1000 ∧ k.kd = 0 := by
  intro j k hj
  rcases j with _ | j
  · simp at hj; subst hj; exact ⟨(by decide : (⟨#[107]⟩ : ByteArray).size ≤ 1000), rfl⟩
  · simp at hj
theorem kat_K (sh : Bool) (w : World) : KAt (w.alloc (.cells #[.string ⟨#[107]⟩, .int .i64 0, .bool sh] 30)) NoB (some ⟨w.heap.size, 0, none⟩) [keyK sh] :=
  kat_blk (alloc_blk w _ _ rfl) rfl (by intro k hk; simp at hk; subst hk; exact (by decide : (⟨#[107]⟩ : ByteArray).size ≤ 1000))

/-- What BoardScopes looks at, at last. -/
theorem scope_v (sh : Bool) (a b c d n : Int) (hne : ¬ (a = c ∧ b = d)) : (wrC C0 (ownO (keyK sh) a b) 0 n 0 (ownO (keyK sh) c d) 0).1 = if sh = true then n else 0 := by
  cases sh
  · rw [wrC_other]
    · rfl
    · intro e
      have h1 := congrArg Ow.i e
      have h2 := congrArg Ow.x e
      exact hne ⟨h1.symm, h2.symm⟩
  · exact wrC_same _ _ _ _ _
theorem scope_x (sh : Bool) (a b c d n m now : Int) (hne : ¬ (a = c ∧ b = d)) : (wrC (wrC C0 (ownO (keyK sh) a b) 0 n 0) (ownO (keyK sh) c d) 0 m now (ownO (keyK sh) a b) 0).1 = if sh = true then m else n := by
  cases sh
  · rw [wrC_other]
    · exact wrC_same _ _ _ _ _
    · intro e
      have h1 := congrArg Ow.i e
      have h2 := congrArg Ow.x e
      exact hne ⟨h1, h2⟩
  · exact wrC_same _ _ _ _ _

theorem scopes_walk (sh : Bool) (a b c d n m : Int) (ha : I64 a) (hb : I64 b) (hc : I64 c) (hd : I64 d) (w : World) :
    Calls Try.prog 3 #[.bool sh, .agg #[.int .i64 a, .int .i64 b], .agg #[.int .i64 c, .int .i64 d], .int .i64 n, .int .i64 m] w fun e w' => e = .returned (.bool true) ∧ Touch NoB w w' := by
  have HN := Lib.hid (fun g w' (h : KAt w' NoB (some ⟨g, 0, none⟩) [keyK sh]) => bnew_yes (some ⟨g, 0, none⟩) 1 1 [keyK sh] w' rfl (by simp) h (errK_K sh) (bkeys_K sh))
  have HI := Lib.hid (And.intro (And.intro ha hb) (And.intro hc hd))
  clear ha hb hc hd
  have hb0 : ∀ W, Touch NoB ((w.alloc (.cells #[.int .i64 a, .int .i64 b] 23)).alloc (.cells #[.int .i64 c, .int .i64 d] 23)) W →
      W.heap[w.heap.size]? = some (.cells #[.int .i64 a, .int .i64 b] 23 (0, 0)) ∧ W.heap[w.heap.size + 1]? = some (.cells #[.int .i64 c, .int .i64 d] 23 (0, 0)) := by
    intro W hW
    refine ⟨?_, ?_⟩
    · rw [hW.block _ (by simp only [World.size_alloc]; omega) (fun e => e), heap_alloc_old _ _ (by simp only [World.size_alloc]; omega)]
      exact alloc_blk w _ _ rfl
    · rw [hW.block _ (by simp only [World.size_alloc]; omega) (fun e => e)]
      exact alloc_blk _ _ _ (by simp only [World.size_alloc])
  have H0 := Lib.hid hb0
  clear hb0
  go_enter Try.func3, Try.ntmps3
  go_wp2_with fail
  refine (alive_any _).mono ?_
  rintro e w1 ⟨rfl, hT1⟩
  have HT1 := Lib.hid hT1
  clear hT1
  go_wp2_with fail
  refine (HN.out _ _ (kat_K sh w1)).mono ?_
  intro e w2 hP
  have hT0 : Touch NoB w w1 := (((Touch.refl NoB w).alloc _).alloc _).same HT1.out
  have hT2' := hT0
  obtain ⟨g, rfl, hS, hT2⟩ := hP.sb (w := w) (L := fun k => k = w.heap.size ∨ k = w.heap.size + 1) (hT0.alloc _) (fun k hk => by have := HT1.out.size; simp only [World.size_alloc] at this ⊢; omega)
  obtain ⟨hA, hB⟩ := H0.out w2 (HT1.out.same (((Touch.refl NoB w1).alloc _).same hT2))
  have HS := Lib.hid hS
  have HAB := Lib.hid (And.intro hA hB)
  clear hP hS hT0 hT2' hT2
  have a0 : w2.cell? ⟨w.heap.size, 0, none⟩ = some (.int .i64 a) := cell_blk hA 0
  have a1 : w2.cell? ⟨w.heap.size, 1, none⟩ = some (.int .i64 b) := cell_blk hA 1
  have b0 : w2.cell? ⟨w.heap.size + 1, 0, none⟩ = some (.int .i64 c) := cell_blk hB 0
  have b1 : w2.cell? ⟨w.heap.size + 1, 1, none⟩ = some (.int .i64 d) := cell_blk hB 1
  have hAl := blk_lt hA
  have hBl := blk_lt hB
  clear hA hB
  by_cases h1 : a = c ∧ b = d
  · obtain ⟨rfl, rfl⟩ := h1
    go_wp2_with fail
    refine (num_any _ _).mono ?_
    rintro e w' ⟨rfl, rfl⟩
    go_wp2
    go_ret
    exact ⟨rfl, HS.out.touch⟩
  · have HNe := Lib.hid h1
    have hq : (a == c) = false ∨ ((a == c) = true ∧ (b == d) = false) := by
      by_cases e1 : a = c
      · exact .inr ⟨by simpa using e1, by simpa using fun e2 => h1 ⟨e1, e2⟩⟩
      · exact .inl (by simpa using e1)
    clear h1
    rcases hq with hq | ⟨hq1, hq⟩
    all_goals
      go_wp2_with fail
      refine (num_any _ _).mono ?_
      rintro e w' ⟨rfl, rfl⟩
      go_wp2_with fail
      refine (sb_write HS.out (by decide) (by simp) (find_K sh) rfl HI.out.1.1 HI.out.1.2 n (by decide) (by decide)).mono ?_
      rintro e w3 ⟨rfl, hS3, hK3⟩
      have HAB2 := HAB
      clear HAB a0 a1 b0 b1 hAl hBl HS
      have HAB : Hid (w3.heap[w.heap.size]? = some (.cells #[.int .i64 a, .int .i64 b] 23 (0, 0)) ∧ w3.heap[w.heap.size + 1]? = some (.cells #[.int .i64 c, .int .i64 d] 23 (0, 0))) := ⟨(hK3.1 _ (.inl rfl)).trans HAB2.out.1, (hK3.1 _ (.inr rfl)).trans HAB2.out.2⟩
      have hN3 := wrN_range C0 (ownO (keyK sh) a b) 0 n 0
      have HS3 := Lib.hid hS3
      clear hS3 hK3 HAB2
      have a0 : w3.cell? ⟨w.heap.size, 0, none⟩ = some (.int .i64 a) := cell_blk HAB.out.1 0
      have a1 : w3.cell? ⟨w.heap.size, 1, none⟩ = some (.int .i64 b) := cell_blk HAB.out.1 1
      have b0 : w3.cell? ⟨w.heap.size + 1, 0, none⟩ = some (.int .i64 c) := cell_blk HAB.out.2 0
      have b1 : w3.cell? ⟨w.heap.size + 1, 1, none⟩ = some (.int .i64 d) := cell_blk HAB.out.2 1
      have hAl := blk_lt HAB.out.1
      have hBl := blk_lt HAB.out.2
      go_wp2_with fail
      refine (sb_read HS3.out (by simp) (find_K sh) rfl HI.out.2.1 HI.out.2.2).mono ?_
      rintro e w4 ⟨rfl, hT4⟩
      rw [scope_v sh a b c d n HNe.out]
      have HAB2 := HAB
      clear HAB a0 a1 b0 b1 hAl hBl
      have HAB : Hid (w4.heap[w.heap.size]? = some (.cells #[.int .i64 a, .int .i64 b] 23 (0, 0)) ∧ w4.heap[w.heap.size + 1]? = some (.cells #[.int .i64 c, .int .i64 d] 23 (0, 0))) := ⟨(hT4.block _ (blk_lt HAB2.out.1) (fun e => e)).trans HAB2.out.1, (hT4.block _ (blk_lt HAB2.out.2) (fun e => e)).trans HAB2.out.2⟩
      have HS4 := Lib.hid (HS3.out.quiet hT4)
      clear hT4 HAB2 HS3
      have a0 : w4.cell? ⟨w.heap.size, 0, none⟩ = some (.int .i64 a) := cell_blk HAB.out.1 0
      have a1 : w4.cell? ⟨w.heap.size, 1, none⟩ = some (.int .i64 b) := cell_blk HAB.out.1 1
      have b0 : w4.cell? ⟨w.heap.size + 1, 0, none⟩ = some (.int .i64 c) := cell_blk HAB.out.2 0
      have b1 : w4.cell? ⟨w.heap.size + 1, 1, none⟩ = some (.int .i64 d) := cell_blk HAB.out.2 1
      have hAl := blk_lt HAB.out.1
      have hBl := blk_lt HAB.out.2
      go_upto_region 7 with fail
      obtain ⟨p, hp⟩ : ∃ p : Int, (if sh = true then n else 0) = p := ⟨_, rfl⟩
      simp only [hp]
      obtain ⟨w5, hw5⟩ : ∃ w5, w4.alloc (.cells #[.int .i64 0, .int .i64 p, .int .i64 0, .string ⟨#[]⟩, .complex .f64 0 0] 36) = w5 := ⟨_, rfl⟩
      have T5 : Touch NoB w4 w5 := by rw [← hw5]; exact (Touch.refl NoB w4).alloc _
      have hvb : w5.heap[w4.heap.size]? = some (.cells #[.int .i64 0, .int .i64 p, .int .i64 0, .string ⟨#[]⟩, .complex .f64 0 0] 36 (0, 0)) := by rw [← hw5]; exact alloc_blk _ _ _ rfl
      have HAB2 := HAB
      clear HAB a0 a1 b0 b1 hAl hBl
      have HAB : Hid (w5.heap[w.heap.size]? = some (.cells #[.int .i64 a, .int .i64 b] 23 (0, 0)) ∧ w5.heap[w.heap.size + 1]? = some (.cells #[.int .i64 c, .int .i64 d] 23 (0, 0))) := ⟨(T5.block _ (blk_lt HAB2.out.1) (fun e => e)).trans HAB2.out.1, (T5.block _ (blk_lt HAB2.out.2) (fun e => e)).trans HAB2.out.2⟩
      have HS5 := Lib.hid (HS4.out.own T5 (Nat.le_refl _) (blk_lt hvb))
      have HV := Lib.hid hvb
      simp only [hw5]
      clear hw5 T5 hvb HAB2 HS4
      have a0 : w5.cell? ⟨w.heap.size, 0, none⟩ = some (.int .i64 a) := cell_blk HAB.out.1 0
      have a1 : w5.cell? ⟨w.heap.size, 1, none⟩ = some (.int .i64 b) := cell_blk HAB.out.1 1
      have b0 : w5.cell? ⟨w.heap.size + 1, 0, none⟩ = some (.int .i64 c) := cell_blk HAB.out.2 0
      have b1 : w5.cell? ⟨w.heap.size + 1, 1, none⟩ = some (.int .i64 d) := cell_blk HAB.out.2 1
      have hAl := blk_lt HAB.out.1
      have hBl := blk_lt HAB.out.2
      go_wp2_with fail
      refine (sb_write HS5.out (by decide) (by simp) (find_K sh) rfl HI.out.2.1 HI.out.2.2 m (by omega) (by omega)).mono ?_
      rintro e w6 ⟨rfl, hS6, hK6⟩
      have hvb := (hK6.1 _ (.inr rfl)).trans HV.out
      have HAB2 := HAB
      clear HAB a0 a1 b0 b1 hAl hBl HV HS5
      have HAB : Hid (w6.heap[w.heap.size]? = some (.cells #[.int .i64 a, .int .i64 b] 23 (0, 0)) ∧ w6.heap[w.heap.size + 1]? = some (.cells #[.int .i64 c, .int .i64 d] 23 (0, 0))) := ⟨(hK6.1 _ (.inl (.inl rfl))).trans HAB2.out.1, (hK6.1 _ (.inl (.inr rfl))).trans HAB2.out.2⟩
      have HS6 := Lib.hid hS6
      have HV := Lib.hid hvb
      clear hS6 hK6 HAB2 hvb
      have a0 : w6.cell? ⟨w.heap.size, 0, none⟩ = some (.int .i64 a) := cell_blk HAB.out.1 0
      have a1 : w6.cell? ⟨w.heap.size, 1, none⟩ = some (.int .i64 b) := cell_blk HAB.out.1 1
      have b0 : w6.cell? ⟨w.heap.size + 1, 0, none⟩ = some (.int .i64 c) := cell_blk HAB.out.2 0
      have b1 : w6.cell? ⟨w.heap.size + 1, 1, none⟩ = some (.int .i64 d) := cell_blk HAB.out.2 1
      have hAl := blk_lt HAB.out.1
      have hBl := blk_lt HAB.out.2
      go_wp2_with fail
      refine (sb_read HS6.out (by simp) (find_K sh) rfl HI.out.1.1 HI.out.1.2).mono ?_
      rintro e w7 ⟨rfl, hT7⟩
      rw [scope_x sh a b c d n m _ HNe.out]
      have v1 : w7.cell? ⟨w4.heap.size, 1, none⟩ = some (.int .i64 p) := cell_blk ((hT7.block _ (blk_lt HV.out) (fun e => e)).trans HV.out) 1
      have hvl : w4.heap.size < w7.heap.size := Nat.lt_of_lt_of_le (blk_lt HV.out) hT7.size
      have HT7 := Lib.hid (HS6.out.touch.same hT7)
      clear HAB a0 a1 b0 b1 hAl hBl HV HS6 hT7 hN3
      cases sh
      · have e1 : p = 0 := by rw [← hp]; rfl
        subst e1
        clear hp
        simp only [Bool.false_eq_true, if_false]
        go_wp2
        go_ret
        exact ⟨rfl, HT7.out.alloc _⟩
      · have e1 : p = n := by rw [← hp]; rfl
        subst e1
        clear hp
        simp only [if_true]
        go_wp2
        go_ret
        exact ⟨rfl, HT7.out.alloc _⟩
end Go.Proofs.Yteacpfknfbmjkaa
