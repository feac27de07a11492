/-
  The walk of BoardForgets.
-/
import Derived.Test.YteacpfknfbmjkaaBi
namespace Go.Proofs.Yteacpfknfbmjkaa
open Go.ChangeShapes Go.WideShapes Go.ChangeAt Go.RowKit Go.Maps
set_option maxRecDepth 100000
set_option maxHeartbeats 4000000

attribute [local go_sem] run_equalIn_complex run_store_complex

/-- The keys of BoardForgets and BoardStamps: k, and s, which all share. -/
def kyK : Ky := ⟨⟨#[107]⟩, 0, false⟩
def kyS : Ky := ⟨⟨#[115]⟩, 0, true⟩
def K2 : List Ky := [kyK, kyS]
theorem errK_2 : errK K2 = 0 := by decide +kernel
theorem find_k : findK K2 ⟨#[107]⟩ = some 0 := by decide +kernel
theorem find_s : findK K2 ⟨#[115]⟩ = some 1 := by decide +kernel
theorem bkeys_2 : ∀ (j : Nat) (k : Ky), K2[j]? = some k → k.nm.size ≤ 1000 ∧ k.kd = 0 := by
  intro j k hj
  rcases j with _ | _ | j
  · simp [K2] at hj; subst hj; exact ⟨by decide, rfl⟩
  · simp [K2] at hj; subst hj; exact ⟨by decide, rfl⟩
  · simp [K2] at hj
theorem kat_2 (w : World) : KAt (w.alloc (.cells #[.string ⟨#[107]⟩, .int .i64 0, .bool false, .string ⟨#[115]⟩, .int .i64 0, .bool true] 30)) NoB (some ⟨w.heap.size, 0, none⟩) K2 :=
  kat_blk (alloc_blk w _ _ rfl) rfl (by intro k hk; simp [K2] at hk; rcases hk with rfl | rfl <;> decide)

/-- The cells when all is written, before one is forgotten. -/
def Cf (a b c d n n1 n2 : Int) : Ow → Nat → Int × Int := wrC (wrC (wrC C0 (ownO kyK a b) 0 n 0) (ownO kyK c d) 0 n n1) (ownO kyS a b) 1 n n2
theorem forget_x (a b c d n n1 n2 : Int) : noC (Cf a b c d n n1 n2) ⟨a, b, false⟩ (ownO kyK a b) 0 = (0, 0) := noC_same _ _ _
theorem forget_y (a b c d n n1 n2 : Int) (hne : ¬ (a = c ∧ b = d)) : (noC (Cf a b c d n n1 n2) ⟨a, b, false⟩ (ownO kyK c d) 0).1 = n := by
  rw [noC_other]
  · unfold Cf
    rw [wrC_other]
    · exact wrC_same _ _ _ _ _
    · intro e
      exact Bool.noConfusion (congrArg Ow.e e)
  · intro e
    exact hne ⟨(congrArg Ow.i e).symm, (congrArg Ow.x e).symm⟩
theorem forget_z (a b c d n n1 n2 : Int) : (noC (Cf a b c d n n1 n2) ⟨a, b, false⟩ (ownO kyS a b) 1).1 = n := by
  rw [noC_other]
  · exact wrC_same _ _ _ _ _
  · intro e
    exact Bool.noConfusion (congrArg Ow.e e)

theorem forgets_walk (a b c d n : Int) (ha : I64 a) (hb : I64 b) (hc : I64 c) (hd : I64 d) (w : World) :
    Calls Try.prog 5 #[.agg #[.int .i64 a, .int .i64 b], .agg #[.int .i64 c, .int .i64 d], .int .i64 n] w fun e w' => e = .returned (.bool true) ∧ Touch NoB w w' := by
  have HN := Lib.hid (fun g w' (h : KAt w' NoB (some ⟨g, 0, none⟩) K2) => bnew_yes (some ⟨g, 0, none⟩) 2 2 K2 w' rfl (by simp) h errK_2 bkeys_2)
  have HI := Lib.hid (And.intro (And.intro ha hb) (And.intro hc hd))
  clear ha hb hc hd
  have hb0 : ∀ W, Touch NoB ((w.alloc (.cells #[.int .i64 a, .int .i64 b] 23)).alloc (.cells #[.int .i64 c, .int .i64 d] 23)) W →
      W.heap[w.heap.size]? = some (.cells #[.int .i64 a, .int .i64 b] 23 (0, 0)) ∧ W.heap[w.heap.size + 1]? = some (.cells #[.int .i64 c, .int .i64 d] 23 (0, 0)) := by
    intro W hW
    refine ⟨?_, ?_⟩
    · rw [hW.block _ (by simp only [World.size_alloc]; omega) (fun e => e), heap_alloc_old _ _ (by simp only [World.size_alloc]; omega)]
      exact alloc_blk w _ _ rfl
    · rw [hW.block _ (by simp only [World.size_alloc]; omega) (fun e => e)]
      exact alloc_blk _ _ _ (by simp only [World.size_alloc])
  have H0 := Lib.hid hb0
  clear hb0
  go_enter Try.func5, Try.ntmps5
  go_wp2_with fail
  refine (alive_any _).mono ?_
  rintro e w1 ⟨rfl, hT1⟩
  have HT1 := Lib.hid hT1
  clear hT1
  go_wp2_with fail
  refine (HN.out _ _ (kat_2 w1)).mono ?_
  intro e w2 hP
  have hT0 : Touch NoB w w1 := (((Touch.refl NoB w).alloc _).alloc _).same HT1.out
  obtain ⟨g, rfl, hS, hT2⟩ := hP.sb (w := w) (L := fun k => k = w.heap.size ∨ k = w.heap.size + 1) (hT0.alloc _) (fun k hk => by have := HT1.out.size; simp only [World.size_alloc] at this ⊢; omega)
  have HAB := Lib.hid (H0.out w2 (HT1.out.same (((Touch.refl NoB w1).alloc _).same hT2)))
  have HS := Lib.hid hS
  clear hP hS hT0 hT2
  have a0 : w2.cell? ⟨w.heap.size, 0, none⟩ = some (.int .i64 a) := cell_blk HAB.out.1 0
  have a1 : w2.cell? ⟨w.heap.size, 1, none⟩ = some (.int .i64 b) := cell_blk HAB.out.1 1
  have b0 : w2.cell? ⟨w.heap.size + 1, 0, none⟩ = some (.int .i64 c) := cell_blk HAB.out.2 0
  have b1 : w2.cell? ⟨w.heap.size + 1, 1, none⟩ = some (.int .i64 d) := cell_blk HAB.out.2 1
  have hAl := blk_lt HAB.out.1
  have hBl := blk_lt HAB.out.2
  by_cases h1 : a = c ∧ b = d
  · obtain ⟨rfl, rfl⟩ := h1
    go_wp2_with fail
    refine (num_any _ _).mono ?_
    rintro e w' ⟨rfl, rfl⟩
    go_wp2
    go_ret
    exact ⟨rfl, HS.out.touch⟩
  · have HNe := Lib.hid h1
    have hq : (a == c) = false ∨ ((a == c) = true ∧ (b == d) = false) := by
      by_cases e1 : a = c
      · exact .inr ⟨by simpa using e1, by simpa using fun e2 => h1 ⟨e1, e2⟩⟩
      · exact .inl (by simpa using e1)
    clear h1
    rcases hq with hq | ⟨hq1, hq⟩
    all_goals
      go_wp2_with fail
      refine (num_any _ _).mono ?_
      rintro e w' ⟨rfl, rfl⟩
      go_upto_region 8 with fail
      obtain ⟨w3, hw3⟩ : ∃ w3, w2.alloc (.cells #[.int .i64 0, .int .i64 n, .int .i64 0, .string ⟨#[]⟩, .complex .f64 0 0] 36) = w3 := ⟨_, rfl⟩
      have T3 : Touch NoB w2 w3 := by rw [← hw3]; exact (Touch.refl NoB w2).alloc _
      have hvb : w3.heap[w2.heap.size]? = some (.cells #[.int .i64 0, .int .i64 n, .int .i64 0, .string ⟨#[]⟩, .complex .f64 0 0] 36 (0, 0)) := by rw [← hw3]; exact alloc_blk _ _ _ rfl
      have HS3 := Lib.hid (HS.out.own T3 (Nat.le_refl _) (blk_lt hvb))
      obtain ⟨vb, hvbe⟩ : ∃ vb, w2.heap.size = vb := ⟨_, rfl⟩
      have HAB2 := HAB
      clear HAB a0 a1 b0 b1 hAl hBl HS
      have HAB : Hid (w3.heap[w.heap.size]? = some (.cells #[.int .i64 a, .int .i64 b] 23 (0, 0)) ∧ w3.heap[w.heap.size + 1]? = some (.cells #[.int .i64 c, .int .i64 d] 23 (0, 0))) := ⟨(T3.block _ (blk_lt HAB2.out.1) (fun e => e)).trans HAB2.out.1, (T3.block _ (blk_lt HAB2.out.2) (fun e => e)).trans HAB2.out.2⟩
      simp only [hw3, hvbe]
      rw [hvbe] at hvb HS3
      have HV := Lib.hid hvb
      clear hw3 hvbe T3 hvb HAB2
      have a0 : w3.cell? ⟨w.heap.size, 0, none⟩ = some (.int .i64 a) := cell_blk HAB.out.1 0
      have a1 : w3.cell? ⟨w.heap.size, 1, none⟩ = some (.int .i64 b) := cell_blk HAB.out.1 1
      have b0 : w3.cell? ⟨w.heap.size + 1, 0, none⟩ = some (.int .i64 c) := cell_blk HAB.out.2 0
      have b1 : w3.cell? ⟨w.heap.size + 1, 1, none⟩ = some (.int .i64 d) := cell_blk HAB.out.2 1
      have hAl := blk_lt HAB.out.1
      have hBl := blk_lt HAB.out.2
      have v0 : w3.cell? ⟨vb, 0, none⟩ = some (.int .i64 0) := cell_blk HV.out 0
      have v1 : w3.cell? ⟨vb, 1, none⟩ = some (.int .i64 n) := cell_blk HV.out 1
      have v2 : w3.cell? ⟨vb, 2, none⟩ = some (.int .i64 0) := cell_blk HV.out 2
      have v3 : w3.cell? ⟨vb, 3, none⟩ = some (.string ⟨#[]⟩) := cell_blk HV.out 3
      have v4 : w3.cell? ⟨vb, 4, none⟩ = some (.complex .f64 0 0) := cell_blk HV.out 4
      have hVl := blk_lt HV.out
      go_wp2_with fail
      refine (sb_write HS3.out (by decide) (by decide) find_k (k := kyK) rfl HI.out.1.1 HI.out.1.2 n (by omega) (by omega)).mono ?_
      rintro e w4 ⟨rfl, hS, hK⟩
      have HAB2 := HAB
      have HV2 := HV
      clear HAB HV a0 a1 b0 b1 hAl hBl v0 v1 v2 v3 v4 hVl
      have HAB : Hid (w4.heap[w.heap.size]? = some (.cells #[.int .i64 a, .int .i64 b] 23 (0, 0)) ∧ w4.heap[w.heap.size + 1]? = some (.cells #[.int .i64 c, .int .i64 d] 23 (0, 0))) := ⟨(hK.1 _ (.inl (.inl rfl))).trans HAB2.out.1, (hK.1 _ (.inl (.inr rfl))).trans HAB2.out.2⟩
      have HV : Hid (w4.heap[vb]? = some (.cells #[.int .i64 0, .int .i64 n, .int .i64 0, .string ⟨#[]⟩, .complex .f64 0 0] 36 (0, 0))) := (hK.1 _ (.inr rfl)).trans HV2.out
      clear HAB2 HV2
      have HS4 := Lib.hid hS
      clear hS hK HS3
      have a0 : w4.cell? ⟨w.heap.size, 0, none⟩ = some (.int .i64 a) := cell_blk HAB.out.1 0
      have a1 : w4.cell? ⟨w.heap.size, 1, none⟩ = some (.int .i64 b) := cell_blk HAB.out.1 1
      have b0 : w4.cell? ⟨w.heap.size + 1, 0, none⟩ = some (.int .i64 c) := cell_blk HAB.out.2 0
      have b1 : w4.cell? ⟨w.heap.size + 1, 1, none⟩ = some (.int .i64 d) := cell_blk HAB.out.2 1
      have hAl := blk_lt HAB.out.1
      have hBl := blk_lt HAB.out.2
      have v0 : w4.cell? ⟨vb, 0, none⟩ = some (.int .i64 0) := cell_blk HV.out 0
      have v1 : w4.cell? ⟨vb, 1, none⟩ = some (.int .i64 n) := cell_blk HV.out 1
      have v2 : w4.cell? ⟨vb, 2, none⟩ = some (.int .i64 0) := cell_blk HV.out 2
      have v3 : w4.cell? ⟨vb, 3, none⟩ = some (.string ⟨#[]⟩) := cell_blk HV.out 3
      have v4 : w4.cell? ⟨vb, 4, none⟩ = some (.complex .f64 0 0) := cell_blk HV.out 4
      have hVl := blk_lt HV.out
      have hN4 := wrN_range C0 (ownO kyK a b) 0 n 0
      obtain ⟨n1, hn1⟩ : ∃ n1, wrN C0 (ownO kyK a b) 0 n 0 = n1 := ⟨_, rfl⟩
      rw [hn1] at HS4 hN4
      go_wp2_with fail
      refine (sb_write HS4.out (by decide) (by decide) find_k (k := kyK) rfl HI.out.2.1 HI.out.2.2 n (by omega) (by omega)).mono ?_
      rintro e w5 ⟨rfl, hS, hK⟩
      have HAB2 := HAB
      have HV2 := HV
      clear HAB HV a0 a1 b0 b1 hAl hBl v0 v1 v2 v3 v4 hVl
      have HAB : Hid (w5.heap[w.heap.size]? = some (.cells #[.int .i64 a, .int .i64 b] 23 (0, 0)) ∧ w5.heap[w.heap.size + 1]? = some (.cells #[.int .i64 c, .int .i64 d] 23 (0, 0))) := ⟨(hK.1 _ (.inl (.inl rfl))).trans HAB2.out.1, (hK.1 _ (.inl (.inr rfl))).trans HAB2.out.2⟩
      have HV : Hid (w5.heap[vb]? = some (.cells #[.int .i64 0, .int .i64 n, .int .i64 0, .string ⟨#[]⟩, .complex .f64 0 0] 36 (0, 0))) := (hK.1 _ (.inr rfl)).trans HV2.out
      clear HAB2 HV2
      have HS5 := Lib.hid hS
      clear hS hK HS4
      have a0 : w5.cell? ⟨w.heap.size, 0, none⟩ = some (.int .i64 a) := cell_blk HAB.out.1 0
      have a1 : w5.cell? ⟨w.heap.size, 1, none⟩ = some (.int .i64 b) := cell_blk HAB.out.1 1
      have b0 : w5.cell? ⟨w.heap.size + 1, 0, none⟩ = some (.int .i64 c) := cell_blk HAB.out.2 0
      have b1 : w5.cell? ⟨w.heap.size + 1, 1, none⟩ = some (.int .i64 d) := cell_blk HAB.out.2 1
      have hAl := blk_lt HAB.out.1
      have hBl := blk_lt HAB.out.2
      have v0 : w5.cell? ⟨vb, 0, none⟩ = some (.int .i64 0) := cell_blk HV.out 0
      have v1 : w5.cell? ⟨vb, 1, none⟩ = some (.int .i64 n) := cell_blk HV.out 1
      have v2 : w5.cell? ⟨vb, 2, none⟩ = some (.int .i64 0) := cell_blk HV.out 2
      have v3 : w5.cell? ⟨vb, 3, none⟩ = some (.string ⟨#[]⟩) := cell_blk HV.out 3
      have v4 : w5.cell? ⟨vb, 4, none⟩ = some (.complex .f64 0 0) := cell_blk HV.out 4
      have hVl := blk_lt HV.out
      have hN5 := wrN_range (wrC C0 (ownO kyK a b) 0 n 0) (ownO kyK c d) 0 n n1
      obtain ⟨n2, hn2⟩ : ∃ n2, wrN (wrC C0 (ownO kyK a b) 0 n 0) (ownO kyK c d) 0 n n1 = n2 := ⟨_, rfl⟩
      rw [hn2] at HS5 hN5
      go_wp2_with fail
      refine (sb_write HS5.out (by decide) (by decide) find_s (k := kyS) rfl HI.out.1.1 HI.out.1.2 n (by omega) (by omega)).mono ?_
      rintro e w6 ⟨rfl, hS, hK⟩
      have HAB2 := HAB
      have HV2 := HV
      clear HAB HV a0 a1 b0 b1 hAl hBl v0 v1 v2 v3 v4 hVl
      have HAB : Hid (w6.heap[w.heap.size]? = some (.cells #[.int .i64 a, .int .i64 b] 23 (0, 0)) ∧ w6.heap[w.heap.size + 1]? = some (.cells #[.int .i64 c, .int .i64 d] 23 (0, 0))) := ⟨(hK.1 _ (.inl (.inl rfl))).trans HAB2.out.1, (hK.1 _ (.inl (.inr rfl))).trans HAB2.out.2⟩
      have HV : Hid (w6.heap[vb]? = some (.cells #[.int .i64 0, .int .i64 n, .int .i64 0, .string ⟨#[]⟩, .complex .f64 0 0] 36 (0, 0))) := (hK.1 _ (.inr rfl)).trans HV2.out
      clear HAB2 HV2
      have HS6 := Lib.hid hS
      clear hS hK HS5
      have a0 : w6.cell? ⟨w.heap.size, 0, none⟩ = some (.int .i64 a) := cell_blk HAB.out.1 0
      have a1 : w6.cell? ⟨w.heap.size, 1, none⟩ = some (.int .i64 b) := cell_blk HAB.out.1 1
      have b0 : w6.cell? ⟨w.heap.size + 1, 0, none⟩ = some (.int .i64 c) := cell_blk HAB.out.2 0
      have b1 : w6.cell? ⟨w.heap.size + 1, 1, none⟩ = some (.int .i64 d) := cell_blk HAB.out.2 1
      have hAl := blk_lt HAB.out.1
      have hBl := blk_lt HAB.out.2
      have v0 : w6.cell? ⟨vb, 0, none⟩ = some (.int .i64 0) := cell_blk HV.out 0
      have v1 : w6.cell? ⟨vb, 1, none⟩ = some (.int .i64 n) := cell_blk HV.out 1
      have v2 : w6.cell? ⟨vb, 2, none⟩ = some (.int .i64 0) := cell_blk HV.out 2
      have v3 : w6.cell? ⟨vb, 3, none⟩ = some (.string ⟨#[]⟩) := cell_blk HV.out 3
      have v4 : w6.cell? ⟨vb, 4, none⟩ = some (.complex .f64 0 0) := cell_blk HV.out 4
      have hVl := blk_lt HV.out
      obtain ⟨n3, hn3⟩ : ∃ n3, wrN (wrC (wrC C0 (ownO kyK a b) 0 n 0) (ownO kyK c d) 0 n n1) (ownO kyS a b) 1 n n2 = n3 := ⟨_, rfl⟩
      rw [hn3] at HS6
      have HSf : Hid (SB w w6 _ g K2 (Cf a b c d n n1 n2) n3 _) := HS6
      go_wp2_with fail
      refine (sb_now HSf.out).mono ?_
      rintro e w' ⟨rfl, rfl⟩
      go_wp2_with fail
      refine (sb_forget HSf.out HI.out.1.1 HI.out.1.2).mono ?_
      rintro e w7 ⟨rfl, hS, hK⟩
      have HAB2 := HAB
      have HV2 := HV
      clear HAB HV a0 a1 b0 b1 hAl hBl v0 v1 v2 v3 v4 hVl
      have HAB : Hid (w7.heap[w.heap.size]? = some (.cells #[.int .i64 a, .int .i64 b] 23 (0, 0)) ∧ w7.heap[w.heap.size + 1]? = some (.cells #[.int .i64 c, .int .i64 d] 23 (0, 0))) := ⟨(hK.1 _ (.inl (.inl rfl))).trans HAB2.out.1, (hK.1 _ (.inl (.inr rfl))).trans HAB2.out.2⟩
      have HV : Hid (w7.heap[vb]? = some (.cells #[.int .i64 0, .int .i64 n, .int .i64 0, .string ⟨#[]⟩, .complex .f64 0 0] 36 (0, 0))) := (hK.1 _ (.inr rfl)).trans HV2.out
      clear HAB2 HV2
      have HS7 := Lib.hid hS
      clear hS hK HS6 HSf
      have a0 : w7.cell? ⟨w.heap.size, 0, none⟩ = some (.int .i64 a) := cell_blk HAB.out.1 0
      have a1 : w7.cell? ⟨w.heap.size, 1, none⟩ = some (.int .i64 b) := cell_blk HAB.out.1 1
      have b0 : w7.cell? ⟨w.heap.size + 1, 0, none⟩ = some (.int .i64 c) := cell_blk HAB.out.2 0
      have b1 : w7.cell? ⟨w.heap.size + 1, 1, none⟩ = some (.int .i64 d) := cell_blk HAB.out.2 1
      have hAl := blk_lt HAB.out.1
      have hBl := blk_lt HAB.out.2
      clear HV
      go_wp2_with fail
      refine (sb_read HS7.out (by decide) find_k (k := kyK) rfl HI.out.1.1 HI.out.1.2).mono ?_
      rintro e w8 ⟨rfl, hT⟩
      rw [forget_x a b c d n n1 n2]
      go_upto_region 14 with fail
      obtain ⟨u8, hu⟩ : ∃ u, w8.alloc (.cells #[.int .i64 0, .int .i64 0, .int .i64 0, .string ⟨#[]⟩, .complex .f64 0 0] 36) = u := ⟨_, rfl⟩
      have TT : Touch NoB w7 u8 := by rw [← hu]; exact hT.alloc _
      have hx : u8.heap[w8.heap.size]? = some (.cells #[.int .i64 0, .int .i64 0, .int .i64 0, .string ⟨#[]⟩, .complex .f64 0 0] 36 (0, 0)) := by rw [← hu]; exact alloc_blk _ _ _ rfl
      obtain ⟨x8, hxe⟩ : ∃ x, w8.heap.size = x := ⟨_, rfl⟩
      rw [hxe] at hx
      simp only [hu, hxe]
      have HS8 := Lib.hid (HS7.out.quiet TT)
      have hA := And.intro ((TT.block _ (blk_lt HAB.out.1) (fun e => e)).trans HAB.out.1) ((TT.block _ (blk_lt HAB.out.2) (fun e => e)).trans HAB.out.2)
      clear HAB a0 a1 b0 b1 hAl hBl hu hxe hT TT HS7
      have HX8 := Lib.hid hx
      have HAB := Lib.hid hA
      clear hA hx
      have a0 : u8.cell? ⟨w.heap.size, 0, none⟩ = some (.int .i64 a) := cell_blk HAB.out.1 0
      have a1 : u8.cell? ⟨w.heap.size, 1, none⟩ = some (.int .i64 b) := cell_blk HAB.out.1 1
      have b0 : u8.cell? ⟨w.heap.size + 1, 0, none⟩ = some (.int .i64 c) := cell_blk HAB.out.2 0
      have b1 : u8.cell? ⟨w.heap.size + 1, 1, none⟩ = some (.int .i64 d) := cell_blk HAB.out.2 1
      have hAl := blk_lt HAB.out.1
      have hBl := blk_lt HAB.out.2
      go_wp2_with fail
      refine (sb_read HS8.out (by decide) find_k (k := kyK) rfl HI.out.2.1 HI.out.2.2).mono ?_
      rintro e w9 ⟨rfl, hT⟩
      rw [forget_y a b c d n n1 n2 HNe.out]
      go_upto_region 15 with fail
      obtain ⟨u9, hu⟩ : ∃ u, w9.alloc (.cells #[.int .i64 0, .int .i64 n, .int .i64 0, .string ⟨#[]⟩, .complex .f64 0 0] 36) = u := ⟨_, rfl⟩
      have TT : Touch NoB u8 u9 := by rw [← hu]; exact hT.alloc _
      have hx : u9.heap[w9.heap.size]? = some (.cells #[.int .i64 0, .int .i64 n, .int .i64 0, .string ⟨#[]⟩, .complex .f64 0 0] 36 (0, 0)) := by rw [← hu]; exact alloc_blk _ _ _ rfl
      obtain ⟨x9, hxe⟩ : ∃ x, w9.heap.size = x := ⟨_, rfl⟩
      rw [hxe] at hx
      simp only [hu, hxe]
      have HS9 := Lib.hid (HS8.out.quiet TT)
      have hA := And.intro ((TT.block _ (blk_lt HAB.out.1) (fun e => e)).trans HAB.out.1) ((TT.block _ (blk_lt HAB.out.2) (fun e => e)).trans HAB.out.2)
      have hB8 := (TT.block _ (blk_lt HX8.out) (fun e => e)).trans HX8.out
      clear HAB a0 a1 b0 b1 hAl hBl hu hxe hT TT HS8 HX8
      have HX8 := Lib.hid hB8
      have HX9 := Lib.hid hx
      have HAB := Lib.hid hA
      clear hA hx hB8
      have a0 : u9.cell? ⟨w.heap.size, 0, none⟩ = some (.int .i64 a) := cell_blk HAB.out.1 0
      have a1 : u9.cell? ⟨w.heap.size, 1, none⟩ = some (.int .i64 b) := cell_blk HAB.out.1 1
      have b0 : u9.cell? ⟨w.heap.size + 1, 0, none⟩ = some (.int .i64 c) := cell_blk HAB.out.2 0
      have b1 : u9.cell? ⟨w.heap.size + 1, 1, none⟩ = some (.int .i64 d) := cell_blk HAB.out.2 1
      have hAl := blk_lt HAB.out.1
      have hBl := blk_lt HAB.out.2
      go_wp2_with fail
      refine (sb_read HS9.out (by decide) find_s (k := kyS) rfl HI.out.1.1 HI.out.1.2).mono ?_
      rintro e w10 ⟨rfl, hT⟩
      rw [forget_z a b c d n n1 n2]
      go_upto_region 16 with fail
      obtain ⟨u10, hu⟩ : ∃ u, w10.alloc (.cells #[.int .i64 0, .int .i64 n, .int .i64 0, .string ⟨#[]⟩, .complex .f64 0 0] 36) = u := ⟨_, rfl⟩
      have TT : Touch NoB u9 u10 := by rw [← hu]; exact hT.alloc _
      have hx : u10.heap[w10.heap.size]? = some (.cells #[.int .i64 0, .int .i64 n, .int .i64 0, .string ⟨#[]⟩, .complex .f64 0 0] 36 (0, 0)) := by rw [← hu]; exact alloc_blk _ _ _ rfl
      obtain ⟨x10, hxe⟩ : ∃ x, w10.heap.size = x := ⟨_, rfl⟩
      rw [hxe] at hx
      simp only [hu, hxe]
      have HS10 := Lib.hid (HS9.out.quiet TT)
      have hA := And.intro ((TT.block _ (blk_lt HAB.out.1) (fun e => e)).trans HAB.out.1) ((TT.block _ (blk_lt HAB.out.2) (fun e => e)).trans HAB.out.2)
      have hB8 := (TT.block _ (blk_lt HX8.out) (fun e => e)).trans HX8.out
      have hB9 := (TT.block _ (blk_lt HX9.out) (fun e => e)).trans HX9.out
      clear HAB a0 a1 b0 b1 hAl hBl hu hxe hT TT HS9 HX8 HX9
      have HX8 := Lib.hid hB8
      have HX9 := Lib.hid hB9
      have HX10 := Lib.hid hx
      have HAB := Lib.hid hA
      clear hA hx hB8 hB9
      have a0 : u10.cell? ⟨w.heap.size, 0, none⟩ = some (.int .i64 a) := cell_blk HAB.out.1 0
      have a1 : u10.cell? ⟨w.heap.size, 1, none⟩ = some (.int .i64 b) := cell_blk HAB.out.1 1
      have b0 : u10.cell? ⟨w.heap.size + 1, 0, none⟩ = some (.int .i64 c) := cell_blk HAB.out.2 0
      have b1 : u10.cell? ⟨w.heap.size + 1, 1, none⟩ = some (.int .i64 d) := cell_blk HAB.out.2 1
      have hAl := blk_lt HAB.out.1
      have hBl := blk_lt HAB.out.2
      go_wp2_with fail
      refine (sb_stamp HS10.out (by decide) find_k (k := kyK) rfl HI.out.1.1 HI.out.1.2).mono ?_
      rintro e w11 ⟨rfl, hT⟩
      rw [forget_x a b c d n n1 n2]
      have HS11 := Lib.hid (HS10.out.quiet hT)
      have y8 : w11.cell? ⟨x8, 1, none⟩ = some (.int .i64 0) := cell_blk ((hT.block _ (blk_lt HX8.out) (fun e => e)).trans HX8.out) 1
      have l8 : x8 < w11.heap.size := Nat.lt_of_lt_of_le (blk_lt HX8.out) hT.size
      have y9 : w11.cell? ⟨x9, 1, none⟩ = some (.int .i64 n) := cell_blk ((hT.block _ (blk_lt HX9.out) (fun e => e)).trans HX9.out) 1
      have l9 : x9 < w11.heap.size := Nat.lt_of_lt_of_le (blk_lt HX9.out) hT.size
      have y10 : w11.cell? ⟨x10, 1, none⟩ = some (.int .i64 n) := cell_blk ((hT.block _ (blk_lt HX10.out) (fun e => e)).trans HX10.out) 1
      have l10 : x10 < w11.heap.size := Nat.lt_of_lt_of_le (blk_lt HX10.out) hT.size
      clear HAB a0 a1 b0 b1 hAl hBl hT HS10 HX8 HX9 HX10
      go_wp2_with fail
      refine (sb_now HS11.out).mono ?_
      rintro e w' ⟨rfl, rfl⟩
      go_wp2
      go_ret
      exact ⟨rfl, HS11.out.touch⟩
end Go.Proofs.Yteacpfknfbmjkaa
