/-
  The statement InlineRings within its bounds. Conditions: those that each theorem names.
-/
import Derived.Test.YtfpeennegmlcpaaR2
import Derived.Test.YtfpeennegmlcpaaJ8
namespace Go.Proofs.Ytfpeennegmlcpaa
open Go.ChangeShapes Go.WideShapes Go.ChangeAt Go.RowKit
set_option maxRecDepth 100000
set_option maxHeartbeats 20000000
attribute [local go_sem ↓] loadN_of storeN_of

theorem nat5 : ((5 : Nat) : Int) = 5 := rfl
theorem nat8 : ((8 : Nat) : Int) = 8 := rfl
theorem nat10 : ((10 : Nat) : Int) = 10 := rfl
theorem nat15 : ((15 : Nat) : Int) = 15 := rfl
theorem dgS_size : ∀ i, i < 30 → (dgS i).size ≤ 2 := by decide +kernel
theorem nm0 : nmI 0 = ⟨#[116, 48]⟩ := by decide +kernel
theorem tn_add {m : Nat} {s z : ByteArray} (hm : m < 30) (hs : dgS m = s) (hz : nmI m = z) : ∀ W, (Op.stringOp .add ⟨#[116]⟩ s).run Try.prog W = .ok (.string z) W := by
  have h1 := dgS_size m hm
  have h2 : (⟨#[116]⟩ : ByteArray).size = 1 := rfl
  rw [hs] at h1
  intro W
  refine (run_string_add_sum (P := Try.prog) (w := W) _ _ (by omega)).trans ?_
  rw [← hz, nmI, hs]
theorem rem_nat (p N : Nat) : (p : Int).tmod (N : Int) = ((p % N : Nat) : Int) := by
  rw [Int.tmod_eq_emod_of_nonneg (by omega)]
  exact (Int.natCast_emod p N).symm
theorem rings_in (N : Nat) (ring : Bool) (w : World) (h1 : 1 ≤ N) (h2 : N ≤ 30) : Calls Try.prog 6 #[.int .i64 (N : Int), .bool ring] w fun e w' => e = .returned (.bool true) ∧ Touch NoB w w' := by
  have g1 : ¬ ((N : Int) < 1) := by omega
  have g2 : ¬ ((30 : Int) < (N : Int)) := by omega
  have HB := Lib.hid (And.intro h1 h2)
  clear h1 h2
  go_enter Try.func6, Try.ntmps6
  go_wp2_with fail
  refine (alive14_any w).mono ?_
  rintro r w1 ⟨rfl, t1⟩
  have H1 : Hid (RRel w N ring N (.slice none 0 0) (.int .i64 0) w1) := Lib.hid ⟨0, [], rfl, Nat.zero_le _, rfl, ⟨rfl, .inl ⟨rfl, rfl⟩⟩, rfl, (fun p hp => by cases hp), t1⟩
  clear t1
  go_wp2
  go_loopg [6, 7] N (fun k v6 v7 wr => RRel w N ring k v6 v7 wr)
  case atStart => exact H1.out
  case round =>
    obtain ⟨i, ps, rfl, hi, hk, hrow, hm, hq, hT⟩ := hrel
    have hcb := HB.out
    by_cases hlast : i = N
    · have hg : ¬ ((i : Int) < (N : Int)) := by omega
      subst hlast
      obtain ⟨tb, c, rfl, htl⟩ := rr_tl hcb.1 hcb.2 hrow hm hq
      have hC := tree_any (nm := nmI 0) htl c (by have := nmI_size 0 (by omega); omega)
      rw [ringsM hcb.1 hcb.2 ring, tsR_len, nm0] at hC
      obtain ⟨i', hi'⟩ : ∃ i', i + 1 = i' := ⟨_, rfl⟩
      have a1 : IntKind.i64.wrap ((i : Int) + 1) = (i' : Int) := by rw [IntWalk.i64_in _ (by omega)]; omega
      have hcnt : (waits i).tt.cnt = i' := by rw [waits_cnt, hi']
      have hdep : (waits i).tt.dep = i' := by rw [waits_dep, hi']
      cases ring with
      | true =>
        rw [if_pos rfl] at hC
        have HC := Lib.hid hC
        have HT := Lib.hid hT
        clear hC htl hrow hm hq hT hcnt hdep hi' a1 hk hi hcb
        go_wp2_with fail
        refine HC.out.mono ?_
        rintro r w7 ⟨t7, herr, -⟩
        have he := herr _ rfl
        obtain ⟨W8, hW8⟩ : ∃ W8, w7.alloc (.cells #[.int .i64 0, .int .i64 0, .int .i64 0, .string ⟨#[]⟩, .int .i64 0, .int .i64 0, .string ⟨#[]⟩, .slice none 0 0, .slice none 0 0, .slice none 0 0] 30) = W8 := ⟨_, rfl⟩
        have t8 : Touch NoB w7 W8 := hW8 ▸ (Touch.refl NoB w7).alloc _
        have hb8 : BxAt W8 w7.heap.size 0 ⟨#[]⟩ (.slice none 0 0) := hW8 ▸ BxAt.new (k := 0) (s := ⟨#[]⟩) (u := .slice none 0 0) (mk_blk w7 _ _ rfl)
        obtain ⟨W9, hst9, hb9, t9⟩ := hb8.store (.mk 0 ⟨#[]⟩ []) (u' := .slice none 0 0) rfl
        unfold ndV at he hst9
        simp only [BN.kd, BN.nm, nat0, nat8] at he hst9
        have HT9 := Lib.hid (((HT.out.same t7).same t8).trans t9 (fun b hb => .inr (by subst hb; have := HT.out.size; have := t7.size; omega)))
        have HW8 := Lib.hid hW8
        subst he
        clear herr t7 t8 hb8 hb9 t9 hW8
        go_wp2_with fail
        rw [HW8.out, hst9]
        clear hst9
        go_wp2_with fail
        refine (num_any 8 _).mono ?_
        rintro r w10 ⟨rfl, rfl⟩
        go_wp2
        go_ret
        exact ⟨rfl, HT9.out⟩
      | false =>
        rw [if_neg (by decide)] at hC
        obtain ⟨kw, ksw, hwe⟩ : ∃ k ks, waits i = .mk k nmE ks := by cases i <;> exact ⟨_, _, rfl⟩
        rw [hwe] at hC hcnt hdep
        have hi30 : i' ≤ 31 := by omega
        have HI := Lib.hid (And.intro hcnt (And.intro hdep hi30))
        have HC := Lib.hid hC
        have HT := Lib.hid hT
        clear hC htl hrow hm hq hT hcnt hdep hi' hk hi hcb hwe
        go_wp2_with fail
        refine HC.out.mono ?_
        rintro r w7 ⟨t7, -, hok⟩
        obtain ⟨-, -, u7, he, hkl7⟩ := hok _ _ _ rfl
        obtain ⟨A9, m9, c9, rfl⟩ : ∃ A9 m9 c9, u7 = .slice A9 m9 c9 := by
          rcases hkl7.form with ⟨-, rfl⟩ | ⟨g, m, c, rfl, -⟩
          · exact ⟨_, _, _, rfl⟩
          · exact ⟨_, _, _, rfl⟩
        obtain ⟨W8, hW8⟩ : ∃ W8, w7.alloc (.cells #[.int .i64 0, .int .i64 0, .int .i64 0, .string ⟨#[]⟩, .int .i64 0, .int .i64 0, .string ⟨#[]⟩, .slice none 0 0, .slice none 0 0, .slice none 0 0] 30) = W8 := ⟨_, rfl⟩
        have t8 : Touch NoB w7 W8 := hW8 ▸ (Touch.refl NoB w7).alloc _
        have hb8 : BxAt W8 w7.heap.size 0 ⟨#[]⟩ (.slice none 0 0) := hW8 ▸ BxAt.new (k := 0) (s := ⟨#[]⟩) (u := .slice none 0 0) (mk_blk w7 _ _ rfl)
        obtain ⟨W9, hst9, hb9, t9⟩ := hb8.store (.mk kw nmE []) (u' := .slice A9 m9 c9) rfl
        have hload9 := hb9.load
        have hkl9 : KL W9 (fun _ => True) 41 ksw (.slice A9 m9 c9) := (hkl7.via t8 (R := fun b => b < w7.heap.size) (fun b hb => ⟨fun f => f, hb.2⟩)).via t9 (fun b hb => ⟨fun e => by omega, trivial⟩)
        have hCn := count_any (w := W9) (n := .mk kw nmE ksw) (u := .slice A9 m9 c9) hkl9 (by rw [HI.out.1]; have := HI.out.2.2; omega)
        have hDp := fun (W : World) (t : Touch NoB W9 W) => depth_any (w := W) (n := .mk kw nmE ksw) (u := .slice A9 m9 c9) (hkl9.via t (fun b hb => ⟨fun f => f, hb⟩)) (by rw [HI.out.1]; have := HI.out.2.2; omega)
        rw [HI.out.1] at hCn
        simp only [HI.out.2.1] at hDp
        unfold ndV at hCn hDp he hst9 hload9
        simp only [BN.kd, BN.nm, nmE] at hCn hDp he hst9 hload9
        have HCn := Lib.hid hCn
        have HDp := Lib.hid hDp
        have HB9 := Lib.hid hb9
        have HT9 := Lib.hid (((HT.out.same t7).same t8).trans t9 (fun b hb => .inr (by subst hb; have := HT.out.size; have := t7.size; omega)))
        have HW8 := Lib.hid hW8
        subst he
        clear hok hkl7 t7 t8 hb8 hb9 t9 hkl9 hCn hDp hW8 hi30
        go_wp2_with fail
        rw [HW8.out, hst9]
        clear hst9
        go_wp2_with fail
        refine (num_any 0 _).mono ?_
        rintro r w10 ⟨rfl, rfl⟩
        go_wp2_with fail
        refine HCn.out.mono ?_
        rintro r w11 ⟨rfl, t11⟩
        have hload11 := (HB9.out.keep t11 (fun f => f)).load
        unfold ndV at hload11
        simp only [BN.kd, BN.nm, nmE] at hload11
        have HT11 := Lib.hid t11
        clear t11
        go_wp2_with fail
        refine (HDp.out _ HT11.out).mono ?_
        rintro r w12 ⟨rfl, t12⟩
        have HT12 := Lib.hid ((HT9.out.same HT11.out).same t12)
        clear t12
        go_wp2
        go_ret
        exact ⟨rfl, HT12.out⟩
    · have hg : (i : Int) < (N : Int) := by omega
      obtain ⟨A8, c8, rfl, -, -⟩ := row_any hrow
      obtain ⟨p, hp⟩ : ∃ p, i + 1 = p := ⟨_, rfl⟩
      have hwi : IntKind.i64.wrap ((i : Int) + 1) = (p : Int) := by rw [IntWalk.i64_in _ (by omega)]; omega
      obtain ⟨m, hmm⟩ : ∃ m, p % N = m := ⟨_, rfl⟩
      have hmlt : m < N := by rw [← hmm]; exact Nat.mod_lt _ (by omega)
      have hN0 : ¬ (N : Int) = 0 := by omega
      have hrem : (p : Int).tmod (N : Int) = (m : Int) := by rw [rem_nat, hmm]
      have hd1 := decN_any m (by omega)
      have hd2 := decN_any i (by omega)
      obtain ⟨s1, hs1⟩ : ∃ s, dgS m = s := ⟨_, rfl⟩
      obtain ⟨z1, hz1⟩ : ∃ z, nmI m = z := ⟨_, rfl⟩
      obtain ⟨s2, hs2⟩ : ∃ s, dgS i = s := ⟨_, rfl⟩
      obtain ⟨z2, hz2⟩ : ∃ z, nmI i = z := ⟨_, rfl⟩
      have ha1 := tn_add (by omega) hs1 hz1
      have ha2 := tn_add (by omega) hs2 hz2
      have hz1s : z1.size ≤ 100 := by have := nmI_size m (by omega); rw [hz1] at this; omega
      rw [hs1] at hd1
      rw [hs2] at hd2
      have HD1 := Lib.hid hd1
      have HD2 := Lib.hid hd2
      have hx : xR N i ring = if i + 1 = N ∧ ring = false then .mk 15 nmE [] else .mk 10 z1 [] := by unfold xR; rw [hp, hmm, hz1]
      obtain ⟨xb, hxb⟩ : ∃ xb, wr.heap.size = xb := ⟨_, rfl⟩
      obtain ⟨W4, hW4⟩ : ∃ W4, wr.alloc (.cells #[.int .i64 0, .int .i64 0, .int .i64 0, .string ⟨#[]⟩, .int .i64 0, .int .i64 0, .string ⟨#[]⟩, .slice none 0 0, .slice none 0 0, .slice none 0 0] 30) = W4 := ⟨_, rfl⟩
      have t4 : Touch NoB wr W4 := hW4 ▸ (Touch.refl NoB wr).alloc _
      have hb4 : BxAt W4 xb 0 ⟨#[]⟩ (.slice none 0 0) := hW4 ▸ BxAt.new (k := 0) (s := ⟨#[]⟩) (u := .slice none 0 0) (mk_blk wr _ _ hxb)
      obtain ⟨W5, hst5, hb5, t5⟩ := hb4.store (.mk 10 z1 []) (u' := .slice none 0 0) rfl
      have T5 : Touch (fun b => b = wr.heap.size) wr W5 := (t4.mono (fun _ f => f.elim)).trans t5 (fun b hb => .inl (by rw [hxb]; exact hb))
      obtain ⟨q, hq1⟩ : ∃ q, N - 1 = q := ⟨_, rfl⟩
      have hwq : IntKind.i64.wrap ((N : Int) - 1) = (q : Int) := by rw [IntWalk.i64_in _ (by omega)]; omega
      unfold ndV at hst5
      simp only [BN.kd, BN.nm, nat10] at hst5
      have HW4 := Lib.hid hW4
      have HT5 := Lib.hid T5
      have HB5 := Lib.hid hb5
      have HX := Lib.hid hx
      have HP := Lib.hid (And.intro hp (And.intro hq1 (And.intro hmlt hz1s)))
      have HZ2 := Lib.hid hz2
      have HR := Lib.hid (And.intro hrow (And.intro hm (And.intro hq hT)))
      have HI := Lib.hid (And.intro hi (And.intro hk hlast))
      have hi30 : i < 30 := by omega
      clear hd1 hd2 hrow hm hq hT hi hk hlast hcb hs1 hs2 hz1 hz2 hmm hx hW4 T5 t4 t5 hb4 hb5 hp hq1 hmlt hz1s
      go_wp2_with fail
      refine (HD1.out _).mono ?_
      rintro r w9 ⟨rfl, rfl⟩
      go_wp2_with fail
      rw [HW4.out, hst5]
      clear hst5
      have hstep : ∀ (kx : Nat) (sx : ByteArray) (W6 w' : World) (n6 g' cap' : Nat) (Wa : World), xR N i ring = .mk kx sx [] → kx ≤ 1000 → sx.size ≤ 100 → Touch (fun b => b = wr.heap.size) wr W6 → W6.heap.size = n6 → Touch NoB W6 Wa → Wa.heap.size = n6 + 2 → Wa.heap[n6]? = some (.cells (ndC kx sx (.slice none 0 0)).toArray 30 (0, 0)) →
          w'.ownsRow w.heap.size 32 11 (.slice (some ⟨g', 0, none⟩) (i + 1) cap') (i + 1) (flatT ps ++ [.string z2, .int .i64 5, .int .i64 0, .int .i64 0, .string ⟨#[]⟩, .int .i64 0, .int .i64 0, .string ⟨#[]⟩, .slice none 0 0, .slice (some ⟨n6, 0, none⟩) 1 1, .slice none 0 0]) → Wa.grownBy w' (Value.slice A8 i c8).ownBlock → ((Value.slice A8 i c8).ownBlock = some g' ∨ g' = n6 + 2) → RRel w N ring (N - (i + 1)) (.slice (some ⟨g', 0, none⟩) (i + 1) cap') (.int .i64 (p : Int)) w' := by
        intro kx sx W6 w' n6 g' cap' Wa b1 b2 b3 b4 b5 b6 b7 b8 b9 b10 b11
        have c1 := HR.out.1
        have h := rr_step (i := i) (by have := HI.out; omega) HB.out.2 HR.out.2.2.2.size b4.size b5 (fun b hb => c1.lt b hb) HR.out.2.1 HR.out.2.2.1 HR.out.2.2.2 b4 b1 b2 b3 b6 b7 b8 (g' := g') (cap' := cap') (w' := w') (by
          have e : trC (nmI i, .mk 5 nmE []) (.slice (some ⟨n6, 0, none⟩) 1 1) = [.string z2, .int .i64 5, .int .i64 0, .int .i64 0, .string ⟨#[]⟩, .int .i64 0, .int .i64 0, .string ⟨#[]⟩, .slice none 0 0, .slice (some ⟨n6, 0, none⟩) 1 1, .slice none 0 0] := by rw [← HZ2.out]; rfl
          rw [e]
          exact b9) b10 b11
        rw [HP.out.1] at h
        rw [HP.out.1]
        exact h
      have HST := Lib.hid hstep
      have hrowT : ∀ (W6 Wx : World), Touch (fun b => b = wr.heap.size) wr W6 → Touch NoB W6 Wx → Wx.ownsRow w.heap.size 32 11 (.slice A8 i c8) i (flatT ps) := fun W6 Wx u1 u2 => row_touch (row_touch HR.out.1 u1 (fun b hb e => by have := (HR.out.1.lt b hb).2; omega)) u2 (fun _ _ f => f)
      have HRT := Lib.hid hrowT
      have hw5 := HT5.out.size
      have hw0 := HR.out.2.2.2.size
      clear hstep hrowT
      obtain ⟨i0, hi0, hz0, hz1, hz2⟩ := info_tree
      by_cases hlt : i = q
      · subst hlt
        have hIN : i + 1 = N := by have := HP.out.2.1; have := HB.out.1; omega
        cases ring with
        | true =>
          have hx1 : xR N i true = .mk 10 z1 [] := by rw [HX.out, if_neg (by simp)]
          obtain ⟨kx, hkx⟩ : ∃ k, (10 : Nat) = k := ⟨_, rfl⟩
          have HB6 : Hid (BxAt W5 xb kx z1 (.slice none 0 0)) := Lib.hid (by rw [← hkx]; exact HB5.out)
          have HX6 : Hid (xR N i true = .mk kx z1 [] ∧ kx ≤ 1000 ∧ z1.size ≤ 100) := Lib.hid ⟨by rw [hx1, hkx], by omega, HP.out.2.2.2⟩
          have hload := (HB6.out.keep (Touch.refl NoB W5).drew (fun f => f)).load
          unfold ndV at hload
          simp only [BN.kd, BN.nm] at hload
          obtain ⟨n6, hn6⟩ : ∃ n, W5.heap.size = n := ⟨_, rfl⟩
          clear hx1 hkx hIN
          go_wp2_with fail
          go_region_law? (first
            | (go_simp; go_at_call 28
               refine (HD2.out _).mono ?_
               rintro r w9 ⟨rfl, rfl⟩)
            | (refine step_append_lies _ rfl (.tmp 44) (.tmp 52) 22 rfl w.heap.size 32 i0 (.agg #[.string ⟨#[]⟩, .int .i64 0, .int .i64 0, .int .i64 0, .string ⟨#[]⟩, .int .i64 0, .int .i64 0, .string ⟨#[]⟩, .slice none 0 0, .slice none 0 0, .slice none 0 0]) 11 160 Try.underlying22 hi0 hz0 hz1 hz2 rfl (by decide) (.slice A8 i c8) i (flatT ps) (by simp [Act.eval]) (by exact HRT.out W5 _ HT5.out (by repeat (first | with_reducible exact Touch.refl NoB _ | with_reducible refine Touch.drewN ?_ _ | with_reducible refine Touch.drew ?_ | with_reducible refine Touch.alloc ?_ _))) ⟨n6 + 1, 0, none⟩ 1 1 [.string z2, .int .i64 5, .int .i64 0, .int .i64 0, .string ⟨#[]⟩, .int .i64 0, .int .i64 0, .string ⟨#[]⟩, .slice none 0 0, .slice (some ⟨n6, 0, none⟩) 1 1, .slice none 0 0] (by simp [Act.eval]) rfl (by exact World.news_of_block (cs := #[.string z2, .int .i64 5, .int .i64 0, .int .i64 0, .string ⟨#[]⟩, .int .i64 0, .int .i64 0, .string ⟨#[]⟩, .slice none 0 0, .slice (some ⟨n6, 0, none⟩) 1 1, .slice none 0 0]) (mk_blk _ _ 32 (by simp [hn6]))) (by intro u hu; simp at hu; rcases hu with rfl | rfl | rfl | rfl | rfl | rfl | rfl | rfl | rfl | rfl | rfl <;> rfl) (by decide) (by unfold maxLen; omega) (by omega) (by simp [hn6]; omega) (n6 + 2) (by simp [hn6]) ?_
               intro g' cap' w' hown hgrow hat hlt9
               have HG := Lib.hid (HST.out kx z1 W5 w' n6 g' cap' _ HX6.out.1 HX6.out.2.1 HX6.out.2.2 HT5.out hn6 (by repeat (first | with_reducible exact Touch.refl NoB _ | with_reducible refine Touch.drewN ?_ _ | with_reducible refine Touch.drew ?_ | with_reducible refine Touch.alloc ?_ _)) (by simp [hn6]) (by first | exact keepB ((Touch.refl NoB _).alloc _) (mk_blk _ _ 30 (by simp [hn6])) | exact keepB ((Touch.refl NoB _).alloc _).drew (mk_blk _ _ 30 (by simp [hn6]))) hown hgrow hat)
               clear hown hgrow hat hlt9))
          all_goals
            go_wp2
            go_roundg (N - (i + 1))
            case measure => have := HI.out; omega
            case rel => exact HG.out
        | false =>
          have hx1 : xR N i false = .mk 15 nmE [] := by rw [HX.out, if_pos ⟨hIN, rfl⟩]
          obtain ⟨W6, hst6, hb6, t6⟩ := HB5.out.store (.mk 15 nmE []) (u' := .slice none 0 0) rfl
          obtain ⟨kx, hkx⟩ : ∃ k, (15 : Nat) = k := ⟨_, rfl⟩
          have HB6 : Hid (BxAt W6 xb kx nmE (.slice none 0 0)) := Lib.hid (by rw [← hkx]; exact hb6)
          have HX6 : Hid (xR N i false = .mk kx nmE [] ∧ kx ≤ 1000 ∧ nmE.size ≤ 100) := Lib.hid ⟨by rw [hx1, hkx], by omega, by decide⟩
          have HT6 := Lib.hid (HT5.out.trans t6 (fun b hb => .inl (by rw [hxb]; exact hb)))
          have hload := (HB6.out.keep (Touch.refl NoB W6).drew (fun f => f)).load
          unfold ndV at hload hst6
          simp only [BN.kd, BN.nm, nmE, nat15] at hload hst6
          obtain ⟨n6, hn6⟩ : ∃ n, W6.heap.size = n := ⟨_, rfl⟩
          have hn5 := t6.size
          clear hx1 hkx hb6 t6 hIN
          go_wp2_with fail
          clear hst6
          go_region_law? (first
            | (go_simp; go_at_call 28
               refine (HD2.out _).mono ?_
               rintro r w9 ⟨rfl, rfl⟩)
            | (refine step_append_lies _ rfl (.tmp 44) (.tmp 52) 22 rfl w.heap.size 32 i0 (.agg #[.string ⟨#[]⟩, .int .i64 0, .int .i64 0, .int .i64 0, .string ⟨#[]⟩, .int .i64 0, .int .i64 0, .string ⟨#[]⟩, .slice none 0 0, .slice none 0 0, .slice none 0 0]) 11 160 Try.underlying22 hi0 hz0 hz1 hz2 rfl (by decide) (.slice A8 i c8) i (flatT ps) (by simp [Act.eval]) (by exact HRT.out W6 _ HT6.out (by repeat (first | with_reducible exact Touch.refl NoB _ | with_reducible refine Touch.drewN ?_ _ | with_reducible refine Touch.drew ?_ | with_reducible refine Touch.alloc ?_ _))) ⟨n6 + 1, 0, none⟩ 1 1 [.string z2, .int .i64 5, .int .i64 0, .int .i64 0, .string ⟨#[]⟩, .int .i64 0, .int .i64 0, .string ⟨#[]⟩, .slice none 0 0, .slice (some ⟨n6, 0, none⟩) 1 1, .slice none 0 0] (by simp [Act.eval]) rfl (by exact World.news_of_block (cs := #[.string z2, .int .i64 5, .int .i64 0, .int .i64 0, .string ⟨#[]⟩, .int .i64 0, .int .i64 0, .string ⟨#[]⟩, .slice none 0 0, .slice (some ⟨n6, 0, none⟩) 1 1, .slice none 0 0]) (mk_blk _ _ 32 (by simp [hn6]))) (by intro u hu; simp at hu; rcases hu with rfl | rfl | rfl | rfl | rfl | rfl | rfl | rfl | rfl | rfl | rfl <;> rfl) (by decide) (by unfold maxLen; omega) (by omega) (by simp [hn6]; omega) (n6 + 2) (by simp [hn6]) ?_
               intro g' cap' w' hown hgrow hat hlt9
               have HG := Lib.hid (HST.out kx nmE W6 w' n6 g' cap' _ HX6.out.1 HX6.out.2.1 HX6.out.2.2 HT6.out hn6 (by repeat (first | with_reducible exact Touch.refl NoB _ | with_reducible refine Touch.drewN ?_ _ | with_reducible refine Touch.drew ?_ | with_reducible refine Touch.alloc ?_ _)) (by simp [hn6]) (by first | exact keepB ((Touch.refl NoB _).alloc _) (mk_blk _ _ 30 (by simp [hn6])) | exact keepB ((Touch.refl NoB _).alloc _).drew (mk_blk _ _ 30 (by simp [hn6]))) hown hgrow hat)
               clear hown hgrow hat hlt9))
          all_goals
            go_wp2
            go_roundg (N - (i + 1))
            case measure => have := HI.out; omega
            case rel => exact HG.out
      · have hx1 : xR N i ring = .mk 10 z1 [] := by rw [HX.out, if_neg (by rintro ⟨h, -⟩; exact hlt (by have := HP.out.2.1; omega))]
        obtain ⟨kx, hkx⟩ : ∃ k, (10 : Nat) = k := ⟨_, rfl⟩
        have HB6 : Hid (BxAt W5 xb kx z1 (.slice none 0 0)) := Lib.hid (by rw [← hkx]; exact HB5.out)
        have HX6 : Hid (xR N i ring = .mk kx z1 [] ∧ kx ≤ 1000 ∧ z1.size ≤ 100) := Lib.hid ⟨by rw [hx1, hkx], by omega, HP.out.2.2.2⟩
        have hload := (HB6.out.keep (Touch.refl NoB W5).drew (fun f => f)).load
        unfold ndV at hload
        simp only [BN.kd, BN.nm] at hload
        obtain ⟨n6, hn6⟩ : ∃ n, W5.heap.size = n := ⟨_, rfl⟩
        have hne : ¬ ((i : Int) = (q : Int)) := by omega
        clear hx1 hkx
        go_wp2_with fail
        go_region_law? (first
          | (go_simp; go_at_call 28
             refine (HD2.out _).mono ?_
             rintro r w9 ⟨rfl, rfl⟩)
          | (refine step_append_lies _ rfl (.tmp 44) (.tmp 52) 22 rfl w.heap.size 32 i0 (.agg #[.string ⟨#[]⟩, .int .i64 0, .int .i64 0, .int .i64 0, .string ⟨#[]⟩, .int .i64 0, .int .i64 0, .string ⟨#[]⟩, .slice none 0 0, .slice none 0 0, .slice none 0 0]) 11 160 Try.underlying22 hi0 hz0 hz1 hz2 rfl (by decide) (.slice A8 i c8) i (flatT ps) (by simp [Act.eval]) (by exact HRT.out W5 _ HT5.out (by repeat (first | with_reducible exact Touch.refl NoB _ | with_reducible refine Touch.drewN ?_ _ | with_reducible refine Touch.drew ?_ | with_reducible refine Touch.alloc ?_ _))) ⟨n6 + 1, 0, none⟩ 1 1 [.string z2, .int .i64 5, .int .i64 0, .int .i64 0, .string ⟨#[]⟩, .int .i64 0, .int .i64 0, .string ⟨#[]⟩, .slice none 0 0, .slice (some ⟨n6, 0, none⟩) 1 1, .slice none 0 0] (by simp [Act.eval]) rfl (by exact World.news_of_block (cs := #[.string z2, .int .i64 5, .int .i64 0, .int .i64 0, .string ⟨#[]⟩, .int .i64 0, .int .i64 0, .string ⟨#[]⟩, .slice none 0 0, .slice (some ⟨n6, 0, none⟩) 1 1, .slice none 0 0]) (mk_blk _ _ 32 (by simp [hn6]))) (by intro u hu; simp at hu; rcases hu with rfl | rfl | rfl | rfl | rfl | rfl | rfl | rfl | rfl | rfl | rfl <;> rfl) (by decide) (by unfold maxLen; omega) (by omega) (by simp [hn6]; omega) (n6 + 2) (by simp [hn6]) ?_
             intro g' cap' w' hown hgrow hat hlt9
             have HG := Lib.hid (HST.out kx z1 W5 w' n6 g' cap' _ HX6.out.1 HX6.out.2.1 HX6.out.2.2 HT5.out hn6 (by repeat (first | with_reducible exact Touch.refl NoB _ | with_reducible refine Touch.drewN ?_ _ | with_reducible refine Touch.drew ?_ | with_reducible refine Touch.alloc ?_ _)) (by simp [hn6]) (by first | exact keepB ((Touch.refl NoB _).alloc _) (mk_blk _ _ 30 (by simp [hn6])) | exact keepB ((Touch.refl NoB _).alloc _).drew (mk_blk _ _ 30 (by simp [hn6]))) hown hgrow hat)
             clear hown hgrow hat hlt9))
        all_goals
          go_wp2
          go_roundg (N - (i + 1))
          case measure => have := HI.out; omega
          case rel => exact HG.out
end Go.Proofs.Ytfpeennegmlcpaa
