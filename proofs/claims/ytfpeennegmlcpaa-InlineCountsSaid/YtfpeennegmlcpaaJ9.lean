/-
  The statement InlineCounts within its bounds. Conditions: those that each theorem names.
-/
import Derived.Test.YtfpeennegmlcpaaJ8
namespace Go.Proofs.Ytfpeennegmlcpaa
open Go.ChangeShapes Go.WideShapes Go.ChangeAt Go.RowKit
set_option maxRecDepth 100000
set_option maxHeartbeats 20000000
attribute [local go_sem ↓] loadN_of storeN_of

theorem nat5 : ((5 : Nat) : Int) = 5 := rfl
def chk (i : Nat) : Nat := (chain i).kd
theorem chain_nm : ∀ i, (chain i).nm = nmE
  | 0 => rfl
  | _ + 1 => rfl
/-- The leaf with i others above it, in its box. -/
def LfAt (W : World) (lo lb i : Nat) (u : Value) : Prop := BxAt W lb (chain i).kd nmE u ∧ KL W (fun b => lo ≤ b ∧ b < W.heap.size ∧ b ≠ lb) i (chain i).ks u
theorem LfAt.keep {W W' : World} {lo lb i : Nat} {u : Value} {F : Nat → Prop} (h : LfAt W lo lb i u) (t : Touch F W W') (hF : ∀ b, lo ≤ b → b < W.heap.size → ¬ F b) (hl : lo ≤ lb) : LfAt W' lo lb i u :=
  ⟨h.1.keep t (hF lb hl h.1.lt), h.2.via t (fun b hb => ⟨hF b hb.1 hb.2.1, hb.1, by have := t.size; omega, hb.2.2⟩)⟩
theorem LfAt.up {W : World} {lo lb i : Nat} {u : Value} (h : LfAt W lo lb i u) (hlo : lo ≤ W.heap.size) {W1 : World} (hW : W.alloc (.cells (ndC (chain i).kd nmE u).toArray 30) = W1) : ∃ W2, (StoreN (.pointer (some ⟨lb, 0, none⟩)) (.agg #[.int .i64 5, .int .i64 0, .int .i64 0, .string ⟨#[]⟩, .int .i64 0, .int .i64 0, .string ⟨#[]⟩, .slice none 0 0, .slice (some ⟨W.heap.size, 0, none⟩) 1 1, .slice none 0 0])).run Try.prog W1 = .ok () W2 ∧ LfAt W2 lo lb (i + 1) (.slice (some ⟨W.heap.size, 0, none⟩) 1 1) ∧ Touch (fun b => b = lb) W W2 := by
  subst hW
  have hl := h.1.lt
  have t1 : Touch NoB W (W.alloc (.cells (ndC (chain i).kd nmE u).toArray 30)) := (Touch.refl NoB W).alloc _
  have hb : (W.alloc (.cells (ndC (chain i).kd nmE u).toArray 30)).heap[W.heap.size]? = some (.cells (ndC (chain i).kd nmE u).toArray 30 (0, 0)) := mk_blk W _ _ rfl
  obtain ⟨W2, hst, hb2, t2⟩ := (h.1.keep t1 (fun f => f)).store (.mk 5 nmE []) (u' := .slice (some ⟨W.heap.size, 0, none⟩) 1 1) rfl
  refine ⟨W2, hst, ⟨hb2, ?_⟩, (t1.mono (fun _ f => f.elim)).same t2⟩
  have hb2' := (t2.block W.heap.size (blk_lt hb) (by omega)).trans hb
  have hsz := blk_lt hb2'
  refine .inr ⟨W.heap.size, 1, 1, _, _, rfl, ⟨hlo, hsz, by omega⟩, rfl, Nat.one_pos, Nat.le_refl _, by unfold maxLen; omega, hb2', fun j y hy => ?_⟩
  match j, hy with
  | 0, hy =>
    injection hy with hy
    subst hy
    refine ⟨⟨?_, by rw [chain_nm]; decide⟩, u, fun j x hx => ?_, (h.2.via t1 (R := fun b => lo ≤ b ∧ b < W.heap.size ∧ b ≠ lb) (fun b hb => ⟨fun f => f, hb⟩)).via t2 (fun b hb => ⟨hb.2.2, hb.1, by omega, hb.2.2⟩)⟩
    · cases i <;> simp [chain, BN.kd]
    · rw [chain_nm] at hx
      rw [Nat.zero_mul, Nat.zero_add, List.getElem?_toArray]
      exact hx
def C1Rel (w : World) (lo lb M k : Nat) (v : Value) (W : World) : Prop := ∃ (i : Nat) (u : Value), v = .int .i64 (i : Int) ∧ i ≤ M ∧ k = M - i ∧ LfAt W lo lb i u ∧ Touch NoB w W
def usesP (j : Nat) : List (BN × Value) := List.replicate j (.mk 10 nmU [], .slice none 0 0)
/-- The leaf, made, in blocks below hi. -/
def LfT (W : World) (hi lb i : Nat) (u : Value) : Prop := BxAt W lb (chain i).kd nmE u ∧ KL W (fun b => b < hi) i (chain i).ks u ∧ lb < hi
theorem LfT.keep {W W' : World} {hi lb i : Nat} {u : Value} {F : Nat → Prop} (h : LfT W hi lb i u) (t : Touch F W W') (hF : ∀ b, b < hi → ¬ F b) : LfT W' hi lb i u :=
  ⟨h.1.keep t (hF lb h.2.2), h.2.1.via t (fun b hb => ⟨hF b hb, hb⟩), h.2.2⟩
def C2Rel (w : World) (lb tp M N k : Nat) (u : Value) (v : Value) (W : World) : Prop := ∃ (j : Nat) (x : Value), v = .int .i64 (j : Int) ∧ j ≤ N ∧ k = N - j ∧ LfT W tp lb M u ∧ BxAt W tp 0 nmE x ∧ W.ownsRow (tp + 1) 30 10 x j (flatC (usesP j)) ∧ (j = 0 → x = .slice none 0 0) ∧ Touch NoB w W
theorem counts_in (N M : Nat) (w : World) (h1 : 1 ≤ N) (h2 : N ≤ 16) (h3 : M ≤ 30) : Calls Try.prog 5 #[.int .i64 (N : Int), .int .i64 (M : Int)] w fun e w' => e = .returned (.bool true) ∧ Touch NoB w w' := by
  have g1 : ¬ ((N : Int) < 1) := by omega
  have g2 : ¬ ((16 : Int) < (N : Int)) := by omega
  have g3 : ¬ ((M : Int) < 0) := by omega
  have g4 : ¬ ((30 : Int) < (M : Int)) := by omega
  have HB := Lib.hid (And.intro h1 (And.intro h2 h3))
  clear h1 h2 h3
  go_enter Try.func5, Try.ntmps5
  go_wp2_with fail
  refine (alive14_any w).mono ?_
  rintro r w1 ⟨rfl, t1⟩
  obtain ⟨lb, hlb⟩ : ∃ lb, w1.heap.size = lb := ⟨_, rfl⟩
  obtain ⟨W2, hW2⟩ : ∃ W2, w1.alloc (.cells #[.int .i64 0, .int .i64 0, .int .i64 0, .string ⟨#[]⟩, .int .i64 0, .int .i64 0, .string ⟨#[]⟩, .slice none 0 0, .slice none 0 0, .slice none 0 0] 30) = W2 := ⟨_, rfl⟩
  have t2 : Touch NoB w1 W2 := hW2 ▸ (Touch.refl NoB w1).alloc _
  have hb2 : BxAt W2 lb 0 ⟨#[]⟩ (.slice none 0 0) := hW2 ▸ BxAt.new (k := 0) (s := ⟨#[]⟩) (u := .slice none 0 0) (mk_blk w1 _ _ hlb)
  obtain ⟨W3, hst3, hb3, t3⟩ := hb2.store (.mk 13 nmE []) (u' := .slice none 0 0) rfl
  unfold ndV at hst3
  simp only [BN.kd, BN.nm, nmE, nat13] at hst3
  have HLF : Hid (LfAt W3 lb lb 0 (.slice none 0 0)) := Lib.hid ⟨hb3, KL.nil⟩
  have HT3 := Lib.hid ((t1.same t2).trans t3 (fun b hb => .inr (by subst hb; rw [← hlb]; exact t1.size)))
  have HW2 := Lib.hid hW2
  have HLB := Lib.hid (show w.heap.size ≤ lb by rw [← hlb]; exact t1.size)
  clear t1 t2 hb2 hb3 t3 hW2
  go_wp2_with fail
  rw [HW2.out, hst3]
  clear hst3
  go_wp2
  go_loopg [7] M (fun k v7 wr => C1Rel w lb lb M k v7 wr)
  case atStart => exact ⟨0, _, rfl, Nat.zero_le _, rfl, HLF.out, HT3.out⟩
  case round =>
    obtain ⟨i, u, rfl, hi, hk, hlf, hT⟩ := hrel
    by_cases hlast : i = M
    · have hq : ¬ ((i : Int) < (M : Int)) := by omega
      obtain ⟨tp, htp⟩ : ∃ tp, wr.heap.size = tp := ⟨_, rfl⟩
      have hlft : LfT wr tp lb M u := by
        subst hlast
        exact ⟨hlf.1, hlf.2.via (Touch.refl NoB wr) (fun b hb => ⟨fun f => f, by omega⟩), by have := hlf.1.lt; omega⟩
      obtain ⟨W4, hW4⟩ : ∃ W4, wr.alloc (.cells #[.int .i64 0, .int .i64 0, .int .i64 0, .string ⟨#[]⟩, .int .i64 0, .int .i64 0, .string ⟨#[]⟩, .slice none 0 0, .slice none 0 0, .slice none 0 0] 30) = W4 := ⟨_, rfl⟩
      have t4 : Touch NoB wr W4 := hW4 ▸ (Touch.refl NoB wr).alloc _
      have hb4 : BxAt W4 tp 0 ⟨#[]⟩ (.slice none 0 0) := hW4 ▸ BxAt.new (k := 0) (s := ⟨#[]⟩) (u := .slice none 0 0) (mk_blk wr _ _ htp)
      obtain ⟨W5, hst5, hb5, t5⟩ := hb4.store (.mk 0 nmE []) (u' := .slice none 0 0) rfl
      have hlft5 := (hlft.keep t4 (fun _ _ f => f)).keep t5 (fun b hb e => by omega)
      have hT5 := (hT.trans t4 (fun b f => f.elim)).trans t5 (fun b hb => .inr (by subst hb; have := hT.size; omega))
      unfold ndV at hst5
      simp only [BN.kd, BN.nm, nmE, nat0] at hst5
      have HW4 := Lib.hid hW4
      have H5 : Hid (C2Rel w lb tp M N N u (.int .i64 0) W5) := Lib.hid ⟨0, _, rfl, Nat.zero_le _, rfl, hlft5, hb5, ⟨rfl, .inl ⟨rfl, rfl⟩⟩, fun _ => rfl, hT5⟩
      have HTP := Lib.hid (show w.heap.size ≤ tp by have := hT.size; omega)
      clear hlft t4 hb4 hb5 t5 hlft5 hT5 hW4 hlf hT hi hk hlast
      go_wp2_with fail
      rw [HW4.out, hst5]
      clear hst5
      go_wp2
      obtain ⟨wo, rfl⟩ : ∃ x, x = wr := ⟨_, rfl⟩
      go_loopg [9] N (fun k v9 wr => C2Rel w lb tp M N k u v9 wr)
      case atStart => exact H5.out
      case round =>
        obtain ⟨j, x, rfl, hj, hk, hlf, hb, hrow, hnil, hT⟩ := hrel
        have hcb := HB.out
        obtain ⟨A8, c8, rfl, -, -⟩ := row_any hrow
        by_cases hlast : j = N
        · have hq : ¬ ((j : Int) < (N : Int)) := by omega
          subst hlast
          have hloadT := hb.load
          have ltp := hb.lt
          have hloadL := hlf.1.load
          obtain ⟨ki, hki⟩ : ∃ ki, (chain M).kd = ki := ⟨_, rfl⟩
          obtain ⟨sb, hsb⟩ : ∃ sb, wr.heap.size = sb := ⟨_, rfl⟩
          have hetac : chain M = .mk (chain M).kd nmE (chain M).ks := by rw [← chain_nm M]; exact BN.eta _
          obtain ⟨W6, hW6⟩ : ∃ W6, wr.alloc (.cells (trC (nmTt, .mk 0 nmE (List.replicate j (.mk 10 nmU []))) (.slice A8 j c8) ++ trC (nmU, .mk (chain M).kd nmE (chain M).ks) u).toArray 32) = W6 := ⟨_, rfl⟩
          have t6 : Touch NoB wr W6 := hW6 ▸ (Touch.refl NoB wr).alloc _
          have hb6 : W6.heap[sb]? = some (.cells (trC (nmTt, .mk 0 nmE (List.replicate j (.mk 10 nmU []))) (.slice A8 j c8) ++ trC (nmU, .mk (chain M).kd nmE (chain M).ks) u).toArray 32 (0, 0)) := hW6 ▸ mk_blk wr _ _ hsb
          have hsl := blk_lt hb6
          have hrl : KL wr (fun b => b < wr.heap.size) 1 (List.replicate j (.mk 10 nmU [])) (.slice A8 j c8) := by
            have h := kl_of_row (Q := fun b => b < wr.heap.size) (R := fun b => b < wr.heap.size) (d := 0) (ps := usesP j) (by rw [show (usesP j).length = j by simp [usesP]]; exact hrow) (fun p hp => by
              rw [usesP, List.mem_replicate] at hp
              obtain ⟨-, rfl⟩ := hp
              exact ⟨⟨by simp [BN.kd], by decide⟩, KL.nil⟩) (fun b hb => hb) (fun g hg => (hrow.lt g hg).2) (fun e => hnil (by have := congrArg List.length e; simpa [usesP] using this))
            rw [usesP, List.map_replicate] at h
            exact h
          have hTL : TL W6 (fun b => b < W6.heap.size) 31 (tsC j M) sb := by
            unfold tsC topN
            rw [hetac]
            exact tl_two hb6 hsl ((hrl.via t6 (fun b hb => ⟨fun f => f, Nat.lt_of_lt_of_le hb t6.size⟩)).more (by omega)) ((hlf.2.1.via t6 (fun b hb => ⟨fun f => f, by have := t6.size; omega⟩)).more (by omega)) ⟨by decide, by decide, by decide, by decide, by omega, by cases M <;> simp [chain, BN.kd]⟩
          have hC := tree_any (nm := nmTt) hTL 2 (by decide)
          rw [countsM hcb.2.1 hcb.2.2] at hC
          have hC2 : Calls Try.prog 18 #[.slice (some ⟨sb, 0, none⟩) 2 2, .string ⟨#[116]⟩] W6 (TrPost W6 41 (.ok (madeC j M, [false, false], 1 + j * (M + 1)))) := hC
          have HC := Lib.hid hC2
          have HT6 := Lib.hid (hT.same t6)
          rw [hki] at hloadL hW6
          unfold ndV at hloadT hloadL
          simp only [BN.kd, BN.nm, nmE, nat0] at hloadT hloadL
          simp only [trC, ndC, BN.kd, BN.nm, nmE, nat0, nmTt, nmU, List.cons_append, List.nil_append] at hW6
          have HW6 := Lib.hid hW6
          clear hC hC2 hTL hrl hb6 t6 hlf hb hrow hnil hT hW6 hki hetac hj hk
          go_wp2_with fail
          rw [HW6.out]
          refine HC.out.mono ?_
          rintro r w7 ⟨t7, -, hok⟩
          obtain ⟨-, -, u7, he, hkl7⟩ := hok _ _ _ rfl
          obtain ⟨A9, m9, c9, rfl⟩ : ∃ A9 m9 c9, u7 = .slice A9 m9 c9 := by
            rcases hkl7.form with ⟨-, rfl⟩ | ⟨g, m, c, rfl, -⟩
            · exact ⟨_, _, _, rfl⟩
            · exact ⟨_, _, _, rfl⟩
          obtain ⟨W8, hW8⟩ : ∃ W8, w7.alloc (.cells #[.int .i64 0, .int .i64 0, .int .i64 0, .string ⟨#[]⟩, .int .i64 0, .int .i64 0, .string ⟨#[]⟩, .slice none 0 0, .slice none 0 0, .slice none 0 0] 30) = W8 := ⟨_, rfl⟩
          have t8 : Touch NoB w7 W8 := hW8 ▸ (Touch.refl NoB w7).alloc _
          have hb8 : BxAt W8 w7.heap.size 0 ⟨#[]⟩ (.slice none 0 0) := hW8 ▸ BxAt.new (k := 0) (s := ⟨#[]⟩) (u := .slice none 0 0) (mk_blk w7 _ _ rfl)
          obtain ⟨W9, hst9, hb9, t9⟩ := hb8.store (.mk 0 nmE []) (u' := .slice A9 m9 c9) rfl
          have hload9 := hb9.load
          have hkl9 : KL W9 (fun _ => True) 41 (madeC j M).ks (.slice A9 m9 c9) := (hkl7.via t8 (R := fun b => b < w7.heap.size) (fun b hb => ⟨fun f => f, hb.2⟩)).via t9 (fun b hb => ⟨fun e => by omega, trivial⟩)
          obtain ⟨p, hp⟩ : ∃ p, M + 1 = p := ⟨_, rfl⟩
          obtain ⟨q, hq2⟩ : ∃ q, j * p = q := ⟨_, rfl⟩
          obtain ⟨rr, hrr⟩ : ∃ rr, 1 + q = rr := ⟨_, rfl⟩
          obtain ⟨ss, hss⟩ : ∃ ss, M + 2 = ss := ⟨_, rfl⟩
          have hqb : q ≤ 16 * 31 := by rw [← hq2]; exact Nat.mul_le_mul hcb.2.1 (by omega)
          have hcnt : (madeC j M).tt.cnt = rr := by rw [made_cnt, hp, hq2, hrr]
          have hdep : (madeC j M).tt.dep = ss := by rw [made_dep hcb.1, hss]
          have a1 : IntKind.i64.wrap ((M : Int) + 1) = (p : Int) := by rw [IntWalk.i64_in _ (by omega)]; omega
          have a2 : IntKind.i64.wrap ((j : Int) * (p : Int)) = (q : Int) := by
            have e : (j : Int) * (p : Int) = (q : Int) := by rw [← hq2]; exact (Int.natCast_mul j p).symm
            rw [e, IntWalk.i64_in _ (by omega)]
          have a3 : IntKind.i64.wrap (1 + (q : Int)) = (rr : Int) := by rw [IntWalk.i64_in _ (by omega)]; omega
          have a4 : IntKind.i64.wrap ((M : Int) + 2) = (ss : Int) := by rw [IntWalk.i64_in _ (by omega)]; omega
          have hCn := count_any (w := W9) (n := madeC j M) (u := .slice A9 m9 c9) hkl9 (by rw [hcnt]; omega)
          have hDp := fun (W : World) (t : Touch NoB W9 W) => depth_any (w := W) (n := madeC j M) (u := .slice A9 m9 c9) (hkl9.via t (fun b hb => ⟨fun f => f, hb⟩)) (by rw [hcnt]; omega)
          rw [hcnt] at hCn
          simp only [hdep] at hDp
          unfold ndV at hCn hDp he hst9 hload9
          simp only [madeC, BN.kd, BN.nm, nmE, nat0] at hCn hDp he hst9 hload9
          have HCn := Lib.hid hCn
          have HDp := Lib.hid hDp
          have HB9 := Lib.hid hb9
          have HT9 := Lib.hid (((HT6.out.same t7).same t8).trans t9 (fun b hb => .inr (by subst hb; have := HT6.out.size; have := t7.size; omega)))
          have HW8 := Lib.hid hW8
          subst he
          clear hok hkl7 t7 t8 hb8 hb9 t9 hkl9 hp hq2 hrr hss hqb hcnt hdep hCn hDp hW8 hcb hloadT hloadL
          go_wp2_with fail
          rw [HW8.out, hst9]
          clear hst9
          go_wp2_with fail
          refine (num_any 0 _).mono ?_
          rintro r w10 ⟨rfl, rfl⟩
          go_wp2_with fail
          refine HCn.out.mono ?_
          rintro r w11 ⟨rfl, t11⟩
          have hload11 := (HB9.out.keep t11 (fun f => f)).load
          unfold ndV at hload11
          simp only [BN.kd, BN.nm, nmE, nat0] at hload11
          have HT11 := Lib.hid t11
          clear t11
          go_wp2_with fail
          refine (HDp.out _ HT11.out).mono ?_
          rintro r w12 ⟨rfl, t12⟩
          have HT12 := Lib.hid ((HT9.out.same HT11.out).same t12)
          clear t12
          go_wp2
          go_ret
          exact ⟨rfl, HT12.out⟩
        · have hq : (j : Int) < (N : Int) := by omega
          have h8 := hb.cell0.2.2
          have ltp := hb.lt
          have HH := Lib.hid (And.intro hlf (And.intro hb (And.intro hrow (And.intro hT (And.intro hj hk)))))
          have HM := Lib.hid (show j < N by omega)
          have hj16 : j ≤ 16 := by omega
          obtain ⟨i0, hi, hz0, hz1, hz2⟩ := info_node
          clear hlf hb hrow hnil hT hj hk hlast hcb
          go_wp2_with (at_builtin; refine wpList_append_lies _ rfl (.tmp 48) (.tmp 50) 28 rfl (tp + 1) 30 i0 (.agg #[.int .i64 0, .int .i64 0, .int .i64 0, .string ⟨#[]⟩, .int .i64 0, .int .i64 0, .string ⟨#[]⟩, .slice none 0 0, .slice none 0 0, .slice none 0 0]) 10 144 Try.underlying28 hi hz0 hz1 hz2 rfl (by decide) (.slice A8 j c8) j (flatC (usesP j)) rfl ?c0 ⟨wr.heap.size, 0, none⟩ 1 1 (ndC 10 nmU (.slice none 0 0)) rfl rfl ?c1 ?c2 (by decide) ?c3 ?c4 ?c5 (wr.heap.size + 1) ?c6 ?go)
          case c0 => exact row_touch HH.out.2.2.1 ((Touch.refl NoB wr).alloc _) (fun _ _ f => f)
          case c1 => exact World.news_of_block (cs := (ndC 10 nmU (.slice none 0 0)).toArray) (mk_blk wr _ _ rfl)
          case c2 => exact ndC_one rfl
          case c3 => unfold maxLen; omega
          case c4 => omega
          case c5 => simp only [World.size_alloc]; omega
          case c6 => simp only [World.size_alloc]
          case go =>
            intro g' cap' w' hown hgrow hat hgl'
            obtain ⟨q1, q2, q3, q4, q5, q6⟩ := HH.out
            have t8 : Touch (fun b => (Value.slice A8 j c8).ownBlock = some b) wr w' := ((Touch.refl _ wr).alloc _).grown hgrow (fun k e => .inl e)
            have hob : ∀ b, (Value.slice A8 j c8).ownBlock = some b → tp + 1 ≤ b := fun b hb => (q3.lt b hb).1
            have hgt : tp + 1 ≤ g' := (hown.lt g' rfl).1
            have b8 := q2.keep t8 (fun e => by have := hob _ e; omega)
            have c8' := b8.cell0.2.2
            have f8' := b8.free 8
            have l8' := b8.lt
            have s8 := b8.set8 (.slice (some ⟨g', 0, none⟩) (j + 1) cap')
            obtain ⟨W6, hW6⟩ : ∃ W6, w'.setCell ⟨tp, 8, none⟩ (.slice (some ⟨g', 0, none⟩) (j + 1) cap') = W6 := ⟨_, rfl⟩
            rw [hW6] at s8
            have l6 := (q1.keep t8 (fun b hb e => by have := hob _ e; omega)).keep s8.2 (fun b hb e => by omega)
            have r6 := row_touch hown s8.2 (fun b hb e => by simp only [Value.ownBlock, Option.some.injEq] at hb; omega)
            have T6 := (q4.trans t8 (fun b hb => .inr (by have := hob b hb; have := HTP.out; omega))).trans s8.2 (fun b hb => .inr (by have := HTP.out; omega))
            have HG : Hid (C2Rel w lb tp M N (N - (j + 1)) u (.int .i64 ((j + 1 : Nat) : Int)) W6) := Lib.hid ⟨j + 1, _, rfl, by have := HM.out; omega, rfl, l6, s8.1, by
              have e : usesP (j + 1) = usesP j ++ [(.mk 10 nmU [], .slice none 0 0)] := by unfold usesP; rw [List.replicate_succ']
              rw [e, flatC_snoc]
              exact r6, fun e => by omega, T6⟩
            have HK := Lib.hid (show N - (j + 1) < gk by have := HM.out; omega)
            clear hown hgrow hat hgl' q1 q2 q3 q4 q5 q6 t8 hob b8 s8 l6 r6 T6 hgt
            go_wp2
            go_roundg (N - (j + 1))
            case measure => exact HK.out
            case rel => exact HG.out
    · have hq : (i : Int) < (M : Int) := by omega
      have hload := hlf.1.load
      obtain ⟨ki, hki⟩ : ∃ ki, (chain i).kd = ki := ⟨_, rfl⟩
      obtain ⟨W4, hW4⟩ : ∃ W4, wr.alloc (.cells (ndC (chain i).kd nmE u).toArray 30) = W4 := ⟨_, rfl⟩
      have hlbw := hlf.1.lt
      obtain ⟨W5, hst5, hlf5, t5⟩ := hlf.up (by omega) hW4
      have hwi : IntKind.i64.wrap ((i : Int) + 1) = ((i + 1 : Nat) : Int) := by rw [IntWalk.i64_in _ (by omega)]; omega
      have HG := Lib.hid (And.intro hlf5 (And.intro (hT.trans t5 (fun b hb => .inr (by subst hb; exact HLB.out))) (And.intro hi hk)))
      have HM := Lib.hid (show i < M by omega)
      rw [hki] at hload hW4
      unfold ndV at hload
      simp only [BN.kd, BN.nm, ndC, nmE] at hload hW4
      have HW4 := Lib.hid hW4
      clear hlf hT hki hW4 hlf5 t5 hi hk hlast
      go_wp2_with fail
      rw [HW4.out, hst5]
      go_wp2
      go_roundg (M - (i + 1))
      case measure => have := HG.out.2.2.2; have := HM.out; omega
      case rel => exact ⟨i + 1, _, by go_num, HM.out, rfl, HG.out.1, HG.out.2.1⟩
end Go.Proofs.Ytfpeennegmlcpaa
