/-
  Package inline's Tree over trees of bare nodes. Conditions: those that each theorem names.
-/
import Derived.Test.YtfpeennegmlcpaaJ3
import Derived.Test.YtfpeennegmlcpaaJ4
namespace Go.Proofs.Ytfpeennegmlcpaa
open Go.ChangeShapes Go.WideShapes Go.ChangeAt Go.RowKit
set_option maxRecDepth 100000
set_option maxHeartbeats 4000000
attribute [local go_sem ↓] loadN_of storeN_of storeX_of

/-- What Tree leaves. -/
def TrPost (w : World) (D : Nat) (R : Except Nat (BN × List Bool × Nat)) (e : Ending) (w' : World) : Prop :=
  Touch NoB w w' ∧ (∀ er, R = .error er → e = .returned (.tuple #[ndV (.mk 0 ⟨#[]⟩ []) (.slice none 0 0), .int .i64 (er : Int)])) ∧
    ∀ n o c, R = .ok (n, o, c) → c ≤ 4000 ∧ n.ok ∧ ∃ u, e = .returned (.tuple #[ndV n u, .int .i64 0]) ∧ KL w' (fun b => w.heap.size ≤ b ∧ b < w'.heap.size) D n.ks u
/-- What stands when the node has been made, ahead of the last store. -/
def TrMid (w : World) (R : Except Nat (BN × List Bool × Nat)) (e : Ending) (w' : World) : Prop :=
  Touch NoB w w' ∧ BxAt w' w.heap.size 0 ⟨#[]⟩ (.slice none 0 0) ∧ (∀ er, R = .error er → e = .returned (.tuple #[ndV (.mk 0 ⟨#[]⟩ []) (.slice none 0 0), .int .i64 (er : Int)])) ∧
    ∀ n o c, R = .ok (n, o, c) → c ≤ 4000 ∧ n.ok ∧ ∃ u, e = .returned (.tuple #[ndV n u, .int .i64 0]) ∧ KL w' (fun b => w.heap.size < b ∧ b < w'.heap.size) 41 n.ks u
theorem KL.nil {w : World} {Q : Nat → Prop} : ∀ {d : Nat}, KL w Q d [] (.slice none 0 0)
  | 0 => ⟨rfl, rfl⟩
  | _ + 1 => .inl ⟨rfl, rfl⟩
theorem tree_node {w wi : World} {eb ob mb tb D nl : Nat} {ts : List TrP} {nm : ByteArray} (hn : nm.size ≤ 9223372036854775807) (h : EX wi w.heap.size eb ob mb tb D ts (List.replicate nl false) 0 0) (t : Touch NoB w wi) (hb : BxAt wi w.heap.size 0 ⟨#[]⟩ (.slice none 0 0)) (he : w.heap.size < eb) (ho : w.heap.size < ob) {R : Except Nat (BN × List Bool × Nat)} (hR : nodM ts 41 1 (List.replicate nl false) 0 (.mk 10 nm []) = R) :
    Calls Try.prog 43 #[.pointer (some ⟨eb, 0, none⟩), .agg #[.int .i64 10, .int .i64 0, .int .i64 0, .string nm, .int .i64 0, .int .i64 0, .string ⟨#[]⟩, .slice none 0 0, .slice none 0 0, .slice none 0 0], .int .i64 1] wi (TrMid w R) := by
  have hbl := hb.lt
  have h1 := node_any (f := 41) (d := 1) rfl (by omega) wi _ 0 0 (.mk 10 nm []) (.slice none 0 0) h (Nat.le_refl _) (by omega) ⟨by simp [BN.kd], hn⟩ KL.nil
  rw [hR] at h1
  refine h1.mono ?_
  rintro e w' ⟨t5, herr, hok⟩
  refine ⟨t.trans t5 (fun b hb' => .inr (by omega)), hb.keep t5 (by omega), herr, fun n o c hr => ?_⟩
  obtain ⟨a1, a2, u, x, -, a3, a4, -⟩ := hok n o c hr
  exact ⟨a1, a2, u, a3, a4.via (Touch.refl NoB w') (fun b hb' => ⟨fun f => f, by omega, hb'.2⟩)⟩
theorem tree_any {w : World} {D tb : Nat} {ts : List TrP} (h : TL w (fun b => b < w.heap.size) D ts tb) (c : Nat) {nm : ByteArray} (hn : nm.size ≤ 9223372036854775807) :
    Calls Try.prog 18 #[.slice (some ⟨tb, 0, none⟩) ts.length c, .string nm] w (TrPost w 41 (nodM ts 41 1 (List.replicate ts.length false) 0 (.mk 10 nm []))) := by
  have hts : ts.length ≤ 1000 := by obtain ⟨_, _, -, -, h4, -⟩ := h; exact h4
  obtain ⟨nl, hnl⟩ : ∃ nl, ts.length = nl := ⟨_, rfl⟩
  have HNL := Lib.hid hnl
  have HP := Lib.hid (fun (W : World) (t : Touch NoB w W) => (places_any hnl (h.via t (fun b _ f => f)) c).mono (R' := fun e w' => ∃ mb, e = .returned (.map (some mb)) ∧ W.heap.size ≤ mb ∧ mb < w'.heap.size ∧ PK w' mb nl (nmsT ts) ∧ Touch NoB W w') fun e w' h => ⟨W.heap.size, h.1, Nat.le_refl _, h.2.1.lt, h.2⟩)
  have hnl2 : nl ≤ 1000 := by omega
  have HTL := Lib.hid (fun (W : World) (t : Touch NoB w W) => h.via t (fun b _ f => f))
  obtain ⟨R, hR⟩ : ∃ R, nodM ts 41 1 (List.replicate ts.length false) 0 (.mk 10 nm []) = R := ⟨_, rfl⟩
  rw [hR, hnl]
  rw [hnl] at hR
  have HR := Lib.hid hR
  have HH := Lib.hid hn
  clear h hnl hts hR hn
  have hmk : ∀ W : World, (Instr.makeSlice 71 (.int .i64 (nl : Int)) (.int .i64 (nl : Int))).run Try.prog W = .ok (.slice (some ⟨W.heap.size, 0, none⟩) nl nl) (W.alloc (.cells (madeCells #[.bool false] nl) 4)) :=
    run_make_row' (P := Try.prog) 71 4 (.bool false) 1 Try.underlying71 (by kernel_rfl) rfl .i64 .i64 nl (by omega) (by omega)
  go_enter Try.func18, Try.ntmps18
  go_wp2_with fail
  (go_region_law? (go_simp; go_at_call 42
                   refine (HP.out _ (by repeat (first | with_reducible exact Touch.refl NoB _ | with_reducible refine Touch.drewN ?_ _ | with_reducible refine Touch.drew ?_ | with_reducible refine Touch.alloc ?_ _))).mono ?_
                   rintro r w1 ⟨mb, rfl, hmb, hmb1, hpk, t1⟩
                   have tw : Touch NoB w w1 := Touch.same (by repeat (first | with_reducible exact Touch.refl NoB _ | with_reducible refine Touch.drewN ?_ _ | with_reducible refine Touch.drew ?_ | with_reducible refine Touch.alloc ?_ _)) t1
                   have hww := tw.size
                   have hlt1 : w.heap.size ≤ mb := by simp at hmb; omega
                   have tw2 : ∀ o, Touch NoB w1 (w1.alloc o) := fun o => (Touch.refl NoB w1).alloc o
                   have hrx : BxAt w1 w.heap.size 0 ⟨#[]⟩ (.slice none 0 0) := BxAt.new (k := 0) (s := ⟨#[]⟩) (u := .slice none 0 0) (keepB t1 (b := w.heap.size) (o := .cells (ndC 0 ⟨#[]⟩ (.slice none 0 0)).toArray 30) (by
                     first
                     | exact mk_blk w _ _ rfl
                     | exact keepB ((Touch.refl NoB _).alloc _) (mk_blk w _ _ rfl)
                     | exact keepB (((Touch.refl NoB _).alloc _).alloc _) (mk_blk w _ _ rfl)))
                   have hmbw : w.heap.size < mb := by simp at hmb; omega
                   (obtain ⟨wa1, ha1, EXa1, ta1⟩ := ex_make (W := ((w1.alloc (.cells (madeCells #[.bool false] nl) 4)).alloc (.cells #[.slice none 0 0, .map none, .slice none 0 0, .int .i64 0, .int .i64 0] 75))) (eb := w1.heap.size + 1) (ob := w1.heap.size) (c := c) HNL.out (mk_blk (w1.alloc _) _ _ (by simp)) (keepB ((Touch.refl NoB _).alloc _) (mk_blk w1 _ _ rfl)) (hpk.touch ((tw2 _).alloc _) (fun f => f)) (HTL.out _ (tw.same ((tw2 _).alloc _))) (by omega); have hx1 := (hrx.keep ((tw2 _).alloc _) (fun f => f)).keep ta1 (by omega); have HC1 := Lib.hid (tree_node HH.out EXa1 ((tw.same ((tw2 _).alloc _)).trans ta1 (fun b hb => .inr (by omega))) hx1 (by omega) (by omega) HR.out); clear EXa1 ta1 hx1)
                   (obtain ⟨wa2, ha2, EXa2, ta2⟩ := ex_make (W := ((w1.alloc (.cells #[.slice none 0 0, .map none, .slice none 0 0, .int .i64 0, .int .i64 0] 75)).alloc (.cells (madeCells #[.bool false] nl) 4))) (eb := w1.heap.size) (ob := w1.heap.size + 1) (c := c) HNL.out (keepB ((Touch.refl NoB _).alloc _) (mk_blk w1 _ _ rfl)) (mk_blk (w1.alloc _) _ _ (by simp)) (hpk.touch ((tw2 _).alloc _) (fun f => f)) (HTL.out _ (tw.same ((tw2 _).alloc _))) (by omega); have hx2 := (hrx.keep ((tw2 _).alloc _) (fun f => f)).keep ta2 (by omega); have HC2 := Lib.hid (tree_node HH.out EXa2 ((tw.same ((tw2 _).alloc _)).trans ta2 (fun b hb => .inr (by omega))) hx2 (by omega) (by omega) HR.out); clear EXa2 ta2 hx2)
                   first
                   | (have hob1 : w1.heap[w.heap.size + 1]? = some (.cells (madeCells #[.bool false] nl) 4 (0, 0)) := keepB t1 (by first | exact mk_blk (w.alloc _) _ _ (by simp) | exact keepB ((Touch.refl NoB _).alloc _) (mk_blk (w.alloc _) _ _ (by simp))); have hlob : w.heap.size + 1 < mb := (by simp at hmb; omega); obtain ⟨wa3, ha3, EXa3, ta3⟩ := ex_make (W := (w1.alloc (.cells #[.slice none 0 0, .map none, .slice none 0 0, .int .i64 0, .int .i64 0] 75))) (eb := w1.heap.size) (ob := w.heap.size + 1) (c := c) HNL.out (mk_blk w1 _ _ rfl) (keepB (tw2 _) hob1) (hpk.touch (tw2 _) (fun f => f)) (HTL.out _ (tw.same (tw2 _))) (by omega); have hx3 := (hrx.keep (tw2 _) (fun f => f)).keep ta3 (by omega); have HC3 := Lib.hid (tree_node HH.out EXa3 ((tw.same (tw2 _)).trans ta3 (fun b hb => .inr (by omega))) hx3 (by omega) (by omega) HR.out); clear EXa3 ta3 hx3; first | (have heb2 : w1.heap[w.heap.size + 1 + 1]? = some (.cells #[.slice none 0 0, .map none, .slice none 0 0, .int .i64 0, .int .i64 0] 75 (0, 0)) := keepB t1 (by exact mk_blk ((w.alloc _).alloc _) _ _ (by simp)); have hleb : w.heap.size + 1 + 1 < mb := (by simp at hmb; omega); obtain ⟨wa4, ha4, EXa4, ta4⟩ := ex_make (W := w1) (eb := w.heap.size + 1 + 1) (ob := w.heap.size + 1) (c := c) HNL.out heb2 hob1 (hpk.touch (Touch.refl NoB w1) (fun f => f)) (HTL.out _ (tw.same (Touch.refl NoB w1))) (by omega); have hx4 := (hrx.keep (Touch.refl NoB w1) (fun f => f)).keep ta4 (by omega); have HC4 := Lib.hid (tree_node HH.out EXa4 ((tw.same (Touch.refl NoB w1)).trans ta4 (fun b hb => .inr (by omega))) hx4 (by omega) (by omega) HR.out); clear EXa4 ta4 hx4; clear heb2 hleb) | skip; clear hob1 hlob)
                   | (have heb1 : w1.heap[w.heap.size + 1]? = some (.cells #[.slice none 0 0, .map none, .slice none 0 0, .int .i64 0, .int .i64 0] 75 (0, 0)) := keepB t1 (by first | exact mk_blk (w.alloc _) _ _ (by simp) | exact keepB ((Touch.refl NoB _).alloc _) (mk_blk (w.alloc _) _ _ (by simp))); have hleb : w.heap.size + 1 < mb := (by simp at hmb; omega); obtain ⟨wa5, ha5, EXa5, ta5⟩ := ex_make (W := (w1.alloc (.cells (madeCells #[.bool false] nl) 4))) (eb := w.heap.size + 1) (ob := w1.heap.size) (c := c) HNL.out (keepB (tw2 _) heb1) (mk_blk w1 _ _ rfl) (hpk.touch (tw2 _) (fun f => f)) (HTL.out _ (tw.same (tw2 _))) (by omega); have hx5 := (hrx.keep (tw2 _) (fun f => f)).keep ta5 (by omega); have HC5 := Lib.hid (tree_node HH.out EXa5 ((tw.same (tw2 _)).trans ta5 (fun b hb => .inr (by omega))) hx5 (by omega) (by omega) HR.out); clear EXa5 ta5 hx5; first | (have hob2 : w1.heap[w.heap.size + 1 + 1]? = some (.cells (madeCells #[.bool false] nl) 4 (0, 0)) := keepB t1 (by exact mk_blk ((w.alloc _).alloc _) _ _ (by simp)); have hlob : w.heap.size + 1 + 1 < mb := (by simp at hmb; omega); obtain ⟨wa6, ha6, EXa6, ta6⟩ := ex_make (W := w1) (eb := w.heap.size + 1) (ob := w.heap.size + 1 + 1) (c := c) HNL.out heb1 hob2 (hpk.touch (Touch.refl NoB w1) (fun f => f)) (HTL.out _ (tw.same (Touch.refl NoB w1))) (by omega); have hx6 := (hrx.keep (Touch.refl NoB w1) (fun f => f)).keep ta6 (by omega); have HC6 := Lib.hid (tree_node HH.out EXa6 ((tw.same (Touch.refl NoB w1)).trans ta6 (fun b hb => .inr (by omega))) hx6 (by omega) (by omega) HR.out); clear EXa6 ta6 hx6; clear hob2 hlob) | skip; clear heb1 hleb)
                   | skip
                   clear hrx tw tw2 hpk t1 hmb hmb1 hww hlt1 hmbw))
  all_goals
    go_wp2_with fail
    first
    | with_reducible refine Calls.mono HC1.out ?_
    | with_reducible refine Calls.mono HC2.out ?_
    | with_reducible refine Calls.mono HC3.out ?_
    | with_reducible refine Calls.mono HC4.out ?_
    | with_reducible refine Calls.mono HC5.out ?_
    | with_reducible refine Calls.mono HC6.out ?_
    rintro r w5 ⟨t5, hb5, herr, hok⟩
    have hbl := hb5.lt
    rcases hR1 : R with er | ⟨n', o', c'⟩
    · have he := herr er hR1
      have HR1 := Lib.hid hR1
      obtain ⟨W6, hst6, hb6, t6⟩ := hb5.store (.mk 0 ⟨#[]⟩ []) (u' := .slice none 0 0) rfl
      obtain ⟨c0, c1, c2, c3, c4, c5, c6, c7, c8, c9⟩ := hb6.cells
      unfold ndV at he hst6
      simp only [BN.kd, BN.nm, nat0] at he hst6 c0 c3
      subst he
      have HT6 := Lib.hid (t5.trans t6 (fun b hb => .inr (by omega)))
      clear herr hok hb5 t5 hb6 t6 hR1
      go_wp2
      refine bodyPost_ret (v := .tuple #[ndV (.mk 0 ⟨#[]⟩ []) (.slice none 0 0), .int .i64 (er : Int)]) (by simp [results, Try.results18, go_sem, c0, c1, c2, c3, c4, c5, c6, c7, c8, c9, ndV, BN.kd, BN.nm]) rfl ?_
      refine ⟨HT6.out, fun er' he => ?_, fun n' o' c' he => (by rw [HR1.out] at he; cases he)⟩
      rw [HR1.out] at he
      injection he with he
      subst he
      rfl
    · obtain ⟨hc', hok', u', he, hkl'⟩ := hok n' o' c' hR1
      have HR1 := Lib.hid hR1
      obtain ⟨k', s', ks'⟩ := n'
      obtain ⟨A2, m2, c3x, rfl⟩ : ∃ A2 m2 c3, u' = .slice A2 m2 c3 := by
        rcases hkl'.form with ⟨-, rfl⟩ | ⟨g, m, c, rfl, -⟩
        · exact ⟨_, _, _, rfl⟩
        · exact ⟨_, _, _, rfl⟩
      obtain ⟨W6, hst6, hb6, t6⟩ := hb5.store (.mk k' s' ks') (u' := .slice A2 m2 c3x) rfl
      obtain ⟨c0, c1, c2, c3, c4, c5, c6, c7, c8, c9⟩ := hb6.cells
      unfold ndV at he hst6
      simp only [BN.kd, BN.nm] at he hst6 c0 c3
      subst he
      have HT6 := Lib.hid (And.intro (t5.trans t6 (fun b hb => .inr (by omega))) (And.intro hc' (And.intro hok' (hkl'.via t6 (R := fun b => w.heap.size ≤ b ∧ b < W6.heap.size) (fun b hb' => ⟨fun e => by omega, by omega, by have := t6.size; omega⟩)))))
      clear herr hok hb5 t5 hb6 t6 hR1 hkl' hok' hc'
      go_wp2
      refine bodyPost_ret (v := .tuple #[ndV (.mk k' s' ks') (.slice A2 m2 c3x), .int .i64 0]) (by simp [results, Try.results18, go_sem, c0, c1, c2, c3, c4, c5, c6, c7, c8, c9, ndV, BN.kd, BN.nm]) rfl ?_
      refine ⟨HT6.out.1, fun er' he => (by rw [HR1.out] at he; cases he), fun n' o' c'' he => ?_⟩
      rw [HR1.out] at he
      injection he with he
      injection he with g1 g2
      injection g2 with g2 g3
      subst g1 g2 g3
      exact ⟨HT6.out.2.1, HT6.out.2.2.1, _, rfl, HT6.out.2.2.2⟩
end Go.Proofs.Ytfpeennegmlcpaa
