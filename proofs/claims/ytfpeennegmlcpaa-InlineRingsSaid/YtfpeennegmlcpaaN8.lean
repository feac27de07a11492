/-
  Package nest's Size over expressions. Conditions: those that each theorem names.
-/
import Derived.Test.YtfpeennegmlcpaaN7
import Derived.Deep.LoopGhost
import Derived.Deep.RegionHeld3
namespace Go.Proofs.Ytfpeennegmlcpaa
open Go.ChangeShapes Go.WideShapes Go.ChangeAt Go.RowKit
set_option maxRecDepth 100000
set_option maxHeartbeats 1000000

/-- At the head of a round of Size over the list at p. -/
def SzRel (w : World) (sz off : Nat) (T : TypeId) (mb : Nat) (p : Addr × Nat) (ts : List Tt) (k : Nat) (v6 v8 : Value) (W : World) : Prop :=
  ∃ (b : Bool) (e : En) (es : List En) (l : PlL) (room : Nat) (xs : List Value), v6 = .int .i64 (room : Int) ∧ room ≤ 2147483647 ∧ Rnd w sz off k b e es l room ∧ (∃ z, (e :: es).getLast? = some z ∧ z.p = p ∧ z.ts = ts) ∧ cntT e.ts ≤ cntT ts ∧
    Touch NoB w W ∧ PlM W mb l ∧ w.heap.size ≤ mb ∧ PathAt W w.heap.size T v8 (e :: es) xs
theorem sz_start {w : World} {sz off d c : Nat} {T : TypeId} {p : Addr × Nat} {ts : List Tt} (h : LK w sz off d p ts) (hc : cntT ts ≤ 2147483647) :
    SzRel w sz off T w.heap.size p ts (costT ts) (.int .i64 2147483647) (.slice (some ⟨w.heap.size + 1, 0, none⟩) 1 1) ((w.alloc (.map #[] 0)).alloc (.cells #[.slice (some p.1) p.2 c, .int .i64 0, .int .i64 0, .int .i64 0] T)) := by
  have hT : TopAt ((w.alloc (.map #[] 0)).alloc (.cells #[.slice (some p.1) p.2 c, .int .i64 0, .int .i64 0, .int .i64 0] T)) w.heap.size T (w.heap.size + 1) 1 #[.slice (some p.1) p.2 c, .int .i64 0, .int .i64 0, .int .i64 0] ⟨p, ts, 0⟩ [] [] c :=
    ⟨by omega, by simp, by unfold maxLen; omega, mk_blk (w.alloc (.map #[] 0)) _ _ (by simp), rfl, rfl, rfl, rfl, rfl, by simp [En.cnt, cntT], by simp [En.dep, depT]⟩
  have hl := cntT_low ts
  refine ⟨false, ⟨p, ts, 0⟩, [], [], 2147483647, _, rfl, by omega, ⟨⟨⟨d, h⟩, Nat.zero_le _, (fun f fs e => by cases e), trivial⟩, (fun q s e => by cases e), (fun x hx => absurd hx (by simp)), (fun _ => ⟨by simp only [List.drop_zero, lowR]; omega, by simp [costR]⟩), (fun e => by cases e)⟩, ⟨_, rfl, rfl, rfl⟩, Nat.le_refl _, ((Touch.refl _ _).alloc _).alloc _, (PlM.made w).touch ((Touch.refl NoB _).alloc _) (fun f => f) (fun x hx => absurd hx (by simp)), Nat.le_refl _, path_shut hT⟩
theorem LK.kid {w : World} {sz off d : Nat} {p : Addr × Nat} {ts : List Tt} (h : LK w sz off d p ts) {i : Nat} {t : Tt} (ht : ts[i]? = some t) :
    ∃ A m c, w.cell? ⟨p.1.block, p.1.off + i * sz + off, none⟩ = some (.slice A m c) ∧ m ≤ c ∧ (m = 0 → t.ks = []) ∧ (0 < m → ∃ a d', A = some a ∧ LK w sz off d' (a, m) t.ks ∧ KidP w sz off p.1 i (a, m)) := by
  cases d with
  | zero => exact h.elim
  | succ d =>
    obtain ⟨A, m, c, h1, h2, h3, h4⟩ := h.2.2.2.2 i t ht
    refine ⟨A, m, c, h1, h2, h3, fun hm => ?_⟩
    obtain ⟨a, rfl, h5⟩ := h4 hm
    exact ⟨a, d, rfl, h5, c, h1⟩
theorem LK.spot {w : World} {sz off d : Nat} {p : Addr × Nat} {ts : List Tt} (h : LK w sz off d p ts) : p.1 = ⟨p.1.block, p.1.off, none⟩ := by
  cases d with
  | zero => exact h.elim
  | succ d =>
    have := h.2.2.1
    obtain ⟨⟨b, o, sp⟩, n⟩ := p
    simp only at this
    subst this
    rfl
theorem TopAt.keep {W W' : World} {B : Nat} {T : TypeId} {g cap : Nat} {cur : Array Value} {e : En} {es : List En} {ys : List Value} {c : Nat} {F : Nat → Prop} (h : TopAt W B T g cap cur e es ys c) (t : Touch F W W') (hF : ¬ F g := by exact fun f => f) : TopAt W' B T g cap cur e es ys c :=
  ⟨h.1, h.2.1, h.2.2.1, (t.block g (blk_lt h.2.2.2.1) hF).trans h.2.2.2.1, h.2.2.2.2⟩
/-- Behind a count. -/
theorem sz_next {w W W' : World} {sz off mb k room g cap c : Nat} {T : TypeId} {p : Addr × Nat} {ts : List Tt} {e : En} {es : List En} {l : PlL} {cur : Array Value} {ys : List Value} {t : Tt} (hR : Rnd w sz off k false e.next es l room) (hroom : room ≤ 2147483647)
    (hlast : ∃ z, (e :: es).getLast? = some z ∧ z.p = p ∧ z.ts = ts) (hec : cntT e.ts ≤ cntT ts) (hts : cntT ts ≤ 2147483647) (hT : Touch NoB w W) (hM : PlM W mb l) (hmb : w.heap.size ≤ mb) (hTop : TopAt W w.heap.size T g cap cur e es ys c) (ht : e.ts[e.i]? = some t)
    (hg' : W'.heap[g]? = some (.cells (addRow cur (es.length * 4) ((e.i : Int) + 1) (lim ((e.cnt : Int) + lim (1 + (cntT t.ks : Int)))) (max (e.dep : Int) (1 + (depT t.ks : Int)))) T (0, 0))) (t2 : Touch (fun x => x = g) W W') :
    SzRel w sz off T mb p ts k (.int .i64 (room : Int)) (.slice (some ⟨g, 0, none⟩) (es.length + 1) cap) W' := by
  have hn := en_next ht
  have hle : e.next.cnt ≤ cntT e.ts := by
    have := cntT_app (e.ts.take (e.i + 1)) (e.ts.drop (e.i + 1))
    rw [List.take_append_drop] at this
    unfold En.cnt En.next
    simp only
    omega
  have hne : mb ≠ g := by
    obtain ⟨-, es', cl, hb, -⟩ := hM
    intro e
    rw [e, hTop.2.2.2.1] at hb
    cases hb
  have h1 : lim (1 + (cntT t.ks : Int)) = 1 + (cntT t.ks : Int) := lim_in (by omega) (by omega)
  rw [h1] at hg'
  have h2 : lim ((e.cnt : Int) + (1 + (cntT t.ks : Int))) = (e.next.cnt : Int) := by rw [lim_in (by omega) (by omega)]; omega
  have h3 : max (e.dep : Int) (1 + (depT t.ks : Int)) = (e.next.dep : Int) := by omega
  refine ⟨false, e.next, es, l, room, _, rfl, hroom, hR, ?_, hec, hT.trans t2 (fun x hx => .inr (by have := hTop.1; omega)), hM.touch t2 hne (fun x hx hb => ?_), hmb, path_shut (path_add hTop h2 h3 hg')⟩
  · obtain ⟨z, hz, h4, h5⟩ := hlast
    cases es with
    | nil =>
      simp only [List.getLast?_singleton, Option.some.injEq] at hz
      subst hz
      exact ⟨e.next, rfl, h4, h5⟩
    | cons f fs => exact ⟨z, by rw [List.getLast?_cons_cons] at hz ⊢; exact hz, h4, h5⟩
  · obtain ⟨cs, ty, hx'⟩ := hR.2.2.1 x hx
    have := blk_lt hx'
    have := hTop.1
    omega
theorem chain_depth {w : World} {sz off : Nat} : ∀ {es : List En} {e : En}, Chain w sz off (e :: es) → ∀ z, (e :: es).getLast? = some z → cntT e.ts + es.length ≤ cntT z.ts
  | [], e, _, z, hz => by
    simp only [List.getLast?_singleton, Option.some.injEq] at hz
    subst hz
    exact Nat.le_refl _
  | f :: fs, e, h, z, hz => by
    rw [List.getLast?_cons_cons] at hz
    have h1 := chain_depth h.2.2.2 z hz
    have h2 := chain_more h f (List.mem_cons_self ..)
    rw [List.length_cons]
    omega
theorem info_visit : ∃ i0, Try.prog.info? 194 = some i0 ∧ i0.zero = some (.agg #[.slice none 0 0, .int .i64 0, .int .i64 0, .int .i64 0]) ∧ i0.size = 4 ∧ i0.bytes = 48 := by
  have h : (Try.prog.info? 194).map (fun i => (i.zero, i.size, i.bytes)) = some (some (.agg #[.slice none 0 0, .int .i64 0, .int .i64 0, .int .i64 0]), 4, 48) := by kernel_rfl
  cases hi : Try.prog.info? 194 with
  | none => rw [hi] at h; cases h
  | some i0 =>
    rw [hi] at h
    simp only [Option.map_some, Option.some.injEq, Prod.mk.injEq] at h
    exact ⟨i0, rfl, h.1, h.2.1, h.2.2⟩
/-- Behind a list that has been put on top. -/
theorem sz_push {w W W' : World} {sz off mb k room g g' cap cap' c c' : Nat} {T : TypeId} {p q : Addr × Nat} {ts : List Tt} {e : En} {es : List En} {l : PlL} {cur : Array Value} {ys : List Value} {t : Tt} (hR : Rnd w sz off k false ⟨q, t.ks, 0⟩ (e :: es) l room) (hroom : room ≤ 2147483647)
    (hlast : ∃ z, (e :: es).getLast? = some z ∧ z.p = p ∧ z.ts = ts) (hec : cntT e.ts ≤ cntT ts) (ht : e.ts[e.i]? = some t) (hT : Touch NoB w W) (hM : PlM W mb l) (hmb : w.heap.size ≤ mb) (hTop : TopAt W w.heap.size T g cap cur e es ys c)
    (hown : W'.ownsRow w.heap.size T 4 (.slice (some ⟨g', 0, none⟩) (es.length + 1 + 1) cap') (es.length + 1 + 1) ((ys ++ vis e c) ++ [.slice (some q.1) q.2 c', .int .i64 0, .int .i64 0, .int .i64 0])) (t2 : Touch (fun x => x = g) W W') :
    SzRel w sz off T mb p ts k (.int .i64 (room : Int)) (.slice (some ⟨g', 0, none⟩) (es.length + 1 + 1) cap') W' := by
  have hne : mb ≠ g := by
    obtain ⟨-, es', cl, hb, -⟩ := hM
    intro e
    rw [e, hTop.2.2.2.1] at hb
    cases hb
  have hlow := cnt_below (List.mem_of_getElem? ht)
  refine ⟨false, ⟨q, t.ks, 0⟩, e :: es, l, room, _, rfl, hroom, hR, ?_, by simp only; omega, hT.trans t2 (fun x hx => .inr (by have := hTop.1; omega)), hM.touch t2 hne (fun x hx hb => ?_), hmb, hown, _, c', ⟨ys, c, hTop.2.2.2.2.2.1, rfl⟩, ?_⟩
  · obtain ⟨z, hz, h4, h5⟩ := hlast
    exact ⟨z, by rw [List.getLast?_cons_cons]; exact hz, h4, h5⟩
  · obtain ⟨cs, ty, hx'⟩ := hR.2.2.1 x hx
    have := blk_lt hx'
    have := hTop.1
    omega
  · simp [vis, En.cnt, En.dep, cntT, depT]
theorem sizex_any {w : World} {b o n c d : Nat} {ts : List Tt} (h : LK w 4 3 d (⟨b, o, none⟩, n) ts) (hc : cntT ts ≤ 2147483647) : Calls Try.prog 115 #[.slice (some ⟨b, o, none⟩) n c, .func (.func 116) #[] #[]] w fun e w' => e = .returned (.tuple #[.int .i64 (cntT ts : Nat), .int .i64 (depT ts : Nat)]) ∧ Touch NoB w w' := by
  have h0 : ((n : Int) == 0) = false := by have h1 := h.len; have h2 := List.length_pos_iff.2 h.pos; simp at h1 ⊢; omega
  have hmm := @run_makeMap Try.prog
  go_enter Try.func115, Try.ntmps115
  go_wp2
  go_loopg [6, 8] (costT ts) (fun k v6 v8 wr => SzRel w 4 3 194 w.heap.size (⟨b, o, none⟩, n) ts k v6 v8 wr)
  case atStart => exact sz_start h hc
  case round =>
    obtain ⟨bb, e, es, l, room, xs, rfl, hroom, hR, hlast, hec, hT, hM, -, hP⟩ := hrel
    obtain ⟨g, cap, cur, ys, c1, rfl, hTop⟩ := path_open hP
    have HTop := Lib.hid hTop
    obtain ⟨hB, hn1, hm1, hg, hs, hc1, hty, k0, k1, k2, k3⟩ := hTop
    obtain ⟨m, hm⟩ : ∃ m, es.length = m := ⟨_, rfl⟩
    have HR := Lib.hid hR
    have HL := Lib.hid (And.intro hlast hec)
    have HT := Lib.hid hT
    have HM := Lib.hid hM
    have HC := Lib.hid hc1
    have HY := Lib.hid hty
    rw [hm] at k0 k1 k2 k3 hn1 ⊢
    have j0 := (cell_blk hg (m * 4)).trans k0
    have j1 := (cell_blk hg (m * 4 + 1)).trans k1
    have j2 := (cell_blk hg (m * 4 + 2)).trans k2
    have j3 := (cell_blk hg (m * 4 + 3)).trans k3
    have HKS := Lib.hid (And.intro hg (And.intro k1 (And.intro k2 k3)))
    have HMm := Lib.hid hm
    have hlt := blk_lt hg
    clear hP hR hlast hec hT hM hc1 hty k0 k1 k2 k3 h
    unfold maxLen at hm1
    have hlen := HR.out.1.1.choose_spec.len
    have hok := HR.out.1.1.choose_spec.ok
    have hb0 : e.ts.length ≤ 2147483647 := by have := cntT_low e.ts; have := HL.out.2; omega
    have hb1 : e.i ≤ 2147483647 := by have := HR.out.1.2.1; omega
    have hb2 : e.cnt ≤ 2147483647 := by have h1 := cntT_app (e.ts.take e.i) (e.ts.drop e.i); rw [List.take_append_drop] at h1; have := HL.out.2; unfold En.cnt; omega
    by_cases hi : e.i = e.ts.length
    · have hq : ((e.i : Int) == (e.p.2 : Int)) = true := by simp; omega
      obtain ⟨d', hlk⟩ := HR.out.1.1
      have hpos := List.length_pos_iff.2 hlk.pos
      obtain ⟨pb, po, hpe⟩ : ∃ pb po, e.p.1 = (⟨pb, po, none⟩ : Addr) := ⟨_, _, hlk.spot⟩
      have hab : OkB w pb := by have := hlk.ok; rw [hpe] at this; exact this
      rw [hpe] at j0
      have hfull : e.cnt = cntT e.ts ∧ e.dep = depT e.ts := by unfold En.cnt En.dep; rw [hi, List.take_length]; exact ⟨rfl, rfl⟩
      have HF := Lib.hid (And.intro hfull (And.intro hi hab))
      obtain ⟨pn, hpn⟩ : ∃ pn, e.p.2 = pn := ⟨_, rfl⟩
      have hp0 : 0 < pn := by omega
      have HPX := Lib.hid (fun W => placex_any pb po pn c1 hp0 W)
      obtain ⟨ei, hei⟩ : ∃ ei, e.i = ei := ⟨_, rfl⟩
      rw [hpn, hei] at hq
      rw [hpn] at j0
      rw [hei] at j1
      have HE := Lib.hid (And.intro hpe (And.intro hpn hei))
      clear hlk hpe hpn hei hok hlen hi hfull hab
      go_wp2_with fail
      go_still (by kernel_rfl)
      change Exit.then _ _ _ _ wr.drew
      obtain ⟨W1, hW1⟩ : ∃ W1, wr.drew = W1 := ⟨_, rfl⟩
      have t1 : Touch NoB wr W1 := hW1 ▸ (Touch.refl NoB wr).drew
      have i0 : W1.cell? ⟨g, m * 4, none⟩ = some (.slice (some ⟨pb, po, none⟩) pn c1) := hW1 ▸ j0
      have i2 : W1.cell? ⟨g, m * 4 + 2, none⟩ = some (.int .i64 (e.cnt : Int)) := hW1 ▸ j2
      have i3 : W1.cell? ⟨g, m * 4 + 3, none⟩ = some (.int .i64 (e.dep : Int)) := hW1 ▸ j3
      have hl1 : g < W1.heap.size := Nat.lt_of_lt_of_le hlt t1.size
      have HT1 := Lib.hid t1
      have hgm : g ≠ w.heap.size := by
        obtain ⟨-, es', cl, hb', -⟩ := HM.out
        intro e
        rw [← e, HKS.out.1] at hb'
        cases hb'
      have HI := Lib.hid (And.intro i0 (And.intro i2 i3))
      rw [hW1]
      clear j0 j1 j2 j3 t1 hW1
      go_wp2_with fail
      first | (go_region_held3 (fun w' => w'.cell? ⟨g, m * 4, none⟩ = some (.slice (some ⟨pb, po, none⟩) pn c1) ∧ w'.cell? ⟨g, m * 4 + 2, none⟩ = some (.int .i64 (e.cnt : Int)) ∧ w'.cell? ⟨g, m * 4 + 3, none⟩ = some (.int .i64 (e.dep : Int))) (first | exact ⟨i0, i2, i3⟩ | go_keep)
        (first
        | (go_at_call 125; refine (HPX.out _).mono ?_; rintro r w4 ⟨rfl, t4⟩
           have t14 : Touch NoB W1 w4 := Touch.same (by repeat (first | with_reducible exact Touch.refl NoB _ | with_reducible refine Touch.drewN ?_ _ | with_reducible refine Touch.drew ?_)) t4
           have t24 := HT1.out.same t14
           obtain ⟨w5, hrun, hM5, t5⟩ := (HM.out.touch t24 (fun f => f) (fun x hx f => f)).store plk_expr (⟨pb, po, none⟩, pn) (HF.out.2.2.touch (HT.out.same t24) (fun f => f)) (e.cnt, e.dep)
           have l0 := (t14.cell (p := ⟨g, m * 4, none⟩) hl1 (fun f => f)).trans HI.out.1
           have l2 := (t14.cell (p := ⟨g, m * 4 + 2, none⟩) hl1 (fun f => f)).trans HI.out.2.1
           have l3 := (t14.cell (p := ⟨g, m * 4 + 3, none⟩) hl1 (fun f => f)).trans HI.out.2.2
           have hl4 := Nat.lt_of_lt_of_le hl1 t14.size
           have q0 := (t5.cell (p := ⟨g, m * 4, none⟩) hl4 hgm).trans l0
           have q2 := (t5.cell (p := ⟨g, m * 4 + 2, none⟩) hl4 hgm).trans l2
           have q3 := (t5.cell (p := ⟨g, m * 4 + 3, none⟩) hl4 hgm).trans l3
           rw [show szV (e.cnt, e.dep) = .agg #[.int .i64 (e.cnt : Int), .int .i64 (e.dep : Int)] from rfl] at hrun
           have H5 := Lib.hid (And.intro hM5 ((t24.mono (fun _ f => f.elim)).same t5))
           clear t4 t14 t24 hM5 t5))) | fail
      by_cases hm0 : m = 0
      · have hz : ((m : Int) == 0) = true := by simp [hm0]
        have hes : es = [] := List.length_eq_zero_iff.1 (HMm.out.trans hm0)
        have hfin : e.cnt = cntT ts ∧ e.dep = depT ts := by
          obtain ⟨z, hz1, -, hz3⟩ := HL.out.1
          rw [hes] at hz1
          simp only [List.getLast?_singleton, Option.some.injEq] at hz1
          subst hz1
          rw [← hz3]
          exact HF.out.1
        have HFI := Lib.hid hfin
        have HT5 := Lib.hid (HT.out.trans H5.out.2 (fun x hx => .inr (by omega)))
        clear hes hfin hm0
        go_wp2_with fail
        go_still (by kernel_rfl)
        change Exit.then _ _ _ _ w5.drew
        go_wp2_with fail
        go_ret2
        exact ⟨by rw [HFI.out.1, HFI.out.2]; rfl, HT5.out.drew⟩
      · have hz : ((m : Int) == 0) = false := by simp; omega
        have hrel : ∃ k', k' < gk ∧ SzRel w 4 3 194 w.heap.size (⟨b, o, none⟩, n) ts k' (.int .i64 (room : Int)) (.slice (some ⟨g, 0, none⟩) m cap) w5 := by
          obtain ⟨f, fs, hes⟩ : ∃ f fs, es = f :: fs := by
            cases hx : es with
            | nil => exfalso; have := HMm.out; rw [hx] at this; simp at this; omega
            | cons f fs => exact ⟨f, fs, rfl⟩
          have h1 := HR.out
          rw [hes] at h1
          obtain ⟨k', hk', hR'⟩ := rnd_pop h1 HF.out.2.1
          have h2 := path_pop (HTop.out.keep H5.out.2 hgm)
          rw [HMm.out] at h2
          obtain ⟨z, hz1, hz2, hz3⟩ := HL.out.1
          rw [hes, List.getLast?_cons_cons] at hz1
          have h3 := chain_depth h1.1.2.2.2 z hz1
          rw [hz3] at h3
          have h4 := H5.out.1
          rw [HF.out.1.1, HF.out.1.2, show ((⟨pb, po, none⟩ : Addr), pn) = e.p from Prod.ext HE.out.1.symm HE.out.2.1.symm] at h4
          exact ⟨k', hk', true, f, fs, _, room, ys, rfl, hroom, hR', ⟨z, hz1, hz2, hz3⟩, by omega, HT.out.trans H5.out.2 (fun x hx => .inr (by omega)), h4, Nat.le_refl _, hes ▸ h2⟩
        obtain ⟨k', hk', hrel⟩ := hrel
        have HK' := Lib.hid hk'
        have HREL := Lib.hid hrel
        clear hk' hrel
        go_wp2_with fail
        go_roundg k'
        case measure => exact HK'.out
        case rel => exact HREL.out
    · have hq : ((e.i : Int) == (e.p.2 : Int)) = false := by simp; omega
      have hix : (e.i : Int) < (e.p.2 : Int) := by have := HR.out.1.2.1; omega
      have hi0 : (0 : Int) ≤ (e.i : Int) := by omega
      obtain ⟨t, ht⟩ : ∃ t, e.ts[e.i]? = some t := ⟨_, List.getElem?_eq_getElem (by omega)⟩
      obtain ⟨d', hlk⟩ := HR.out.1.1
      obtain ⟨A, m', c', hkc, hmc, hk0, hkp⟩ := hlk.kid ht
      obtain ⟨pb, po, hpe⟩ : ∃ pb po, e.p.1 = (⟨pb, po, none⟩ : Addr) := ⟨_, _, hlk.spot⟩
      have hpb : pb < w.heap.size := by have := hlk.ok; rw [hpe] at this; obtain ⟨_, _, hx⟩ := this; exact blk_lt hx
      rw [hpe] at j0 hkc
      simp only at hkc
      have hcw : wr.cell? ⟨pb, po + e.i * 4 + 3, none⟩ = some (.slice A m' c') := (HT.out.cell (p := ⟨pb, po + e.i * 4 + 3, none⟩) hpb (fun f => f)).trans hkc
      have HK := Lib.hid (And.intro ht (And.intro hk0 hkp))
      obtain ⟨pn, hpn⟩ : ∃ pn, e.p.2 = pn := ⟨_, rfl⟩
      obtain ⟨ei, hei⟩ : ∃ ei, e.i = ei := ⟨_, rfl⟩
      rw [hpn, hei] at hq hix
      rw [hpn] at j0
      rw [hei] at hi0 hcw j1
      have HE := Lib.hid (And.intro hpe (And.intro hpn hei))
      clear ht hlk hkc hk0 hkp hpe hpn hei hok hlen hi
      go_wp2_with fail
      go_still (by kernel_rfl)
      change Exit.then _ _ _ _ wr.drew
      obtain ⟨W1, hW1⟩ : ∃ W1, wr.drew = W1 := ⟨_, rfl⟩
      have t1 : Touch NoB wr W1 := hW1 ▸ (Touch.refl NoB wr).drew
      have i0 : W1.cell? ⟨g, m * 4, none⟩ = some (.slice (some ⟨pb, po, none⟩) pn c1) := hW1 ▸ j0
      have i1 : W1.cell? ⟨g, m * 4 + 1, none⟩ = some (.int .i64 (ei : Int)) := hW1 ▸ j1
      have hcw1 : W1.cell? ⟨pb, po + ei * 4 + 3, none⟩ = some (.slice A m' c') := hW1 ▸ hcw
      rw [hW1]
      go_wp2_with fail
      refine wp_region_still_lit (by kernel_rfl) (by kernel_rfl) ?_
      iterate 10 still_step
      still_call ((parts_any pb (po + ei * 4) (.slice A m' c') W1.drew hcw1 ⟨A, m', c', rfl⟩).mono (fun e w' h => ⟨h.1, h.2.symm⟩))
      repeat still_step
      refine wpStill_nil ?_
      change Exit.then _ _ _ _ W1.drew
      obtain ⟨W2, hW2⟩ : ∃ W2, W1.drew = W2 := ⟨_, rfl⟩
      have t2 : Touch NoB wr W2 := hW2 ▸ t1.drew
      rw [hW2]
      by_cases h00 : m' = 0
      · have HKE := Lib.hid (HK.out.2.1 h00)
        subst h00
        have hb3 : ei ≤ 2147483647 := by rw [← HE.out.2.2]; exact hb1
        have HG := Lib.hid (addx_any (w := W2) (ei : Int) (e.cnt : Int) (e.dep : Int) 0 0 ((t2.block g hlt (fun f => f)).trans HKS.out.1) (by rw [← HE.out.2.2]; exact HKS.out.2.1) HKS.out.2.2.1 HKS.out.2.2.2 ⟨by omega, by omega⟩ ⟨by omega, by omega⟩ ⟨by omega, by omega⟩ ⟨by omega, by omega⟩)
        have HT2 := Lib.hid t2
        clear t1 t2 hcw hcw1 i0 i1 j0 j1 j2 j3
        go_wp2_with fail
        refine HG.out.mono ?_
        rintro r w4 ⟨rfl, hg4, t4⟩
        obtain ⟨k', hk', hR'⟩ := rnd_leaf HR.out HK.out.1 HKE.out
        have HN := Lib.hid (sz_next hR' hroom HL.out.1 HL.out.2 hc (HT.out.same HT2.out) (HM.out.touch HT2.out (fun f => f) (fun x hx f => f)) (Nat.le_refl _) (HTop.out.keep HT2.out) HK.out.1 (by rw [HKE.out, HMm.out, HE.out.2.2]; simp only [cntT, depT]; exact hg4) t4)
        clear hg4 t4
        go_wp2
        go_roundg k'
        case measure => exact hk'
        case rel => have := HN.out; rw [HMm.out] at this; exact this
      · have h01 : ((m' : Int) == 0) = false := by simp; omega
        obtain ⟨a, d2, rfl, hlq, hkq⟩ := HK.out.2.2 (by omega)
        obtain ⟨ab, ao, ha⟩ : ∃ ab ao, a = (⟨ab, ao, none⟩ : Addr) := ⟨_, _, hlq.spot⟩
        subst ha
        have hab : OkB w ab := hlq.ok
        have HLQ := Lib.hid (And.intro hlq (And.intro hkq hab))
        have HPX := Lib.hid (fun W => placex_any ab ao m' c' (by omega) W)
        have HT2 := Lib.hid t2
        obtain ⟨s, hs⟩ : ∃ s, getP l (⟨ab, ao, none⟩, m') = s := ⟨_, rfl⟩
        have HS := Lib.hid hs
        have hb3 : ei ≤ 2147483647 := by rw [← HE.out.2.2]; exact hb1
        have HG := Lib.hid (fun (W : World) (t : Touch NoB W2 W) (ic id : Int) (h1 : 0 ≤ ic ∧ ic ≤ 9223372036854775807) (h2 : 0 ≤ id ∧ id ≤ 4294967296) => addx_any (w := W) (ei : Int) (e.cnt : Int) (e.dep : Int) ic id ((t.block g (Nat.lt_of_lt_of_le hlt t2.size) (fun f => f)).trans ((t2.block g hlt (fun f => f)).trans HKS.out.1)) (by rw [← HE.out.2.2]; exact HKS.out.2.1) HKS.out.2.2.1 HKS.out.2.2.2 ⟨by omega, by omega⟩ ⟨by omega, by omega⟩ h1 h2)
        clear hlq hkq hab t1 t2 hcw hcw1 i0 i1 j0 j1 j2 j3 hs
        go_wp2_with fail
        refine (HPX.out _).mono ?_
        rintro r w4 ⟨rfl, t4⟩
        have hlk := ((HM.out.touch HT2.out (fun f => f) (fun x hx f => f)).touch t4 (fun f => f) (fun x hx f => f)).look plk_expr (⟨ab, ao, none⟩, m') ((HLQ.out.2.2.touch (HT.out.same HT2.out) (fun f => f)).touch t4 (fun f => f))
        rw [HS.out] at hlk
        have HT4 := Lib.hid t4
        clear t4
        cases s with
        | some s =>
          obtain ⟨hs1, hs2⟩ := kn_look HR.out.1 HR.out.2.1 HK.out.1 HLQ.out.1 HS.out
          subst hs1
          unfold szV at hlk
          simp only [Option.getD_some, Option.isSome_some] at hlk hs2
          have hs3 : (0 : Int) < (cntT t.ks : Int) := by omega
          have hb4 : cntT t.ks ≤ 2147483647 := by have := cnt_below (List.mem_of_getElem? HK.out.1); have := HL.out.2; omega
          have hb5 := depT_cnt _ t.ks (Nat.le_refl _)
          go_wp2_with fail
          refine (HG.out _ (HT4.out.alloc _) _ _ ⟨by omega, by omega⟩ ⟨by omega, by omega⟩).mono ?_
          rintro r w5 ⟨rfl, hg5, t5⟩
          obtain ⟨k', hk', hR'⟩ := rnd_known HR.out HK.out.1
          have t24 : Touch NoB wr (w4.alloc (.cells #[.int .i64 (cntT t.ks : Int), .int .i64 (depT t.ks : Int)] 135)) := HT2.out.same (HT4.out.alloc _)
          have HN := Lib.hid (sz_next hR' hroom HL.out.1 HL.out.2 hc (HT.out.same t24) (HM.out.touch t24 (fun f => f) (fun x hx f => f)) (Nat.le_refl _) (HTop.out.keep t24) HK.out.1 (by rw [HMm.out, HE.out.2.2]; exact hg5) t5)
          have HKN := Lib.hid (hk' HLQ.out.1.pos)
          clear hg5 t5 t24 hk'
          go_wp2
          go_roundg k'
          case measure => exact HKN.out
          case rel => have := HN.out; rw [HMm.out] at this; exact this
        | none =>
          unfold szV at hlk
          simp only [Option.getD_none, Option.isSome_none] at hlk
          obtain ⟨hpr, k', hk', hR'⟩ := rnd_push HR.out HK.out.1 HLQ.out.1 HLQ.out.2.1 HS.out
          simp only at hpr
          have hpr2 : ¬ ((room : Int) < (m' : Int)) := by omega
          have HRP := Lib.hid (And.intro hk' hR')
          clear hk' hR'
          have hrm : IntKind.i64.wrap ((room : Int) - (m' : Int)) = ((room - m' : Nat) : Int) := by rw [IntWalk.i64_in _ (by omega)]; omega
          go_wp2_with fail
          refine (HPX.out _).mono ?_
          rintro r w5 ⟨rfl, t5⟩
          have t45 : Touch NoB W2 w5 := (HT4.out.alloc _).same t5
          have t25 : Touch NoB wr w5 := HT2.out.same t45
          obtain ⟨w6, hrun, hM6, t6⟩ := (HM.out.touch t25 (fun f => f) (fun x hx f => f)).store plk_expr (⟨ab, ao, none⟩, m') (HLQ.out.2.2.touch (HT.out.same t25) (fun f => f)) (0, 0)
          have HT5 := Lib.hid t25
          have HS6 := Lib.hid (And.intro hM6 t6)
          rw [show szV (0, 0) = .agg #[.int .i64 0, .int .i64 0] from rfl] at hrun
          clear t45 t25 hM6 t6 t5
          have hgm : g ≠ w.heap.size := by
            obtain ⟨-, es', cl, hb', -⟩ := HM.out
            intro e
            rw [← e, HKS.out.1] at hb'
            cases hb'
          have t26 : Touch (fun x => x = w.heap.size) wr (w6.alloc (.cells #[.slice (some ⟨ab, ao, none⟩) m' c', .int .i64 0, .int .i64 0, .int .i64 0] 194)) := ((HT5.out.mono (fun _ f => f.elim)).same HS6.out.2).alloc _
          have HTP := Lib.hid (HTop.out.keep t26 hgm)
          have HTW := Lib.hid (HT.out.trans t26 (fun x hx => .inr (by omega)))
          clear t26
          obtain ⟨i0, hi, hz0, hz1, hz2⟩ := info_visit
          have hcap : m + 1 ≤ 2147483647 := by obtain ⟨z, hz, -, hz3⟩ := HL.out.1; have h1 := chain_depth HR.out.1 z hz; rw [hz3] at h1; have h2 := cntT_pos (HR.out.1.1.choose_spec.pos); rw [HMm.out] at h1; omega
          go_wp2_with (at_builtin; refine wpList_append_lies _ rfl (.tmp 95) (.tmp 98) 195 rfl w.heap.size 194 i0 (.agg #[.slice none 0 0, .int .i64 0, .int .i64 0, .int .i64 0]) 4 48 Try.underlying195 hi hz0 hz1 hz2 rfl (by decide) (.slice (some ⟨g, 0, none⟩) (m + 1) cap) (m + 1) (ys ++ vis e c1) rfl ?c0 ⟨w6.heap.size, 0, none⟩ 1 1 [.slice (some ⟨ab, ao, none⟩) m' c', .int .i64 0, .int .i64 0, .int .i64 0] rfl rfl ?c1 ?c2 (by decide) ?c3 ?c4 ?c5 (w6.heap.size + 1) ?c6 ?go)
          case c0 =>
            have := (path_shut HTP.out).1
            rw [List.length_cons, HMm.out] at this
            exact this
          case c1 => exact World.news_of_block (cs := #[.slice (some ⟨ab, ao, none⟩) m' c', .int .i64 0, .int .i64 0, .int .i64 0]) (mk_blk w6 _ _ rfl)
          case c2 => intro u hu; simp only [List.mem_cons, List.not_mem_nil, or_false] at hu; rcases hu with rfl | rfl | rfl | rfl <;> rfl
          case c3 => unfold maxLen; omega
          case c4 => omega
          case c5 => exact HTW.out.size
          case c6 => simp only [World.size_alloc]
          case go =>
            intro gk capk w' hown hgrow hat hlt'
            have t7 : Touch (fun x => x = g) (w6.alloc (.cells #[.slice (some ⟨ab, ao, none⟩) m' c', .int .i64 0, .int .i64 0, .int .i64 0] 194)) w' := (Touch.refl _ _).grown hgrow (fun k e => by injection e with e; exact .inl e.symm)
            have HN := Lib.hid (sz_push (g' := gk) (cap' := capk) (c' := c') HRP.out.2 (by omega) HL.out.1 HL.out.2 HK.out.1 HTW.out (HS6.out.1.touch ((Touch.refl NoB w6).alloc (.cells #[.slice (some ⟨ab, ao, none⟩) m' c', .int .i64 0, .int .i64 0, .int .i64 0] 194)) (fun f => f) (fun x hx f => f)) (Nat.le_refl _) HTP.out (by rw [HMm.out, List.append_assoc]; exact hown) t7)
            clear hown hgrow hat hlt' t7
            go_wp2
            go_roundg k'
            case measure => exact HRP.out.1
            case rel => have := HN.out; rw [HMm.out] at this; exact this
end Go.Proofs.Ytfpeennegmlcpaa
