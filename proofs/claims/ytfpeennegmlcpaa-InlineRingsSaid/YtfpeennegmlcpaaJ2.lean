/-
  Package inline's kids over bare nodes, given what its node does. Conditions: those that each theorem names.
-/
import Derived.Test.YtfpeennegmlcpaaJ1
namespace Go.Proofs.Ytfpeennegmlcpaa
open Go.ChangeShapes Go.WideShapes Go.ChangeAt Go.RowKit
set_option maxRecDepth 100000
set_option maxHeartbeats 4000000
attribute [local go_sem ↓] loadN_of storeN_of

section
variable (w : World) (B eb ob mb tb D cz xz : Nat) (ts : List TrP) (f : Nat) (nod : List Bool → Nat → BN → Except Nat (BN × List Bool × Nat)) (l : List BN) (R : Except Nat (List BN × List Bool × Nat))
def KiRel (k : Nat) (v8 v15 : Value) (wr : World) : Prop :=
  ∃ (i : Nat) (ps : List (BN × Value)) (o : List Bool) (c x : Nat), v15 = .int .i64 (i : Int) ∧ i ≤ l.length ∧ k = l.length - i ∧ ps.length = i ∧ R = preK (ps.map (·.1)) (kidM nod o c (l.drop i)) ∧ EX wr B eb ob mb tb D ts o c x ∧ (x ≤ c ∧ x + cz ≤ xz + c) ∧ (c ≤ 4000 ∧ i ≤ c) ∧ Touch (fun b => b = eb ∨ b = ob) w wr ∧
    wr.ownsRow w.heap.size 30 10 v8 i (flatC ps) ∧ (ps = [] → v8 = .slice none 0 0) ∧ ∀ p ∈ ps, p.1.ok ∧ KL wr (fun b => w.heap.size ≤ b ∧ b < wr.heap.size ∧ v8.ownBlock ≠ some b) f p.1.ks p.2
end
theorem info_node : ∃ i0, Try.prog.info? 30 = some i0 ∧ i0.zero = some (.agg #[.int .i64 0, .int .i64 0, .int .i64 0, .string ⟨#[]⟩, .int .i64 0, .int .i64 0, .string ⟨#[]⟩, .slice none 0 0, .slice none 0 0, .slice none 0 0]) ∧ i0.size = 10 ∧ i0.bytes = 144 := by
  have h : (Try.prog.info? 30).map (fun i => (i.zero, i.size, i.bytes)) = some (some (.agg #[.int .i64 0, .int .i64 0, .int .i64 0, .string ⟨#[]⟩, .int .i64 0, .int .i64 0, .string ⟨#[]⟩, .slice none 0 0, .slice none 0 0, .slice none 0 0]), 10, 144) := by kernel_rfl
  cases hi : Try.prog.info? 30 with
  | none => rw [hi] at h; cases h
  | some i0 =>
    rw [hi] at h
    simp only [Option.map_some, Option.some.injEq, Prod.mk.injEq] at h
    exact ⟨i0, rfl, h.1, h.2.1, h.2.2⟩
theorem KL.at {w : World} {Q : Nat → Prop} {d : Nat} {l : List BN} {A : Option Addr} {m c i : Nat} {y : BN} (h : KL w Q d l (.slice A m c)) (hy : l[i]? = some y) : ∃ g, A = some ⟨g, 0, none⟩ ∧ g < w.heap.size ∧ y.ok ∧ ∃ u, w.rangeAt g (i * 10) (ndC y.kd y.nm u) ∧ KL w Q d y.ks u := by
  cases d with
  | zero => rw [h.1] at hy; simp at hy
  | succ d =>
    rcases h with h | ⟨g, m', c', cur, T, e1, e2, e3, e4, e5, e6, e7, e8⟩
    · rw [h.1] at hy; simp at hy
    · injection e1 with a1 a2 a3
      obtain ⟨b1, u, b2, b3⟩ := e8 i y hy
      exact ⟨g, a1, blk_lt e7, b1, u, fun j x hx => (cell_blk e7 _).trans (b2 j x hx), b3.more (Nat.le_succ d)⟩
theorem kids_any {B eb ob mb tb D f d : Nat} {ts : List TrP} (hN : NoOk B eb ob mb tb D ts f d) {w : World} {o : List Bool} {c x : Nat} (h : EX w B eb ob mb tb D ts o c x) (hx : x ≤ c) (hc : c ≤ 4000) {l : List BN} {vl : Value} (hl : KL w (fun b => b < B) D l vl) :
    Calls Try.prog 77 #[.pointer (some ⟨eb, 0, none⟩), vl, .int .i64 (d : Int)] w (KiPost B eb ob mb tb D ts w c x f (kidM (nodM ts f d) o c l)) := by
  obtain ⟨R, hR⟩ : ∃ R, kidM (nodM ts f d) o c l = R := ⟨_, rfl⟩
  rw [hR]
  obtain ⟨A, m, cp, rfl, hlen⟩ : ∃ A m cp, vl = .slice A m cp ∧ l.length = m := by
    rcases hl.form with ⟨rfl, rfl⟩ | ⟨g, m, cp, rfl, -, h3, -⟩
    · exact ⟨none, 0, 0, rfl, rfl⟩
    · exact ⟨_, m, cp, rfl, h3⟩
  have hm : m ≤ 9223372036854775807 := by
    rcases hl.form with ⟨rfl, -⟩ | ⟨g, m', cp', e, -, h3, h4, h5, h6⟩
    · simp at hlen; omega
    · unfold maxLen at h6; omega
  have HL := Lib.hid h.lts
  have HE := Lib.hid (And.intro h (And.intro hl (And.intro hR (And.intro hx hc))))
  have HN := Lib.hid hN
  have HM := Lib.hid hlen
  clear h hl hR hN hx hc
  go_enter Try.func77, Try.ntmps77
  go_wp2
  go_loopg [8, 15] l.length (fun k v8 v15 wr => KiRel w B eb ob mb tb D c x ts f (nodM ts f d) l R k v8 v15 wr)
  case atStart =>
    obtain ⟨h, hl, hR, hx, hc⟩ := HE.out
    exact ⟨0, [], o, c, x, rfl, Nat.zero_le _, by omega, rfl, by simp [preK_nil]; exact hR.symm, h, ⟨hx, Nat.add_comm _ _ ▸ Nat.le_refl _⟩, ⟨hc, Nat.zero_le _⟩, Touch.refl _ _, ⟨rfl, .inl ⟨rfl, rfl⟩⟩, fun _ => rfl, fun p hp => absurd hp (by simp)⟩
  case round =>
    obtain ⟨i, ps, o1, c1, x1, rfl, hi, hk, hps, hR, hex, ⟨hx1, hxx1⟩, ⟨hc1, hic⟩, hT, hrow, hnil, hall⟩ := hrel
    have hlt := HL.out
    have hkl : KL wr (fun b => b < B) D l (.slice A m cp) := HE.out.2.1.via hT (fun b hb => ⟨fun e => by rcases e with rfl | rfl <;> exact absurd hb (by omega), hb⟩)
    by_cases hlast : i = m
    · have hR2 : R = .ok (ps.map (·.1), o1, c1) := by rw [hR, List.drop_eq_nil_of_le (by omega)]; simp [kidM, preK]
      have HF := Lib.hid (And.intro hR2 (And.intro hex (And.intro hxx1 (And.intro hc1 (And.intro hT (And.intro hrow (And.intro hnil (And.intro hall hps))))))))
      have HI := Lib.hid hlast
      have hq : ¬ ((i : Int) < (m : Int)) := by omega
      clear hR hR2 hex hx1 hc1 hT hrow hnil hall hps hkl hk hi hlast
      go_wp2
      refine bodyPost_ret (v := .tuple #[u8, .int .i64 0]) (by simp [results, Try.results77, go_sem]) rfl ?_
      obtain ⟨e1, e2, e3, e4, e5, e6, e7, e8, e9⟩ := HF.out
      refine ⟨e5, fun er he => (by rw [e1] at he; cases he), fun l' o' c' he => ?_⟩
      rw [e1] at he
      injection he with he
      injection he with g1 g2
      injection g2 with g2 g3
      subst g1 g2 g3
      refine ⟨e4, u8, x1, e3, rfl, kl_of_row (by rw [e9]; exact e6) e8 (fun b hb => ⟨hb.1, hb.2.1⟩) (fun g hg => ⟨(e6.lt g hg).1, (e6.lt g hg).2⟩) e7, e2⟩
    · obtain ⟨y, hy⟩ : ∃ y, l[i]? = some y := ⟨_, List.getElem?_eq_getElem (by omega)⟩
      obtain ⟨g, rfl, hgl, hyok, u, hrg, hklu⟩ := hkl.at hy
      have hq : (i : Int) < (m : Int) := by omega
      have HIM := Lib.hid (show i < m by omega)
      have hload := run_LoadN wr g (i * 10) (ndC y.kd y.nm u) rfl hrg
      obtain ⟨W1, hW1⟩ : ∃ W1, wr.alloc (.cells #[.int .i64 0, .int .i64 0, .int .i64 0, .string ⟨#[]⟩, .int .i64 0, .int .i64 0, .string ⟨#[]⟩, .slice none 0 0, .slice none 0 0, .slice none 0 0] 30) = W1 := ⟨_, rfl⟩
      have t1 : Touch NoB wr W1 := hW1 ▸ (Touch.refl NoB wr).alloc _
      have hb1 : BxAt W1 wr.heap.size 0 ⟨#[]⟩ (.slice none 0 0) := hW1 ▸ BxAt.new (k := 0) (s := ⟨#[]⟩) (u := .slice none 0 0) (mk_blk wr _ _ rfl)
      obtain ⟨W2, hst, hb2, t2⟩ := hb1.store y (form_one hklu)
      have hload2 := hb2.load
      have t12 : Touch NoB wr W2 := t1.trans t2 (fun b hb => .inr (by omega))
      have hex2 := hex.keep t12
      have hkl2 := hklu.via t12 (fun b hb => ⟨fun f => f, hb⟩)
      have hN2 := HN.out W2 o1 c1 x1 y u hex2 hx1 hc1 hyok hkl2
      have hb2l := hb2.lt
      have hdrop : l.drop i = y :: l.drop (i + 1) := by
        obtain ⟨h1, h2⟩ := List.getElem?_eq_some_iff.1 hy
        rw [← h2]; exact List.drop_eq_getElem_cons h1
      have HW1 := Lib.hid hW1
      have HN2 := Lib.hid hN2
      have HT2 := Lib.hid (hT.trans t12 (fun b f => f.elim))
      have HS := Lib.hid (And.intro hR (And.intro hrow (And.intro hnil (And.intro hall (And.intro hps (And.intro hdrop (And.intro t12 (And.intro hk hi))))))))
      obtain ⟨k0, s0, ks0⟩ := y
      simp only [BN.kd, BN.nm, ndC, ndV] at hload hst hload2
      have HN2' := HN2
      unfold ndV at HN2'
      simp only [BN.kd, BN.nm] at HN2'
      clear hR hex hc1 hT hrow hnil hall hkl hk hi hrg hklu t1 hb1 hb2 t2 t12 hex2 hkl2 hN2 hdrop hy hyok hW1 hps hlast hlen
      go_wp2_with fail
      rw [HW1.out, hst]
      go_wp2_with fail
      refine HN2'.out.mono ?_
      rintro r w3 ⟨t3, herr, hok⟩
      obtain ⟨W4, hW4⟩ : ∃ W4, w3.alloc (.cells #[.int .i64 0, .int .i64 0, .int .i64 0, .string ⟨#[]⟩, .int .i64 0, .int .i64 0, .string ⟨#[]⟩, .slice none 0 0, .slice none 0 0, .slice none 0 0] 30) = W4 := ⟨_, rfl⟩
      have t4 : Touch NoB w3 W4 := hW4 ▸ (Touch.refl NoB w3).alloc _
      have hb4 : BxAt W4 w3.heap.size 0 ⟨#[]⟩ (.slice none 0 0) := hW4 ▸ BxAt.new (k := 0) (s := ⟨#[]⟩) (u := .slice none 0 0) (mk_blk w3 _ _ rfl)
      have HW4 := Lib.hid hW4
      rcases hR1 : nodM ts f d o1 c1 (.mk k0 s0 ks0) with er | ⟨n', o', c'⟩
      · have he := herr er hR1
        have her := nodM_pos hR1
        have hz : ((er : Int) != 0) = true := by simp; omega
        unfold ndV at he
        simp only [BN.kd, BN.nm, nat0] at he
        subst he
        obtain ⟨W5, hst5, hb5, t5⟩ := hb4.store (.mk 0 ⟨#[]⟩ []) (u' := .slice none 0 0) rfl
        unfold ndV at hst5
        simp only [BN.kd, BN.nm, nat0] at hst5
        have HR5 : Hid (R = .error er) := Lib.hid (by rw [HS.out.1, HS.out.2.2.2.2.2.1]; exact preK_bad hR1)
        have HT5 := Lib.hid (((HT2.out.trans t3 (fun b hb => .inl hb)).trans t4 (fun b f => f.elim)).trans t5 (fun b hb => .inr (by subst hb; have := HT2.out.size; have := t3.size; omega)))
        clear t3 herr hok t4 hb4 hb5 t5 hW4 hR1
        go_wp2_with fail
        rw [HW4.out, hst5]
        go_wp2
        refine bodyPost_ret (v := .tuple #[.slice none 0 0, .int .i64 (er : Int)]) (by simp [results, Try.results77, go_sem]) rfl ?_
        refine ⟨HT5.out, fun er' he _ => ?_, fun l' o' c' he => (by rw [HR5.out] at he; cases he)⟩
        rw [HR5.out] at he
        injection he with he
        subst he
        rfl
      · obtain ⟨hc', hok', u', x', hx', he, hkl', hex'⟩ := hok n' o' c' hR1
        obtain ⟨k', s', ks'⟩ := n'
        obtain ⟨W5, hst5, hb5, t5⟩ := hb4.store (.mk k' s' ks') (form_one hkl')
        have hone := ndC_one (k := k') (s := s') (form_one hkl')
        have hload5 := hb5.load
        have hb5l := hb5.lt
        have hmore := nodM_more hR1
        unfold ndV at he hst5 hload5
        simp only [BN.kd, BN.nm, BN.ks] at he hst5 hload5 hkl'
        subst he
        obtain ⟨a1, a2, a3, a4, a5, a6, a7, a8, a9⟩ := HS.out
        have hw2 := HT2.out.size
        have hsz3 := t3.size
        have hsz4 := t4.size
        have hsz5 := t5.size
        have hsz1 : wr.heap.size < W2.heap.size := hb2l
        have hsz12 := a7.size
        have hb := HL.out
        have T3 : Touch (fun b => b = eb ∨ b = ob) wr w3 := (a7.mono (fun _ f => f.elim)).same t3
        have T5 : Touch (fun b => b = eb ∨ b = ob) wr W5 := (T3.trans t4 (fun b f => f.elim)).trans t5 (fun b hb => .inr (by subst hb; omega))
        have hrow5 := row_touch a2 T5 (fun b hb' e => by have := (a2.lt b hb').1; omega)
        have hown8 : ∀ b, u8.ownBlock = some b → w.heap.size ≤ b ∧ b < wr.heap.size := fun b hb' => a2.lt b hb'
        have hex5 := (hex'.keep t4).keepF t5 (fun b hb' => by subst hb'; omega)
        have HR5 : Hid (R = preK ((ps ++ [(BN.mk k' s' ks', u')]).map (·.1)) (kidM (nodM ts f d) o' c' (l.drop (i + 1)))) := Lib.hid (by rw [a1, a6, List.map_append]; exact preK_step hR1)
        have HH := Lib.hid (And.intro hrow5 (And.intro hown8 (And.intro hex5 (And.intro T5 (And.intro hkl' (And.intro t4 (And.intro t5 (And.intro (And.intro (And.intro (show x' ≤ c' by omega) (show x' + c ≤ x + c' by omega)) hc') (And.intro a4 (And.intro a5 (And.intro hok' (And.intro hone (And.intro a8 a9)))))))))))))
        have HTW := Lib.hid (HT2.out.trans t3 (fun b hb => .inl hb))
        have hic2 : i ≤ 4000 := by omega
        have hic3 : i + 1 ≤ c' := by omega
        obtain ⟨i0, hi, hz0, hz1, hz2⟩ := info_node
        clear herr hok hR1 t4 hb4 hb5 t5 hW4 a1 a2 a3 a4 a5 a6 a7 a8 a9 T3 T5 hrow5 hown8 hex5 hkl' hex' hx' hc' hok' hone t3 hmore
        go_wp2_with fail
        rw [HW4.out, hst5]
        go_wp2_with (at_builtin; refine wpList_append_lies _ rfl (.tmp 29) (.tmp 31) 28 rfl w.heap.size 30 i0 (.agg #[.int .i64 0, .int .i64 0, .int .i64 0, .string ⟨#[]⟩, .int .i64 0, .int .i64 0, .string ⟨#[]⟩, .slice none 0 0, .slice none 0 0, .slice none 0 0]) 10 144 Try.underlying28 hi hz0 hz1 hz2 rfl (by decide) u8 i (flatC ps) rfl ?c0 ⟨W5.heap.size, 0, none⟩ 1 1 (ndC k' s' u') rfl rfl ?c1 ?c2 (by decide) ?c3 ?c4 ?c5 (W5.heap.size + 1) ?c6 ?go)
        case c0 => exact row_touch HH.out.1 ((Touch.refl NoB W5).alloc _) (fun _ _ f => f)
        case c1 => exact World.news_of_block (cs := (ndC k' s' u').toArray) (mk_blk W5 _ _ rfl)
        case c2 => exact HH.out.2.2.2.2.2.2.2.2.2.2.2.1
        case c3 => unfold maxLen; omega
        case c4 => omega
        case c5 => have h1 := HH.out.2.2.2.1.size; have h2 := HTW.out.size; simp only [World.size_alloc]; omega
        case c6 => simp only [World.size_alloc]
        case go =>
          intro g' cap' w' hown hgrow hat hgl'
          obtain ⟨q1, q2, q3, q4, q5, q6, q7, ⟨q8, q9⟩, q10, q11, q12, q13, q14, q15⟩ := HH.out
          have hb := HL.out
          have t8 : Touch (fun b => u8.ownBlock = some b) W5 w' := ((Touch.refl _ _).alloc _).grown hgrow (fun k e => .inl e)
          have hsz8 := t8.size
          have hw5 := q4.size
          have T8 : Touch (fun b => (b = eb ∨ b = ob) ∨ u8.ownBlock = some b) wr w' := (q4.mono (fun b hb => .inl hb)).trans t8 (fun b hb => .inl (.inr hb))
          have T9 : Touch (fun b => b = w3.heap.size ∨ u8.ownBlock = some b) w3 w' := ((q6.mono (fun _ f => f.elim)).trans q7 (fun b hb => .inl (.inl hb))).trans t8 (fun b hb => .inl (.inr hb))
          have TW : Touch (fun b => b = eb ∨ b = ob) w w' := by
            refine (HTW.out.trans ((q6.mono (G := fun b => b = w3.heap.size ∨ u8.ownBlock = some b) (fun _ f => f.elim)).trans q7 (fun b hb => .inl (.inl hb))) (fun b hb => ?_)).trans t8 (fun b hb => .inr (q2 b hb).1)
            rcases hb with hb | hb
            · subst hb; have := HTW.out.size; exact .inr this
            · exact .inr (q2 b hb).1
          have hex8 := q3.keepF t8 (fun b hb' => by have := q2 b hb'; omega)
          have hg8 : (∀ b, u8.ownBlock = some b → b = g') ∨ g' = W5.heap.size + 1 := by
            rcases hat with h | h
            · exact .inl (fun b hb => by rw [h] at hb; injection hb with hb; exact hb.symm)
            · exact .inr h
          have hgne : ∀ b, b < w3.heap.size → u8.ownBlock ≠ some b → b ≠ g' := by
            intro b hb1 hb2 e
            rcases hat with h | h
            · exact hb2 (by rw [h, e])
            · omega
          have hall8 : ∀ p ∈ ps ++ [(BN.mk k' s' ks', u')], p.1.ok ∧ KL w' (fun b => w.heap.size ≤ b ∧ b < w'.heap.size ∧ (Value.slice (some ⟨g', 0, none⟩) (i + 1) cap').ownBlock ≠ some b) f p.1.ks p.2 := by
            intro p hp
            rcases List.mem_append.1 hp with hp | hp
            · obtain ⟨z1, z2⟩ := q10 p hp
              refine ⟨z1, z2.via T8 (fun b hb' => ⟨?_, hb'.1, by omega, ?_⟩)⟩
              · rintro ((rfl | rfl) | h)
                · omega
                · omega
                · exact hb'.2.2 h
              · intro e
                simp only [Value.ownBlock, Option.some.injEq] at e
                exact hgne b (by omega) hb'.2.2 e.symm
            · rw [List.mem_singleton] at hp
              subst hp
              refine ⟨q12, q5.via T9 (fun b hb' => ⟨?_, by omega, by omega, ?_⟩)⟩
              · rintro (rfl | h)
                · omega
                · have := (q2 b h).2; omega
              · intro e
                simp only [Value.ownBlock, Option.some.injEq] at e
                exact hgne b hb'.2 (fun h => by have := (q2 b h).2; omega) e.symm
          have hrow8 : w'.ownsRow w.heap.size 30 10 (.slice (some ⟨g', 0, none⟩) (i + 1) cap') (i + 1) (flatC (ps ++ [(BN.mk k' s' ks', u')])) := by
            rw [flatC_snoc]
            exact hown
          have HG := Lib.hid (And.intro hex8 (And.intro q8 (And.intro q9 (And.intro TW (And.intro hrow8 (And.intro hall8 (And.intro q11 (And.intro q14 q15))))))))
          clear hown hgrow hat hgl' q1 q2 q3 q4 q5 q6 q7 q8 q9 q10 q11 q12 q13 q14 q15 t8 T8 T9 TW hex8 hg8 hgne hall8 hrow8
          go_wp2
          go_roundg (l.length - (i + 1))
          case measure => have h1 := HG.out.2.2.2.2.2.2.2.1; have h2 := HM.out; have h3 := HIM.out; omega
          case rel =>
            obtain ⟨z1, z2, z3, z4, z5, z6, z7, z8, z9⟩ := HG.out
            exact ⟨i + 1, ps ++ [(BN.mk k' s' ks', u')], o', c', x', by go_num, by have := HM.out; have := HIM.out; omega, rfl, by simp [z7], HR5.out, z1, z2, ⟨z3, hic3⟩, z4, z5, fun h => by simp at h, z6⟩
end Go.Proofs.Ytfpeennegmlcpaa
