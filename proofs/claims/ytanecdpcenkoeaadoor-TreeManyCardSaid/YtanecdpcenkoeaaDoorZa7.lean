/-
  What package lex's divide returns: what the lexer on lists of bytes comes to. Conditions: at most 65536 bytes; the library's own variable can be read.
-/
import Derived.Test.YtanecdpcenkoeaaDoorZa6
import Derived.Test.YtanecdpcenkoeaaDoorLk
import Derived.Test.YtanecdpcenkoeaaDoorZar8
import Derived.Test.YtanecdpcenkoeaaDoorZa1
import Derived.Test.YtanecdpcenkoeaaDoorZar4
import Derived.Lib.SlBytesConst
import Derived.Test.YtanecdpcenkoeaaDoorLu
namespace Go.Proofs.YtanecdpcenkoeaaDoor
open Go.ChangeShapes Go.WideShapes Go.ChangeAt Go.RowKit
set_option maxRecDepth 100000
set_option maxHeartbeats 4000000

/-- From each label on. -/
theorem pass_all {A : Option Addr} {cap : Nat} {b : Bs} {w wr : World} {g l : Nat} {a : Act} (Q : Exit → Act → World → Prop) (hQ : OnRet b w b.length Q) (hcap : b.length ≤ cap) (hc63 : cap ≤ 9223372036854775807) (hmax : b.length ≤ 65536) (hb : BAt w A b) (hev : EV w)
    (hJ : DJ A cap b w g l a wr) : (divX l).wp Tryd.prog (hop (DG A cap b w g (mu b.length l a)) Q) a wr := by
  obtain ⟨hl, ts, vl, v7, v8, i, k, h⟩ := hJ
  have hcase : l = 0 ∨ l = 1 ∨ l = 2 ∨ l = 3 ∨ l = 4 ∨ l = 5 := by omega
  have hfr := frame_slots h.len h.dfr
  rw [h.mu]
  rcases hcase with rfl | rfl | rfl | rfl | rfl | rfl
  · rw [hfr, h.s0, h.s5, h.s6, h.s7, h.s9]
    exact pass0 A _ cap b w wr g _ ts vl i k Q hQ rfl hcap hc63 hmax hb hev h.di h.le h.cnt h.dl rfl
  · have h8 := h.s8.trans (h.at8 (by decide))
    rw [hfr, h.s0, h.s5, h.s6, h.s7, h8, h.s9]
    exact pass1 A _ cap b w wr g _ ts vl i k Q rfl hcap hc63 hmax hb hev h.di h.le (h.ilt (by decide)) h.cnt h.dl rfl
  · have h8 := h.s8.trans (h.at8 (by decide))
    rw [hfr, h.s0, h.s5, h.s6, h.s7, h8, h.s9]
    exact pass2 A _ cap b w wr g _ ts vl i k Q rfl hcap hc63 hmax hb hev h.di h.le (h.ilt (by decide)) h.cnt h.dl rfl
  · have h8 := h.s8.trans (h.at8 (by decide))
    rw [hfr, h.s0, h.s5, h.s6, h.s7, h8, h.s9]
    exact pass3 A _ cap b w wr g _ ts vl i k Q rfl hcap hc63 hmax hb hev h.di h.le (h.ilt (by decide)) h.cnt h.dl rfl
  · have h8 := h.s8.trans (h.at8 (by decide))
    rw [hfr, h.s0, h.s5, h.s6, h.s7, h8, h.s9]
    exact pass4 A _ cap b w wr g _ ts vl i k Q hQ rfl hcap hc63 hmax hb hev h.di h.le (h.ilt (by decide)) h.cnt h.dl rfl
  · have h8 := h.s8.trans (h.at8 (by decide))
    rw [hfr, h.s0, h.s5, h.s6, h.s7, h8, h.s9]
    exact pass5 A _ cap b w wr g _ ts vl i k Q hQ rfl hcap hc63 hmax hb hev h.di h.le (h.ilt (by decide)) h.cnt h.dl rfl

theorem divide_any (A : Option Addr) (n cap : Nat) (b : Bs) (w : World) (hn : b.length = n) (hcap : n ≤ cap) (hc63 : cap ≤ 9223372036854775807) (hmax : n ≤ 65536) (hb : BAt w A b) (hev : EV w) :
    Calls Tryd.prog 28 #[.slice A n cap] w fun e w' => LxPost w n (lexL b) e w' := by
  subst hn
  have HB := Lib.hid hb
  have HE := Lib.hid hev
  clear hb hev
  go_enter Tryd.func28, Tryd.ntmps28
  go_wp2
  rename_i Q'
  have HQ : Hid (OnRet b w b.length Q') := Lib.hid (fun a w' v2 v3 v4 h1 h2 h3 h4 hP => bodyPost_ret (v := .tuple #[v2, v3, v4]) (by simp [results, Tryd.results28, go_sem, h2, h3, h4]) h1 hP)
  obtain ⟨Q, hQQ⟩ : ∃ Q, Q' = Q := ⟨_, rfl⟩
  rw [hQQ] at HQ
  clear_value Q'
  subst hQQ
  refine scope_hops (fun l => .seq .skip (divX l)) (fun l a wr => DJ A cap b w w.heap.size l a wr) (fun l a _ => mu b.length l a) (fun l a wr h => divX_some l h.1) ?first (fun l a wr h => wp_seq (wp_skip ?pass))
  case pass => exact pass_all Q' HQ.out hcap hc63 hmax HB.out HE.out h
  go_wp2
  go_step3
  rename_i hgo
  refine hgo _ _ ?_
  have E := Eq.refl (divX 0)
  conv at E => rhs; simp only [divX, divC, Tryd.f28, findLabel, Nat.reduceBEq, if_true]
  rw [← E]
  clear E hgo
  refine Go.wp_mono (Q := hop (DG A cap b w w.heap.size (mv b.length 0 0 0)) Q') ?_ (hop_mono (fun l a w h => h.1))
  have hI : DI w w.heap.size [] (.slice none 0 0) (w.alloc (.cells #[.int .i64 0, .int .i64 0, .int .i64 0, .string ⟨#[]⟩] 62)) :=
    ⟨(Touch.refl _ _).alloc _, Nat.le_refl _, ⟨_, _, _, _, alloc_blk w _ 62 rfl⟩, World.ownsRow_nil _ _ _ _, by simp [Value.ownBlock]⟩
  exact pass0 A _ cap b w _ w.heap.size _ [] (.slice none 0 0) 0 0 Q' HQ.out rfl hcap hc63 hmax HB.out HE.out hI (Nat.zero_le _) (Nat.zero_le _) (by show Lx.pre [] _ = _; rw [Lx.pre_nil, lex_from]) rfl

theorem tokens_any (A : Option Addr) (n cap : Nat) (b : Bs) (w : World) (hn : b.length = n) (hcap : n ≤ cap) (hc63 : cap ≤ 9223372036854775807) (hb : BAt w A b) (hev : EV w) :
    Calls Tryd.prog 16 #[.slice A n cap] w (TokPost w b) := by
  by_cases h : n ≤ 65536
  · have HD := Lib.hid (divide_any A n cap b w hn hcap hc63 h hb hev)
    have hd : decide ((65536 : Int) < (n : Int)) = false := by simp; omega
    have HP : Hid (∀ e w', LxPost w n (lexL b) e w' → TokPost w b e w') := Lib.hid (fun e w' x => by unfold TokPost; rw [hn, if_pos h]; exact x)
    clear hb hev hn
    cases hx : lexL b with
    | good ts =>
      rw [hx] at HD HP
      go_enter Tryd.func16, Tryd.ntmps16
      go_wp2_with fail
      refine HD.out.mono ?_
      rintro e w' ⟨hT, vl, rfl, ho⟩
      have HR := Lib.hid (And.intro hT ho)
      clear hT ho
      go_wp2
      exact bodyPost_ret (v := .tuple #[vl, .int .i64 n, .int .i64 0]) (by simp [results, Tryd.results16, go_sem]) rfl (HP.out _ _ ⟨HR.out.1, vl, rfl, HR.out.2⟩)
    | bad p =>
      rw [hx] at HD HP
      go_enter Tryd.func16, Tryd.ntmps16
      go_wp2_with fail
      refine HD.out.mono ?_
      rintro e w' ⟨hT, rfl⟩
      have HR := Lib.hid hT
      clear hT
      go_wp2
      exact bodyPost_ret (v := .tuple #[.slice none 0 0, .int .i64 p, .int .i64 2]) (by simp [results, Tryd.results16, go_sem]) rfl (HP.out _ _ ⟨HR.out, rfl⟩)
  · have hd : decide ((65536 : Int) < (n : Int)) = true := by simp; omega
    have HP : Hid (∀ e w', e = .returned (.tuple #[.slice none 0 0, .int .i64 0, .int .i64 3]) ∧ w = w' → TokPost w b e w') := Lib.hid (fun e w' x => by unfold TokPost; rw [hn, if_neg h]; exact x)
    clear hb hev hn
    go_enter Tryd.func16, Tryd.ntmps16
    go_wp2
    exact bodyPost_ret (v := .tuple #[.slice none 0 0, .int .i64 0, .int .i64 3]) (by simp [results, Tryd.results16, go_sem]) rfl (HP.out _ _ ⟨rfl, rfl⟩)
end Go.Proofs.YtanecdpcenkoeaaDoor

/-
  What lex.Tokens returns of any bytes, as the parsers' texts speak of it (beside the texts of chapter 10). Conditions: the library's own error can be read.
-/
namespace Go.Proofs.YtanecdpcenkoeaaDoor
open Go.ChangeShapes Go.WideShapes Go.ChangeAt Go.RowKit
set_option maxRecDepth 100000
set_option maxHeartbeats 4000000

theorem toks_good {A : Option Addr} {n cap m : Nat} {z : Int} {b : Bs} {w : World} {ts : List Tk} (h : lexL b = .good ts) (hm : ts.length = m) (hz : (n : Int) = z) (hn : b.length = n) (hmax : n ≤ 65536) (hcap : n ≤ cap) (hc63 : cap ≤ 9223372036854775807) (hb : BAt w A b) (hev : EV w) :
    Calls Tryd.prog 16 #[.slice A n cap] w fun e w' => ∃ g cp, e = .returned (.tuple #[.slice (some ⟨g, 0, none⟩) m cp, .int .i64 z, .int .i64 0]) ∧ TL w' g ts ∧ Touch NoB w w' := by
  refine (tokens_any A n cap b w hn hcap hc63 hb hev).mono ?_
  intro e w' hP
  unfold TokPost at hP
  rw [if_pos (by omega), h] at hP
  obtain ⟨hT, vl, rfl, ho⟩ := hP
  obtain ⟨g, cp, rfl, hTL⟩ := TL.of_row ho (good_pos h)
  exact ⟨g, cp, by rw [hn, hm, hz], hTL, hT⟩
/-- A text that is wrong at place p. -/
theorem toks_bad {A : Option Addr} {n cap : Nat} {b : Bs} {w : World} {p : Nat} (h : lexL b = .bad p) (hn : b.length = n) (hmax : n ≤ 65536) (hcap : n ≤ cap) (hc63 : cap ≤ 9223372036854775807) (hb : BAt w A b) (hev : EV w) :
    Calls Tryd.prog 16 #[.slice A n cap] w fun e w' => e = .returned (.tuple #[.slice none 0 0, .int .i64 p, .int .i64 2]) ∧ Touch NoB w w' := by
  refine (tokens_any A n cap b w hn hcap hc63 hb hev).mono ?_
  intro e w' hP
  unfold TokPost at hP
  rw [if_pos (by omega), h] at hP
  obtain ⟨hT, rfl⟩ := hP
  exact ⟨rfl, hT⟩
end Go.Proofs.YtanecdpcenkoeaaDoor

/-
  What package tree's Parse does: what the parser over lists comes to. Conditions: at most 65536 bytes; the listed variables read as they are laid.
-/
namespace Go.Proofs.YtanecdpcenkoeaaDoor
open Go.ChangeShapes Go.WideShapes Go.ChangeAt Go.RowKit
set_option maxRecDepth 100000
set_option maxHeartbeats 8000000

/-- What Parse returns of b, over memory that w had. -/
def PaPost (w : World) (b : Bs) (x : Ending) (w' : World) : Prop := Touch NoB w w' ∧ match parP b with
  | .ok p => ∃ v1 v2 v3, x = .returned (.tuple #[.agg #[v1, v2, v3], .int .i64 (b.length : Int), .int .i64 0]) ∧ PgAt w' (fun k => w.heap.size ≤ k) p [v1, v2, v3]
  | .er e k => x = .returned (.tuple #[.agg #[.slice none 0 0, .slice none 0 0, .slice none 0 0], .int .i64 (k : Int), .int .i64 (e : Int)])
theorem pl_last (b : Bs) : ∀ (a : Nat) (ts : List Tk) (t : Tk), PlOk b a ts → ts[ts.length - 1]? = some t → t.kd = 0
  | _, [], _, h, _ => h.elim
  | a, [x], t, h, e => by
    simp only [List.length_singleton, Nat.sub_self, List.getElem?_cons_zero, Option.some.injEq] at e
    subst e
    exact h.1
  | a, x :: u :: r, t, h, e => by
    refine pl_last b (x.pl + 1) (u :: r) t h.2.2.2.2.2 ?_
    simpa using e
theorem pl_le (b : Bs) : ∀ (a : Nat) (ts : List Tk) (i : Nat) (t : Tk), PlOk b a ts → ts[i]? = some t → t.pl ≤ b.length
  | _, [], _, _, h, _ => h.elim
  | a, [x], 0, t, h, e => by
    simp only [List.getElem?_cons_zero, Option.some.injEq] at e
    subst e
    exact Nat.le_of_eq h.2.1
  | a, [x], i + 1, t, h, e => by simp at e
  | a, x :: u :: r, 0, t, h, e => by
    simp only [List.getElem?_cons_zero, Option.some.injEq] at e
    subst e
    exact Nat.le_of_lt h.2.2.1
  | a, x :: u :: r, i + 1, t, h, e => pl_le b (x.pl + 1) (u :: r) i t h.2.2.2.2.2 (by simpa using e)
theorem PgAt.touch {w w' : World} {Q F : Nat → Prop} {a : Pg} {l : List Value} (h : PgAt w Q a l) (t : Touch F w w') (hq : ∀ b, Q b → ¬ F b) : PgAt w' Q a l := by
  obtain ⟨v1, v2, v3, xs, ys, rfl, h1, h2, h3, h4, h5⟩ := h
  exact ⟨v1, v2, v3, xs, ys, rfl, h1.touch t hq, h2.touch t hq, h3.mono (fun x ys hx => hx.touch t hq), h4.touch t hq, h5.mono (fun x ys hx => hx.touch t hq)⟩
theorem PgAt.via {w : World} {Q R : Nat → Prop} {a : Pg} {l : List Value} (h : PgAt w Q a l) (hq : ∀ b, Q b → b < w.heap.size → R b) : PgAt w R a l := by
  obtain ⟨v1, v2, v3, xs, ys, rfl, h1, h2, h3, h4, h5⟩ := h
  exact ⟨v1, v2, v3, xs, ys, rfl, h1.via hq, h2.via hq, h3.mono (fun x ys hx => hx.via hq), h4.via hq, h5.mono (fun x ys hx => hx.via hq)⟩
theorem pg_form {w : World} {Q : Nat → Prop} {p : Pg} {v1 v2 v3 : Value} (h : PgAt w Q p [v1, v2, v3]) : ∃ x1 l1 c1 x2 l2 c2 x3 l3 c3, v1 = .slice x1 l1 c1 ∧ v2 = .slice x2 l2 c2 ∧ v3 = .slice x3 l3 c3 := by
  obtain ⟨u1, u2, u3, xs, ys, e, ⟨A1, c1, rfl, -⟩, ⟨A2, c2, rfl, -⟩, -, ⟨A3, c3, rfl, -⟩, -⟩ := h
  simp only [List.cons.injEq] at e
  exact ⟨_, _, _, _, _, _, _, _, _, e.1, e.2.1, e.2.2.1⟩
/-- A text's tokens end with an end's. -/
theorem lex_end {b : Bs} {ts : List Tk} (h : lexL b = .good ts) : ∃ L, EnT ts L ∧ L + 1 = ts.length := by
  have hp := good_pos h
  obtain ⟨t, ht⟩ : ∃ t, ts[ts.length - 1]? = some t := ⟨_, List.getElem?_eq_getElem (by omega)⟩
  refine ⟨ts.length - 1, ⟨t, ht, ?_⟩, by omega⟩
  exact pl_last b 0 ts t (lex_places h) ht
theorem tparse_any {w : World} {A : Option Addr} {n cap B : Nat} {b : Bs} (hn : b.length = n) (hmax : n ≤ 65536) (hcap : n ≤ cap) (hc63 : cap ≤ 9223372036854775807) (hb : BAt w A b) (hev : EV w) (hv : LV w B) :
    Calls Tryd.prog 9 #[.slice A n cap] w (PaPost w b) := by
  obtain ⟨W00, hW00⟩ : ∃ W, w.alloc (.cells #[.slice none 0 0, .slice none 0 0, .slice none 0 0] 28) = W := ⟨_, rfl⟩
  have hT00 : Touch NoB w W00 := by rw [← hW00]; exact (Touch.refl _ _).alloc _
  have hb2 : B3 W00 28 w.heap.size (.slice none 0 0) (.slice none 0 0) (.slice none 0 0) := by rw [← hW00]; exact B3.new w _ _ _ _ rfl
  have hs00 : W00.heap.size = w.heap.size + 1 := by rw [← hW00]; simp only [World.size_alloc]
  have HB := Lib.hid (And.intro hT00 hb2)
  unfold PaPost parP
  cases hl : lexL b with
  | bad p =>
    have HC := Lib.hid (toks_bad hl hn hmax hcap hc63 (hb.touch hT00) (hev.touch hT00))
    clear hb hev hv hl hT00 hb2
    go_enter Tryd.func9, Tryd.ntmps9
    go_wp2_with fail
    refine HC.out.mono ?_
    rintro r w1 ⟨rfl, hT⟩
    have HT := Lib.hid hT
    have hb3 : B3 w1 28 w.heap.size (.slice none 0 0) (.slice none 0 0) (.slice none 0 0) := (hT.block _ (blk_lt HB.out.2) (fun z => z)).trans HB.out.2
    obtain ⟨z0, z1, z2, zl⟩ := hb3.cells
    obtain ⟨f0, f1, f2⟩ := hb3.free
    clear hT
    obtain ⟨Y, hY⟩ : ∃ Y, ((w1.setCell ⟨w.heap.size, 0, none⟩ (.slice none 0 0)).setCell ⟨w.heap.size, 1, none⟩ (.slice none 0 0)).setCell ⟨w.heap.size, 2, none⟩ (.slice none 0 0) = Y := ⟨_, rfl⟩
    have tY : Touch NoB w Y := by rw [← hY]; exact touch3 (HB.out.1.same HT.out) (.inr (Nat.le_refl _)) _ _ _
    have bY : B3 Y 28 w.heap.size (.slice none 0 0) (.slice none 0 0) (.slice none 0 0) := by rw [← hY]; exact ((hb3.set0 _).set1 _).set2 _
    obtain ⟨y0, y1, y2, yl⟩ := bY.cells
    have HY := Lib.hid tY
    clear tY bY hb3
    go_wp2
    exact bodyPost_ret (v := .tuple #[.agg #[.slice none 0 0, .slice none 0 0, .slice none 0 0], .int .i64 (p : Int), .int .i64 2]) (by simp [results, Tryd.results9, go_sem, y0, y1, y2]) rfl ⟨HY.out, rfl⟩
  | good ts =>
    obtain ⟨m, hm⟩ : ∃ m, ts.length = m := ⟨_, rfl⟩
    obtain ⟨L, hE, hL⟩ := lex_end hl
    have hm1 : m ≤ n + 1 := by have := pl_count b 0 ts (lex_places hl); omega
    have HC := Lib.hid (toks_good hl hm (z := (n : Int)) rfl hn hmax hcap hc63 (hb.touch hT00) (hev.touch hT00))
    have HO := Lib.hid (lex_oksT hl)
    have HV := Lib.hid (hv.touch0 hT00)
    have hBw := hv.le
    have hLm : (prgG ts).2.1 < m := by have := prgG_L hE; omega
    obtain ⟨RR, hRR⟩ : ∃ z, prgG ts = z := ⟨_, rfl⟩
    obtain ⟨pgv, st⟩ := RR
    simp only [hRR] at hLm ⊢
    have HRR := Lib.hid hRR
    clear hb hev hv hl hT00 hb2 hRR
    go_enter Tryd.func9, Tryd.ntmps9
    go_wp2_with fail
    refine HC.out.mono ?_
    rintro r w1 ⟨g, cp, rfl, htl, hT⟩
    have hv1 := HV.out.touch0 hT
    have hgl := htl.lt
    have HT := Lib.hid (HB.out.1.same hT)
    have HB2 := Lib.hid (show B3 w1 28 w.heap.size (.slice none 0 0) (.slice none 0 0) (.slice none 0 0) from (hT.block _ (blk_lt HB.out.2) (fun z => z)).trans HB.out.2)
    have HNW := Lib.hid (new_any (w := w1) (g := g) (n := m) (cp := cp) (k := 0) (Nat.zero_le _) (by omega))
    have HTL := Lib.hid htl
    have HV1 := Lib.hid hv1
    clear hT htl hv1
    go_wp2_with fail
    refine HNW.out.mono ?_
    rintro r w2 ⟨rfl, hT⟩
    have HB2 := Lib.hid (show B3 w2 28 w.heap.size (.slice none 0 0) (.slice none 0 0) (.slice none 0 0) from (hT.block _ (blk_lt HB2.out) (fun z => z)).trans HB2.out)
    have hs2 := hT.size
    have hsb := blk_lt HB2.out
    obtain ⟨gp, hgp⟩ : ∃ gp, w2.heap.size = gp := ⟨_, rfl⟩
    obtain ⟨W0, hW0⟩ : ∃ W, w2.alloc (.cells #[.slice (some ⟨g, 0, none⟩) m cp, .int .i64 0, .int .i64 0] 59) = W := ⟨_, rfl⟩
    have t20 : Touch NoB w2 W0 := by rw [← hW0]; exact (Touch.refl _ _).alloc _
    have hps : PS2 59 W0 gp g m cp ts (0, 0) := ⟨by rw [← hW0]; exact alloc_blk _ _ _ hgp, HTL.out.touch (hT.same t20), by omega, hm, Nat.zero_le _, by omega, HO.out.2.2⟩
    have HPG := Lib.hid (program_any HO.out.1 HO.out.2 (HV1.out.touch0 (hT.same t20)) (by have := HV1.out.le; omega) hE hps)
    rw [HRR.out] at HPG
    have HT := Lib.hid (HT.out.same (hT.same t20))
    have HB2 := Lib.hid (show B3 W0 28 w.heap.size (.slice none 0 0) (.slice none 0 0) (.slice none 0 0) from (t20.block _ (blk_lt HB2.out) (fun z => z)).trans HB2.out)
    have hs0 : W0.heap.size = gp + 1 := by rw [← hW0]; simp only [World.size_alloc]; omega
    clear hps hT t20
    subst hW0
    subst hgp
    go_wp2_with fail
    refine HPG.out.mono ?_
    rintro r w3 ⟨v1, v2, v3, rfl, hpg, hp3, hT3⟩
    obtain ⟨x1, l1, c1, x2, l2, c2, x3, l3, c3, e1, e2, e3⟩ := pg_form hpg
    subst e1 e2 e3
    have hs3 := hT3.size
    have HB3 := Lib.hid (HB2.out.go hT3 (by omega))
    obtain ⟨W3, hW3⟩ : ∃ W, w3.alloc (.cells #[.slice x1 l1 c1, .slice x2 l2 c2, .slice x3 l3 c3] 28) = W := ⟨_, rfl⟩
    have t3 : Touch NoB w3 W3 := by rw [← hW3]; exact (Touch.refl _ _).alloc _
    have ba : B3 W3 28 w3.heap.size (.slice x1 l1 c1) (.slice x2 l2 c2) (.slice x3 l3 c3) := by rw [← hW3]; exact B3.new _ _ _ _ _ rfl
    have hb3 : B3 W3 28 w.heap.size (.slice none 0 0) (.slice none 0 0) (.slice none 0 0) := (t3.block _ (blk_lt HB3.out) (fun z => z)).trans HB3.out
    have hp4 : PS2 59 W3 w2.heap.size g m cp ts st := hp3.touch t3
    have tW : Touch NoB w W3 := (HT.out.trans hT3 (fun k hk => .inr (by unfold AtB at hk; omega))).same t3
    obtain ⟨a0, a1, a2, al⟩ := ba.cells
    obtain ⟨z0, z1, z2, zl⟩ := hb3.cells
    obtain ⟨f0, f1, f2⟩ := hb3.free
    have q1 : W3.cell? ⟨w2.heap.size, 1, none⟩ = some (.int .i64 (st.1 : Int)) := cell_blk hp4.blk 1
    have q2 : W3.cell? ⟨w2.heap.size, 2, none⟩ = some (.int .i64 (st.2 : Int)) := cell_blk hp4.blk 2
    have d1 : W3.drew.cell? ⟨w2.heap.size, 1, none⟩ = some (.int .i64 (st.1 : Int)) := q1
    have d2 : W3.drew.cell? ⟨w2.heap.size, 2, none⟩ = some (.int .i64 (st.2 : Int)) := q2
    obtain ⟨t9, ht9⟩ : ∃ t, ts[st.1]? = some t := ⟨_, List.getElem?_eq_getElem (by omega)⟩
    have htp := (hp4.tl.at_ _ _ ht9).2.2.1
    have htd : W3.drew.cell? ⟨g, st.1 * 4 + 2, none⟩ = some (.int .i64 (t9.pl : Int)) := htp
    have dz0 : W3.drew.cell? ⟨w.heap.size, 0, none⟩ = some (.slice none 0 0) := z0
    have dz1 : W3.drew.cell? ⟨w.heap.size, 1, none⟩ = some (.slice none 0 0) := z1
    have dz2 : W3.drew.cell? ⟨w.heap.size, 2, none⟩ = some (.slice none 0 0) := z2
    have df0 : W3.drew.frozen? ⟨w.heap.size, 0, none⟩ = false := f0
    have df1 : W3.drew.frozen? ⟨w.heap.size, 1, none⟩ = false := f1
    have df2 : W3.drew.frozen? ⟨w.heap.size, 2, none⟩ = false := f2
    have hix : (st.1 : Int) < (m : Int) := by omega
    by_cases he : st.2 = 0
    · have hee : ((st.2 : Int) != 0) = false := by simp [he]
      obtain ⟨Y, hY⟩ : ∃ Y, ((W3.setCell ⟨w.heap.size, 0, none⟩ (.slice x1 l1 c1)).setCell ⟨w.heap.size, 1, none⟩ (.slice x2 l2 c2)).setCell ⟨w.heap.size, 2, none⟩ (.slice x3 l3 c3) = Y := ⟨_, rfl⟩
      have tY : Touch NoB w Y := by rw [← hY]; exact touch3 tW (.inr (Nat.le_refl _)) _ _ _
      have tY3 : Touch (fun k => k = w.heap.size) W3 Y := by rw [← hY]; exact touch3 (F := fun k => k = w.heap.size) (Touch.refl _ W3) (.inl rfl) (.slice x1 l1 c1) (.slice x2 l2 c2) (.slice x3 l3 c3)
      have bY : B3 Y 28 w.heap.size (.slice x1 l1 c1) (.slice x2 l2 c2) (.slice x3 l3 c3) := by rw [← hY]; exact ((hb3.set0 _).set1 _).set2 _
      obtain ⟨y0, y1, y2, yl⟩ := bY.cells
      have hpg2 : PgAt w3 (fun k => w2.heap.size + 1 ≤ k) pgv [(.slice x1 l1 c1), (.slice x2 l2 c2), (.slice x3 l3 c3)] := hpg.via (fun k hk _ => by rw [hs0] at hk; exact hk)
      have hpY : PgAt Y (fun k => w.heap.size ≤ k) pgv [(.slice x1 l1 c1), (.slice x2 l2 c2), (.slice x3 l3 c3)] := ((hpg2.touch t3 (fun _ _ z => z)).touch tY3 (fun k hk e => by omega)).via (fun k hk _ => by omega)
      have HY := Lib.hid (And.intro tY hpY)
      clear tY tY3 bY hpY hpg hpg2 hp3 hT3 t3 ba hb3 hp4 tW
      go_wp2
      refine bodyPost_ret (v := .tuple #[.agg #[.slice x1 l1 c1, .slice x2 l2 c2, .slice x3 l3 c3], .int .i64 (n : Int), .int .i64 0]) (by simp [results, Tryd.results9, go_sem, y0, y1, y2]) rfl ?_
      try rw [if_pos he]
      exact ⟨HY.out.1, _, _, _, by first | rfl | rw [hn], HY.out.2⟩
    · have hee : ((st.2 : Int) != 0) = true := by simp; omega
      obtain ⟨Y, hY⟩ : ∃ Y, ((W3.setCell ⟨w.heap.size, 0, none⟩ (.slice none 0 0)).setCell ⟨w.heap.size, 1, none⟩ (.slice none 0 0)).setCell ⟨w.heap.size, 2, none⟩ (.slice none 0 0) = Y := ⟨_, rfl⟩
      have tY : Touch NoB w Y := by rw [← hY]; exact touch3 tW (.inr (Nat.le_refl _)) _ _ _
      have bY : B3 Y 28 w.heap.size (.slice none 0 0) (.slice none 0 0) (.slice none 0 0) := by rw [← hY]; exact ((hb3.set0 _).set1 _).set2 _
      obtain ⟨y0, y1, y2, yl⟩ := bY.cells
      have HY := Lib.hid tY
      have hqg : w2.heap.size ≠ w.heap.size := by omega
      have tY3 : Touch (fun k => k = w.heap.size) W3 Y := by rw [← hY]; exact touch3 (F := fun k => k = w.heap.size) (Touch.refl _ W3) (.inl rfl) _ _ _
      have hgw9 : g ≠ w.heap.size := by
        intro e
        have h0 := (hp4.tl.at_ 0 _ (List.getElem?_eq_getElem (by omega))).1
        rw [e] at h0
        simp only [Nat.zero_mul] at h0
        rw [z0] at h0
        cases h0
      have hp5 := hp4.touchX2 tY3 (fun e => hqg e) (fun e => hgw9 e)
      have e1 : Y.drew.cell? ⟨w2.heap.size, 1, none⟩ = some (.int .i64 (st.1 : Int)) := cell_blk (w := Y) hp5.blk 1
      have e2 : Y.drew.cell? ⟨w2.heap.size, 2, none⟩ = some (.int .i64 (st.2 : Int)) := cell_blk (w := Y) hp5.blk 2
      have e3 : Y.drew.cell? ⟨g, st.1 * 4 + 2, none⟩ = some (.int .i64 (t9.pl : Int)) := (hp5.tl.at_ _ _ ht9).2.2.1
      clear tY3 hp5
      clear tY bY hpg hp3 hT3 t3 ba hb3 tW
      go_wp2_with fail
      go_region_law? fail
      all_goals
        go_wp2
        refine bodyPost_ret (v := .tuple #[.agg #[.slice none 0 0, .slice none 0 0, .slice none 0 0], .int .i64 (t9.pl : Int), .int .i64 (st.2 : Int)]) (by simp [results, Tryd.results9, go_sem, y0, y1, y2]) rfl ?_
        try rw [if_neg he, ht9]
        exact ⟨HY.out.drew, by first | rfl | rw [(List.getElem?_eq_some_iff.1 ht9).2]⟩
end Go.Proofs.YtanecdpcenkoeaaDoor

/-
  What the parser of programs over lists comes to at the texts of TreeWrong. Lists alone.
-/
namespace Go.Proofs.YtanecdpcenkoeaaDoor
set_option maxRecDepth 100000

/-- The texts that are no programs, and where. -/
def wrP : List (Bs × Nat) := [
  ([120], 0),
  ([116, 114, 101, 101], 4),
  ([116, 114, 101, 101, 32, 116], 6),
  ([116, 114, 101, 101, 32, 116, 32, 123], 8),
  ([116, 114, 101, 101, 32, 116, 32, 123, 32, 125], 9),
  ([116, 114, 101, 101, 32, 116, 32, 123, 32, 111, 107, 32, 125], 12),
  ([116, 114, 101, 101, 32, 116, 32, 123, 32, 111, 107, 59, 32, 111, 107, 59, 32, 125], 13),
  ([116, 114, 101, 101, 32, 115, 101, 113, 32, 123, 32, 111, 107, 59, 32, 125], 5),
  ([116, 114, 101, 101, 32, 116, 32, 123, 32, 115, 101, 113, 32, 123, 32, 125, 32, 125], 15),
  ([116, 114, 101, 101, 32, 116, 32, 123, 32, 112, 97, 114, 32, 49, 32, 123, 32, 111, 107, 59, 32, 125, 32, 125], 15),
  ([116, 114, 101, 101, 32, 116, 32, 123, 32, 110, 111, 116, 32, 125], 13),
  ([116, 114, 101, 101, 32, 116, 32, 123, 32, 114, 101, 112, 101, 97, 116, 32, 111, 107, 59, 32, 125], 16),
  ([116, 114, 101, 101, 32, 116, 32, 123, 32, 105, 102, 32, 59, 32, 125], 12),
  ([116, 114, 101, 101, 32, 116, 32, 123, 32, 115, 101, 116, 32, 97, 32, 61, 32, 49, 59, 32, 125], 15),
  ([116, 114, 101, 101, 32, 116, 32, 123, 32, 100, 111, 32, 115, 101, 113, 59, 32, 125], 12),
  ([116, 114, 101, 101, 32, 116, 32, 123, 32, 112, 105, 99, 107, 32, 123, 32, 111, 107, 59, 32, 125, 32, 125], 16),
  ([116, 114, 101, 101, 32, 116, 32, 123, 32, 112, 105, 99, 107, 32, 123, 32, 49, 32, 111, 107, 59, 32, 125, 32, 125], 18),
  ([107, 101, 121, 32, 97, 32, 105, 110, 116, 59], 4),
  ([107, 101, 121, 32, 111, 119, 110, 32, 97, 59], 9),
  ([107, 101, 121, 32, 111, 119, 110, 32, 97, 32, 114, 101, 97, 108, 59], 10),
  ([100, 111, 109, 97, 105, 110, 32, 100, 32, 123, 32, 97, 99, 116, 32, 97, 32, 123, 32, 125, 32, 125], 17),
  ([100, 111, 109, 97, 105, 110, 32, 100, 32, 123, 32, 97, 99, 116, 32, 97, 32, 99, 111, 115, 116, 32, 49, 32, 123, 32, 103, 111, 97, 108, 32, 97, 32, 61, 61, 32, 49, 59, 32, 125, 32, 125], 26),
  ([100, 111, 109, 97, 105, 110, 32, 100, 32, 123, 32, 118, 97, 114, 32, 97, 32, 49, 59, 32, 125], 18),
  ([100, 111, 109, 97, 105, 110, 32, 100, 32, 123, 32, 103, 111, 97, 108, 32, 97, 32, 61, 32, 49, 59, 32, 125], 18),
  ([100, 111, 109, 97, 105, 110, 32, 100, 32, 123, 32, 97, 99, 116, 32, 97, 32, 99, 111, 115, 116, 32, 49, 32, 123, 32, 109, 97, 107, 101, 32, 97, 32, 49, 59, 32, 125, 32, 125], 33),
  ([100, 111, 109, 97, 105, 110, 32, 100, 32, 123, 32, 97, 99, 116, 32, 97, 32, 99, 111, 115, 116, 32, 45, 32, 49, 32, 123, 32, 125, 32, 125], 22),
  ([116, 114, 101, 101, 32, 116, 32, 123, 32, 105, 102, 32, 97, 32, 61, 61, 32, 98, 32, 61, 61, 32, 99, 59, 32, 125], 19),
  ([116, 114, 101, 101, 32, 116, 32, 123, 32, 115, 101, 116, 32, 97, 32, 58, 61, 32, 40, 49, 59, 32, 125], 20),
  ([107, 101, 121, 32, 111, 119, 110, 32, 97, 32, 105, 110, 116], 13)]
def Pr.isEr (p : Pr) (e a : Nat) : Bool := match p with
  | .ok _ => false
  | .er e' a' => decide (e' = e) && decide (a' = a)
theorem Pr.isEr_eq {p : Pr} {e a : Nat} (h : p.isEr e a = true) : p = .er e a := by
  cases p with
  | ok _ => cases h
  | er e' a' => simp only [Pr.isEr, Bool.and_eq_true, decide_eq_true_eq] at h; obtain ⟨rfl, rfl⟩ := h; rfl
theorem wrP_all : wrP.all (fun p => (parP p.1).isEr 2 p.2 && decide (p.1.length ≤ 100)) = true := by decide +kernel
theorem wrP_at {i : Nat} {p : Bs × Nat} (h : wrP[i]? = some p) : parP p.1 = .er 2 p.2 ∧ p.1.length ≤ 100 := by
  have := List.all_eq_true.1 wrP_all p (List.mem_of_getElem? h)
  simp only [Bool.and_eq_true, decide_eq_true_eq] at this
  exact ⟨Pr.isEr_eq this.1, this.2⟩
end Go.Proofs.YtanecdpcenkoeaaDoor

/-
  The statements' own example; TreePlaces: an error's place is within the text; TreeWrong: given texts are no programs, and where. Conditions: the listed variables read as they are laid.
-/
namespace Go.Proofs.YtanecdpcenkoeaaDoor
open Go.ChangeShapes Go.WideShapes Go.ChangeAt Go.RowKit
set_option maxRecDepth 100000
set_option maxHeartbeats 8000000

/-- What the walks want of the listed variables. -/
def E2 (w : World) : Prop := ELv w ∧ EV w
theorem E2.touch {w w' : World} (h : E2 w) (t : Touch NoB w w') : E2 w' := ⟨h.1.touch t, h.2.touch t⟩
theorem num11_any (n : Int) (w : World) : Calls Tryd.prog 10 #[.int .i64 n] w fun e w' => e = .returned (.int .i64 n) ∧ w = w' := by
  go_enter Tryd.func10, Tryd.ntmps10
  go_wp2
  go_ret
  exact ⟨rfl, rfl⟩
theorem parse_e2 {w : World} {A : Option Addr} {n cap : Nat} {b : Bs} (hn : b.length = n) (hmax : n ≤ 65536) (hcap : n ≤ cap) (hc63 : cap ≤ 9223372036854775807) (hb : BAt w A b) (he : E2 w) :
    Calls Tryd.prog 9 #[.slice A n cap] w (PaPost w b) := by
  obtain ⟨⟨B, hB⟩, hev⟩ := he
  exact tparse_any hn hmax hcap hc63 hb hev hB
def aliT : Bs := [116, 114, 101, 101, 32, 116, 32, 123, 32, 111, 107, 59, 32, 125]
def Pr.lone (p : Pr) : Bool := match p with
  | .ok p => decide (p.trees.length = 1) && (p.trees.all fun t => decide (t.root.kd = 13))
  | .er _ _ => false
def Pr.bare (p : Pr) : Bool := match p with
  | .ok p => decide (p.trees.length = 0)
  | .er _ _ => false
theorem ali_0 : (parP []).bare = true := by decide +kernel
theorem ali_1 : (parP aliT).lone = true := by decide +kernel
theorem post_0 {w w' : World} {x : Ending} (h : PaPost w [] x w') : Touch NoB w w' ∧ ∃ x1 l1 c1 A c x3 l3 c3, x = .returned (.tuple #[.agg #[.slice x1 l1 c1, .slice A 0 c, .slice x3 l3 c3], .int .i64 0, .int .i64 0]) := by
  obtain ⟨hT, h⟩ := h
  have ha := ali_0
  cases hp : parP [] with
  | er e k => rw [hp] at ha; cases ha
  | ok p =>
    rw [hp] at ha h
    simp only [Pr.bare, decide_eq_true_eq] at ha
    obtain ⟨v1, v2, v3, rfl, hpg0⟩ := h
    have hpg := hpg0
    obtain ⟨u1, u2, u3, xs, ys, e, -, ⟨A, c, rfl, -⟩, -⟩ := hpg
    simp only [List.cons.injEq] at e
    obtain ⟨-, rfl, -, -⟩ := e
    obtain ⟨x1, l1, c1, -, -, -, x3, l3, c3, rfl, -, rfl⟩ := pg_form hpg0
    exact ⟨hT, x1, l1, c1, A, c, x3, l3, c3, by rw [ha]; rfl⟩
theorem post_1 {w w' : World} {x : Ending} (h : PaPost w aliT x w') : Touch NoB w w' ∧ ∃ x1 l1 c1 b c x3 l3 c3, x = .returned (.tuple #[.agg #[.slice x1 l1 c1, .slice (some ⟨b, 0, none⟩) 1 c, .slice x3 l3 c3], .int .i64 (14 : Int), .int .i64 0]) ∧ w.heap.size ≤ b ∧ b < w'.heap.size ∧ w'.cell? ⟨b, 1, none⟩ = some (.int .i64 13) := by
  obtain ⟨hT, h⟩ := h
  have ha := ali_1
  cases hp : parP aliT with
  | er e k => rw [hp] at ha; cases ha
  | ok p =>
    rw [hp] at ha h
    simp only [Pr.lone, Bool.and_eq_true, decide_eq_true_eq, List.all_eq_true] at ha
    obtain ⟨ha1, ha2⟩ := ha
    obtain ⟨v1, v2, v3, rfl, hpg0⟩ := h
    have hpg := hpg0
    obtain ⟨u1, u2, u3, xs, ys, e, -, ⟨A, c, rfl, hx⟩, hls, -⟩ := hpg
    simp only [List.cons.injEq] at e
    obtain ⟨-, rfl, -, -⟩ := e
    obtain ⟨t, ht⟩ : ∃ t, p.trees[0]? = some t := ⟨_, List.getElem?_eq_getElem (by omega)⟩
    obtain ⟨zs, ⟨D, qs, rfl, hnt⟩, hz⟩ := hls.at_ (s := 11) (fun a ys ha => by obtain ⟨D, qs, rfl, hnt⟩ := ha; rw [List.length_cons, hnt.len]) 0 t ht
    have hk : t.root.kd = 13 := ha2 t (List.mem_of_getElem? ht)
    have h1 := hz 1 (by decide)
    cases D with
    | zero => exact hnt.elim
    | succ D =>
      obtain ⟨a, b, s, A', m, c', kv, wv, xs', ys', rfl, -⟩ := hnt
      rw [hk] at h1
      obtain ⟨bk, rfl, h2, h3, h4⟩ := hx 1 _ h1
      obtain ⟨x1, l1, c1, -, -, -, x3, l3, c3, rfl, -, rfl⟩ := pg_form hpg0
      exact ⟨hT, x1, l1, c1, bk, c, x3, l3, c3, by rw [ha1]; rfl, h2, h3, h4⟩
/-- A text that the program itself lays. -/
theorem bat_lit (W : World) (b : Bs) (T : TypeId) (fr : Nat × Nat) : BAt (W.alloc (.cells (b.map fun c => Value.int .u8 (c.toNat : Int)).toArray T fr)) (some ⟨W.heap.size, 0, none⟩) b := by
  intro _
  refine ⟨W.heap.size, 0, rfl, by simp, fun i c hi => ?_⟩
  rw [cell_of_row _ _ _ _ T fr (heap_alloc_new W _), List.getElem?_toArray, List.getElem?_map, Nat.zero_add, hi]
  rfl
theorem alive_any (w : World) (he : E2 w) : Calls Tryd.prog 8 #[] w fun e w' => e = .returned (.bool true) ∧ Touch NoB w w' := by
  have HP := Lib.hid (parse_e2 (w := w) (A := none) (n := 0) (cap := 0) (b := []) rfl (by decide) (by decide) (by decide) (fun h => absurd rfl h) he)
  have HN := Lib.hid (fun n w => num11_any n w)
  have HE := Lib.hid he
  clear he
  go_enter Tryd.func8, Tryd.ntmps8
  go_wp2_with fail
  refine HP.out.mono ?_
  intro r w1 hr
  obtain ⟨hT1, x1, l1, d1, A, c, x3, l3, d3, rfl⟩ := post_0 hr
  obtain ⟨W1, hW1⟩ : ∃ W, w1.alloc (.cells #[(.slice x1 l1 d1), .slice A 0 c, (.slice x3 l3 d3)] 28) = W := ⟨_, rfl⟩
  have t1 : Touch NoB w W1 := by rw [← hW1]; exact hT1.alloc _
  have b1 : B3 W1 28 w1.heap.size (.slice x1 l1 d1) (.slice A 0 c) (.slice x3 l3 d3) := by rw [← hW1]; exact B3.new _ _ _ _ _ rfl
  obtain ⟨W2, hW2⟩ : ∃ W, W1.alloc (.cells #[.int .u8 116, .int .u8 114, .int .u8 101, .int .u8 101, .int .u8 32, .int .u8 116, .int .u8 32, .int .u8 123, .int .u8 32, .int .u8 111, .int .u8 107, .int .u8 59, .int .u8 32, .int .u8 125] 5 (14, 14 + 1)) = W := ⟨_, rfl⟩
  have hT2 : Touch NoB W1 W2 := by rw [← hW2]; exact (Touch.refl _ _).alloc _
  have hB2 : BAt W2 (some ⟨W1.heap.size, 0, none⟩) aliT := by rw [← hW2]; exact bat_lit W1 aliT _ _
  have hcv : (convert 22 22 (.slice (some ⟨W1.heap.size, 0, none⟩) 14 14)).run Tryd.prog (W1.alloc (.cells #[.int .u8 116, .int .u8 114, .int .u8 101, .int .u8 101, .int .u8 32, .int .u8 116, .int .u8 32, .int .u8 123, .int .u8 32, .int .u8 111, .int .u8 107, .int .u8 59, .int .u8 32, .int .u8 125] 5)) = .ok (.slice (some ⟨W1.heap.size, 0, none⟩) 14 14) W2 := by rw [← hW2]; exact Lib.run_convert_bytes_const W1 22 5 #[.int .u8 116, .int .u8 114, .int .u8 101, .int .u8 101, .int .u8 32, .int .u8 116, .int .u8 32, .int .u8 123, .int .u8 32, .int .u8 111, .int .u8 107, .int .u8 59, .int .u8 32, .int .u8 125] 14 14 Tryd.underlying22 Tryd.underlying5
  have HQ := Lib.hid (parse_e2 (w := W2) (n := 14) (cap := 14) (b := aliT) rfl (by decide) (by decide) (by decide) hB2 (HE.out.touch (t1.same hT2)))
  have HT := Lib.hid (And.intro (t1.same hT2) (show B3 W2 28 w1.heap.size (.slice x1 l1 d1) (.slice A 0 c) (.slice x3 l3 d3) from (hT2.block _ (blk_lt b1) (fun z => z)).trans b1))
  clear hr hT1 t1 b1 hT2 hB2
  go_wp2_with fail
  refine HQ.out.mono ?_
  intro r w3 hr
  obtain ⟨hT3, y1, m1, e1, bk, c3, y3, m3, e3, rfl, h1, h2, h3⟩ := post_1 hr
  obtain ⟨W3, hW3⟩ : ∃ W, w3.alloc (.cells #[(.slice y1 m1 e1), .slice (some ⟨bk, 0, none⟩) 1 c3, (.slice y3 m3 e3)] 28) = W := ⟨_, rfl⟩
  have t3 : Touch NoB w3 W3 := by rw [← hW3]; exact (Touch.refl _ _).alloc _
  have b3 : B3 W3 28 w3.heap.size (.slice y1 m1 e1) (.slice (some ⟨bk, 0, none⟩) 1 c3) (.slice y3 m3 e3) := by rw [← hW3]; exact B3.new _ _ _ _ _ rfl
  have b1 : B3 W3 28 w1.heap.size (.slice x1 l1 d1) (.slice A 0 c) (.slice x3 l3 d3) := ((hT3.same t3).block _ (blk_lt HT.out.2) (fun z => z)).trans HT.out.2
  have hk : W3.cell? ⟨bk, 1, none⟩ = some (.int .i64 13) := (t3.cell (p := ⟨bk, 1, none⟩) h2 (fun z => z)).trans h3
  obtain ⟨p0, p1, p2, pl⟩ := b1.cells
  obtain ⟨q0, q1, q2, ql⟩ := b3.cells
  have HE3 := Lib.hid (HT.out.1.same (hT3.same t3))
  clear hr hT3 t3 b3 b1 h1 h2 h3
  go_wp2_with (first | (go_at_call 10; refine (HN.out _ _).mono ?_; rintro e w' ⟨rfl, rfl⟩))
  go_ret
  exact ⟨rfl, HE3.out⟩
end Go.Proofs.YtanecdpcenkoeaaDoor

/-
  TreePlaces: an error's place is within the text. Conditions: the listed variables read as they are laid.
-/
namespace Go.Proofs.YtanecdpcenkoeaaDoor
open Go.ChangeShapes Go.WideShapes Go.ChangeAt Go.RowKit
set_option maxRecDepth 100000
set_option maxHeartbeats 8000000

/-- An error's place. -/
theorem par_place {b : Bs} {e k : Nat} (h : parP b = .er e k) : k ≤ b.length ∧ e ≠ 0 := by
  unfold parP at h
  cases hl : lexL b with
  | bad p => rw [hl] at h; simp only [Pr.er.injEq] at h; have := lex_bad hl; omega
  | good ts =>
    rw [hl] at h
    simp only at h
    split at h
    · cases h
    · rename_i he
      obtain ⟨L, hE, hL⟩ := lex_end hl
      have hp := prgG_L hE
      obtain ⟨t, ht⟩ : ∃ t, ts[(prgG ts).2.1]? = some t := ⟨_, List.getElem?_eq_getElem (by omega)⟩
      rw [ht] at h
      simp only [Pr.er.injEq] at h
      obtain ⟨h1, h2⟩ := h
      exact ⟨by have := pl_le b 0 ts _ t (lex_places hl) ht; omega, by omega⟩
theorem tplaces_long (A : Option Addr) (n cap : Nat) (w : World) (h : 3000 < n) (hev : E2 w) : Calls Tryd.prog 3 #[.slice A n cap] w fun e w' => e = .returned (.bool true) ∧ Touch NoB w w' := by
  have HA := Lib.hid (alive_any w hev)
  have hd : decide ((3000 : Int) < (n : Int)) = true := by simp; omega
  clear hev h
  go_enter Tryd.func3, Tryd.ntmps3
  go_wp2_with fail
  refine HA.out.mono ?_
  rintro e w1 ⟨rfl, hT1⟩
  have HT := Lib.hid hT1
  clear hT1
  go_wp2
  go_ret
  exact ⟨rfl, HT.out⟩
theorem tplaces_in (A : Option Addr) (n cap : Nat) (b : Bs) (w : World) (hn : b.length = n) (h : ¬ 3000 < n) (hcap : n ≤ cap) (hc63 : cap ≤ 9223372036854775807) (hb : BAt w A b) (hev : E2 w) : Calls Tryd.prog 3 #[.slice A n cap] w fun e w' => e = .returned (.bool true) ∧ Touch NoB w w' := by
  have HA := Lib.hid (alive_any w hev)
  have HN := Lib.hid (fun n w => num11_any n w)
  have HTK := Lib.hid (fun w1 (hT : Touch NoB w w1) => parse_e2 (w := w1) hn (by omega) hcap hc63 (hb.touch hT) (hev.touch hT))
  have hd : decide ((3000 : Int) < (n : Int)) = false := by simp; omega
  unfold PaPost at HTK
  cases hp : parP b with
  | ok p =>
    rw [hp] at HTK
    simp only [hn] at HTK
    clear hev h hb hn hp
    go_enter Tryd.func3, Tryd.ntmps3
    go_wp2_with fail
    refine HA.out.mono ?_
    rintro e w1 ⟨rfl, hT1⟩
    have HT := Lib.hid hT1
    clear hT1
    go_wp2_with fail
    refine (HTK.out w1 HT.out).mono ?_
    rintro e w2 ⟨hT2, v1, v2, v3, rfl, hpg⟩
    obtain ⟨x1, l1, d1, x2, l2, d2, x3, l3, d3, rfl, rfl, rfl⟩ := pg_form hpg
    have HT2 := Lib.hid ((HT.out.same hT2).alloc (.cells #[.slice x1 l1 d1, .slice x2 l2 d2, .slice x3 l3 d3] 28))
    clear hT2 hpg
    go_wp2_with (first | (go_at_call 10; refine (HN.out _ _).mono ?_; rintro e w' ⟨rfl, rfl⟩))
    go_ret
    exact ⟨rfl, HT2.out⟩
  | er e9 k =>
    rw [hp] at HTK
    obtain ⟨hk, he9⟩ := par_place hp
    have hp1 : decide ((0 : Int) ≤ (k : Int)) = true := by simp
    have hp2 : decide ((k : Int) ≤ (n : Int)) = true := by simp; omega
    have hkn : k ≤ n := by omega
    have hp2' : decide (k ≤ n) = true := by simp; omega
    have hp3 : ((e9 : Int) == 0) = false := by simp; omega
    clear hev h hb hn hp
    go_enter Tryd.func3, Tryd.ntmps3
    go_wp2_with fail
    refine HA.out.mono ?_
    rintro e w1 ⟨rfl, hT1⟩
    have HT := Lib.hid hT1
    clear hT1
    go_wp2_with fail
    refine (HTK.out w1 HT.out).mono ?_
    rintro e w2 ⟨hT2, rfl⟩
    have HT2 := Lib.hid ((HT.out.same hT2).alloc (.cells #[.slice none 0 0, .slice none 0 0, .slice none 0 0] 28))
    clear hT2
    go_wp2_with (first | (go_at_call 10; refine (HN.out _ _).mono ?_; rintro e w' ⟨rfl, rfl⟩))
    go_ret
    exact ⟨rfl, HT2.out⟩
theorem tplaces_any (A : Option Addr) (n cap : Nat) (b : Bs) (w : World) (hn : b.length = n) (hcap : n ≤ cap) (hc63 : cap ≤ 9223372036854775807) (hb : BAt w A b) (hev : E2 w) : Calls Tryd.prog 3 #[.slice A n cap] w fun e w' => e = .returned (.bool true) ∧ Touch NoB w w' := by
  by_cases h : 3000 < n
  · exact tplaces_long A n cap w h hev
  · exact tplaces_in A n cap b w hn h hcap hc63 hb hev
end Go.Proofs.YtanecdpcenkoeaaDoor
