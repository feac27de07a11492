/-
  What package lex's divide returns: what the lexer on lists of bytes comes to. Conditions: at most 65536 bytes; the library's own variable can be read.
-/
import Derived.Test.YtmgmmbeldhleoaaDoorLi
namespace Go.Proofs.YtmgmmbeldhleoaaDoor
open Go.ChangeShapes Go.WideShapes Go.ChangeAt Go.RowKit
set_option maxRecDepth 100000
set_option maxHeartbeats 4000000

/-- From each label on. -/
theorem pass_all {A : Option Addr} {cap : Nat} {b : Bs} {w wr : World} {g l : Nat} {a : Act} (Q : Exit → Act → World → Prop) (hQ : OnRet b w b.length Q) (hcap : b.length ≤ cap) (hc63 : cap ≤ 9223372036854775807) (hmax : b.length ≤ 65536) (hb : BAt w A b) (hev : EV w)
    (hJ : DJ A cap b w g l a wr) : (divX l).wp Tryd.prog (hop (DG A cap b w g (mu b.length l a)) Q) a wr := by
  obtain ⟨hl, ts, vl, v7, v8, i, k, h⟩ := hJ
  have hcase : l = 0 ∨ l = 1 ∨ l = 2 ∨ l = 3 ∨ l = 4 ∨ l = 5 := by omega
  have hfr := frame_slots h.len h.dfr
  rw [h.mu]
  rcases hcase with rfl | rfl | rfl | rfl | rfl | rfl
  · rw [hfr, h.s0, h.s5, h.s6, h.s7, h.s9]
    exact pass0 A _ cap b w wr g _ ts vl i k Q hQ rfl hcap hc63 hmax hb hev h.di h.le h.cnt h.dl rfl
  · have h8 := h.s8.trans (h.at8 (by decide))
    rw [hfr, h.s0, h.s5, h.s6, h.s7, h8, h.s9]
    exact pass1 A _ cap b w wr g _ ts vl i k Q rfl hcap hc63 hmax hb hev h.di h.le (h.ilt (by decide)) h.cnt h.dl rfl
  · have h8 := h.s8.trans (h.at8 (by decide))
    rw [hfr, h.s0, h.s5, h.s6, h.s7, h8, h.s9]
    exact pass2 A _ cap b w wr g _ ts vl i k Q rfl hcap hc63 hmax hb hev h.di h.le (h.ilt (by decide)) h.cnt h.dl rfl
  · have h8 := h.s8.trans (h.at8 (by decide))
    rw [hfr, h.s0, h.s5, h.s6, h.s7, h8, h.s9]
    exact pass3 A _ cap b w wr g _ ts vl i k Q rfl hcap hc63 hmax hb hev h.di h.le (h.ilt (by decide)) h.cnt h.dl rfl
  · have h8 := h.s8.trans (h.at8 (by decide))
    rw [hfr, h.s0, h.s5, h.s6, h.s7, h8, h.s9]
    exact pass4 A _ cap b w wr g _ ts vl i k Q hQ rfl hcap hc63 hmax hb hev h.di h.le (h.ilt (by decide)) h.cnt h.dl rfl
  · have h8 := h.s8.trans (h.at8 (by decide))
    rw [hfr, h.s0, h.s5, h.s6, h.s7, h8, h.s9]
    exact pass5 A _ cap b w wr g _ ts vl i k Q hQ rfl hcap hc63 hmax hb hev h.di h.le (h.ilt (by decide)) h.cnt h.dl rfl

theorem divide_any (A : Option Addr) (n cap : Nat) (b : Bs) (w : World) (hn : b.length = n) (hcap : n ≤ cap) (hc63 : cap ≤ 9223372036854775807) (hmax : n ≤ 65536) (hb : BAt w A b) (hev : EV w) :
    Calls Tryd.prog 17 #[.slice A n cap] w fun e w' => LxPost w n (lexL b) e w' := by
  subst hn
  have HB := Lib.hid hb
  have HE := Lib.hid hev
  clear hb hev
  go_enter Tryd.func17, Tryd.ntmps17
  go_wp2
  rename_i Q'
  have HQ : Hid (OnRet b w b.length Q') := Lib.hid (fun a w' v2 v3 v4 h1 h2 h3 h4 hP => bodyPost_ret (v := .tuple #[v2, v3, v4]) (by simp [results, Tryd.results17, go_sem, h2, h3, h4]) h1 hP)
  obtain ⟨Q, hQQ⟩ : ∃ Q, Q' = Q := ⟨_, rfl⟩
  rw [hQQ] at HQ
  clear_value Q'
  subst hQQ
  refine scope_hops (fun l => .seq .skip (divX l)) (fun l a wr => DJ A cap b w w.heap.size l a wr) (fun l a _ => mu b.length l a) (fun l a wr h => divX_some l h.1) ?first (fun l a wr h => wp_seq (wp_skip ?pass))
  case pass => exact pass_all Q' HQ.out hcap hc63 hmax HB.out HE.out h
  go_wp2
  go_step3
  rename_i hgo
  refine hgo _ _ ?_
  have E := Eq.refl (divX 0)
  conv at E => rhs; simp only [divX, divC, Tryd.f17, findLabel, Nat.reduceBEq, if_true]
  rw [← E]
  clear E hgo
  refine Go.wp_mono (Q := hop (DG A cap b w w.heap.size (mv b.length 0 0 0)) Q') ?_ (hop_mono (fun l a w h => h.1))
  have hI : DI w w.heap.size [] (.slice none 0 0) (w.alloc (.cells #[.int .i64 0, .int .i64 0, .int .i64 0, .string ⟨#[]⟩] 35)) :=
    ⟨(Touch.refl _ _).alloc _, Nat.le_refl _, ⟨_, _, _, _, alloc_blk w _ 35 rfl⟩, World.ownsRow_nil _ _ _ _, by simp [Value.ownBlock]⟩
  exact pass0 A _ cap b w _ w.heap.size _ [] (.slice none 0 0) 0 0 Q' HQ.out rfl hcap hc63 hmax HB.out HE.out hI (Nat.zero_le _) (Nat.zero_le _) (by show Lx.pre [] _ = _; rw [Lx.pre_nil, lex_from]) rfl

/-- What package lex's Tokens returns. -/
def TokPost (w : World) (b : Bs) (e : Ending) (w' : World) : Prop :=
  if b.length ≤ 65536 then LxPost w b.length (lexL b) e w' else e = .returned (.tuple #[.slice none 0 0, .int .i64 0, .int .i64 3]) ∧ w = w'
theorem tokens_any (A : Option Addr) (n cap : Nat) (b : Bs) (w : World) (hn : b.length = n) (hcap : n ≤ cap) (hc63 : cap ≤ 9223372036854775807) (hb : BAt w A b) (hev : EV w) :
    Calls Tryd.prog 10 #[.slice A n cap] w (TokPost w b) := by
  by_cases h : n ≤ 65536
  · have HD := Lib.hid (divide_any A n cap b w hn hcap hc63 h hb hev)
    have hd : decide ((65536 : Int) < (n : Int)) = false := by simp; omega
    have HP : Hid (∀ e w', LxPost w n (lexL b) e w' → TokPost w b e w') := Lib.hid (fun e w' x => by unfold TokPost; rw [hn, if_pos h]; exact x)
    clear hb hev hn
    cases hx : lexL b with
    | good ts =>
      rw [hx] at HD HP
      go_enter Tryd.func10, Tryd.ntmps10
      go_wp2_with fail
      refine HD.out.mono ?_
      rintro e w' ⟨hT, vl, rfl, ho⟩
      have HR := Lib.hid (And.intro hT ho)
      clear hT ho
      go_wp2
      exact bodyPost_ret (v := .tuple #[vl, .int .i64 n, .int .i64 0]) (by simp [results, Tryd.results10, go_sem]) rfl (HP.out _ _ ⟨HR.out.1, vl, rfl, HR.out.2⟩)
    | bad p =>
      rw [hx] at HD HP
      go_enter Tryd.func10, Tryd.ntmps10
      go_wp2_with fail
      refine HD.out.mono ?_
      rintro e w' ⟨hT, rfl⟩
      have HR := Lib.hid hT
      clear hT
      go_wp2
      exact bodyPost_ret (v := .tuple #[.slice none 0 0, .int .i64 p, .int .i64 2]) (by simp [results, Tryd.results10, go_sem]) rfl (HP.out _ _ ⟨HR.out, rfl⟩)
  · have hd : decide ((65536 : Int) < (n : Int)) = true := by simp; omega
    have HP : Hid (∀ e w', e = .returned (.tuple #[.slice none 0 0, .int .i64 0, .int .i64 3]) ∧ w = w' → TokPost w b e w') := Lib.hid (fun e w' x => by unfold TokPost; rw [hn, if_neg h]; exact x)
    clear hb hev hn
    go_enter Tryd.func10, Tryd.ntmps10
    go_wp2
    exact bodyPost_ret (v := .tuple #[.slice none 0 0, .int .i64 0, .int .i64 3]) (by simp [results, Tryd.results10, go_sem]) rfl (HP.out _ _ ⟨rfl, rfl⟩)
end Go.Proofs.YtmgmmbeldhleoaaDoor
