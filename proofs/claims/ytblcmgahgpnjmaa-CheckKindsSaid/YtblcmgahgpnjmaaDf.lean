/-
  What package expr's Right returns of an expression of any shape. Conditions: those that each theorem names.
-/
import Derived.Test.YtblcmgahgpnjmaaDe
namespace Go.Proofs.Ytblcmgahgpnjmaa
open Go.ChangeShapes Go.WideShapes Go.ChangeAt Go.RowKit
set_option maxRecDepth 100000
set_option maxHeartbeats 4000000

theorem GAt.lone {w : World} {d : Nat} {k n : Int} {q : ByteArray} {l : List GE} {a b : Int} {s : ByteArray} {A : Option Addr} {m : Nat} (h : GAt w (d + 1) (.mk k n q l) a b s A m) : W64 b ∧ s.size ≤ 9223372036854775807 ∧ m ≤ 9223372036854775807 := by
  obtain ⟨rfl, rfl, rfl, -, -, h1, h2, h3, -⟩ := h
  exact ⟨h1, h2, h3⟩
theorem right_ge : ∀ (f : Nat), f ≤ 40 → ∀ (x : GE) (w : World) (d : Nat) {a b : Int} {s : ByteArray} {A : Option Addr} {m c : Nat}, GAt w d x a b s A m → m ≤ c →
    Calls Try.prog 38 #[.agg #[.int .i64 a, .int .i64 b, .string s, .slice A m c], .int .i64 (f : Int)] w fun e w' => e = .returned (.bool (rightG f x)) ∧ Touch NoB w w'
  | 0, _, x, w, d, a, b, s, A, m, c, _, _ => by
    go_enter Try.func38, Try.ntmps38
    go_wp2
    go_ret
    exact ⟨rfl, (Touch.refl _ _).alloc _⟩
  | f + 1, hf, x, w, 0, a, b, s, A, m, c, hx, _ => hx.elim
  | f + 1, hf, .mk k n t l, w, d + 1, a, b, s, A, m, c, hx, hc => by
    have ih := Lib.hid (fun (y : GE) (w : World) (a b : Int) (s : ByteArray) (A : Option Addr) (m c : Nat) (hy : GAt w d y a b s A m) (hm : m ≤ c) => right_ge f (by omega) y w d hy hm)
    have HX := Lib.hid hx
    have HA := Lib.hid (fun w => alone_any (k := a) hx.lone.1 hx.lone.2.1 A m c w)
    obtain ⟨rfl, rfl, rfl, hl, -, -, hs, hm, -⟩ := hx
    obtain ⟨D, hD⟩ : ∃ D : Int, ((f + 1 : Nat) : Int) = D := ⟨_, rfl⟩
    have hsub : IntKind.i64.wrap (D - 1) = (f : Int) := by rw [IntWalk.i64_in _ (by omega)]; omega
    have hlt1 : decide (D < 1) = false := by simp; omega
    rw [hD]
    unfold rightG
    rw [hl]
    have HL := Lib.hid (And.intro hl (And.intro hc hm))
    cases ha : aloneG a b s m with
    | false =>
      rw [Bool.false_and]
      rw [ha] at HA
      clear hf hD hl hm hs ha ih
      go_enter Try.func38, Try.ntmps38
      go_wp2_with (first | (go_at_call 56; refine (HA.out _).mono ?_; rintro r w1 ⟨rfl, hT1⟩))
      go_ret
      exact ⟨rfl, ((Touch.refl _ _).alloc _).same hT1⟩
    | true =>
      rw [Bool.true_and]
      rw [ha] at HA
      clear hf hD hl hm hs ha
      go_enter Try.func38, Try.ntmps38
      go_wp2_with (first | (go_at_call 56; refine (HA.out _).mono ?_; rintro r w1 ⟨rfl, hT1⟩; refine Hid.out ?_))
      refine Lib.hid ?_
      obtain ⟨p0, p1, p2, p3, p4⟩ := ((gbw_blk w a b s A m c).touch hT1).cells
      have HT1 := Lib.hid ((gbw_touch w a b s A m c).same hT1)
      clear hT1
      go_wp2
      go_loopw [17] (fun v5 wr => RgRel f l m w v5 wr) (fun v5 _ => m - (intOf v5).toNat)
      case atStart => exact ⟨0, Nat.zero_le _, rfl, fun j y hj => by omega, HT1.out⟩
      case round =>
        obtain ⟨i, hi, rfl, hno, hTr⟩ := hrel
        have hm9 := HL.out.2.2
        by_cases hlt : i < m
        · obtain ⟨y, hy⟩ : ∃ y, l[i]? = some y := ⟨l[i]'(by rw [HL.out.1]; exact hlt), List.getElem?_eq_getElem _⟩
          obtain ⟨g, o, a1, b1, s1, A1, m1, c1, rfl, -, q0, q1, q2, q3, hm1, ket⟩ := HX.out.kid hTr hy
          have HR := Lib.hid (fun W (hW : Touch NoB wr W) => ih.out y W a1 b1 s1 A1 m1 c1 (ket.touch hW) hm1)
          have HN := Lib.hid (And.intro hno hy)
          have HT := Lib.hid hTr
          clear hTr ket hno hy
          cases hb : rightG f y
          · rw [hb] at HR
            have HS := Lib.hid (all_wrong HN.out.2 hb)
            clear hb
            go_wp2_with fail
            refine (HR.out _ ((Touch.refl _ _).alloc _)).mono ?_
            rintro r w2 ⟨rfl, hT2⟩
            have HT2 := Lib.hid (HT.out.same (((Touch.refl _ _).alloc _).same hT2))
            clear hT2
            go_wp2
            go_ret
            exact ⟨ret_bool HS.out.symm, HT2.out⟩
          · rw [hb] at HR
            have HB := Lib.hid hb
            clear hb
            go_wp2_with fail
            refine (HR.out _ ((Touch.refl _ _).alloc _)).mono ?_
            rintro r w2 ⟨rfl, hT2⟩
            have HT2 := Lib.hid (HT.out.same (((Touch.refl _ _).alloc _).same hT2))
            clear hT2
            go_wp2
            go_roundw
            case rel =>
              refine ⟨i + 1, by omega, by go_num, fun j y' hj h1 => ?_, HT2.out⟩
              by_cases ej : j = i
              · subst ej
                have e1 := HN.out.2.symm.trans h1
                injection e1 with e1
                subst e1
                exact HB.out
              · exact HN.out.1 j y' (by omega) h1
            case measure => simp [intOf]; omega
        · obtain rfl : i = m := by omega
          have HS := Lib.hid (all_right (f := f) (l := l) (fun j y hj => by rw [HL.out.1] at hj; exact hno j y hj))
          have HT := Lib.hid hTr
          clear hTr hno
          go_wp2
          go_ret
          exact ⟨ret_bool HS.out.symm, HT.out⟩
theorem rightp_any (x : GE) (w : World) (d : Nat) {a b : Int} {s : ByteArray} {A : Option Addr} {m c : Nat} (hx : GAt w d x a b s A m) (hc : m ≤ c) :
    Calls Try.prog 20 #[.agg #[.int .i64 a, .int .i64 b, .string s, .slice A m c]] w fun e w' => e = .returned (.bool (rightG 40 x)) ∧ Touch NoB w w' := by
  have HR := Lib.hid (fun W (t : Touch NoB w W) => right_ge 40 (by omega) x W d (hx.touch t) hc)
  clear hx hc
  go_enter Try.func20, Try.ntmps20
  go_wp2_with fail
  refine (HR.out _ ((Touch.refl _ _).alloc _)).mono ?_
  rintro r w2 ⟨rfl, hT2⟩
  have HT2 := Lib.hid (((Touch.refl NoB w).alloc (.cells #[.int .i64 a, .int .i64 b, .string s, .slice A m c] 24)).same hT2)
  clear hT2
  go_wp2
  go_ret
  exact ⟨rfl, HT2.out⟩
end Go.Proofs.Ytblcmgahgpnjmaa
