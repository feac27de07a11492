/-
  What package expr's Right returns of valid expressions, and of one that is not. Conditions: those that each theorem names.
-/
import Derived.Test.YtadpihipnffiaaaDoorQu
import Derived.Test.YtadpihipnffiaaaDoorQj
namespace Go.Proofs.YtadpihipnffiaaaDoor
open Go.ChangeShapes Go.WideShapes Go.ChangeAt Go.RowKit
set_option maxRecDepth 100000
set_option maxHeartbeats 4000000

/-- Valid, but for its depth. -/
def vE : Ex → Prop
  | .leaf k n s => (k = 0 ∧ -9223372036854775808 < n ∧ n ≤ 9223372036854775807 ∧ s = []) ∨ (k = 1 ∧ (n = 0 ∨ n = 1) ∧ s = []) ∨ ((k = 2 ∨ k = 3) ∧ n = 0 ∧ okN s = true) ∨ ((k = 4 ∨ k = 5) ∧ n = 0 ∧ s = [])
  | .one k x => (k = 14 ∨ k = 16 ∨ k = 17 ∨ k = 18) ∧ vE x
  | .two k x y => ((6 ≤ k ∧ k ≤ 13) ∨ k = 15 ∨ k = 19) ∧ vE x ∧ vE y
theorem vE_kid {x y : Ex} {i : Nat} (hv : vE x) (h : (kidsOf x)[i]? = some y) : vE y := by
  cases x with
  | leaf => cases h
  | one k x =>
    have hi0 : i = 0 := by have := (List.getElem?_eq_some_iff.1 h).1; simp [kidsOf] at this; exact this
    subst hi0
    simp only [kidsOf, List.getElem?_cons_zero, Option.some.injEq] at h
    subst h
    exact hv.2
  | two k x z =>
    have hi0 : i = 0 ∨ i = 1 := by have := (List.getElem?_eq_some_iff.1 h).1; simp [kidsOf] at this; omega
    rcases hi0 with rfl | rfl <;> simp [kidsOf] at h <;> subst h
    · exact hv.2.1
    · exact hv.2.2
theorem ra_ok {x : Ex} (hv : vE x) {w0 : World} {Q : Nat → Prop} {a b : Int} {s : ByteArray} {A : Option Addr} {m c : Nat} (h : ET w0 Q x a b s A m c) (w : World) :
    Calls Tryd.prog 53 #[.agg #[.int .i64 a, .int .i64 b, .string s, .slice A m c]] w fun e w' => e = .returned (.bool true) ∧ Touch NoB w w' := by
  cases x with
  | leaf k n q =>
    obtain ⟨rfl, rfl, rfl, rfl, rfl, rfl⟩ := h
    rcases hv with ⟨rfl, h1, -, rfl⟩ | ⟨rfl, h1, rfl⟩ | ⟨h1, rfl, h2⟩ | ⟨h1, rfl, rfl⟩
    · exact ra_int h1 w
    · exact ra_bool h1 w
    · exact ra_name h1 h2 w
    · exact ra_kind (by omega) (by unfold opnd; rw [if_pos h1]) w
  | one k x =>
    obtain ⟨rfl, rfl, rfl, rfl, rfl, -⟩ := h
    have hk := hv.1
    exact ra_kind (by omega) (by unfold opnd; rw [if_neg (by omega), if_pos hk]) w
  | two k x y =>
    obtain ⟨rfl, rfl, rfl, rfl, rfl, -⟩ := h
    have hk := hv.1
    exact ra_kind (by omega) (by unfold opnd; rw [if_neg (by omega), if_neg (by omega)]) w
def RiRel (m : Nat) (w : World) (v17 : Value) (wr : World) : Prop := ∃ i : Nat, i ≤ m ∧ v17 = .int .i64 i ∧ Touch NoB w wr
theorem right_any : ∀ (N : Nat) (x : Ex), x.depth ≤ N → N ≤ 1000 → vE x → ∀ (w : World) (Q : Nat → Prop) {a b : Int} {s : ByteArray} {A : Option Addr} {m c : Nat}, ET w Q x a b s A m c →
    Calls Tryd.prog 32 #[.agg #[.int .i64 a, .int .i64 b, .string s, .slice A m c], .int .i64 (N : Int)] w fun e w' => e = .returned (.bool true) ∧ Touch NoB w w'
  | 0, x, h, _, _, _, _, _, _, _, _, _, _, _ => by cases x <;> simp [Ex.depth] at h
  | N + 1, x, h, hmax, hv, w, Q, a, b, s, A, m, c, hx => by
    have ih := Lib.hid (fun (y : Ex) (hy : y.depth ≤ N) (hv : vE y) (w : World) (a b : Int) (s : ByteArray) (A : Option Addr) (m c : Nat) (hx : ET w Q y a b s A m c) => right_any N y hy (by omega) hv w Q hx)
    obtain ⟨hl, hc, hm2⟩ := hx.len
    subst hc
    have HRA := Lib.hid (fun w => ra_ok hv hx w)
    have HX := Lib.hid (And.intro hx (And.intro hv (And.intro hl h)))
    obtain ⟨n1, hn1⟩ : ∃ n1, N + 1 = n1 := ⟨_, rfl⟩
    have hsub : IntKind.i64.wrap ((n1 : Int) - 1) = (N : Int) := by rw [show (n1 : Int) - 1 = (N : Int) from by omega]; exact IntWalk.i64_in _ (by omega)
    have hlt1 : decide ((n1 : Int) < 1) = false := by simp; omega
    rw [hn1]
    clear hx hv hl h hn1 hmax
    go_enter Tryd.func32, Tryd.ntmps32
    go_wp2_with (first | (go_at_call 53; refine (HRA.out _).mono ?_; rintro r w1 ⟨rfl, hT1⟩; refine Hid.out ?_))
    refine Lib.hid ?_
    have hs1 := hT1.size
    have hb := (XB.new w a b s A c c rfl).go (gp := w.heap.size + 1) (Touch.anyB hT1) (by omega)
    obtain ⟨p0, p1, p2, p3, p4⟩ := hb.cells
    have HT1 := Lib.hid (((Touch.refl NoB w).alloc (.cells #[.int .i64 a, .int .i64 b, .string s, .slice A c c] 29)).same hT1)
    clear hT1 hb hs1
    go_wp2
    go_loopw [17] (fun v17 wr => RiRel c w v17 wr) (fun v17 _ => c - (intOf v17).toNat)
    case atStart => exact ⟨0, Nat.zero_le _, rfl, HT1.out⟩
    case round =>
      obtain ⟨i, hi, rfl, hTr⟩ := hrel
      by_cases hlt : i < c
      · obtain ⟨y, hy⟩ : ∃ y, (kidsOf x)[i]? = some y := ⟨(kidsOf x)[i]'(by rw [HX.out.2.2.1]; exact hlt), List.getElem?_eq_getElem _⟩
        obtain ⟨g, a1, b1, t1, A1, m1, c1, rfl, k0, k1, k2, k3, k4, ket⟩ := (HX.out.1.touch0 hTr).kid i y hy
        have hyl := kid_lt hy
        have hvy := vE_kid HX.out.2.1 hy
        have HR := Lib.hid (fun W (hW : Touch NoB wr W) => ih.out y (by have := HX.out.2.2.2; omega) hvy W a1 b1 t1 A1 m1 c1 (ket.touch0 hW))
        have HT := Lib.hid hTr
        clear hTr ket hyl hvy hy
        go_wp2_with fail
        refine (HR.out _ ((Touch.refl _ _).alloc _)).mono ?_
        rintro r w2 ⟨rfl, hT2⟩
        have HT2 := Lib.hid (HT.out.same (((Touch.refl _ _).alloc _).same hT2))
        clear hT2
        go_wp2
        go_roundw
        case rel => exact ⟨i + 1, by omega, by go_num, HT2.out⟩
        case measure => simp [intOf]; omega
      · obtain rfl : i = c := by omega
        have HT := Lib.hid hTr
        clear hTr
        go_wp2
        go_ret
        exact ⟨rfl, HT.out⟩
theorem Right_any {x : Ex} (hd : x.depth ≤ 40) (hv : vE x) (w : World) {Q : Nat → Prop} {a b : Int} {s : ByteArray} {A : Option Addr} {m c : Nat} (hx : ET w Q x a b s A m c) :
    Calls Tryd.prog 19 #[.agg #[.int .i64 a, .int .i64 b, .string s, .slice A m c]] w fun e w' => e = .returned (.bool true) ∧ Touch NoB w w' := by
  have HR := Lib.hid (fun W (t : Touch NoB w W) => right_any 40 x hd (by omega) hv W Q (hx.touch0 t))
  clear hx hd hv
  go_enter Tryd.func19, Tryd.ntmps19
  go_wp2_with fail
  refine (HR.out _ ((Touch.refl _ _).alloc _)).mono ?_
  rintro r w2 ⟨rfl, hT2⟩
  have HT2 := Lib.hid (((Touch.refl NoB w).alloc (.cells #[.int .i64 a, .int .i64 b, .string s, .slice A m c] 29)).same hT2)
  clear hT2
  go_wp2
  go_ret
  exact ⟨rfl, HT2.out⟩
theorem Right_neg (w : World) : Calls Tryd.prog 19 #[.agg #[.int .i64 (-1), .int .i64 0, .string ⟨#[]⟩, .slice none 0 0]] w fun e w' => e = .returned (.bool false) ∧ Touch NoB w w' := by
  have HA := Lib.hid (fun w => ra_neg w)
  have HR : Hid (∀ w, Calls Tryd.prog 32 #[.agg #[.int .i64 (-1), .int .i64 0, .string ⟨#[]⟩, .slice none 0 0], .int .i64 40] w fun e w' => e = .returned (.bool false) ∧ Touch NoB w w') := Lib.hid (by
    intro w
    go_enter Tryd.func32, Tryd.ntmps32
    go_wp2_with (first | (go_at_call 53; refine (HA.out _).mono ?_; rintro r w1 ⟨rfl, hT1⟩))
    go_ret
    exact ⟨rfl, ((Touch.refl _ _).alloc _).same hT1⟩)
  go_enter Tryd.func19, Tryd.ntmps19
  go_wp2_with fail
  refine (HR.out _).mono ?_
  rintro r w2 ⟨rfl, hT2⟩
  have HT2 := Lib.hid (((Touch.refl NoB w).alloc (.cells #[.int .i64 (-1), .int .i64 0, .string ⟨#[]⟩, .slice none 0 0] 29)).same hT2)
  clear hT2
  go_wp2
  go_ret
  exact ⟨rfl, HT2.out⟩
end Go.Proofs.YtadpihipnffiaaaDoor
