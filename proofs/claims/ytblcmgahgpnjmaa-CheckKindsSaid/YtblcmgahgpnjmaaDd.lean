/-
  What the document's own RightExpr returns of an expression of any shape. Conditions: those that each theorem names.
-/
import Derived.Test.YtblcmgahgpnjmaaDc
namespace Go.Proofs.Ytblcmgahgpnjmaa
open Go.ChangeShapes Go.WideShapes Go.ChangeAt Go.RowKit
set_option maxRecDepth 100000
set_option maxHeartbeats 4000000

/-- What makes an expression not valid by itself. -/
theorem alone_no {k n : Int} {s : ByteArray} {m : Nat} (ha : aloneG k n s m = false) :
    k < 0 ∨ 19 < k ∨ ((0 ≤ k ∧ k ≤ 19) ∧ (m : Int) ≠ kidsI k) ∨ ((0 ≤ k ∧ k ≤ 19) ∧ (m : Int) = kidsI k ∧
      (((k = 2 ∨ k = 3) ∧ s.size = 0) ∨ ((k = 2 ∨ k = 3) ∧ s.size ≠ 0 ∧ okS s = false) ∨ ((k = 2 ∨ k = 3) ∧ s.size ≠ 0 ∧ okS s = true ∧ n ≠ 0) ∨ ((k ≠ 2 ∧ k ≠ 3) ∧ s.size ≠ 0) ∨ (s.size = 0 ∧ k = 0 ∧ n = -9223372036854775808) ∨ (s.size = 0 ∧ k = 1 ∧ n ≠ 0 ∧ n ≠ 1) ∨ (4 ≤ k ∧ s.size = 0 ∧ n ≠ 0))) := by
  by_cases hk0 : k < 0
  · exact .inl hk0
  by_cases hk1 : 19 < k
  · exact .inr (.inl hk1)
  by_cases hm : (m : Int) = kidsI k
  · refine .inr (.inr (.inr ⟨by omega, hm, ?_⟩))
    have hrng : decide (0 ≤ k ∧ k ≤ 19) = true := decide_eq_true (by omega)
    unfold aloneG at ha
    rw [hrng, decide_eq_true hm] at ha
    simp only [Bool.true_and] at ha
    by_cases h2 : k = 2 ∨ k = 3
    · rw [if_pos h2, if_neg (by omega), if_neg (by omega)] at ha
      by_cases h3 : s.size = 0
      · exact .inl ⟨h2, h3⟩
      · cases h4 : okS s with
        | false => exact .inr (.inl ⟨h2, h3, rfl⟩)
        | true =>
          rw [h4] at ha
          exact .inr (.inr (.inl ⟨h2, h3, rfl, by simpa using ha⟩))
    · rw [if_neg h2] at ha
      by_cases h3 : s.size = 0
      · rw [decide_eq_true h3] at ha
        simp only [Bool.true_and] at ha
        by_cases h5 : k = 0
        · rw [if_pos h5] at ha
          exact .inr (.inr (.inr (.inr (.inl ⟨h3, h5, by simpa using ha⟩))))
        · rw [if_neg h5] at ha
          by_cases h6 : k = 1
          · rw [if_pos h6] at ha
            exact .inr (.inr (.inr (.inr (.inr (.inl ⟨h3, h6, by simpa using ha⟩)))))
          · rw [if_neg h6] at ha
            exact .inr (.inr (.inr (.inr (.inr (.inr ⟨by omega, h3, by simpa using ha⟩)))))
      · exact .inr (.inr (.inr (.inl ⟨by omega, h3⟩)))
  · exact .inr (.inr (.inl ⟨by omega, hm⟩))
/-- What is valid by itself. -/
theorem alone_yes {k n : Int} {s : ByteArray} {m : Nat} (ha : aloneG k n s m = true) :
    (m : Int) = kidsI k ∧ (((k = 2 ∨ k = 3) ∧ s.size ≠ 0 ∧ okS s = true ∧ n = 0) ∨ (k = 0 ∧ s.size = 0 ∧ n ≠ -9223372036854775808) ∨ (k = 1 ∧ s.size = 0 ∧ (n = 0 ∨ n = 1)) ∨ ((4 ≤ k ∧ k ≤ 19) ∧ s.size = 0 ∧ n = 0)) := by
  unfold aloneG at ha
  simp only [Bool.and_eq_true, decide_eq_true_eq] at ha
  obtain ⟨⟨⟨h1, h2⟩, h3⟩, h4⟩ := ha
  refine ⟨h2, ?_⟩
  by_cases h5 : k = 2 ∨ k = 3
  · rw [if_pos h5] at h3
    rw [if_neg (by omega), if_neg (by omega)] at h4
    exact .inl ⟨h5, fun h => by rw [okS_empty h] at h3; simp at h3, h3, by simpa using h4⟩
  · rw [if_neg h5] at h3
    have h3 : s.size = 0 := by simpa using h3
    by_cases h6 : k = 0
    · rw [if_pos h6] at h4
      exact .inr (.inl ⟨h6, h3, by simpa using h4⟩)
    · rw [if_neg h6] at h4
      by_cases h7 : k = 1
      · rw [if_pos h7] at h4
        exact .inr (.inr (.inl ⟨h7, h3, by simpa using h4⟩))
      · rw [if_neg h7] at h4
        exact .inr (.inr (.inr ⟨by omega, h3, by simpa using h4⟩))
theorem kids_named {k : Int} (h : k = 2 ∨ k = 3) : kidsI k = 0 := by rcases h with rfl | rfl <;> rfl
theorem rx_no {k n : Int} {s : ByteArray} {m : Nat} (ha : aloneG k n s m = false) (hs : s.size ≤ 9223372036854775807) (A : Option Addr) (c : Nat) (D : Int) (hD : D ≤ 40) (w : World) :
    Calls Try.prog 22 #[.agg #[.int .i64 k, .int .i64 n, .string s, .slice A m c], .int .i64 D] w fun e w' => e = .returned (.bool false) ∧ Touch NoB w w' := by
  rcases alone_no ha with h | h | ⟨h1, h2⟩ | ⟨h1, h2, h⟩
  · exact rx_neg h A c D hD w
  · exact rx_big h A c D hD w
  · exact rx_kids h1 h2 A c D hD w
  · rcases h with ⟨h3, h4⟩ | ⟨h3, h4, h5⟩ | ⟨h3, h4, h5, h6⟩ | ⟨h3, h4⟩ | ⟨h4, rfl, rfl⟩ | ⟨h4, rfl, h5, h6⟩ | ⟨h3, h4, h5⟩
    · obtain rfl : m = 0 := by rw [kids_named h3] at h2; omega
      exact rx_nam0 h3 h4 A c D hD w
    · obtain rfl : m = 0 := by rw [kids_named h3] at h2; omega
      exact rx_nam1 h3 h4 hs h5 A c D hD w
    · obtain rfl : m = 0 := by rw [kids_named h3] at h2; omega
      exact rx_nam2 h3 h4 hs h5 h6 A c D hD w
    · exact rx_str ⟨h1.1, h1.2, h3.1, h3.2⟩ h2 h4 A c D hD w
    · obtain rfl : m = 0 := by rw [show kidsI 0 = 0 from rfl] at h2; omega
      exact rx_int h4 A c D hD w
    · obtain rfl : m = 0 := by rw [show kidsI 1 = 0 from rfl] at h2; omega
      exact rx_bool h4 h5 h6 A c D hD w
    · exact rx_num ⟨h3, h1.2⟩ h2 h4 h5 A c D hD w
/-- The first i Kids are valid. -/
def RgRel (f : Nat) (l : List GE) (m : Nat) (w : World) (v5 : Value) (wr : World) : Prop := ∃ i : Nat, i ≤ m ∧ v5 = .int .i64 i ∧ (∀ (j : Nat) (y : GE), j < i → l[j]? = some y → rightG f y = true) ∧ Touch NoB w wr
theorem all_right {f : Nat} {l : List GE} (h : ∀ (j : Nat) (y : GE), j < l.length → l[j]? = some y → rightG f y = true) : l.all (rightG f) = true := by
  rw [List.all_eq_true]
  intro y hy
  obtain ⟨j, hj⟩ := List.mem_iff_getElem?.1 hy
  exact h j y (List.getElem?_eq_some_iff.1 hj).1 hj
theorem all_wrong {f : Nat} {l : List GE} {i : Nat} {y : GE} (hy : l[i]? = some y) (h : rightG f y = false) : l.all (rightG f) = false := by
  cases h2 : l.all (rightG f) with
  | false => rfl
  | true =>
    have := List.all_eq_true.1 h2 y (List.mem_of_getElem? hy)
    rw [h] at this
    exact this.symm
theorem rightx_any : ∀ (f : Nat), f ≤ 40 → ∀ (x : GE) (w : World) (d : Nat) {a b : Int} {s : ByteArray} {A : Option Addr} {m c : Nat}, GAt w d x a b s A m → m ≤ c →
    Calls Try.prog 22 #[.agg #[.int .i64 a, .int .i64 b, .string s, .slice A m c], .int .i64 ((41 - f : Nat) : Int)] w fun e w' => e = .returned (.bool (rightG f x)) ∧ Touch NoB w w'
  | 0, _, x, w, d, a, b, s, A, m, c, _, _ => by
    go_enter Try.func22, Try.ntmps22
    go_wp2_with fail
    go_quiet (fail)
    go_wp2
    go_ret
    exact ⟨rfl, by repeat (first | with_reducible exact Touch.refl _ _ | with_reducible refine Touch.drew ?_ | with_reducible refine Touch.drewN ?_ _ | with_reducible refine Touch.alloc ?_ _)⟩
  | f + 1, hf, x, w, 0, a, b, s, A, m, c, hx, _ => hx.elim
  | f + 1, hf, .mk k n t l, w, d + 1, a, b, s, A, m, c, hx, hc => by
    have ih := Lib.hid (fun (y : GE) (w : World) (a b : Int) (s : ByteArray) (A : Option Addr) (m c : Nat) (hy : GAt w d y a b s A m) (hm : m ≤ c) => rightx_any f (by omega) y w d hy hm)
    have HX := Lib.hid hx
    obtain ⟨rfl, rfl, rfl, hl, -, -, hs, hm, -⟩ := hx
    obtain ⟨D, hD⟩ : ∃ D : Nat, 41 - (f + 1) = D := ⟨_, rfl⟩
    have hD1 : 41 - f = D + 1 := by omega
    have hD2 : (D : Int) ≤ 40 := by omega
    rw [hD1] at ih
    rw [hD]
    unfold rightG
    rw [hl]
    cases ha : aloneG a b s m with
    | false => rw [Bool.false_and]; exact rx_no ha hs A c D hD2 w
    | true =>
      rw [Bool.true_and]
      obtain ⟨h2, h⟩ := alone_yes ha
      have nil : m = 0 → l.all (rightG f) = true := fun e => by
        have : l = [] := List.length_eq_zero_iff.1 (by omega)
        rw [this]; rfl
      rcases h with ⟨h3, h4, h5, rfl⟩ | ⟨rfl, h4, h5⟩ | ⟨rfl, h4, h5⟩ | ⟨h3, h4, rfl⟩
      · obtain rfl : m = 0 := by rw [kids_named h3] at h2; omega
        rw [nil rfl]
        exact rx_okn h3 h4 hs h5 A c D hD2 w
      · obtain rfl : m = 0 := by rw [show kidsI 0 = 0 from rfl] at h2; omega
        rw [nil rfl]
        exact rx_oki h4 h5 A c D hD2 w
      · obtain rfl : m = 0 := by rw [show kidsI 1 = 0 from rfl] at h2; omega
        rw [nil rfl]
        exact rx_okb h4 h5 A c D hD2 w
      · have r1 : decide ((40 : Int) < (D : Int)) = false := by simp; omega
        have r1' : decide (40 < D) = false := by simp; omega
        have r2 : decide (a < 0) = false := by simp; omega
        have r3 : decide (19 < a) = false := by simp; omega
        have k2 : (a == 2) = false := by simp; omega
        have k3 : (a == 3) = false := by simp; omega
        have k0 : (a == 0) = false := by simp; omega
        have k1 : (a == 1) = false := by simp; omega
        have g1 : decide (1 < a) = true := by simp; omega
        have HK := Lib.hid (fun w => rkids_kd a (by omega) w)
        obtain ⟨z, hz⟩ : ∃ z, kidsI a = z := ⟨_, rfl⟩
        rw [hz] at HK h2
        have r4 : ((m : Int) != z) = false := by simpa using h2
        have e0 := empty_yes h4
        have hsum : IntKind.i64.wrap ((D : Int) + 1) = ((D + 1 : Nat) : Int) := by rw [IntWalk.i64_in _ (by omega)]; simp
        have HL := Lib.hid (And.intro hl (And.intro hc hm))
        clear nil hf hD hD1 hD2 hl hm hs ha h3 h4 hz h2
        go_enter Try.func22, Try.ntmps22
        go_wp2_with fail
        go_quiet (first | (go_at_call 40; exact quiet_same (HK.out _)))
        go_wp2
        go_loopw [6] (fun v5 wr => RgRel f l m (gbw w a 0 s A m c) v5 wr) (fun v5 _ => m - (intOf v5).toNat)
        case atStart => exact ⟨0, Nat.zero_le _, rfl, fun j y hj => by omega, (Touch.refl _ _).drewN _⟩
        case round =>
          obtain ⟨i, hi, rfl, hno, hTr0⟩ := hrel
          obtain ⟨p0, p1, p2, p3, p4⟩ := ((gbw_blk w a 0 s A m c).touch hTr0).cells
          have hTr := (gbw_touch w a 0 s A m c).same hTr0
          have HT0 := Lib.hid hTr0
          clear hTr0
          have hm9 := HL.out.2.2
          by_cases hlt : i < m
          · obtain ⟨y, hy⟩ : ∃ y, l[i]? = some y := ⟨l[i]'(by rw [HL.out.1]; exact hlt), List.getElem?_eq_getElem _⟩
            obtain ⟨g, o, a1, b1, s1, A1, m1, c1, rfl, -, q0, q1, q2, q3, hm1, ket⟩ := HX.out.kid hTr hy
            have HR := Lib.hid (ih.out y wr a1 b1 s1 A1 m1 c1 ket hm1)
            have HN := Lib.hid (And.intro hno hy)
            have HT := Lib.hid hTr
            clear hTr ket hno hy
            cases hb : rightG f y
            · rw [hb] at HR
              have HS := Lib.hid (all_wrong HN.out.2 hb)
              clear hb
              go_wp2_with fail
              refine HR.out.mono ?_
              rintro r w2 ⟨rfl, hT2⟩
              have HT2 := Lib.hid (HT.out.same hT2)
              clear hT2
              go_wp2
              go_ret
              exact ⟨ret_bool HS.out.symm, HT2.out⟩
            · rw [hb] at HR
              have HB := Lib.hid hb
              clear hb
              go_wp2_with fail
              refine HR.out.mono ?_
              rintro r w2 ⟨rfl, hT2⟩
              have HT2 := Lib.hid (HT0.out.same hT2)
              clear hT2
              go_wp2
              go_roundw
              case rel =>
                refine ⟨i + 1, by omega, by go_num, fun j y' hj h1 => ?_, HT2.out⟩
                by_cases ej : j = i
                · subst ej
                  have e1 := HN.out.2.symm.trans h1
                  injection e1 with e1
                  subst e1
                  exact HB.out
                · exact HN.out.1 j y' (by omega) h1
              case measure => simp [intOf]; omega
          · obtain rfl : i = m := by omega
            have HS := Lib.hid (all_right (f := f) (l := l) (fun j y hj => by rw [HL.out.1] at hj; exact hno j y hj))
            have HT := Lib.hid hTr
            clear hTr hno
            go_wp2
            go_ret
            exact ⟨ret_bool HS.out.symm, HT.out⟩
theorem rightexpr_any (x : GE) (w : World) (d : Nat) {a b : Int} {s : ByteArray} {A : Option Addr} {m c : Nat} (hx : GAt w d x a b s A m) (hc : m ≤ c) :
    Calls Try.prog 12 #[.agg #[.int .i64 a, .int .i64 b, .string s, .slice A m c]] w fun e w' => e = .returned (.bool (rightG 40 x)) ∧ Touch NoB w w' := by
  have HR := Lib.hid (fun W (t : Touch NoB w W) => rightx_any 40 (by omega) x W d (hx.touch t) hc)
  clear hx hc
  go_enter Try.func12, Try.ntmps12
  go_wp2_with fail
  refine (HR.out _ ((Touch.refl _ _).alloc _)).mono ?_
  rintro r w2 ⟨rfl, hT2⟩
  have HT2 := Lib.hid (((Touch.refl NoB w).alloc (.cells #[.int .i64 a, .int .i64 b, .string s, .slice A m c] 24)).same hT2)
  clear hT2
  go_wp2
  go_ret
  exact ⟨rfl, HT2.out⟩
end Go.Proofs.Ytblcmgahgpnjmaa
