/-
  What the document's own SameExpr returns of two expressions in memory. Conditions: those that each theorem names.
-/
import Derived.Test.YtadpihipnffiaaaDoorQg
import Derived.Deep.RegionLaw
namespace Go.Proofs.YtadpihipnffiaaaDoor
open Go.ChangeShapes Go.WideShapes Go.ChangeAt Go.RowKit
set_option maxRecDepth 100000
set_option maxHeartbeats 4000000

def exK : Ex → Int
  | .leaf k _ _ => k
  | .one k _ => k
  | .two k _ _ => k
def exN : Ex → Int
  | .leaf _ n _ => n
  | _ => 0
def exS : Ex → Bs
  | .leaf _ _ s => s
  | _ => []
theorem ET.top {w : World} {Q : Nat → Prop} : ∀ {x : Ex} {a b : Int} {s : ByteArray} {A : Option Addr} {m c : Nat}, ET w Q x a b s A m c → a = exK x ∧ b = exN x ∧ s = bs (exS x)
  | .leaf k n q, a, b, s, A, m, c, h => by obtain ⟨h1, h2, h3, _⟩ := h; exact ⟨h1, h2, h3⟩
  | .one k x, a, b, s, A, m, c, h => by obtain ⟨h1, h2, h3, _⟩ := h; exact ⟨h1, h2, h3⟩
  | .two k x y, a, b, s, A, m, c, h => by obtain ⟨h1, h2, h3, _⟩ := h; exact ⟨h1, h2, h3⟩
def sameL : List Ex → List Ex → Bool
  | [], [] => true
  | a :: r, b :: q => a.same b && sameL r q
  | _, _ => false
theorem same_top (x y : Ex) : x.same y = (decide (exK x = exK y) && decide (exN x = exN y) && decide (exS x = exS y) && sameL (kidsOf x) (kidsOf y)) := by
  rw [Bool.eq_iff_iff]
  cases x <;> cases y <;> simp [Ex.same, exK, exN, exS, kidsOf, sameL, and_assoc]
  · exact ⟨fun ⟨a, b, c⟩ => ⟨decide_eq_true a, decide_eq_true b, decide_eq_true c⟩, fun ⟨a, b, c⟩ => ⟨of_decide_eq_true a, of_decide_eq_true b, of_decide_eq_true c⟩⟩
  · exact fun _ => ⟨fun a => decide_eq_true a, fun a => of_decide_eq_true a⟩
  · exact fun _ _ => ⟨fun a => decide_eq_true a, fun a => of_decide_eq_true a⟩
theorem sameL_len : ∀ (l m : List Ex), sameL l m = true → l.length = m.length
  | [], [], _ => rfl
  | a :: r, b :: q, h => by simp only [sameL, Bool.and_eq_true] at h; simp [sameL_len r q h.2]
  | [], b :: q, h => by simp [sameL] at h
  | a :: r, [], h => by simp [sameL] at h
theorem sameL_no : ∀ (l m : List Ex) (i : Nat) (x y : Ex), l[i]? = some x → m[i]? = some y → x.same y = false → sameL l m = false
  | [], _, i, x, y, h, _, _ => by cases h
  | a :: r, [], i, x, y, _, h, _ => by cases h
  | a :: r, b :: q, 0, x, y, h1, h2, h => by
    simp only [List.getElem?_cons_zero, Option.some.injEq] at h1 h2
    subst h1 h2
    simp [sameL, h]
  | a :: r, b :: q, i + 1, x, y, h1, h2, h => by
    have := sameL_no r q i x y (by simpa using h1) (by simpa using h2) h
    simp [sameL, this]
theorem sameL_yes : ∀ (l m : List Ex), l.length = m.length → (∀ (i : Nat) (x y : Ex), l[i]? = some x → m[i]? = some y → x.same y = true) → sameL l m = true
  | [], [], _, _ => rfl
  | a :: r, b :: q, hl, h => by
    simp only [sameL, Bool.and_eq_true]
    exact ⟨h 0 a b rfl rfl, sameL_yes r q (by simpa using hl) (fun i x y h1 h2 => h (i + 1) x y (by simpa using h1) (by simpa using h2))⟩
  | [], b :: q, hl, _ => by simp at hl
  | a :: r, [], hl, _ => by simp at hl

/-- What is assumed of SameExpr below depth N. -/
def SameOk (N : Nat) : Prop := ∀ (x y : Ex), x.depth ≤ N → ∀ (w : World) (Q R : Nat → Prop) (a b : Int) (s : ByteArray) (A : Option Addr) (m c : Nat) (a' b' : Int) (s' : ByteArray) (A' : Option Addr) (m' c' : Nat), ET w Q x a b s A m c → ET w R y a' b' s' A' m' c' →
  Calls Tryd.prog 16 #[.agg #[.int .i64 a, .int .i64 b, .string s, .slice A m c], .agg #[.int .i64 a', .int .i64 b', .string s', .slice A' m' c']] w fun e w' => e = .returned (.bool (x.same y)) ∧ Touch NoB w w'
def SmRel (x y : Ex) (m : Nat) (w : World) (v5 : Value) (wr : World) : Prop := ∃ i : Nat, i ≤ m ∧ v5 = .int .i64 i ∧ (∀ (j : Nat) (p q : Ex), j < i → (kidsOf x)[j]? = some p → (kidsOf y)[j]? = some q → p.same q = true) ∧ Touch NoB w wr
theorem sames_any {N : Nat} (H : SameOk N) {x y : Ex} (hx : x.depth ≤ N + 1) {w : World} {Q R : Nat → Prop} {a b : Int} {s : ByteArray} {A : Option Addr} {m c : Nat} {a' b' : Int} {s' : ByteArray} {A' : Option Addr} {m' c' : Nat} (h1 : ET w Q x a b s A m c) (h2 : ET w R y a' b' s' A' m' c') :
    Calls Tryd.prog 30 #[.slice A m c, .slice A' m' c'] w fun e w' => e = .returned (.bool (sameL (kidsOf x) (kidsOf y))) ∧ Touch NoB w w' := by
  obtain ⟨hl1, rfl, hm1⟩ := h1.len
  obtain ⟨hl2, rfl, hm2⟩ := h2.len
  by_cases hmm : c = c'
  · subst hmm
    have H1 := Lib.hid h1
    have H2 := Lib.hid h2
    have HL := Lib.hid (And.intro hl1 (And.intro hl2 hx))
    have HH := Lib.hid H
    clear h1 h2 hl1 hl2 hx H
    go_enter Tryd.func30, Tryd.ntmps30
    go_wp2
    go_loopw [5] (fun v5 wr => SmRel x y c w v5 wr) (fun v5 _ => c - (intOf v5).toNat)
    case atStart => exact ⟨0, Nat.zero_le _, rfl, fun j p q hj => by omega, Touch.refl _ _⟩
    case round =>
      obtain ⟨i, hi, rfl, hno, hTr⟩ := hrel
      by_cases hlt : i < c
      · obtain ⟨p, hp⟩ : ∃ p, (kidsOf x)[i]? = some p := ⟨(kidsOf x)[i]'(by rw [HL.out.1]; exact hlt), List.getElem?_eq_getElem _⟩
        obtain ⟨q, hq⟩ : ∃ q, (kidsOf y)[i]? = some q := ⟨(kidsOf y)[i]'(by rw [HL.out.2.1]; exact hlt), List.getElem?_eq_getElem _⟩
        obtain ⟨g1, a1, b1, t1, A1, m1, c1, rfl, kl1, k0, k1, k2, k3, ket1⟩ := (H1.out.touch0 hTr).kid i p hp
        obtain ⟨g2, a2, b2, t2, A2, m2, c2, rfl, kl2, l0, l1, l2, l3, ket2⟩ := (H2.out.touch0 hTr).kid i q hq
        have p0 : wr.drew.cell? ⟨g1, i * 4, none⟩ = some (.int .i64 a1) := k0
        have p1 : wr.drew.cell? ⟨g1, i * 4 + 1, none⟩ = some (.int .i64 b1) := k1
        have p2 : wr.drew.cell? ⟨g1, i * 4 + 2, none⟩ = some (.string t1) := k2
        have p3 : wr.drew.cell? ⟨g1, i * 4 + 3, none⟩ = some (.slice A1 m1 c1) := k3
        have q0 : wr.drew.cell? ⟨g2, i * 4, none⟩ = some (.int .i64 a2) := l0
        have q1 : wr.drew.cell? ⟨g2, i * 4 + 1, none⟩ = some (.int .i64 b2) := l1
        have q2 : wr.drew.cell? ⟨g2, i * 4 + 2, none⟩ = some (.string t2) := l2
        have q3 : wr.drew.cell? ⟨g2, i * 4 + 3, none⟩ = some (.slice A2 m2 c2) := l3
        have tdr : Touch NoB wr wr.drew := (Touch.refl _ _).drew
        have HC := Lib.hid (HH.out p q (by have := kid_lt hp; have := HL.out.2.2; omega) wr.drew Q R _ _ _ _ _ _ _ _ _ _ _ _ (ket1.touch0 tdr) (ket2.touch0 tdr))
        have HN := Lib.hid (And.intro hno (And.intro hp hq))
        have HT := Lib.hid (hTr.same tdr)
        clear ket1 ket2 hTr hno hp hq k0 k1 k2 k3 l0 l1 l2 l3 tdr
        cases hsm : p.same q
        · rw [hsm] at HC
          have HS := Lib.hid (sameL_no _ _ i p q HN.out.2.1 HN.out.2.2 hsm)
          clear hsm
          go_wp2_with fail
          go_region_law (go_simp; go_at_call 16; refine HC.out.mono ?_; rintro r w2 ⟨rfl, hT2⟩; have HT2 := Lib.hid (HT.out.same hT2); clear hT2)
          all_goals
            go_wp2
            go_ret
            exact ⟨ret_bool HS.out.symm, HT2.out⟩
        · rw [hsm] at HC
          have HS := Lib.hid hsm
          clear hsm
          go_wp2_with fail
          go_region_law (go_simp; go_at_call 16; refine HC.out.mono ?_; rintro r w2 ⟨rfl, hT2⟩; have HT2 := Lib.hid (HT.out.same hT2); clear hT2)
          all_goals
            go_wp2
            go_roundw
            case rel =>
              refine ⟨i + 1, by omega, by go_num, fun j p' q' hj h1 h2 => ?_, HT2.out⟩
              by_cases ej : j = i
              · subst ej
                have e1 := HN.out.2.1.symm.trans h1
                have e2 := HN.out.2.2.symm.trans h2
                injection e1 with e1
                injection e2 with e2
                subst e1 e2
                exact HS.out
              · exact HN.out.1 j p' q' (by omega) h1 h2
            case measure => simp [intOf]; omega
      · obtain rfl : i = c := by omega
        have HS := Lib.hid (sameL_yes (kidsOf x) (kidsOf y) (by rw [HL.out.1, HL.out.2.1]) (fun j p q h1 h2 => hno j p q (by have := (List.getElem?_eq_some_iff.1 h1).1; rw [HL.out.1] at this; exact this) h1 h2))
        have HT := Lib.hid hTr
        clear hTr hno
        go_wp2
        go_ret
        exact ⟨ret_bool HS.out.symm, HT.out⟩
  · have hne : ((c : Int) != (c' : Int)) = true := by
      have : ¬ (c : Int) = (c' : Int) := by omega
      simpa using this
    have HS : Hid (sameL (kidsOf x) (kidsOf y) = false) := Lib.hid (by
      cases h : sameL (kidsOf x) (kidsOf y) with
      | false => rfl
      | true => have := sameL_len _ _ h; omega)
    clear h1 h2 H
    go_enter Tryd.func30, Tryd.ntmps30
    go_wp2
    go_ret
    exact ⟨ret_bool HS.out.symm, Touch.refl _ _⟩
theorem same_all : ∀ N : Nat, SameOk N
  | 0 => fun x y h => by cases x <;> simp [Ex.depth] at h
  | N + 1 => by
    intro x y hN w Q R a b s A m c a' b' s' A' m' c' h1 h2
    have HC := Lib.hid (fun W (t : Touch NoB w W) => sames_any (same_all N) hN (h1.touch0 t) (h2.touch0 t))
    obtain ⟨e1, e2, e3⟩ := h1.top
    obtain ⟨e4, e5, e6⟩ := h2.top
    have HST := Lib.hid (same_top x y)
    have hk : (a != a') = !decide (exK x = exK y) := by
      rw [e1, e4]
      by_cases h : exK x = exK y
      · simp [h]
      · simp [h]
    have hn : (b != b') = !decide (exN x = exN y) := by
      rw [e2, e5]
      by_cases h : exN x = exN y
      · simp [h]
      · simp [h]
    have hs : (s.toList == s'.toList) = decide (exS x = exS y) := by
      rw [e3, e6, bs_toList, bs_toList]
      by_cases h : exS x = exS y
      · simp [h]
      · simp [h]
    clear h1 h2 e1 e2 e3 e4 e5 e6 hN
    cases hk1 : decide (exK x = exK y) <;> cases hn1 : decide (exN x = exN y) <;> cases hs1 : decide (exS x = exS y)
    all_goals
      rw [hk1] at hk HST
      rw [hn1] at hn HST
      rw [hs1] at hs HST
      simp only [Bool.not_true, Bool.not_false] at hk hn
      simp only [Bool.false_and, Bool.and_false, Bool.true_and, Bool.and_true] at HST
      clear hk1 hn1 hs1
      rw [HST.out]
      try (obtain ⟨sl, hsl⟩ : ∃ sl, sameL (kidsOf x) (kidsOf y) = sl := ⟨_, rfl⟩)
      try rw [hsl] at HC
      try rw [hsl]
      try clear hsl
      go_enter Tryd.func16, Tryd.ntmps16
      go_wp2_with (first | (go_at_call 30; refine (HC.out _ (((Touch.refl _ _).alloc _).alloc _)).mono ?_; rintro r w2 ⟨rfl, hT2⟩))
      first
      | (go_ret
         exact ⟨rfl, (((Touch.refl _ _).alloc _).alloc _).same hT2⟩)
      | (go_ret
         exact ⟨rfl, (((Touch.refl _ _).alloc _).alloc _)⟩)
end Go.Proofs.YtadpihipnffiaaaDoor
