/-
  What cmp.Compare, slices.BinarySearchFunc and the search of package ecs return over a row of pointers whose masks ascend.
-/
import Derived.Test.YticekldgjlihmaaSa
import Derived.Shelf.Abstract
namespace Go.Proofs.Yticekldgjlihmaa
open Go.ChangeShapes Go.WideShapes Go.ChangeAt Go.RowKit

/-- What Compare says of two masks. -/
def cmpI (a b : Int) : Int := if a < b then -1 else if b < a then 1 else 0

theorem isnan_any (a : Int) (w : World) :
    Calls Try.prog 75 #[.int .u16 a] w fun e w' => e = .returned (.bool false) ∧ w = w' := by
  have d1 : (a != a) = false := by simp
  go_enter Try.func75, Try.ntmps75
  go_wp2
  go_ret
  exact ⟨rfl, rfl⟩

theorem compare_any (a b : Int) (w : World) :
    Calls Try.prog 71 #[.int .u16 a, .int .u16 b] w fun e w' => e = .returned (.int .i64 (cmpI a b)) ∧ w = w' := by
  by_cases h1 : a < b <;> by_cases h2 : b < a
  all_goals first | (exfalso; omega) | skip
  all_goals
    go_enter Try.func71, Try.ntmps71
    go_wp2_with (go_at_call 75; refine (isnan_any _ _).mono ?_; rintro e w' ⟨rfl, rfl⟩)
    all_goals
      go_ret
      exact ⟨ret_int (by unfold cmpI; repeat' split <;> omega), rfl⟩

theorem closure_any (b : Nat) (m x : Int) (w : World) (hc : w.cell? ⟨b, 0, none⟩ = some (.int .u16 x)) :
    Calls Try.prog 70 #[.pointer (some ⟨b, 0, none⟩), .int .u16 m] w fun e w' => e = .returned (.int .i64 (cmpI x m)) ∧ w = w' := by
  have H := Lib.hid (compare_any x m w)
  go_enter Try.func70, Try.ntmps70
  go_wp2_with fail
  refine H.out.mono ?_
  rintro e w' ⟨rfl, rfl⟩
  go_wp2
  go_ret
  exact ⟨rfl, rfl⟩

/-- The cells of a row of pointers to archetypes. -/
def pvc (l : List (Nat × Int)) : List Value := l.map fun x => .pointer (some ⟨x.1, 0, none⟩)
theorem pvc_length (l : List (Nat × Int)) : (pvc l).length = l.length * 1 := by simp [pvc]
theorem pvc_at (l : List (Nat × Int)) (j : Nat) : (pvc l)[j]? = (l[j]?).map fun x => .pointer (some ⟨x.1, 0, none⟩) := by simp [pvc]
/-- The masks ascend. -/
def Asc (l : List (Nat × Int)) : Prop := ∀ (i j : Nat) (x y : Nat × Int), i < j → l[i]? = some x → l[j]? = some y → x.2 < y.2
/-- How many masks are less than m. -/
def posL (l : List (Nat × Int)) (m : Int) : Nat := l.countP fun x => decide (x.2 < m)
theorem posL_le (l : List (Nat × Int)) (m : Int) : posL l m ≤ l.length := List.countP_le_length
/-- Is there the mask m? -/
def hasL (l : List (Nat × Int)) (m : Int) : Bool := match l[posL l m]? with
  | some x => x.2 == m
  | none => false
theorem posL_of (m : Int) : ∀ (l : List (Nat × Int)) (k : Nat), k ≤ l.length → (∀ (t : Nat) (x : Nat × Int), t < k → l[t]? = some x → x.2 < m) → (∀ (t : Nat) (x : Nat × Int), k ≤ t → l[t]? = some x → m ≤ x.2) → posL l m = k
  | [], k, hk, _, _ => by simp at hk; simp [posL, hk]
  | x :: l, 0, _, _, h2 => by
    have h0 : posL l m = 0 := posL_of m l 0 (Nat.zero_le _) (fun t y ht => by omega) (fun t y ht hy => h2 (t + 1) y (by omega) (by simpa using hy))
    have hx := h2 0 x (Nat.le_refl _) rfl
    unfold posL at h0 ⊢
    rw [List.countP_cons_of_neg (by simp; omega), h0]
  | x :: l, k + 1, hk, h1, h2 => by
    have h0 : posL l m = k := posL_of m l k (by simpa using hk) (fun t y ht hy => h1 (t + 1) y (by omega) (by simpa using hy)) (fun t y ht hy => h2 (t + 1) y (by omega) (by simpa using hy))
    have hx := h1 0 x (Nat.succ_pos _) rfl
    unfold posL at h0 ⊢
    rw [List.countP_cons_of_pos (by simpa using hx), h0]
/-- Such a place there is. -/
theorem asc_split {l : List (Nat × Int)} (ha : Asc l) (m : Int) : (∀ (t : Nat) (x : Nat × Int), t < posL l m → l[t]? = some x → x.2 < m) ∧ (∀ (t : Nat) (x : Nat × Int), posL l m ≤ t → l[t]? = some x → m ≤ x.2) := by
  induction l with
  | nil => exact ⟨fun t x _ h => by simp at h, fun t x _ h => by simp at h⟩
  | cons y l ih =>
    have hl : Asc l := fun i j a b hij hi hj => ha (i + 1) (j + 1) a b (by omega) (by simpa using hi) (by simpa using hj)
    obtain ⟨i1, i2⟩ := ih hl
    by_cases hy : y.2 < m
    · have e : posL (y :: l) m = posL l m + 1 := by unfold posL; rw [List.countP_cons_of_pos (by simpa using hy)]
      rw [e]
      refine ⟨fun t x ht hx => ?_, fun t x ht hx => ?_⟩
      · cases t with
        | zero => simp at hx; subst hx; exact hy
        | succ t => exact i1 t x (by omega) (by simpa using hx)
      · cases t with
        | zero => omega
        | succ t => exact i2 t x (by omega) (by simpa using hx)
    · have e0 : posL (y :: l) m = 0 := by
        refine posL_of m _ 0 (Nat.zero_le _) (fun t x ht => by omega) (fun t x _ hx => ?_)
        cases t with
        | zero => simp at hx; subst hx; omega
        | succ t => have := ha 0 (t + 1) y x (by omega) rfl hx; omega
      rw [e0]
      refine ⟨fun t x ht => by omega, fun t x _ hx => ?_⟩
      cases t with
      | zero => simp at hx; subst hx; omega
      | succ t => have := ha 0 (t + 1) y x (by omega) rfl hx; omega

def BsRel (l : List (Nat × Int)) (m : Int) (s9 s10 : Value) : Prop :=
  ∃ lo hi : Nat, s9 = .int .i64 lo ∧ s10 = .int .i64 hi ∧ lo ≤ hi ∧ hi ≤ l.length ∧ (∀ (t : Nat) (x : Nat × Int), t < lo → l[t]? = some x → x.2 < m) ∧ (∀ (t : Nat) (x : Nat × Int), hi ≤ t → l[t]? = some x → m ≤ x.2)

set_option maxHeartbeats 1000000 in
theorem bsearch_any (A : Option Addr) (n cap base : Nat) (l : List (Nat × Int)) (m : Int) (w : World) (hn : l.length = n) (hr : w.ownsRow base 81 1 (.slice A n cap) n (pvc l)) (ha : Asc l) (hl : n ≤ 1000000)
    (hm : ∀ (j : Nat) (x : Nat × Int), l[j]? = some x → x.1 < w.heap.size ∧ w.cell? ⟨x.1, 0, none⟩ = some (.int .u16 x.2)) :
    Calls Try.prog 69 #[.slice A n cap, .int .u16 m, .func (.func 70) #[] #[]] w fun e w' => e = .returned (.tuple #[.int .i64 (posL l m : Nat), .bool (hasL l m)]) ∧ w = w' := by
  have e74 : ∀ (args : Array Value) (w : World), (callFunc 70 args).run Try.prog w = .ok (.enter 70 args) w := enters_of Try.func70 (by kernel_rfl) rfl
  have HA := Lib.hid ha
  have HM := Lib.hid hm
  have HR := Lib.hid hr
  have HN := Lib.hid hn
  obtain ⟨p, hp⟩ : ∃ p, posL l m = p := ⟨_, rfl⟩
  obtain ⟨b, hb⟩ : ∃ b, hasL l m = b := ⟨_, rfl⟩
  rw [hp, hb]
  have HP := Lib.hid hp
  have HB := Lib.hid hb
  clear ha hm hr hn hp hb
  go_enter Try.func69, Try.ntmps69
  go_wp2
  go_loop [9, 10] (fun s9 s10 => BsRel l m s9 s10) (fun s9 s10 => (intOf s10).toNat - (intOf s9).toNat)
  case atStart => exact ⟨0, n, rfl, rfl, Nat.zero_le _, by rw [HN.out]; exact Nat.le_refl _, fun t x ht => by omega, fun t x ht hx => by have := (List.getElem?_eq_some_iff.1 hx).1; have := HN.out; omega⟩
  case round =>
    obtain ⟨lo, hi, rfl, rfl, hlh, hin, I⟩ := hrel
    have HI := Lib.hid I
    clear I
    rw [HN.out] at hin
    have hz := HR.out.lt
    by_cases hlt : lo < hi
    · obtain ⟨x, hx⟩ : ∃ x, l[(lo + hi) / 2]? = some x := ⟨_, List.getElem?_eq_getElem (by rw [HN.out]; omega)⟩
      obtain ⟨g, cp, hv, hc1, hc2, hob⟩ := row_form HR.out (by omega)
      injection hv with hv1 hv2 hv3
      subst hv1 hv3
      clear hv2
      have hgl := row_lt HR.out hob
      have k1 : w.cell? ⟨g, (lo + hi) / 2, none⟩ = some (.pointer (some ⟨x.1, 0, none⟩)) := by rw [HR.out.cellAt ((lo + hi) / 2) (by omega), pvc_at, hx]; rfl
      obtain ⟨q1, q2⟩ := HM.out _ x hx
      have HC := Lib.hid (closure_any x.1 m x.2 w q2)
      have HX := Lib.hid hx
      clear hx q2 hz hob hc2
      by_cases hyx : x.2 < m
      · have e1 : cmpI x.2 m = -1 := by unfold cmpI; rw [if_pos hyx]
        rw [e1] at HC
        clear e1
        go_wp2_with (go_at_fn 70; refine HC.out.mono ?_; rintro e w' ⟨rfl, rfl⟩)
        go_round
        case rel =>
          exact ⟨(lo + hi) / 2 + 1, hi, by rw [show ((lo : Int) + (hi : Int)) / 2 + 1 = (((lo + hi) / 2 + 1 : Nat) : Int) by omega], rfl, by omega, by rw [HN.out]; exact hin, fun t y ht hy => by
            rcases Nat.lt_or_ge t ((lo + hi) / 2) with h | h
            · have := HA.out t _ y x h hy HX.out; omega
            · obtain rfl : t = (lo + hi) / 2 := by omega
              rw [HX.out] at hy; injection hy with hy; subst hy; exact hyx, HI.out.2⟩
        case measure => simp [intOf]; omega
      · have e1 : (cmpI x.2 m < 0) = False := by simp [cmpI, hyx]; split <;> omega
        obtain ⟨z, hz⟩ : ∃ z, cmpI x.2 m = z := ⟨_, rfl⟩
        rw [hz] at HC e1
        have e2 : ¬ z < 0 := by rw [e1]; exact fun h => h
        clear e1 hz
        go_wp2_with (go_at_fn 70; refine HC.out.mono ?_; rintro e w' ⟨rfl, rfl⟩)
        go_round
        case rel =>
          exact ⟨lo, (lo + hi) / 2, rfl, by rw [show ((lo : Int) + (hi : Int)) / 2 = (((lo + hi) / 2 : Nat) : Int) by omega], by omega, by rw [HN.out]; omega, HI.out.1, fun t y ht hy => by
            rcases Nat.lt_or_ge ((lo + hi) / 2) t with h | h
            · have := HA.out _ t x y h HX.out hy; omega
            · obtain rfl : t = (lo + hi) / 2 := by omega
              rw [HX.out] at hy; injection hy with hy; subst hy; omega⟩
        case measure => simp [intOf]; omega
    · obtain rfl : hi = lo := by omega
      have hp : posL l m = hi := posL_of m l hi (by rw [HN.out]; exact hin) HI.out.1 HI.out.2
      have hh : b = match l[hi]? with
        | some x => x.2 == m
        | none => false := by rw [← HB.out]; unfold hasL; rw [hp]
      have hpp : p = hi := HP.out.symm.trans hp
      clear hp
      subst hpp
      by_cases hlt2 : p < n
      · obtain ⟨x, hx⟩ : ∃ x, l[p]? = some x := ⟨_, List.getElem?_eq_getElem (by rw [HN.out]; omega)⟩
        obtain ⟨g, cp, hv, hc1, hc2, hob⟩ := row_form HR.out (by omega)
        injection hv with hv1 hv2 hv3
        subst hv1 hv3
        clear hv2
        have hgl := row_lt HR.out hob
        have k1 : w.cell? ⟨g, p, none⟩ = some (.pointer (some ⟨x.1, 0, none⟩)) := by rw [HR.out.cellAt p (by omega), pvc_at, hx]; rfl
        obtain ⟨q1, q2⟩ := HM.out _ x hx
        have hge := HI.out.2 p x (Nat.le_refl _) hx
        have HC := Lib.hid (closure_any x.1 m x.2 w q2)
        rw [hx] at hh
        clear hx q2 hz hob hc2
        by_cases hyx : x.2 = m
        · have e1 : cmpI x.2 m = 0 := by unfold cmpI; rw [if_neg (by omega), if_neg (by omega)]
          obtain rfl : b = true := by rw [hh]; simp [hyx]
          rw [e1] at HC
          clear e1 hh hyx
          go_wp2_with (go_at_fn 70; refine HC.out.mono ?_; rintro e w' ⟨rfl, rfl⟩)
          go_ret2
          exact ⟨rfl, rfl⟩
        · have e1 : cmpI x.2 m = 1 := by unfold cmpI; rw [if_neg (by omega), if_pos (by omega)]
          obtain rfl : b = false := by rw [hh]; simp [hyx]
          rw [e1] at HC
          clear e1 hh hyx
          go_wp2_with (go_at_fn 70; refine HC.out.mono ?_; rintro e w' ⟨rfl, rfl⟩)
          go_ret2
          exact ⟨rfl, rfl⟩
      · have e1 : l[p]? = none := List.getElem?_eq_none (by rw [HN.out]; omega)
        rw [e1] at hh
        subst hh
        clear e1
        go_wp2
        go_ret2
        exact ⟨rfl, rfl⟩

set_option maxHeartbeats 1000000 in
theorem search_any (g : Nat) (A : Option Addr) (n cap base : Nat) (l : List (Nat × Int)) (m : Int) (w : World) (h4 : w.cell? ⟨g, 4, none⟩ = some (.slice A n cap)) (hn : l.length = n) (hr : w.ownsRow base 81 1 (.slice A n cap) n (pvc l)) (ha : Asc l) (hl : n ≤ 1000000)
    (hm : ∀ (j : Nat) (x : Nat × Int), l[j]? = some x → x.1 < w.heap.size ∧ w.cell? ⟨x.1, 0, none⟩ = some (.int .u16 x.2)) :
    Calls Try.prog 57 #[.pointer (some ⟨g, 0, none⟩), .int .u16 m] w fun e w' => e = .returned (.tuple #[.int .i64 (posL l m : Nat), .bool (hasL l m)]) ∧ w = w' := by
  have H := Lib.hid (bsearch_any A n cap base l m w hn hr ha hl hm)
  clear hn hr ha hm
  go_enter Try.func57, Try.ntmps57
  go_wp2_with fail
  refine H.out.mono ?_
  rintro e w' ⟨rfl, rfl⟩
  go_wp2
  go_ret2
  exact ⟨rfl, rfl⟩

set_option maxHeartbeats 1000000 in
theorem room_any (g : Nat) (A : Option Addr) (n cap base : Nat) (l : List (Nat × Int)) (m tables : Int) (w : World) (h3 : w.cell? ⟨g, 3, none⟩ = some (.int .i64 tables)) (h4 : w.cell? ⟨g, 4, none⟩ = some (.slice A n cap)) (hn : l.length = n) (hr : w.ownsRow base 81 1 (.slice A n cap) n (pvc l)) (ha : Asc l) (hl : n ≤ 1000000)
    (hm : ∀ (j : Nat) (x : Nat × Int), l[j]? = some x → x.1 < w.heap.size ∧ w.cell? ⟨x.1, 0, none⟩ = some (.int .u16 x.2)) :
    Calls Try.prog 25 #[.pointer (some ⟨g, 0, none⟩), .int .u16 m] w fun e w' => e = .returned (.bool (hasL l m || decide ((n : Int) < tables))) ∧ Touch NoB w w' := by
  have H := Lib.hid (search_any g A n cap base l m w h4 hn hr ha hl hm)
  clear hn hr ha hm
  cases hh : hasL l m
  · rw [hh] at H
    by_cases ht : (n : Int) < tables
    · have e1 : decide ((n : Int) < tables) = true := by simpa using ht
      rw [e1]
      go_enter Try.func25, Try.ntmps25
      go_wp2_with fail
      refine H.out.mono ?_
      rintro e w' ⟨rfl, rfl⟩
      go_wp2
      go_quiet (fail)
      go_wp2
      go_ret
      exact ⟨rfl, (Touch.refl _ _).drewN _⟩
    · have e1 : decide ((n : Int) < tables) = false := by simpa using ht
      rw [e1]
      go_enter Try.func25, Try.ntmps25
      go_wp2_with fail
      refine H.out.mono ?_
      rintro e w' ⟨rfl, rfl⟩
      go_wp2
      go_quiet (fail)
      go_wp2
      go_ret
      exact ⟨rfl, (Touch.refl _ _).drewN _⟩
  · rw [hh] at H
    go_enter Try.func25, Try.ntmps25
    go_wp2_with fail
    refine H.out.mono ?_
    rintro e w' ⟨rfl, rfl⟩
    go_wp2
    go_quiet (fail)
    go_wp2
    go_ret
    exact ⟨rfl, (Touch.refl _ _).drewN _⟩
end Go.Proofs.Yticekldgjlihmaa
