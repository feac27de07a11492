/-
  Which expressions of any shape are valid: what the document's own RightExpr returns. Conditions: those that each theorem names.
-/
import Derived.Test.YtbikpbmknneabaaGreatZs8
import Derived.Test.YtbikpbmknneabaaGreatZs1
section
namespace Go.Proofs.YtbikpbmknneabaaGreat
open Go.ChangeShapes Go.WideShapes Go.ChangeAt Go.RowKit
set_option maxRecDepth 100000
set_option maxHeartbeats 4000000

def okS (s : ByteArray) : Bool := nameB s && !wrd s
/-- How many Kids a kind has. -/
def kidsI (k : Int) : Int := if (6 ≤ k ∧ k ≤ 13) ∨ k = 15 ∨ k = 19 then 2 else if k = 14 ∨ (16 ≤ k ∧ k ≤ 18) then 1 else 0
/-- Is an expression valid if its m Kids are? -/
def aloneG (k n : Int) (s : ByteArray) (m : Nat) : Bool :=
  decide (0 ≤ k ∧ k ≤ 19) && decide ((m : Int) = kidsI k) && (if k = 2 ∨ k = 3 then okS s else decide (s.size = 0)) && (if k = 0 then decide (n ≠ -9223372036854775808) else if k = 1 then decide (n = 0 ∨ n = 1) else decide (n = 0))
def rightG : Nat → GE → Bool
  | 0, _ => false
  | f + 1, .mk k n s l => aloneG k n s l.length && l.all (rightG f)
theorem okS_empty {s : ByteArray} (h : s.size = 0) : okS s = false := by
  unfold okS
  rw [named_yes (fun j hj => by omega)]
  simp [h]
theorem empty_yes {s : ByteArray} (h : s.size = 0) : s.toList.isEmpty = true := by rw [toList_empty h, ByteArray.toList_eq]; rfl
theorem empty_no {s : ByteArray} (h : ¬ s.size = 0) : s.toList.isEmpty = false := toList_ne (by omega)

/- Leaves of the document's own rightExpr. -/
end Go.Proofs.YtbikpbmknneabaaGreat
end
/-
  What the document's own RightExpr returns of an expression of any shape. Conditions: those that each theorem names.
-/
section
namespace Go.Proofs.YtbikpbmknneabaaGreat
open Go.ChangeShapes Go.WideShapes Go.ChangeAt Go.RowKit
set_option maxRecDepth 100000
set_option maxHeartbeats 4000000

/-- What is valid by itself. -/
theorem alone_yes {k n : Int} {s : ByteArray} {m : Nat} (ha : aloneG k n s m = true) :
    (m : Int) = kidsI k ∧ (((k = 2 ∨ k = 3) ∧ s.size ≠ 0 ∧ okS s = true ∧ n = 0) ∨ (k = 0 ∧ s.size = 0 ∧ n ≠ -9223372036854775808) ∨ (k = 1 ∧ s.size = 0 ∧ (n = 0 ∨ n = 1)) ∨ ((4 ≤ k ∧ k ≤ 19) ∧ s.size = 0 ∧ n = 0)) := by
  unfold aloneG at ha
  simp only [Bool.and_eq_true, decide_eq_true_eq] at ha
  obtain ⟨⟨⟨h1, h2⟩, h3⟩, h4⟩ := ha
  refine ⟨h2, ?_⟩
  by_cases h5 : k = 2 ∨ k = 3
  · rw [if_pos h5] at h3
    rw [if_neg (by omega), if_neg (by omega)] at h4
    exact .inl ⟨h5, fun h => by rw [okS_empty h] at h3; simp at h3, h3, by simpa using h4⟩
  · rw [if_neg h5] at h3
    have h3 : s.size = 0 := by simpa using h3
    by_cases h6 : k = 0
    · rw [if_pos h6] at h4
      exact .inr (.inl ⟨h6, h3, by simpa using h4⟩)
    · rw [if_neg h6] at h4
      by_cases h7 : k = 1
      · rw [if_pos h7] at h4
        exact .inr (.inr (.inl ⟨h7, h3, by simpa using h4⟩))
      · rw [if_neg h7] at h4
        exact .inr (.inr (.inr ⟨by omega, h3, by simpa using h4⟩))
theorem kids_named {k : Int} (h : k = 2 ∨ k = 3) : kidsI k = 0 := by rcases h with rfl | rfl <;> rfl
/-- The first i Kids are valid. -/
def RgRel (f : Nat) (l : List GE) (m : Nat) (w : World) (v5 : Value) (wr : World) : Prop := ∃ i : Nat, i ≤ m ∧ v5 = .int .i64 i ∧ (∀ (j : Nat) (y : GE), j < i → l[j]? = some y → rightG f y = true) ∧ Touch NoB w wr
theorem all_right {f : Nat} {l : List GE} (h : ∀ (j : Nat) (y : GE), j < l.length → l[j]? = some y → rightG f y = true) : l.all (rightG f) = true := by
  rw [List.all_eq_true]
  intro y hy
  obtain ⟨j, hj⟩ := List.mem_iff_getElem?.1 hy
  exact h j y (List.getElem?_eq_some_iff.1 hj).1 hj
theorem all_wrong {f : Nat} {l : List GE} {i : Nat} {y : GE} (hy : l[i]? = some y) (h : rightG f y = false) : l.all (rightG f) = false := by
  cases h2 : l.all (rightG f) with
  | false => rfl
  | true =>
    have := List.all_eq_true.1 h2 y (List.mem_of_getElem? hy)
    rw [h] at this
    exact this.symm
end Go.Proofs.YtbikpbmknneabaaGreat
end
/-
  What package check's areAll and result return. Conditions: those that each theorem names.
-/
section
namespace Go.Proofs.YtbikpbmknneabaaGreat
open Go.ChangeShapes Go.WideShapes Go.ChangeAt Go.RowKit Go.Maps
set_option maxRecDepth 100000
set_option maxHeartbeats 4000000

/-- Ints that lie at A. -/
def KsAt (w : World) (A : Option Addr) (ks : List Int) : Prop := ∀ (j : Nat) (x : Int), ks[j]? = some x → ∃ g o, A = some ⟨g, o, none⟩ ∧ g < w.heap.size ∧ w.cell? ⟨g, o + j, none⟩ = some (.int .i64 x)
theorem KsAt.touch {w w' : World} {A : Option Addr} {ks : List Int} (h : KsAt w A ks) (t : Touch NoB w w') : KsAt w' A ks := fun j x hx => by
  obtain ⟨g, o, rfl, hg, hc⟩ := h j x hx
  exact ⟨g, o, rfl, Nat.lt_of_lt_of_le hg t.size, (t.cell (p := ⟨g, o + j, none⟩) hg (fun f => f)).trans hc⟩
def allI (k : Int) (ks : List Int) : Bool := ks.all (· == k)
theorem areall_any (k : Int) (A : Option Addr) (n cap : Nat) (ks : List Int) (w : World) (hn : ks.length = n) (hn2 : n ≤ 1000) (h : KsAt w A ks) :
    Calls Tryz.prog 95 #[.int .i64 k, .slice A n cap] w fun e w' => e = .returned (.bool (allI k ks)) ∧ w = w' := by
  have HK := Lib.hid (And.intro h hn)
  clear h hn
  go_enter Tryz.func95, Tryz.ntmps95
  go_wp2
  go_loopw [9] (fun v9 wr => ∃ i : Nat, i ≤ n ∧ v9 = .int .i64 i ∧ (∀ (j : Nat) (x : Int), j < i → ks[j]? = some x → (x == k) = true) ∧ wr = w) (fun v9 _ => n - (intOf v9).toNat)
  case atStart => exact ⟨0, Nat.zero_le _, rfl, fun j x hj => by omega, rfl⟩
  case round =>
    obtain ⟨i, hi, rfl, hno, rfl⟩ := hrel
    by_cases hlt : i < n
    · obtain ⟨x, hx⟩ : ∃ x, ks[i]? = some x := ⟨ks[i]'(by have := HK.out.2; omega), List.getElem?_eq_getElem _⟩
      obtain ⟨g, o, rfl, hg, hc⟩ := HK.out.1 i x hx
      have HN := Lib.hid (And.intro hno hx)
      clear hno hx
      cases he : (x == k)
      · have hne : (x != k) = true := by simpa using he
        have HE : Hid (allI k ks = false) := Lib.hid (by
          unfold allI
          cases h2 : ks.all (· == k) with
          | false => rfl
          | true => have := List.all_eq_true.1 h2 x (List.mem_of_getElem? HN.out.2); rw [he] at this; cases this)
        clear he
        go_wp2
        go_ret
        exact ⟨ret_bool HE.out.symm, rfl⟩
      · have hne : (x != k) = false := by simpa using he
        have HE := Lib.hid he
        clear he
        go_wp2
        go_roundw
        case rel =>
          refine ⟨i + 1, by omega, by go_num, fun j y hj h1 => ?_, trivial⟩
          by_cases ej : j = i
          · subst ej
            have e1 := HN.out.2.symm.trans h1
            injection e1 with e1
            subst e1
            exact HE.out
          · exact HN.out.1 j y (by omega) h1
        case measure => simp [intOf]; omega
    · obtain rfl : i = n := by omega
      have HE : Hid (allI k ks = true) := Lib.hid (by
        unfold allI
        rw [List.all_eq_true]
        intro x hx
        obtain ⟨j, hj⟩ := List.mem_iff_getElem?.1 hx
        exact hno j x (by have := (List.getElem?_eq_some_iff.1 hj).1; have := HK.out.2; omega) hj)
      clear hno
      go_wp2
      go_ret
      exact ⟨ret_bool HE.out.symm, rfl⟩

/-- The kind of an expression whose Kids have these kinds. -/
def resG (k : Int) (ks : List Int) : Option Int :=
  if k = 0 ∨ k = 5 then some 0 else if k = 1 then some 1 else if k = 4 then some 2 else if k = 3 then some 3
  else if k = 6 ∨ k = 7 then (if allI 0 ks || allI 4 ks then some (ks.headD 0) else none)
  else if k = 8 ∨ k = 9 then (if allI 0 ks then some 0 else none)
  else if k = 16 ∨ k = 17 ∨ k = 19 then (if allI 4 ks then some 0 else none)
  else if k = 12 ∨ k = 13 ∨ k = 14 then (if allI 1 ks then some 1 else none)
  else if k = 10 then (if allI (ks.headD 0) ks then some 1 else none)
  else if k = 11 then (if allI 0 ks then some 1 else none)
  else if k = 15 then (if allI 0 ks then some 4 else none)
  else (if allI 4 ks then some 4 else none)
theorem head_at {ks : List Int} {x : Int} (h : ks[0]? = some x) : ks.headD 0 = x := by
  cases ks with
  | nil => cases h
  | cons a r =>
    simp only [List.getElem?_cons_zero, Option.some.injEq] at h
    exact h
/-- What result returns. -/
def ResPost (r : Option Int) (w : World) (e : Ending) (w' : World) : Prop := ∃ v : Int, e = .returned (.tuple #[.int .i64 v, .bool r.isSome]) ∧ (∀ x, r = some x → x = v) ∧ Touch NoB w w'

theorem res_const {k : Int} (hk : k = 0 ∨ k = 1 ∨ k = 3 ∨ k = 4 ∨ k = 5) (A : Option Addr) (n cap : Nat) (ks : List Int) (w : World) :
    Calls Tryz.prog 78 #[.int .i64 k, .slice A n cap] w (ResPost (resG k ks) w) := by
  have e : ∃ v, resG k ks = some v ∧ ((k = 0 ∨ k = 5) ∧ v = 0 ∨ k = 1 ∧ v = 1 ∨ k = 4 ∧ v = 2 ∨ k = 3 ∧ v = 3) := by
    rcases hk with rfl | rfl | rfl | rfl | rfl <;> exact ⟨_, rfl, by decide⟩
  obtain ⟨v, hv, -⟩ := e
  rcases hk with rfl | rfl | rfl | rfl | rfl
  all_goals
    have hv' := hv
    rw [show resG _ ks = some _ from rfl] at hv
    injection hv with hv
    subst hv
    rw [hv']
    clear hv'
    go_enter Tryz.func78, Tryz.ntmps78
    go_wp2
    go_ret2
    exact ⟨_, rfl, (fun x h => by first | (cases h; rfl) | (cases h)), by repeat (first | with_reducible exact Touch.refl _ _ | with_reducible refine Touch.drew ?_ | with_reducible refine Touch.drewN ?_ _)⟩

theorem res_mul {k : Int} (hk : k = 8 ∨ k = 9) (A : Option Addr) (n cap : Nat) (ks : List Int) (w : World) (hn : ks.length = n) (hn2 : n ≤ 1000) (h : KsAt w A ks) :
    Calls Tryz.prog 78 #[.int .i64 k, .slice A n cap] w (ResPost (resG k ks) w) := by
  obtain ⟨p, hp⟩ : ∃ p, allI 0 ks = p := ⟨_, rfl⟩
  have HA := Lib.hid (fun w' (t : Touch NoB w w') => areall_any 0 A n cap ks w' hn hn2 (h.touch t))
  rw [hp] at HA
  have e : resG k ks = if p = true then resG k [] else none := by
    rw [← hp]
    rcases hk with rfl | rfl <;> rfl
  rw [e]
  clear e hp hn hn2 h
  rcases hk with rfl | rfl <;> cases p
  all_goals
    go_enter Tryz.func78, Tryz.ntmps78
    go_wp2_with fail
    refine (HA.out _ (by repeat (first | with_reducible exact Touch.refl _ _ | with_reducible refine Touch.drew ?_ | with_reducible refine Touch.drewN ?_ _))).mono ?_
    rintro r w2 ⟨rfl, rfl⟩
    go_wp2
    go_ret2
    exact ⟨_, rfl, (fun x h => by first | (cases h; rfl) | (cases h)), by repeat (first | with_reducible exact Touch.refl _ _ | with_reducible refine Touch.drew ?_ | with_reducible refine Touch.drewN ?_ _)⟩

theorem res_re {k : Int} (hk : k = 16 ∨ k = 17 ∨ k = 19) (A : Option Addr) (n cap : Nat) (ks : List Int) (w : World) (hn : ks.length = n) (hn2 : n ≤ 1000) (h : KsAt w A ks) :
    Calls Tryz.prog 78 #[.int .i64 k, .slice A n cap] w (ResPost (resG k ks) w) := by
  obtain ⟨p, hp⟩ : ∃ p, allI 4 ks = p := ⟨_, rfl⟩
  have HA := Lib.hid (fun w' (t : Touch NoB w w') => areall_any 4 A n cap ks w' hn hn2 (h.touch t))
  rw [hp] at HA
  have e : resG k ks = if p = true then resG k [] else none := by
    rw [← hp]
    rcases hk with rfl | rfl | rfl <;> rfl
  rw [e]
  clear e hp hn hn2 h
  rcases hk with rfl | rfl | rfl <;> cases p
  all_goals
    go_enter Tryz.func78, Tryz.ntmps78
    go_wp2_with fail
    refine (HA.out _ (by repeat (first | with_reducible exact Touch.refl _ _ | with_reducible refine Touch.drew ?_ | with_reducible refine Touch.drewN ?_ _))).mono ?_
    rintro r w2 ⟨rfl, rfl⟩
    go_wp2
    go_ret2
    exact ⟨_, rfl, (fun x h => by first | (cases h; rfl) | (cases h)), by repeat (first | with_reducible exact Touch.refl _ _ | with_reducible refine Touch.drew ?_ | with_reducible refine Touch.drewN ?_ _)⟩

theorem res_and {k : Int} (hk : k = 12 ∨ k = 13 ∨ k = 14) (A : Option Addr) (n cap : Nat) (ks : List Int) (w : World) (hn : ks.length = n) (hn2 : n ≤ 1000) (h : KsAt w A ks) :
    Calls Tryz.prog 78 #[.int .i64 k, .slice A n cap] w (ResPost (resG k ks) w) := by
  obtain ⟨p, hp⟩ : ∃ p, allI 1 ks = p := ⟨_, rfl⟩
  have HA := Lib.hid (fun w' (t : Touch NoB w w') => areall_any 1 A n cap ks w' hn hn2 (h.touch t))
  rw [hp] at HA
  have e : resG k ks = if p = true then resG k [] else none := by
    rw [← hp]
    rcases hk with rfl | rfl | rfl <;> rfl
  rw [e]
  clear e hp hn hn2 h
  rcases hk with rfl | rfl | rfl <;> cases p
  all_goals
    go_enter Tryz.func78, Tryz.ntmps78
    go_wp2_with fail
    refine (HA.out _ (by repeat (first | with_reducible exact Touch.refl _ _ | with_reducible refine Touch.drew ?_ | with_reducible refine Touch.drewN ?_ _))).mono ?_
    rintro r w2 ⟨rfl, rfl⟩
    go_wp2
    go_ret2
    exact ⟨_, rfl, (fun x h => by first | (cases h; rfl) | (cases h)), by repeat (first | with_reducible exact Touch.refl _ _ | with_reducible refine Touch.drew ?_ | with_reducible refine Touch.drewN ?_ _)⟩

theorem res_less {k : Int} (hk : k = 11 ∨ k = 15) (A : Option Addr) (n cap : Nat) (ks : List Int) (w : World) (hn : ks.length = n) (hn2 : n ≤ 1000) (h : KsAt w A ks) :
    Calls Tryz.prog 78 #[.int .i64 k, .slice A n cap] w (ResPost (resG k ks) w) := by
  obtain ⟨p, hp⟩ : ∃ p, allI 0 ks = p := ⟨_, rfl⟩
  have HA := Lib.hid (fun w' (t : Touch NoB w w') => areall_any 0 A n cap ks w' hn hn2 (h.touch t))
  rw [hp] at HA
  have e : resG k ks = if p = true then resG k [] else none := by
    rw [← hp]
    rcases hk with rfl | rfl <;> rfl
  rw [e]
  clear e hp hn hn2 h
  rcases hk with rfl | rfl <;> cases p
  all_goals
    go_enter Tryz.func78, Tryz.ntmps78
    go_wp2_with fail
    refine (HA.out _ (by repeat (first | with_reducible exact Touch.refl _ _ | with_reducible refine Touch.drew ?_ | with_reducible refine Touch.drewN ?_ _))).mono ?_
    rintro r w2 ⟨rfl, rfl⟩
    go_wp2
    go_ret2
    exact ⟨_, rfl, (fun x h => by first | (cases h; rfl) | (cases h)), by repeat (first | with_reducible exact Touch.refl _ _ | with_reducible refine Touch.drew ?_ | with_reducible refine Touch.drewN ?_ _)⟩

theorem res_turn {k : Int} (hk : k = 18) (A : Option Addr) (n cap : Nat) (ks : List Int) (w : World) (hn : ks.length = n) (hn2 : n ≤ 1000) (h : KsAt w A ks) :
    Calls Tryz.prog 78 #[.int .i64 k, .slice A n cap] w (ResPost (resG k ks) w) := by
  obtain ⟨p, hp⟩ : ∃ p, allI 4 ks = p := ⟨_, rfl⟩
  have HA := Lib.hid (fun w' (t : Touch NoB w w') => areall_any 4 A n cap ks w' hn hn2 (h.touch t))
  rw [hp] at HA
  have e : resG k ks = if p = true then resG k [] else none := by
    rw [← hp]
    subst hk <;> rfl
  rw [e]
  clear e hp hn hn2 h
  subst hk <;> cases p
  all_goals
    go_enter Tryz.func78, Tryz.ntmps78
    go_wp2_with fail
    refine (HA.out _ (by repeat (first | with_reducible exact Touch.refl _ _ | with_reducible refine Touch.drew ?_ | with_reducible refine Touch.drewN ?_ _))).mono ?_
    rintro r w2 ⟨rfl, rfl⟩
    go_wp2
    go_ret2
    exact ⟨_, rfl, (fun x h => by first | (cases h; rfl) | (cases h)), by repeat (first | with_reducible exact Touch.refl _ _ | with_reducible refine Touch.drew ?_ | with_reducible refine Touch.drewN ?_ _)⟩

theorem res_same (A : Option Addr) (n cap : Nat) (ks : List Int) (w : World) (hn : ks.length = n) (hn2 : n ≤ 1000) (h : KsAt w A ks) (hpos : 0 < n) :
    Calls Tryz.prog 78 #[.int .i64 10, .slice A n cap] w (ResPost (resG 10 ks) w) := by
  obtain ⟨x, hx⟩ : ∃ x, ks[0]? = some x := ⟨ks[0]'(by omega), List.getElem?_eq_getElem _⟩
  have hd : ks.headD 0 = x := head_at hx
  obtain ⟨p, hp⟩ : ∃ p, allI x ks = p := ⟨_, rfl⟩
  have HA := Lib.hid (fun w' (t : Touch NoB w w') => areall_any x A n cap ks w' hn hn2 (h.touch t))
  rw [hp] at HA
  have e : resG 10 ks = if p = true then some 1 else none := by
    rw [← hp, ← hd]
    rfl
  rw [e]
  obtain ⟨g, o, rfl, hg, hc⟩ := h 0 x hx
  have hc : w.cell? ⟨g, o, none⟩ = some (.int .i64 x) := hc
  clear e hp hn2 h hx hd hn
  cases p
  all_goals
    go_enter Tryz.func78, Tryz.ntmps78
    go_wp2_with fail
    refine (HA.out _ (by repeat (first | with_reducible exact Touch.refl _ _ | with_reducible refine Touch.drew ?_ | with_reducible refine Touch.drewN ?_ _))).mono ?_
    rintro r w2 ⟨rfl, rfl⟩
    go_wp2
    go_ret2
    exact ⟨_, rfl, (fun x h => by first | (cases h; rfl) | (cases h)), by repeat (first | with_reducible exact Touch.refl _ _ | with_reducible refine Touch.drew ?_ | with_reducible refine Touch.drewN ?_ _)⟩

end Go.Proofs.YtbikpbmknneabaaGreat
end
/-
  What package check's result returns of sums. Conditions: those that each theorem names.
-/
section
namespace Go.Proofs.YtbikpbmknneabaaGreat
open Go.ChangeShapes Go.WideShapes Go.ChangeAt Go.RowKit Go.Maps
set_option maxRecDepth 100000
set_option maxHeartbeats 4000000

theorem res_add {k : Int} (hk : k = 6 ∨ k = 7) (A : Option Addr) (n cap : Nat) (ks : List Int) (w : World) (hn : ks.length = n) (hn2 : n ≤ 1000) (h : KsAt w A ks) (hpos : 0 < n) :
    Calls Tryz.prog 78 #[.int .i64 k, .slice A n cap] w (ResPost (resG k ks) w) := by
  obtain ⟨p, hp⟩ : ∃ p, allI 0 ks = p := ⟨_, rfl⟩
  obtain ⟨q, hq⟩ : ∃ q, allI 4 ks = q := ⟨_, rfl⟩
  have HA := Lib.hid (fun (q : Int) w' (t : Touch NoB w w') => areall_any q A n cap ks w' hn hn2 (h.touch t))
  have e : resG k ks = if (p || q) = true then some (ks.headD 0) else none := by
    rw [← hp, ← hq]
    rcases hk with rfl | rfl <;> rfl
  rw [e]
  obtain ⟨x, hx⟩ : ∃ x, ks[0]? = some x := ⟨ks[0]'(by omega), List.getElem?_eq_getElem _⟩
  have hd : ks.headD 0 = x := head_at hx
  rw [hd]
  obtain ⟨g, o, rfl, hg, hc⟩ := h 0 x hx
  have hc : w.cell? ⟨g, o, none⟩ = some (.int .i64 x) := hc
  clear e hn2 h hx hd hn
  rcases hk with rfl | rfl <;> cases p <;> cases q
  all_goals
    go_enter Tryz.func78, Tryz.ntmps78
    go_wp2_with fail
    go_quiet (first | (go_at_call 95; exact quiet_same (HA.out _ _ ((Touch.refl _ _).drewN _))))
    go_wp2
    go_ret2
    exact ⟨_, rfl, (fun x h => by first | (cases h; rfl) | (cases h)), by repeat (first | with_reducible exact Touch.refl _ _ | with_reducible refine Touch.drew ?_ | with_reducible refine Touch.drewN ?_ _)⟩
end Go.Proofs.YtbikpbmknneabaaGreat
end
/-
  The kind of an expression of any shape, as plain recursion; what package check's result returns of any kind. Conditions: those that each theorem names.
-/
section
namespace Go.Proofs.YtbikpbmknneabaaGreat
open Go.ChangeShapes Go.WideShapes Go.ChangeAt Go.RowKit Go.Maps
set_option maxRecDepth 100000
set_option maxHeartbeats 4000000

/-- The kinds of some Kids, or the first error. -/
def kidsG (g : GE → Int × Int) : List GE → Except Int (List Int)
  | [] => .ok []
  | x :: r => if (g x).2 = 0 then (match kidsG g r with | .ok vs => .ok ((g x).1 :: vs) | .error e => .error e) else .error (g x).2
def headG (ks : List KyG) (k : Int) (s : ByteArray) (vs : List Int) : Int × Int :=
  if k = 2 then (match kdG ks s with | some v => (v, 0) | none => (0, 5)) else match resG k vs with | some v => (v, 0) | none => (0, 7)
/-- The kind of an expression that is valid, and the error. -/
def kindG (ks : List KyG) : Nat → GE → Int × Int
  | 0, _ => (0, 0)
  | f + 1, .mk k _ s l => match kidsG (kindG ks f) l with | .error e => (0, e) | .ok vs => headG ks k s vs
theorem kidsG_snoc (g : GE → Int × Int) : ∀ (l : List GE) (x : GE), kidsG g (l ++ [x]) = match kidsG g l with | .ok vs => (if (g x).2 = 0 then .ok (vs ++ [(g x).1]) else .error (g x).2) | .error e => .error e
  | [], x => by
    show kidsG g [x] = _
    simp only [kidsG]
    split <;> rfl
  | y :: r, x => by
    show kidsG g (y :: (r ++ [x])) = _
    simp only [kidsG]
    rw [kidsG_snoc g r x]
    split
    · cases kidsG g r with
      | error e => rfl
      | ok vs =>
        by_cases hx : (g x).2 = 0
        · simp [hx]
        · simp [hx]
    · rfl
theorem kidsG_stop (g : GE → Int × Int) : ∀ (l r : List GE) (x : GE) (vs : List Int), kidsG g l = .ok vs → (g x).2 ≠ 0 → kidsG g (l ++ x :: r) = .error (g x).2
  | [], r, x, vs, _, hx => by
    show kidsG g (x :: r) = _
    simp only [kidsG]
    rw [if_neg hx]
  | y :: q, r, x, vs, h, hx => by
    simp only [kidsG] at h
    show kidsG g (y :: (q ++ x :: r)) = _
    simp only [kidsG]
    split at h
    · rename_i h0
      rw [if_pos h0]
      cases hq : kidsG g q with
      | error e => rw [hq] at h; cases h
      | ok us => rw [kidsG_stop g q r x us hq hx]
    · cases h
theorem kidsG_step {g : GE → Int × Int} {l : List GE} {i : Nat} {y : GE} {vs : List Int} (hy : l[i]? = some y) (h : kidsG g (l.take i) = .ok vs) (h0 : (g y).2 = 0) : kidsG g (l.take (i + 1)) = .ok (vs ++ [(g y).1]) := by
  rw [List.take_add_one, hy]
  show kidsG g (l.take i ++ [y]) = _
  rw [kidsG_snoc, h]
  simp only
  rw [if_pos h0]
theorem kidsG_bad {g : GE → Int × Int} {l : List GE} {i : Nat} {y : GE} {vs : List Int} (hy : l[i]? = some y) (h : kidsG g (l.take i) = .ok vs) (h0 : (g y).2 ≠ 0) : kidsG g l = .error (g y).2 := by
  have hi := (List.getElem?_eq_some_iff.1 hy).1
  have hk := (List.getElem?_eq_some_iff.1 hy).2
  have e : l = l.take i ++ y :: l.drop (i + 1) := by
    rw [← hk, ← List.drop_eq_getElem_cons hi, List.take_append_drop]
  rw [e]
  exact kidsG_stop g _ _ y vs h h0
/-- Cells of ints. -/
def icG (l : List Int) : List Value := l.map (Value.int .i64)
theorem icG_snoc (l : List Int) (m : Int) : icG (l ++ [m]) = icG l ++ [.int .i64 m] := by simp [icG]
theorem ksat_row {w : World} {B : Nat} {A : Option Addr} {n cap : Nat} {vs : List Int} (h : w.ownsRow B 3 1 (.slice A n cap) n (icG vs)) (hl : vs.length = n) : KsAt w A vs := by
  intro j x hx
  have hj : j < n := by have := (List.getElem?_eq_some_iff.1 hx).1; omega
  obtain ⟨g, cp, hv, _, _, hob⟩ := row_form h (by omega)
  injection hv with hv1 hv2 hv3
  subst hv1
  refine ⟨g, 0, rfl, row_lt h hob, ?_⟩
  rw [Nat.zero_add, h.cellAt j (by omega)]
  simp [icG, hx]
theorem info_i64 : (Tryz.prog.info? 3).map (fun i => (i.zero, i.size, i.bytes)) = some (some (.int .i64 0), 1, 8) := by kernel_rfl
theorem info_i64' : ∃ i0, Tryz.prog.info? 3 = some i0 ∧ i0.zero = some (.int .i64 0) ∧ i0.size = 1 ∧ i0.bytes = 8 := by
  have h := info_i64
  cases hi : Tryz.prog.info? 3 with
  | none => rw [hi] at h; cases h
  | some i0 =>
    rw [hi] at h
    simp at h
    exact ⟨i0, rfl, h.1, h.2.1, h.2.2⟩
theorem res_any {k : Int} (h0 : 0 ≤ k ∧ k ≤ 19) (h2 : k ≠ 2) (A : Option Addr) (n cap : Nat) (ks : List Int) (w : World) (hn : ks.length = n) (hn2 : n ≤ 1000) (hk : (n : Int) = kidsI k) (h : KsAt w A ks) :
    Calls Tryz.prog 78 #[.int .i64 k, .slice A n cap] w (ResPost (resG k ks) w) := by
  have hc : (k = 0 ∨ k = 1 ∨ k = 3 ∨ k = 4 ∨ k = 5) ∨ (k = 6 ∨ k = 7) ∨ (k = 8 ∨ k = 9) ∨ (k = 16 ∨ k = 17 ∨ k = 19) ∨ (k = 12 ∨ k = 13 ∨ k = 14) ∨ (k = 11 ∨ k = 15) ∨ k = 18 ∨ k = 10 := by omega
  rcases hc with h | h | h | h | h | h | h | h
  · exact res_const h A n cap ks w
  · have : kidsI k = 2 := by rcases h with rfl | rfl <;> rfl
    exact res_add h A n cap ks w hn hn2 ‹_› (by omega)
  · exact res_mul h A n cap ks w hn hn2 ‹_›
  · exact res_re h A n cap ks w hn hn2 ‹_›
  · exact res_and h A n cap ks w hn hn2 ‹_›
  · exact res_less h A n cap ks w hn hn2 ‹_›
  · exact res_turn h A n cap ks w hn hn2 ‹_›
  · subst h
    have : kidsI 10 = 2 := rfl
    exact res_same A n cap ks w hn hn2 ‹_› (by omega)
end Go.Proofs.YtbikpbmknneabaaGreat
end
