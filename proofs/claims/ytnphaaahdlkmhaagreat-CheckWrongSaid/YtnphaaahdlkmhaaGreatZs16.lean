/-
  What package check's areAll and result return. Conditions: those that each theorem names.
-/
import Derived.Test.YtnphaaahdlkmhaaGreatZs4
import Derived.Test.YtnphaaahdlkmhaaGreatZs15
section
namespace Go.Proofs.YtnphaaahdlkmhaaGreat
open Go.ChangeShapes Go.WideShapes Go.ChangeAt Go.RowKit Go.Maps
set_option maxRecDepth 100000
set_option maxHeartbeats 4000000

/-- Ints that lie at A. -/
def KsAt (w : World) (A : Option Addr) (ks : List Int) : Prop := ∀ (j : Nat) (x : Int), ks[j]? = some x → ∃ g o, A = some ⟨g, o, none⟩ ∧ g < w.heap.size ∧ w.cell? ⟨g, o + j, none⟩ = some (.int .i64 x)
theorem KsAt.touch {w w' : World} {A : Option Addr} {ks : List Int} (h : KsAt w A ks) (t : Touch NoB w w') : KsAt w' A ks := fun j x hx => by
  obtain ⟨g, o, rfl, hg, hc⟩ := h j x hx
  exact ⟨g, o, rfl, Nat.lt_of_lt_of_le hg t.size, (t.cell (p := ⟨g, o + j, none⟩) hg (fun f => f)).trans hc⟩
def allI (k : Int) (ks : List Int) : Bool := ks.all (· == k)
theorem areall_any (k : Int) (A : Option Addr) (n cap : Nat) (ks : List Int) (w : World) (hn : ks.length = n) (hn2 : n ≤ 1000) (h : KsAt w A ks) :
    Calls Tryz.prog 95 #[.int .i64 k, .slice A n cap] w fun e w' => e = .returned (.bool (allI k ks)) ∧ w = w' := by
  have HK := Lib.hid (And.intro h hn)
  clear h hn
  go_enter Tryz.func95, Tryz.ntmps95
  go_wp2
  go_loopw [9] (fun v9 wr => ∃ i : Nat, i ≤ n ∧ v9 = .int .i64 i ∧ (∀ (j : Nat) (x : Int), j < i → ks[j]? = some x → (x == k) = true) ∧ wr = w) (fun v9 _ => n - (intOf v9).toNat)
  case atStart => exact ⟨0, Nat.zero_le _, rfl, fun j x hj => by omega, rfl⟩
  case round =>
    obtain ⟨i, hi, rfl, hno, rfl⟩ := hrel
    by_cases hlt : i < n
    · obtain ⟨x, hx⟩ : ∃ x, ks[i]? = some x := ⟨ks[i]'(by have := HK.out.2; omega), List.getElem?_eq_getElem _⟩
      obtain ⟨g, o, rfl, hg, hc⟩ := HK.out.1 i x hx
      have HN := Lib.hid (And.intro hno hx)
      clear hno hx
      cases he : (x == k)
      · have hne : (x != k) = true := by simpa using he
        have HE : Hid (allI k ks = false) := Lib.hid (by
          unfold allI
          cases h2 : ks.all (· == k) with
          | false => rfl
          | true => have := List.all_eq_true.1 h2 x (List.mem_of_getElem? HN.out.2); rw [he] at this; cases this)
        clear he
        go_wp2
        go_ret
        exact ⟨ret_bool HE.out.symm, rfl⟩
      · have hne : (x != k) = false := by simpa using he
        have HE := Lib.hid he
        clear he
        go_wp2
        go_roundw
        case rel =>
          refine ⟨i + 1, by omega, by go_num, fun j y hj h1 => ?_, trivial⟩
          by_cases ej : j = i
          · subst ej
            have e1 := HN.out.2.symm.trans h1
            injection e1 with e1
            subst e1
            exact HE.out
          · exact HN.out.1 j y (by omega) h1
        case measure => simp [intOf]; omega
    · obtain rfl : i = n := by omega
      have HE : Hid (allI k ks = true) := Lib.hid (by
        unfold allI
        rw [List.all_eq_true]
        intro x hx
        obtain ⟨j, hj⟩ := List.mem_iff_getElem?.1 hx
        exact hno j x (by have := (List.getElem?_eq_some_iff.1 hj).1; have := HK.out.2; omega) hj)
      clear hno
      go_wp2
      go_ret
      exact ⟨ret_bool HE.out.symm, rfl⟩

/-- The kind of an expression whose Kids have these kinds. -/
def resG (k : Int) (ks : List Int) : Option Int :=
  if k = 0 ∨ k = 5 then some 0 else if k = 1 then some 1 else if k = 4 then some 2 else if k = 3 then some 3
  else if k = 6 ∨ k = 7 then (if allI 0 ks || allI 4 ks then some (ks.headD 0) else none)
  else if k = 8 ∨ k = 9 then (if allI 0 ks then some 0 else none)
  else if k = 16 ∨ k = 17 ∨ k = 19 then (if allI 4 ks then some 0 else none)
  else if k = 12 ∨ k = 13 ∨ k = 14 then (if allI 1 ks then some 1 else none)
  else if k = 10 then (if allI (ks.headD 0) ks then some 1 else none)
  else if k = 11 then (if allI 0 ks then some 1 else none)
  else if k = 15 then (if allI 0 ks then some 4 else none)
  else (if allI 4 ks then some 4 else none)
theorem head_at {ks : List Int} {x : Int} (h : ks[0]? = some x) : ks.headD 0 = x := by
  cases ks with
  | nil => cases h
  | cons a r =>
    simp only [List.getElem?_cons_zero, Option.some.injEq] at h
    exact h
/-- What result returns. -/
def ResPost (r : Option Int) (w : World) (e : Ending) (w' : World) : Prop := ∃ v : Int, e = .returned (.tuple #[.int .i64 v, .bool r.isSome]) ∧ (∀ x, r = some x → x = v) ∧ Touch NoB w w'

theorem res_const {k : Int} (hk : k = 0 ∨ k = 1 ∨ k = 3 ∨ k = 4 ∨ k = 5) (A : Option Addr) (n cap : Nat) (ks : List Int) (w : World) :
    Calls Tryz.prog 78 #[.int .i64 k, .slice A n cap] w (ResPost (resG k ks) w) := by
  have e : ∃ v, resG k ks = some v ∧ ((k = 0 ∨ k = 5) ∧ v = 0 ∨ k = 1 ∧ v = 1 ∨ k = 4 ∧ v = 2 ∨ k = 3 ∧ v = 3) := by
    rcases hk with rfl | rfl | rfl | rfl | rfl <;> exact ⟨_, rfl, by decide⟩
  obtain ⟨v, hv, -⟩ := e
  rcases hk with rfl | rfl | rfl | rfl | rfl
  all_goals
    have hv' := hv
    rw [show resG _ ks = some _ from rfl] at hv
    injection hv with hv
    subst hv
    rw [hv']
    clear hv'
    go_enter Tryz.func78, Tryz.ntmps78
    go_wp2
    go_ret2
    exact ⟨_, rfl, (fun x h => by first | (cases h; rfl) | (cases h)), by repeat (first | with_reducible exact Touch.refl _ _ | with_reducible refine Touch.drew ?_ | with_reducible refine Touch.drewN ?_ _)⟩

theorem res_mul {k : Int} (hk : k = 8 ∨ k = 9) (A : Option Addr) (n cap : Nat) (ks : List Int) (w : World) (hn : ks.length = n) (hn2 : n ≤ 1000) (h : KsAt w A ks) :
    Calls Tryz.prog 78 #[.int .i64 k, .slice A n cap] w (ResPost (resG k ks) w) := by
  obtain ⟨p, hp⟩ : ∃ p, allI 0 ks = p := ⟨_, rfl⟩
  have HA := Lib.hid (fun w' (t : Touch NoB w w') => areall_any 0 A n cap ks w' hn hn2 (h.touch t))
  rw [hp] at HA
  have e : resG k ks = if p = true then resG k [] else none := by
    rw [← hp]
    rcases hk with rfl | rfl <;> rfl
  rw [e]
  clear e hp hn hn2 h
  rcases hk with rfl | rfl <;> cases p
  all_goals
    go_enter Tryz.func78, Tryz.ntmps78
    go_wp2_with fail
    refine (HA.out _ (by repeat (first | with_reducible exact Touch.refl _ _ | with_reducible refine Touch.drew ?_ | with_reducible refine Touch.drewN ?_ _))).mono ?_
    rintro r w2 ⟨rfl, rfl⟩
    go_wp2
    go_ret2
    exact ⟨_, rfl, (fun x h => by first | (cases h; rfl) | (cases h)), by repeat (first | with_reducible exact Touch.refl _ _ | with_reducible refine Touch.drew ?_ | with_reducible refine Touch.drewN ?_ _)⟩

theorem res_re {k : Int} (hk : k = 16 ∨ k = 17 ∨ k = 19) (A : Option Addr) (n cap : Nat) (ks : List Int) (w : World) (hn : ks.length = n) (hn2 : n ≤ 1000) (h : KsAt w A ks) :
    Calls Tryz.prog 78 #[.int .i64 k, .slice A n cap] w (ResPost (resG k ks) w) := by
  obtain ⟨p, hp⟩ : ∃ p, allI 4 ks = p := ⟨_, rfl⟩
  have HA := Lib.hid (fun w' (t : Touch NoB w w') => areall_any 4 A n cap ks w' hn hn2 (h.touch t))
  rw [hp] at HA
  have e : resG k ks = if p = true then resG k [] else none := by
    rw [← hp]
    rcases hk with rfl | rfl | rfl <;> rfl
  rw [e]
  clear e hp hn hn2 h
  rcases hk with rfl | rfl | rfl <;> cases p
  all_goals
    go_enter Tryz.func78, Tryz.ntmps78
    go_wp2_with fail
    refine (HA.out _ (by repeat (first | with_reducible exact Touch.refl _ _ | with_reducible refine Touch.drew ?_ | with_reducible refine Touch.drewN ?_ _))).mono ?_
    rintro r w2 ⟨rfl, rfl⟩
    go_wp2
    go_ret2
    exact ⟨_, rfl, (fun x h => by first | (cases h; rfl) | (cases h)), by repeat (first | with_reducible exact Touch.refl _ _ | with_reducible refine Touch.drew ?_ | with_reducible refine Touch.drewN ?_ _)⟩

theorem res_and {k : Int} (hk : k = 12 ∨ k = 13 ∨ k = 14) (A : Option Addr) (n cap : Nat) (ks : List Int) (w : World) (hn : ks.length = n) (hn2 : n ≤ 1000) (h : KsAt w A ks) :
    Calls Tryz.prog 78 #[.int .i64 k, .slice A n cap] w (ResPost (resG k ks) w) := by
  obtain ⟨p, hp⟩ : ∃ p, allI 1 ks = p := ⟨_, rfl⟩
  have HA := Lib.hid (fun w' (t : Touch NoB w w') => areall_any 1 A n cap ks w' hn hn2 (h.touch t))
  rw [hp] at HA
  have e : resG k ks = if p = true then resG k [] else none := by
    rw [← hp]
    rcases hk with rfl | rfl | rfl <;> rfl
  rw [e]
  clear e hp hn hn2 h
  rcases hk with rfl | rfl | rfl <;> cases p
  all_goals
    go_enter Tryz.func78, Tryz.ntmps78
    go_wp2_with fail
    refine (HA.out _ (by repeat (first | with_reducible exact Touch.refl _ _ | with_reducible refine Touch.drew ?_ | with_reducible refine Touch.drewN ?_ _))).mono ?_
    rintro r w2 ⟨rfl, rfl⟩
    go_wp2
    go_ret2
    exact ⟨_, rfl, (fun x h => by first | (cases h; rfl) | (cases h)), by repeat (first | with_reducible exact Touch.refl _ _ | with_reducible refine Touch.drew ?_ | with_reducible refine Touch.drewN ?_ _)⟩

theorem res_less {k : Int} (hk : k = 11 ∨ k = 15) (A : Option Addr) (n cap : Nat) (ks : List Int) (w : World) (hn : ks.length = n) (hn2 : n ≤ 1000) (h : KsAt w A ks) :
    Calls Tryz.prog 78 #[.int .i64 k, .slice A n cap] w (ResPost (resG k ks) w) := by
  obtain ⟨p, hp⟩ : ∃ p, allI 0 ks = p := ⟨_, rfl⟩
  have HA := Lib.hid (fun w' (t : Touch NoB w w') => areall_any 0 A n cap ks w' hn hn2 (h.touch t))
  rw [hp] at HA
  have e : resG k ks = if p = true then resG k [] else none := by
    rw [← hp]
    rcases hk with rfl | rfl <;> rfl
  rw [e]
  clear e hp hn hn2 h
  rcases hk with rfl | rfl <;> cases p
  all_goals
    go_enter Tryz.func78, Tryz.ntmps78
    go_wp2_with fail
    refine (HA.out _ (by repeat (first | with_reducible exact Touch.refl _ _ | with_reducible refine Touch.drew ?_ | with_reducible refine Touch.drewN ?_ _))).mono ?_
    rintro r w2 ⟨rfl, rfl⟩
    go_wp2
    go_ret2
    exact ⟨_, rfl, (fun x h => by first | (cases h; rfl) | (cases h)), by repeat (first | with_reducible exact Touch.refl _ _ | with_reducible refine Touch.drew ?_ | with_reducible refine Touch.drewN ?_ _)⟩

theorem res_turn {k : Int} (hk : k = 18) (A : Option Addr) (n cap : Nat) (ks : List Int) (w : World) (hn : ks.length = n) (hn2 : n ≤ 1000) (h : KsAt w A ks) :
    Calls Tryz.prog 78 #[.int .i64 k, .slice A n cap] w (ResPost (resG k ks) w) := by
  obtain ⟨p, hp⟩ : ∃ p, allI 4 ks = p := ⟨_, rfl⟩
  have HA := Lib.hid (fun w' (t : Touch NoB w w') => areall_any 4 A n cap ks w' hn hn2 (h.touch t))
  rw [hp] at HA
  have e : resG k ks = if p = true then resG k [] else none := by
    rw [← hp]
    subst hk <;> rfl
  rw [e]
  clear e hp hn hn2 h
  subst hk <;> cases p
  all_goals
    go_enter Tryz.func78, Tryz.ntmps78
    go_wp2_with fail
    refine (HA.out _ (by repeat (first | with_reducible exact Touch.refl _ _ | with_reducible refine Touch.drew ?_ | with_reducible refine Touch.drewN ?_ _))).mono ?_
    rintro r w2 ⟨rfl, rfl⟩
    go_wp2
    go_ret2
    exact ⟨_, rfl, (fun x h => by first | (cases h; rfl) | (cases h)), by repeat (first | with_reducible exact Touch.refl _ _ | with_reducible refine Touch.drew ?_ | with_reducible refine Touch.drewN ?_ _)⟩

theorem res_same (A : Option Addr) (n cap : Nat) (ks : List Int) (w : World) (hn : ks.length = n) (hn2 : n ≤ 1000) (h : KsAt w A ks) (hpos : 0 < n) :
    Calls Tryz.prog 78 #[.int .i64 10, .slice A n cap] w (ResPost (resG 10 ks) w) := by
  obtain ⟨x, hx⟩ : ∃ x, ks[0]? = some x := ⟨ks[0]'(by omega), List.getElem?_eq_getElem _⟩
  have hd : ks.headD 0 = x := head_at hx
  obtain ⟨p, hp⟩ : ∃ p, allI x ks = p := ⟨_, rfl⟩
  have HA := Lib.hid (fun w' (t : Touch NoB w w') => areall_any x A n cap ks w' hn hn2 (h.touch t))
  rw [hp] at HA
  have e : resG 10 ks = if p = true then some 1 else none := by
    rw [← hp, ← hd]
    rfl
  rw [e]
  obtain ⟨g, o, rfl, hg, hc⟩ := h 0 x hx
  have hc : w.cell? ⟨g, o, none⟩ = some (.int .i64 x) := hc
  clear e hp hn2 h hx hd hn
  cases p
  all_goals
    go_enter Tryz.func78, Tryz.ntmps78
    go_wp2_with fail
    refine (HA.out _ (by repeat (first | with_reducible exact Touch.refl _ _ | with_reducible refine Touch.drew ?_ | with_reducible refine Touch.drewN ?_ _))).mono ?_
    rintro r w2 ⟨rfl, rfl⟩
    go_wp2
    go_ret2
    exact ⟨_, rfl, (fun x h => by first | (cases h; rfl) | (cases h)), by repeat (first | with_reducible exact Touch.refl _ _ | with_reducible refine Touch.drew ?_ | with_reducible refine Touch.drewN ?_ _)⟩

end Go.Proofs.YtnphaaahdlkmhaaGreat
end
/-
  What package check's result returns of sums. Conditions: those that each theorem names.
-/
section
namespace Go.Proofs.YtnphaaahdlkmhaaGreat
open Go.ChangeShapes Go.WideShapes Go.ChangeAt Go.RowKit Go.Maps
set_option maxRecDepth 100000
set_option maxHeartbeats 4000000

theorem res_add {k : Int} (hk : k = 6 ∨ k = 7) (A : Option Addr) (n cap : Nat) (ks : List Int) (w : World) (hn : ks.length = n) (hn2 : n ≤ 1000) (h : KsAt w A ks) (hpos : 0 < n) :
    Calls Tryz.prog 78 #[.int .i64 k, .slice A n cap] w (ResPost (resG k ks) w) := by
  obtain ⟨p, hp⟩ : ∃ p, allI 0 ks = p := ⟨_, rfl⟩
  obtain ⟨q, hq⟩ : ∃ q, allI 4 ks = q := ⟨_, rfl⟩
  have HA := Lib.hid (fun (q : Int) w' (t : Touch NoB w w') => areall_any q A n cap ks w' hn hn2 (h.touch t))
  have e : resG k ks = if (p || q) = true then some (ks.headD 0) else none := by
    rw [← hp, ← hq]
    rcases hk with rfl | rfl <;> rfl
  rw [e]
  obtain ⟨x, hx⟩ : ∃ x, ks[0]? = some x := ⟨ks[0]'(by omega), List.getElem?_eq_getElem _⟩
  have hd : ks.headD 0 = x := head_at hx
  rw [hd]
  obtain ⟨g, o, rfl, hg, hc⟩ := h 0 x hx
  have hc : w.cell? ⟨g, o, none⟩ = some (.int .i64 x) := hc
  clear e hn2 h hx hd hn
  rcases hk with rfl | rfl <;> cases p <;> cases q
  all_goals
    go_enter Tryz.func78, Tryz.ntmps78
    go_wp2_with fail
    go_quiet (first | (go_at_call 95; exact quiet_same (HA.out _ _ ((Touch.refl _ _).drewN _))))
    go_wp2
    go_ret2
    exact ⟨_, rfl, (fun x h => by first | (cases h; rfl) | (cases h)), by repeat (first | with_reducible exact Touch.refl _ _ | with_reducible refine Touch.drew ?_ | with_reducible refine Touch.drewN ?_ _)⟩
end Go.Proofs.YtnphaaahdlkmhaaGreat
end
