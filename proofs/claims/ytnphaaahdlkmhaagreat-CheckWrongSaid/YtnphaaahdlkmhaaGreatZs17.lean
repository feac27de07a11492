/-
  The kind of an expression of any shape, as plain recursion; what package check's result returns of any kind. Conditions: those that each theorem names.
-/
import Derived.Test.YtnphaaahdlkmhaaGreatZs16
import Derived.Test.YtnphaaahdlkmhaaGreatZs15
import Derived.Deep.AppendLies
section
namespace Go.Proofs.YtnphaaahdlkmhaaGreat
open Go.ChangeShapes Go.WideShapes Go.ChangeAt Go.RowKit Go.Maps
set_option maxRecDepth 100000
set_option maxHeartbeats 4000000

/-- The kinds of some Kids, or the first error. -/
def kidsG (g : GE → Int × Int) : List GE → Except Int (List Int)
  | [] => .ok []
  | x :: r => if (g x).2 = 0 then (match kidsG g r with | .ok vs => .ok ((g x).1 :: vs) | .error e => .error e) else .error (g x).2
def headG (ks : List KyG) (k : Int) (s : ByteArray) (vs : List Int) : Int × Int :=
  if k = 2 then (match kdG ks s with | some v => (v, 0) | none => (0, 5)) else match resG k vs with | some v => (v, 0) | none => (0, 7)
/-- The kind of an expression that is valid, and the error. -/
def kindG (ks : List KyG) : Nat → GE → Int × Int
  | 0, _ => (0, 0)
  | f + 1, .mk k _ s l => match kidsG (kindG ks f) l with | .error e => (0, e) | .ok vs => headG ks k s vs
theorem kidsG_snoc (g : GE → Int × Int) : ∀ (l : List GE) (x : GE), kidsG g (l ++ [x]) = match kidsG g l with | .ok vs => (if (g x).2 = 0 then .ok (vs ++ [(g x).1]) else .error (g x).2) | .error e => .error e
  | [], x => by
    show kidsG g [x] = _
    simp only [kidsG]
    split <;> rfl
  | y :: r, x => by
    show kidsG g (y :: (r ++ [x])) = _
    simp only [kidsG]
    rw [kidsG_snoc g r x]
    split
    · cases kidsG g r with
      | error e => rfl
      | ok vs =>
        by_cases hx : (g x).2 = 0
        · simp [hx]
        · simp [hx]
    · rfl
theorem kidsG_stop (g : GE → Int × Int) : ∀ (l r : List GE) (x : GE) (vs : List Int), kidsG g l = .ok vs → (g x).2 ≠ 0 → kidsG g (l ++ x :: r) = .error (g x).2
  | [], r, x, vs, _, hx => by
    show kidsG g (x :: r) = _
    simp only [kidsG]
    rw [if_neg hx]
  | y :: q, r, x, vs, h, hx => by
    simp only [kidsG] at h
    show kidsG g (y :: (q ++ x :: r)) = _
    simp only [kidsG]
    split at h
    · rename_i h0
      rw [if_pos h0]
      cases hq : kidsG g q with
      | error e => rw [hq] at h; cases h
      | ok us => rw [kidsG_stop g q r x us hq hx]
    · cases h
theorem kidsG_step {g : GE → Int × Int} {l : List GE} {i : Nat} {y : GE} {vs : List Int} (hy : l[i]? = some y) (h : kidsG g (l.take i) = .ok vs) (h0 : (g y).2 = 0) : kidsG g (l.take (i + 1)) = .ok (vs ++ [(g y).1]) := by
  rw [List.take_add_one, hy]
  show kidsG g (l.take i ++ [y]) = _
  rw [kidsG_snoc, h]
  simp only
  rw [if_pos h0]
theorem kidsG_bad {g : GE → Int × Int} {l : List GE} {i : Nat} {y : GE} {vs : List Int} (hy : l[i]? = some y) (h : kidsG g (l.take i) = .ok vs) (h0 : (g y).2 ≠ 0) : kidsG g l = .error (g y).2 := by
  have hi := (List.getElem?_eq_some_iff.1 hy).1
  have hk := (List.getElem?_eq_some_iff.1 hy).2
  have e : l = l.take i ++ y :: l.drop (i + 1) := by
    rw [← hk, ← List.drop_eq_getElem_cons hi, List.take_append_drop]
  rw [e]
  exact kidsG_stop g _ _ y vs h h0
/-- Cells of ints. -/
def icG (l : List Int) : List Value := l.map (Value.int .i64)
theorem icG_snoc (l : List Int) (m : Int) : icG (l ++ [m]) = icG l ++ [.int .i64 m] := by simp [icG]
theorem ksat_row {w : World} {B : Nat} {A : Option Addr} {n cap : Nat} {vs : List Int} (h : w.ownsRow B 3 1 (.slice A n cap) n (icG vs)) (hl : vs.length = n) : KsAt w A vs := by
  intro j x hx
  have hj : j < n := by have := (List.getElem?_eq_some_iff.1 hx).1; omega
  obtain ⟨g, cp, hv, _, _, hob⟩ := row_form h (by omega)
  injection hv with hv1 hv2 hv3
  subst hv1
  refine ⟨g, 0, rfl, row_lt h hob, ?_⟩
  rw [Nat.zero_add, h.cellAt j (by omega)]
  simp [icG, hx]
theorem info_i64 : (Tryz.prog.info? 3).map (fun i => (i.zero, i.size, i.bytes)) = some (some (.int .i64 0), 1, 8) := by kernel_rfl
theorem info_i64' : ∃ i0, Tryz.prog.info? 3 = some i0 ∧ i0.zero = some (.int .i64 0) ∧ i0.size = 1 ∧ i0.bytes = 8 := by
  have h := info_i64
  cases hi : Tryz.prog.info? 3 with
  | none => rw [hi] at h; cases h
  | some i0 =>
    rw [hi] at h
    simp at h
    exact ⟨i0, rfl, h.1, h.2.1, h.2.2⟩
theorem res_any {k : Int} (h0 : 0 ≤ k ∧ k ≤ 19) (h2 : k ≠ 2) (A : Option Addr) (n cap : Nat) (ks : List Int) (w : World) (hn : ks.length = n) (hn2 : n ≤ 1000) (hk : (n : Int) = kidsI k) (h : KsAt w A ks) :
    Calls Tryz.prog 78 #[.int .i64 k, .slice A n cap] w (ResPost (resG k ks) w) := by
  have hc : (k = 0 ∨ k = 1 ∨ k = 3 ∨ k = 4 ∨ k = 5) ∨ (k = 6 ∨ k = 7) ∨ (k = 8 ∨ k = 9) ∨ (k = 16 ∨ k = 17 ∨ k = 19) ∨ (k = 12 ∨ k = 13 ∨ k = 14) ∨ (k = 11 ∨ k = 15) ∨ k = 18 ∨ k = 10 := by omega
  rcases hc with h | h | h | h | h | h | h | h
  · exact res_const h A n cap ks w
  · have : kidsI k = 2 := by rcases h with rfl | rfl <;> rfl
    exact res_add h A n cap ks w hn hn2 ‹_› (by omega)
  · exact res_mul h A n cap ks w hn hn2 ‹_›
  · exact res_re h A n cap ks w hn hn2 ‹_›
  · exact res_and h A n cap ks w hn hn2 ‹_›
  · exact res_less h A n cap ks w hn hn2 ‹_›
  · exact res_turn h A n cap ks w hn hn2 ‹_›
  · subst h
    have : kidsI 10 = 2 := rfl
    exact res_same A n cap ks w hn hn2 ‹_› (by omega)
end Go.Proofs.YtnphaaahdlkmhaaGreat
end
/-
  What package expr's Right returns of an expression of any shape. Conditions: those that each theorem names.
-/
section
namespace Go.Proofs.YtnphaaahdlkmhaaGreat
open Go.ChangeShapes Go.WideShapes Go.ChangeAt Go.RowKit
set_option maxRecDepth 100000
set_option maxHeartbeats 4000000

/-- What package expr's operands returns. -/
def operG (k : Int) : Int := if 4 ≤ k ∧ k ≤ 19 then kidsI k else -1
theorem operG_any (k : Int) (w : World) : Calls Tryz.prog 102 #[.int .i64 k] w fun e w' => e = .returned (.int .i64 (operG k)) ∧ w = w' := by
  by_cases h : 4 ≤ k ∧ k ≤ 19
  · have hk : k = 4 ∨ k = 5 ∨ k = 6 ∨ k = 7 ∨ k = 8 ∨ k = 9 ∨ k = 10 ∨ k = 11 ∨ k = 12 ∨ k = 13 ∨ k = 14 ∨ k = 15 ∨ k = 16 ∨ k = 17 ∨ k = 18 ∨ k = 19 := by omega
    clear h
    rcases hk with rfl | rfl | rfl | rfl | rfl | rfl | rfl | rfl | rfl | rfl | rfl | rfl | rfl | rfl | rfl | rfl
    all_goals
      go_enter Tryz.func102, Tryz.ntmps102
      go_wp2
      go_ret
      exact ⟨rfl, rfl⟩
  · have e : operG k = -1 := by unfold operG; rw [if_neg h]
    rw [e]
    have h4 : (k == 4) = false := by simp; omega
    have h5 : (k == 5) = false := by simp; omega
    have h6 : (k == 6) = false := by simp; omega
    have h7 : (k == 7) = false := by simp; omega
    have h8 : (k == 8) = false := by simp; omega
    have h9 : (k == 9) = false := by simp; omega
    have h10 : (k == 10) = false := by simp; omega
    have h11 : (k == 11) = false := by simp; omega
    have h12 : (k == 12) = false := by simp; omega
    have h13 : (k == 13) = false := by simp; omega
    have h14 : (k == 14) = false := by simp; omega
    have h15 : (k == 15) = false := by simp; omega
    have h16 : (k == 16) = false := by simp; omega
    have h17 : (k == 17) = false := by simp; omega
    have h18 : (k == 18) = false := by simp; omega
    have h19 : (k == 19) = false := by simp; omega
    clear h e
    go_enter Tryz.func102, Tryz.ntmps102
    go_wp2
    go_ret
    exact ⟨rfl, rfl⟩

theorem beq_dec (a b : Int) : (a == b) = decide (a = b) := by by_cases h : a = b <;> simp [h]
theorem empty_dec (s : ByteArray) : s.toList.isEmpty = decide (s.size = 0) := by
  by_cases h : s.size = 0
  · rw [empty_yes h]; simp [h]
  · rw [empty_no h]; simp [h]
theorem lone_int {n : Int} (hn : W64 n) (s : ByteArray) (m : Nat) : aloneG 0 n s m = (decide (-9223372036854775808 < n) && s.toList.isEmpty && ((m : Int) == 0)) := by
  have e : decide (n ≠ -9223372036854775808) = decide (-9223372036854775808 < n) := by rw [decide_eq_decide]; have := hn.1; omega
  unfold aloneG
  rw [show kidsI 0 = 0 from rfl, if_neg (by omega), if_pos rfl, e, beq_dec, empty_dec, show decide ((0 : Int) ≤ 0 ∧ (0 : Int) ≤ 19) = true from rfl]
  cases decide ((m : Int) = 0) <;> cases decide (s.size = 0) <;> cases decide (-9223372036854775808 < n) <;> rfl
theorem lone_bool (n : Int) (s : ByteArray) (m : Nat) : aloneG 1 n s m = (((n == 0) || (n == 1)) && s.toList.isEmpty && ((m : Int) == 0)) := by
  have e : decide (n = 0 ∨ n = 1) = (decide (n = 0) || decide (n = 1)) := by simp
  unfold aloneG
  rw [show kidsI 1 = 0 from rfl, if_neg (by omega), if_neg (by omega), if_pos rfl, e, beq_dec, beq_dec, beq_dec, empty_dec, show decide ((0 : Int) ≤ 1 ∧ (1 : Int) ≤ 19) = true from rfl]
  cases decide ((m : Int) = 0) <;> cases decide (s.size = 0) <;> cases decide (n = 0) <;> cases decide (n = 1) <;> rfl
theorem lone_name {k : Int} (hk : k = 2 ∨ k = 3) (n : Int) (s : ByteArray) (m : Nat) : aloneG k n s m = ((n == 0) && okS s && ((m : Int) == 0)) := by
  unfold aloneG
  rw [kids_named hk, if_pos hk, if_neg (by omega), if_neg (by omega), beq_dec, beq_dec, decide_eq_true (show 0 ≤ k ∧ k ≤ 19 by omega)]
  cases decide ((m : Int) = 0) <;> cases okS s <;> cases decide (n = 0) <;> rfl
theorem lone_rest {k : Int} (h0 : k ≠ 0) (h1 : k ≠ 1) (h2 : k ≠ 2) (h3 : k ≠ 3) (n : Int) (s : ByteArray) (m : Nat) : aloneG k n s m = ((n == 0) && s.toList.isEmpty && ((m : Int) == operG k)) := by
  unfold aloneG operG
  rw [if_neg (show ¬ (k = 2 ∨ k = 3) by omega), if_neg h0, if_neg h1, beq_dec, beq_dec, empty_dec]
  by_cases h : 4 ≤ k ∧ k ≤ 19
  · rw [if_pos h, decide_eq_true (show 0 ≤ k ∧ k ≤ 19 by omega)]
    cases decide ((m : Int) = kidsI k) <;> cases decide (s.size = 0) <;> cases decide (n = 0) <;> rfl
  · rw [if_neg h, decide_eq_false (show ¬ (0 ≤ k ∧ k ≤ 19) by omega), decide_eq_false (show ¬ ((m : Int) = -1) by omega)]
    cases decide (s.size = 0) <;> cases decide (n = 0) <;> rfl
theorem alone_any {k n : Int} {s : ByteArray} (hn : W64 n) (hs : s.size ≤ 9223372036854775807) (A : Option Addr) (m c : Nat) (w : World) :
    Calls Tryz.prog 94 #[.agg #[.int .i64 k, .int .i64 n, .string s, .slice A m c]] w fun e w' => e = .returned (.bool (aloneG k n s m)) ∧ Touch NoB w w' := by
  obtain ⟨p3, h3⟩ : ∃ p, ((m : Int) == 0) = p := ⟨_, rfl⟩
  obtain ⟨p2, h2⟩ : ∃ p, s.toList.isEmpty = p := ⟨_, rfl⟩
  by_cases k0 : k = 0
  · subst k0
    obtain ⟨p1, h1⟩ : ∃ p, decide (-9223372036854775808 < n) = p := ⟨_, rfl⟩
    rw [lone_int hn, h1, h2, h3]
    clear hn hs
    cases p1 <;> cases p2 <;> cases p3
    all_goals
      go_enter Tryz.func94, Tryz.ntmps94
      go_wp2
      go_ret
      exact ⟨rfl, (Touch.refl _ _).alloc _⟩
  by_cases k1 : k = 1
  · subst k1
    obtain ⟨p1, h1⟩ : ∃ p, (n == 0) = p := ⟨_, rfl⟩
    obtain ⟨p4, h4⟩ : ∃ p, (n == 1) = p := ⟨_, rfl⟩
    rw [lone_bool, h1, h2, h3, h4]
    clear hn hs k0
    cases p1 <;> cases p2 <;> cases p3 <;> cases p4
    all_goals
      go_enter Tryz.func94, Tryz.ntmps94
      go_wp2
      go_ret
      exact ⟨rfl, (Touch.refl _ _).alloc _⟩
  by_cases k2 : k = 2 ∨ k = 3
  · have HL := Lib.hid (fun w => lname_any s hs w)
    obtain ⟨p1, h1⟩ : ∃ p, (n == 0) = p := ⟨_, rfl⟩
    rw [lone_name k2, h1, h3]
    unfold okS
    obtain ⟨p4, h4⟩ : ∃ p, (nameB s && !wrd s) = p := ⟨_, rfl⟩
    rw [h4] at HL ⊢
    clear hn hs k0 k1 h2 h4
    rcases k2 with rfl | rfl <;> cases p1 <;> cases p3 <;> cases p4
    all_goals
      go_enter Tryz.func94, Tryz.ntmps94
      go_wp2_with (first | (go_at_call 101; refine (HL.out _).mono ?_; rintro e w' ⟨rfl, rfl⟩))
      go_ret
      exact ⟨rfl, (Touch.refl _ _).alloc _⟩
  have HO := Lib.hid (fun w => operG_any k w)
  obtain ⟨p1, h1⟩ : ∃ p, (n == 0) = p := ⟨_, rfl⟩
  obtain ⟨z, hz⟩ : ∃ z, operG k = z := ⟨_, rfl⟩
  rw [lone_rest k0 k1 (by omega) (by omega), h1, h2, hz]
  rw [hz] at HO
  have e0 : (k == 0) = false := by simpa using k0
  have e1 : (k == 1) = false := by simpa using k1
  have e2 : (k == 2) = false := by simp; omega
  have e3 : (k == 3) = false := by simp; omega
  obtain ⟨p4, h4⟩ : ∃ p, ((m : Int) == z) = p := ⟨_, rfl⟩
  rw [h4]
  clear hn hs k0 k1 k2 h3 hz
  cases p1 <;> cases p2 <;> cases p4
  all_goals
    go_enter Tryz.func94, Tryz.ntmps94
    go_wp2_with fail
    go_quiet (first | (go_at_call 102; exact quiet_same (HO.out _)))
    go_wp2
    go_ret
    exact ⟨rfl, by repeat (first | with_reducible exact Touch.refl _ _ | with_reducible refine Touch.drew ?_ | with_reducible refine Touch.drewN ?_ _ | with_reducible refine Touch.alloc ?_ _)⟩
end Go.Proofs.YtnphaaahdlkmhaaGreat
end
/-
  What package expr's Right returns of an expression of any shape. Conditions: those that each theorem names.
-/
section
namespace Go.Proofs.YtnphaaahdlkmhaaGreat
open Go.ChangeShapes Go.WideShapes Go.ChangeAt Go.RowKit
set_option maxRecDepth 100000
set_option maxHeartbeats 4000000

theorem GAt.lone {w : World} {d : Nat} {k n : Int} {q : ByteArray} {l : List GE} {a b : Int} {s : ByteArray} {A : Option Addr} {m : Nat} (h : GAt w (d + 1) (.mk k n q l) a b s A m) : W64 b ∧ s.size ≤ 9223372036854775807 ∧ m ≤ 9223372036854775807 := by
  obtain ⟨rfl, rfl, rfl, -, -, h1, h2, h3, -⟩ := h
  exact ⟨h1, h2, h3⟩
theorem right_ge : ∀ (f : Nat), f ≤ 40 → ∀ (x : GE) (w : World) (d : Nat) {a b : Int} {s : ByteArray} {A : Option Addr} {m c : Nat}, GAt w d x a b s A m → m ≤ c →
    Calls Tryz.prog 77 #[.agg #[.int .i64 a, .int .i64 b, .string s, .slice A m c], .int .i64 (f : Int)] w fun e w' => e = .returned (.bool (rightG f x)) ∧ Touch NoB w w'
  | 0, _, x, w, d, a, b, s, A, m, c, _, _ => by
    go_enter Tryz.func77, Tryz.ntmps77
    go_wp2
    go_ret
    exact ⟨rfl, (Touch.refl _ _).alloc _⟩
  | f + 1, hf, x, w, 0, a, b, s, A, m, c, hx, _ => hx.elim
  | f + 1, hf, .mk k n t l, w, d + 1, a, b, s, A, m, c, hx, hc => by
    have ih := Lib.hid (fun (y : GE) (w : World) (a b : Int) (s : ByteArray) (A : Option Addr) (m c : Nat) (hy : GAt w d y a b s A m) (hm : m ≤ c) => right_ge f (by omega) y w d hy hm)
    have HX := Lib.hid hx
    have HA := Lib.hid (fun w => alone_any (k := a) hx.lone.1 hx.lone.2.1 A m c w)
    obtain ⟨rfl, rfl, rfl, hl, -, -, hs, hm, -⟩ := hx
    obtain ⟨D, hD⟩ : ∃ D : Int, ((f + 1 : Nat) : Int) = D := ⟨_, rfl⟩
    have hsub : IntKind.i64.wrap (D - 1) = (f : Int) := by rw [IntWalk.i64_in _ (by omega)]; omega
    have hlt1 : decide (D < 1) = false := by simp; omega
    rw [hD]
    unfold rightG
    rw [hl]
    have HL := Lib.hid (And.intro hl (And.intro hc hm))
    cases ha : aloneG a b s m with
    | false =>
      rw [Bool.false_and]
      rw [ha] at HA
      clear hf hD hl hm hs ha ih
      go_enter Tryz.func77, Tryz.ntmps77
      go_wp2_with (first | (go_at_call 94; refine (HA.out _).mono ?_; rintro r w1 ⟨rfl, hT1⟩))
      go_ret
      exact ⟨rfl, ((Touch.refl _ _).alloc _).same hT1⟩
    | true =>
      rw [Bool.true_and]
      rw [ha] at HA
      clear hf hD hl hm hs ha
      go_enter Tryz.func77, Tryz.ntmps77
      go_wp2_with (first | (go_at_call 94; refine (HA.out _).mono ?_; rintro r w1 ⟨rfl, hT1⟩; refine Hid.out ?_))
      refine Lib.hid ?_
      obtain ⟨p0, p1, p2, p3, p4⟩ := ((gbw_blk w a b s A m c).touch hT1).cells
      have HT1 := Lib.hid ((gbw_touch w a b s A m c).same hT1)
      clear hT1
      go_wp2
      go_loopw [17] (fun v5 wr => RgRel f l m w v5 wr) (fun v5 _ => m - (intOf v5).toNat)
      case atStart => exact ⟨0, Nat.zero_le _, rfl, fun j y hj => by omega, HT1.out⟩
      case round =>
        obtain ⟨i, hi, rfl, hno, hTr⟩ := hrel
        have hm9 := HL.out.2.2
        by_cases hlt : i < m
        · obtain ⟨y, hy⟩ : ∃ y, l[i]? = some y := ⟨l[i]'(by rw [HL.out.1]; exact hlt), List.getElem?_eq_getElem _⟩
          obtain ⟨g, o, a1, b1, s1, A1, m1, c1, rfl, -, q0, q1, q2, q3, hm1, ket⟩ := HX.out.kid hTr hy
          have HR := Lib.hid (fun W (hW : Touch NoB wr W) => ih.out y W a1 b1 s1 A1 m1 c1 (ket.touch hW) hm1)
          have HN := Lib.hid (And.intro hno hy)
          have HT := Lib.hid hTr
          clear hTr ket hno hy
          cases hb : rightG f y
          · rw [hb] at HR
            have HS := Lib.hid (all_wrong HN.out.2 hb)
            clear hb
            go_wp2_with fail
            refine (HR.out _ ((Touch.refl _ _).alloc _)).mono ?_
            rintro r w2 ⟨rfl, hT2⟩
            have HT2 := Lib.hid (HT.out.same (((Touch.refl _ _).alloc _).same hT2))
            clear hT2
            go_wp2
            go_ret
            exact ⟨ret_bool HS.out.symm, HT2.out⟩
          · rw [hb] at HR
            have HB := Lib.hid hb
            clear hb
            go_wp2_with fail
            refine (HR.out _ ((Touch.refl _ _).alloc _)).mono ?_
            rintro r w2 ⟨rfl, hT2⟩
            have HT2 := Lib.hid (HT.out.same (((Touch.refl _ _).alloc _).same hT2))
            clear hT2
            go_wp2
            go_roundw
            case rel =>
              refine ⟨i + 1, by omega, by go_num, fun j y' hj h1 => ?_, HT2.out⟩
              by_cases ej : j = i
              · subst ej
                have e1 := HN.out.2.symm.trans h1
                injection e1 with e1
                subst e1
                exact HB.out
              · exact HN.out.1 j y' (by omega) h1
            case measure => simp [intOf]; omega
        · obtain rfl : i = m := by omega
          have HS := Lib.hid (all_right (f := f) (l := l) (fun j y hj => by rw [HL.out.1] at hj; exact hno j y hj))
          have HT := Lib.hid hTr
          clear hTr hno
          go_wp2
          go_ret
          exact ⟨ret_bool HS.out.symm, HT.out⟩
theorem rightp_any (x : GE) (w : World) (d : Nat) {a b : Int} {s : ByteArray} {A : Option Addr} {m c : Nat} (hx : GAt w d x a b s A m) (hc : m ≤ c) :
    Calls Tryz.prog 53 #[.agg #[.int .i64 a, .int .i64 b, .string s, .slice A m c]] w fun e w' => e = .returned (.bool (rightG 40 x)) ∧ Touch NoB w w' := by
  have HR := Lib.hid (fun W (t : Touch NoB w W) => right_ge 40 (by omega) x W d (hx.touch t) hc)
  clear hx hc
  go_enter Tryz.func53, Tryz.ntmps53
  go_wp2_with fail
  refine (HR.out _ ((Touch.refl _ _).alloc _)).mono ?_
  rintro r w2 ⟨rfl, hT2⟩
  have HT2 := Lib.hid (((Touch.refl NoB w).alloc (.cells #[.int .i64 a, .int .i64 b, .string s, .slice A m c] 44)).same hT2)
  clear hT2
  go_wp2
  go_ret
  exact ⟨rfl, HT2.out⟩
end Go.Proofs.YtnphaaahdlkmhaaGreat
end
/-
  What package check's valid, kind and Kind return of an expression of any shape. Conditions: those that each theorem names.
-/
section
namespace Go.Proofs.YtnphaaahdlkmhaaGreat
open Go.ChangeShapes Go.WideShapes Go.ChangeAt Go.RowKit Go.Maps
set_option maxRecDepth 100000
set_option maxHeartbeats 4000000

/-- The kinds of the first i Kids stand in the row v6. -/
def VdRel (g : GE → Int × Int) (l : List GE) (m B : Nat) (w : World) (v6 v18 : Value) (wr : World) : Prop := ∃ (i : Nat) (vs : List Int), i ≤ m ∧ v18 = .int .i64 i ∧ kidsG g (l.take i) = .ok vs ∧ vs.length = i ∧ wr.ownsRow B 3 1 v6 i (icG vs) ∧ Touch NoB w wr
theorem valid_any {ks : List KyG} {mb nk : Nat} : ∀ (f : Nat), f ≤ 40 → ∀ (x : GE), rightG f x = true → ∀ (w : World) (d : Nat) {a b : Int} {s : ByteArray} {A : Option Addr} {m c : Nat}, GAt w d x a b s A m → m ≤ c → KM w mb nk ks →
    Calls Tryz.prog 54 #[.map (some mb), .agg #[.int .i64 a, .int .i64 b, .string s, .slice A m c]] w fun e w' => e = .returned (.tuple #[.int .i64 (kindG ks f x).1, .int .i64 (kindG ks f x).2]) ∧ Touch NoB w w'
  | 0, _, x, hr, _, _, _, _, _, _, _, _, _, _, _ => by simp [rightG] at hr
  | f + 1, hf, x, _, w, 0, a, b, s, A, m, c, hx, _, _ => hx.elim
  | f + 1, hf, .mk k n t l, hr, w, d + 1, a, b, s, A, m, c, hx, hc, hM => by
    have ih := Lib.hid (fun (y : GE) (hy0 : rightG f y = true) (w : World) (a b : Int) (s : ByteArray) (A : Option Addr) (m c : Nat) (hy : GAt w d y a b s A m) (hm : m ≤ c) (hM : KM w mb nk ks) => valid_any f (by omega) y hy0 w d hy hm hM)
    have HX := Lib.hid hx
    have HM := Lib.hid hM
    obtain ⟨rfl, rfl, rfl, hl, -, -, hs, hm, -⟩ := hx
    unfold rightG at hr
    rw [hl, Bool.and_eq_true, List.all_eq_true] at hr
    obtain ⟨hr1, hr2⟩ := hr
    obtain ⟨hkm, hal⟩ := alone_yes hr1
    have hm2 : m ≤ 2 := by unfold kidsI at hkm; split at hkm <;> (try split at hkm) <;> omega
    have hrng : 0 ≤ a ∧ a ≤ 19 := by omega
    obtain ⟨i0, hi, hz0, hz1, hz2⟩ := info_i64'
    obtain ⟨R, hR⟩ : ∃ R, kindG ks (f + 1) (.mk a b s l) = R := ⟨_, rfl⟩
    rw [hR]
    unfold kindG at hR
    obtain ⟨g, hg⟩ : ∃ g, kindG ks f = g := ⟨_, rfl⟩
    rw [hg] at ih hR
    have HRR := Lib.hid hR
    have HL := Lib.hid (And.intro hl (And.intro hc (And.intro hr2 (And.intro hkm (And.intro hrng hs)))))
    clear hf hg hl hm hr1 hr2 hal hkm hM hs hR
    go_enter Tryz.func54, Tryz.ntmps54
    go_wp2
    go_loopw [6, 18] (fun v6 v18 wr => VdRel g l m (w.heap.size + 1) (gbw w a b s A m c) v6 v18 wr) (fun _ v18 _ => m - (intOf v18).toNat)
    case atStart => exact ⟨0, [], Nat.zero_le _, rfl, rfl, rfl, World.ownsRow_nil _ _ _ _, Touch.refl _ _⟩
    case round =>
      obtain ⟨i, vs, hi6, rfl, hks, hvl, hrow, hTr0⟩ := hrel
      obtain ⟨p0, p1, p2, p3, p4⟩ := ((gbw_blk w a b s A m c).touch hTr0).cells
      have hTr := (gbw_touch w a b s A m c).same hTr0
      have HT0 := Lib.hid hTr0
      have hsz : w.heap.size + 1 ≤ wr.heap.size := by have := hTr0.size; unfold gbw at this; rw [World.size_alloc] at this; exact this
      obtain ⟨Ao, co, rfl, hco1, hco2⟩ := row_any hrow
      clear hTr0
      by_cases hlt : i < m
      · obtain ⟨y, hy⟩ : ∃ y, l[i]? = some y := ⟨l[i]'(by rw [HL.out.1]; exact hlt), List.getElem?_eq_getElem _⟩
        obtain ⟨gk, o, a1, b1, s1, A1, m1, c1, rfl, -, q0, q1, q2, q3, hm1, ket⟩ := HX.out.kid hTr hy
        have hry := HL.out.2.2.1 y (List.mem_of_getElem? hy)
        have HR := Lib.hid (fun W (hW : Touch NoB wr W) => ih.out y hry W a1 b1 s1 A1 m1 c1 (ket.touch hW) hm1 (HM.out.touch (hTr.same hW) (fun f => f)))
        have HN := Lib.hid (And.intro hks (And.intro hy hvl))
        have HO := Lib.hid hrow
        have HT := Lib.hid hTr
        clear hTr ket hks hy hry hrow hvl
        obtain ⟨v, hv⟩ : ∃ v, (g y).1 = v := ⟨_, rfl⟩
        obtain ⟨e, he⟩ : ∃ e, (g y).2 = e := ⟨_, rfl⟩
        rw [hv, he] at HR
        have HV := Lib.hid (And.intro hv he)
        clear hv he
        by_cases he0 : e = 0
        · have hne : (e != 0) = false := by simpa using he0
          have HE := Lib.hid he0
          clear he0
          go_wp2_with fail
          refine (HR.out _ ((Touch.refl _ _).alloc _)).mono ?_
          rintro r w2 ⟨rfl, hT2⟩
          have hT3 : Touch NoB wr w2 := ((Touch.refl _ _).alloc _).same hT2
          have HO2 := Lib.hid (row_touch HO.out hT3 (fun k hk f => f))
          have hsz2 := hT3.size
          have HT2 := Lib.hid (HT0.out.same hT3)
          clear hT2 hT3
          go_wp2_with (at_builtin; refine wpList_append_own_at _ rfl (.tmp 31) (.tmp 33) 24 rfl (w.heap.size + 1) 3 i0 _ 1 8 Tryz.underlying24 hi hz0 hz1 hz2 rfl (by decide) _ i (icG vs) rfl ?o1 ⟨w2.heap.size, 0, none⟩ 1 1 [.int .i64 v] rfl rfl ?c1 ?c2 ?c3 ?c4 ?c5 ?go)
          case o1 => exact HO2.out.alloc _
          case c1 => exact cell_one_new _ _ _
          case c2 => intro u hu; simp at hu; subst hu; rfl
          case c3 => unfold maxLen; omega
          case c4 => omega
          case c5 => first | omega | (rw [World.size_alloc]; omega) | (simp; omega)
          case go =>
          intro v3 w3 hown3 hgrow _ _
          have HT3 := Lib.hid ((HT2.out.alloc _).grown hgrow (fun k e => .inr (by have := (HO2.out.lt k e).1; unfold gbw; rw [World.size_alloc]; omega)))
          have HO3 := Lib.hid hown3
          clear hown3 hgrow
          go_wp2
          go_roundw
          case rel =>
            refine ⟨i + 1, vs ++ [v], by omega, by go_num, ?_, by simp [HN.out.2.2], ?_, HT3.out⟩
            · rw [← HV.out.1]
              exact kidsG_step HN.out.2.1 HN.out.1 (HV.out.2.trans HE.out)
            · rw [icG_snoc]; exact HO3.out
          case measure => simp [intOf]; omega
        · have hne : (e != 0) = true := by simpa using he0
          have HE : Hid (kidsG g l = .error e) := Lib.hid (by
            have := kidsG_bad HN.out.2.1 HN.out.1 (fun h => he0 (HV.out.2.symm.trans h))
            rw [this, HV.out.2])
          clear he0
          go_wp2_with fail
          refine (HR.out _ ((Touch.refl _ _).alloc _)).mono ?_
          rintro r w2 ⟨rfl, hT2⟩
          have HT2 := Lib.hid (HT.out.same (((Touch.refl _ _).alloc _).same hT2))
          clear hT2
          go_wp2
          go_ret2
          have e9 : R = (0, e) := by have h := HRR.out; rw [HE.out] at h; exact h.symm
          exact ⟨by simp [e9], HT2.out⟩
      · obtain rfl : i = m := by omega
        have hks' : kidsG g l = .ok vs := by rw [← hks, List.take_of_length_le (by have := HL.out.1; omega)]
        have HT := Lib.hid hTr
        have hR2 : R = headG ks a s vs := by have h := HRR.out; rw [hks'] at h; exact h.symm
        unfold headG at hR2
        by_cases h2 : a = 2
        · have e2 : (a == 2) = true := by simpa using h2
          rw [if_pos h2] at hR2
          obtain ⟨z, hrun, hz⟩ := (HM.out.touch hTr (fun f => f)).look HL.out.2.2.2.2.2
          clear hTr hks hks' hrow h2
          cases hf : kdG ks s with
          | none =>
            rw [hf] at hrun hR2
            have HR2 := Lib.hid hR2
            clear hf hz hR2
            go_wp2
            go_ret2
            exact ⟨by simp [HR2.out], HT.out⟩
          | some v =>
            rw [hf] at hrun hR2
            have e : z = v := hz v hf
            subst e
            have HR2 := Lib.hid hR2
            clear hf hz hR2
            go_wp2
            go_ret2
            exact ⟨by simp [HR2.out], HT.out⟩
        · have e2 : (a == 2) = false := by simpa using h2
          rw [if_neg h2] at hR2
          have HRS := Lib.hid (res_any HL.out.2.2.2.2.1 h2 Ao i co vs wr hvl (by omega) HL.out.2.2.2.1 (ksat_row hrow hvl))
          cases hq : resG a vs with
          | none =>
            rw [hq] at HRS hR2
            have HR2 := Lib.hid hR2
            clear hTr hks hks' hrow h2 hvl hq hR2
            go_wp2_with fail
            refine HRS.out.mono ?_
            rintro r w2 ⟨v, rfl, -, hT2⟩
            have HT2 := Lib.hid (HT.out.same hT2)
            clear hT2
            go_wp2
            go_ret2
            exact ⟨by simp [HR2.out], HT2.out⟩
          | some q =>
            rw [hq] at HRS hR2
            have HR2 := Lib.hid hR2
            clear hTr hks hks' hrow h2 hvl hq hR2
            go_wp2_with fail
            refine HRS.out.mono ?_
            rintro r w2 ⟨v, rfl, hv, hT2⟩
            have HT2 := Lib.hid (HT.out.same hT2)
            obtain rfl : q = v := hv q rfl
            clear hT2 hv
            go_wp2
            go_ret2
            exact ⟨by simp [HR2.out], HT2.out⟩
end Go.Proofs.YtnphaaahdlkmhaaGreat
end
