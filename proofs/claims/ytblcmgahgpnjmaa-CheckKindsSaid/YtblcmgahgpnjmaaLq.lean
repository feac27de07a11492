/-
  The lexer over lists of bytes: where its tokens stand; what a text of word's bytes alone comes to: numbers, names. No program is named here.
-/
import Derived.Test.YtblcmgahgpnjmaaLp
namespace Go.Proofs.Ytblcmgahgpnjmaa

theorem skip_suffix (l : Bs) (s : Bool) : skipL s l = l.drop (l.length - (skipL s l).length) := by
  cases h : skipL s l with
  | nil => simp
  | cons c r =>
    obtain ⟨p, hp, _⟩ := skip_closed l s _ h (by simp)
    rw [hp]
    simp

/-- The tokens ts of b, from place a on: each stands where it says, in rising order, as it is written; the last, and it alone, is the end. -/
def PlOk (b : Bs) : Nat → List Tk → Prop
  | _, [] => False
  | a, [t] => t.kd = 0 ∧ t.pl = b.length ∧ a ≤ t.pl ∧ t.tx = [] ∧ t.n = 0
  | a, t :: u :: r => (t.kd = 1 ∨ t.kd = 2 ∨ t.kd = 3 ∨ t.kd = 4) ∧ a ≤ t.pl ∧ t.pl < b.length ∧ (b.drop t.pl).take t.tx.length = t.tx ∧ t.tx.length ≤ b.length - t.pl ∧ PlOk b (t.pl + 1) (u :: r)
theorem places : ∀ (f a : Nat) (b : Bs) (ts : List Tk), a ≤ b.length → toksL f a (b.drop a) = .good ts → PlOk b a ts
  | 0, a, b, ts, _, h => by simp [toksL] at h
  | f + 1, a, b, ts, ha, h => by
    have hsf := skip_suffix (b.drop a) false
    have hsl := skip_len (b.drop a) false
    simp only [toksL] at h
    split at h
    · rename_i hm
      injection h with h
      subst h
      exact ⟨rfl, by simp; omega, by simp, rfl, rfl⟩
    · rename_i c r hm
      rw [hm] at hsf hsl
      split at h
      · cases h
      · rename_i t n ht
        obtain ⟨e1, e2, e3, e4⟩ := tok_at ht
        have hn := tok_len ht
        rw [List.length_drop] at hsl e1 h ht hsf
        have hcr : c :: r = b.drop t.pl := by
          have := hsf
          rw [List.drop_drop, ← e1] at this
          exact this
        have hcl : (c :: r).length = b.length - t.pl := by rw [hcr, List.length_drop]
        have hpl : t.pl < b.length := by
          have : 1 ≤ (c :: r).length := by simp
          omega
        cases hx : toksL f (a + (b.length - a - (c :: r).length) + n) ((c :: r).drop n) with
        | bad p => rw [hx] at h; simp [Lx.cons] at h
        | good us =>
          rw [hx] at h
          simp only [Lx.cons] at h
          injection h with h
          subst h
          have hx' : toksL f (t.pl + n) (b.drop (t.pl + n)) = .good us := by
            rw [← e1, hcr, List.drop_drop] at hx
            exact hx
          have := places f (t.pl + n) b us (by omega) hx'
          have hmono : ∀ us x y, x ≤ y → PlOk b y us → PlOk b x us := by
            intro us x y hxy hp
            match us, hp with
            | [t], hp => exact ⟨hp.1, hp.2.1, by have := hp.2.2.1; omega, hp.2.2.2.1, hp.2.2.2.2⟩
            | t :: u :: r, hp => exact ⟨hp.1, by have := hp.2.1; omega, hp.2.2.1, hp.2.2.2.1, hp.2.2.2.2.1, hp.2.2.2.2.2⟩
          match us, this with
          | u :: rest, hp => exact ⟨e2, by omega, hpl, by rw [← hcr]; exact e3, by omega, hmono _ _ _ (by omega) hp⟩
/-- .. and an error stands within the text. -/
theorem bad_place : ∀ (f a : Nat) (b : Bs) (p : Nat), b.length - a < f → a ≤ b.length → toksL f a (b.drop a) = .bad p → a ≤ p ∧ p < b.length
  | 0, a, b, p, hf, _, _ => by omega
  | f + 1, a, b, p, hf, ha, h => by
    have hsf := skip_suffix (b.drop a) false
    have hsl := skip_len (b.drop a) false
    simp only [toksL] at h
    split at h
    · cases h
    · rename_i c r hm
      rw [hm] at hsf hsl
      rw [List.length_drop] at hsl hsf h
      have hcl1 : 1 ≤ (c :: r).length := by simp
      split at h
      · injection h with h
        omega
      · rename_i t n ht
        have hn := tok_len ht
        have hcr : c :: r = b.drop (a + (b.length - a - (c :: r).length)) := by
          have := hsf
          rw [List.drop_drop] at this
          exact this
        generalize hk : a + (b.length - a - (c :: r).length) = k at h hcr
        have hcl : (c :: r).length = b.length - k := by rw [hcr, List.length_drop]
        cases hx : toksL f (k + n) ((c :: r).drop n) with
        | good us => rw [hx] at h; simp [Lx.cons] at h
        | bad q =>
          rw [hx] at h
          simp only [Lx.cons] at h
          injection h with h
          subst h
          rw [hcr, List.drop_drop] at hx
          have := bad_place f (k + n) b q (by omega) (by omega) hx
          omega
theorem lex_places {b : Bs} {ts : List Tk} (h : lexL b = .good ts) : PlOk b 0 ts := places _ 0 b ts (Nat.zero_le _) h
theorem lex_bad {b : Bs} {p : Nat} (h : lexL b = .bad p) : p < b.length := (bad_place _ 0 b p (by omega) (Nat.zero_le _) h).2

/-! ### one word -/
theorem take_all {w : Bs} (h : w.all bW = true) : List.takeWhile bW w = w := by
  induction w with
  | nil => rfl
  | cons c r ih =>
    simp only [List.all_cons, Bool.and_eq_true] at h
    rw [List.takeWhile_cons, if_pos h.1, ih h.2]
theorem bW_stay {c : UInt8} {r : Bs} (h : bW c = true) : skipL false (c :: r) = c :: r := by
  simp only [bW, bL, bD, Bool.or_eq_true, decide_eq_true_eq] at h
  exact skip_stay (by simp only [bB, decide_eq_false_iff_not]; omega) (by omega)
/-- A text that is one token. -/
theorem lex_one {c : UInt8} {r : Bs} {t : Tk} (hw : bW c = true) (h : tokL 0 (c :: r) = some (t, (c :: r).length)) : lexL (c :: r) = .good [t, ⟨0, 0, (c :: r).length, []⟩] := by
  unfold lexL
  simp only [toksL, bW_stay hw, Nat.sub_self, Nat.add_zero, h]
  have e : (c :: r).drop (c :: r).length = [] := List.drop_length
  rw [e]
  simp [toksL, skipL, Lx.cons]
/-- A text whose first token is none. -/
theorem lex_none {c : UInt8} {r : Bs} (hw : bW c = true) (h : tokL 0 (c :: r) = none) : lexL (c :: r) = .bad 0 := by
  unfold lexL
  simp only [toksL, bW_stay hw, Nat.sub_self, Nat.add_zero, h]
theorem L_not_D {c : UInt8} (h : bL c = true) : bD c = false := by
  simp only [bL, bD, Bool.or_eq_true, decide_eq_true_eq, decide_eq_false_iff_not] at h ⊢
  omega
theorem all_W_of_D {w : Bs} (h : w.all bD = true) : w.all bW = true := by
  rw [List.all_eq_true] at h ⊢
  exact fun c hc => bW_D (h c hc)
/-- A name is one token. -/
theorem lex_name {c : UInt8} {r : Bs} (h : (c :: r).all bW = true) (hl : bL c = true) (hk : kw.contains (c :: r) = false) (hn : (c :: r).length ≤ 24) : lexL (c :: r) = .good [⟨1, 0, 0, c :: r⟩, ⟨0, 0, (c :: r).length, []⟩] := by
  refine lex_one (bW_L hl) ?_
  simp only [tokL, take_all h]
  rw [if_neg (by rw [L_not_D hl]; simp), if_pos hl, if_neg (by rw [hk]; simp), if_pos hn]
/-- Digits are a number. -/
theorem lex_digits {c : UInt8} {r : Bs} (h : (c :: r).all bD = true) (hv : valL (c :: r) ≤ 9223372036854775807) (h0 : ¬ (c.toNat = 48 ∧ 1 < (c :: r).length)) : lexL (c :: r) = .good [⟨3, valL (c :: r), 0, []⟩, ⟨0, 0, (c :: r).length, []⟩] := by
  have hc : bD c = true := by simp only [List.all_cons, Bool.and_eq_true] at h; exact h.1
  refine lex_one (bW_D hc) ?_
  simp only [tokL, take_all (all_W_of_D h)]
  rw [if_pos hc, if_pos ⟨h, hv, h0⟩]
/-- .. unless the first of several is 0. -/
theorem lex_zero {c : UInt8} {r : Bs} (h : (c :: r).all bW = true) (hc : c.toNat = 48) (hr : 1 < (c :: r).length) : lexL (c :: r) = .bad 0 := by
  have hd : bD c = true := by simp only [bD, decide_eq_true_eq]; omega
  refine lex_none (bW_D hd) ?_
  simp only [tokL, take_all h]
  rw [if_pos hd, if_neg (fun e => e.2.2 ⟨hc, hr⟩)]
/-- .. or a letter stands behind them. -/
theorem lex_behind {c : UInt8} {r : Bs} (h : (c :: r).all bW = true) (hd : bD c = true) (hr : (c :: r).all bD = false) : lexL (c :: r) = .bad 0 := by
  refine lex_none (bW_D hd) ?_
  simp only [tokL, take_all h]
  rw [if_pos hd, if_neg (fun e => by rw [hr] at e; exact Bool.noConfusion e.1)]

/-- The digits of a number. -/
def decF : Nat → Nat → Bs
  | 0, n => [UInt8.ofNat (48 + n % 10)]
  | f + 1, n => if 9 < n then decF f (n / 10) ++ [UInt8.ofNat (48 + n % 10)] else [UInt8.ofNat (48 + n % 10)]
theorem dig_nat (n : Nat) : (UInt8.ofNat (48 + n % 10)).toNat = 48 + n % 10 := by
  rw [UInt8.toNat_ofNat']
  omega
theorem dig_D (n : Nat) : bD (UInt8.ofNat (48 + n % 10)) = true := by
  simp only [bD, dig_nat, decide_eq_true_eq]
  omega
theorem decF_D : ∀ (f n : Nat), (decF f n).all bD = true
  | 0, n => by simp only [decF, List.all_cons, dig_D, List.all_nil, Bool.and_true]
  | f + 1, n => by
    simp only [decF]
    split
    · rw [List.all_append, decF_D f]; simp only [List.all_cons, dig_D, List.all_nil, Bool.and_true]
    · simp only [List.all_cons, dig_D, List.all_nil, Bool.and_true]
theorem val_snoc (l : Bs) (c : UInt8) : valL (l ++ [c]) = 10 * valL l + (c.toNat - 48) := by simp [valL, List.foldl_append]
theorem decF_val : ∀ (f n : Nat), n < 10 ^ (f + 1) → valL (decF f n) = n
  | 0, n, h => by
    show valL [UInt8.ofNat (48 + n % 10)] = n
    have := val_snoc [] (UInt8.ofNat (48 + n % 10))
    rw [List.nil_append, dig_nat] at this
    rw [this]
    simp [valL]
    omega
  | f + 1, n, h => by
    have h2 : n / 10 < 10 ^ (f + 1) := by
      rw [Nat.pow_succ] at h
      exact Nat.div_lt_of_lt_mul (by rw [Nat.mul_comm]; exact h)
    simp only [decF]
    split
    · rw [val_snoc, decF_val f _ h2, dig_nat]
      omega
    · have := val_snoc [] (UInt8.ofNat (48 + n % 10))
      rw [List.nil_append, dig_nat] at this
      rw [this]
      simp [valL]
      omega
/-- The first digit of a number is 0 only where it is the only one. -/
theorem decF_head : ∀ (f n : Nat), n < 10 ^ (f + 1) → ∃ c r, decF f n = c :: r ∧ ¬ (c.toNat = 48 ∧ 1 < (c :: r).length)
  | 0, n, h => ⟨_, [], rfl, by simp⟩
  | f + 1, n, h => by
    have h2 : n / 10 < 10 ^ (f + 1) := by
      rw [Nat.pow_succ] at h
      exact Nat.div_lt_of_lt_mul (by rw [Nat.mul_comm]; exact h)
    simp only [decF]
    split
    · rename_i h9
      obtain ⟨c, r, hc, h0⟩ := decF_head f (n / 10) h2
      refine ⟨c, r ++ [UInt8.ofNat (48 + n % 10)], by rw [hc]; rfl, fun e => ?_⟩
      by_cases hr : r = []
      · subst hr
        have hv := decF_val f (n / 10) h2
        rw [hc] at hv
        simp [valL] at hv
        have := e.1
        omega
      · have : 1 < (c :: r).length := by
          cases r with
          | nil => exact absurd rfl hr
          | cons d q => simp
        exact h0 ⟨e.1, this⟩
    · exact ⟨_, [], rfl, by simp⟩
end Go.Proofs.Ytblcmgahgpnjmaa
