/-
  A lexer over lists of bytes, told by plain recursion, and what it comes to: where tokens stand, what more blanks between them change, which digits are a number, which texts are one name. No program is named here; no condition beyond those that each theorem names.
-/
import Derived.WalkKit
namespace Go.Proofs.Ytblcmgahgpnjmaa

/-- Bytes. -/
abbrev Bs := List UInt8
def bL (c : UInt8) : Bool := decide (97 ≤ c.toNat ∧ c.toNat ≤ 122) || decide (65 ≤ c.toNat ∧ c.toNat ≤ 90)
def bD (c : UInt8) : Bool := decide (48 ≤ c.toNat ∧ c.toNat ≤ 57)
def bW (c : UInt8) : Bool := bL c || bD c || decide (c.toNat = 95)
def bB (c : UInt8) : Bool := decide (c.toNat = 32 ∨ c.toNat = 9 ∨ c.toNat = 10 ∨ c.toNat = 13)
/-- Is the first byte a slash? -/
def slash (l : Bs) : Bool := match l with | [] => false | c :: _ => decide (c.toNat = 47)
/-- What is left behind blanks; true: within a remark. -/
def skipL : Bool → Bs → Bs
  | _, [] => []
  | true, c :: r => if c.toNat = 10 then skipL false r else skipL true r
  | false, c :: r => if bB c = true then skipL false r else if c.toNat = 47 ∧ slash r = true then skipL true r else c :: r
/-- The words of the language. -/
def kw : List Bs := [
  [107, 101, 121],
  [116, 114, 101, 101],
  [100, 111, 109, 97, 105, 110],
  [111, 119, 110],
  [115, 104, 97, 114, 101, 100],
  [105, 110, 116],
  [98, 111, 111, 108],
  [114, 101, 102],
  [115, 121, 109],
  [112, 111, 105, 110, 116],
  [115, 101, 113],
  [115, 101, 108],
  [109, 115, 101, 113],
  [109, 115, 101, 108],
  [112, 97, 114],
  [110, 111, 116],
  [114, 101, 112, 101, 97, 116],
  [105, 102],
  [115, 101, 116],
  [100, 111],
  [117, 115, 101],
  [112, 105, 99, 107],
  [112, 108, 97, 110],
  [111, 107],
  [102, 97, 105, 108],
  [119, 97, 105, 116],
  [118, 97, 114],
  [97, 99, 116],
  [99, 111, 115, 116],
  [110, 101, 101, 100],
  [109, 97, 107, 101],
  [103, 111, 97, 108],
  [116, 114, 117, 101],
  [102, 97, 108, 115, 101],
  [115, 101, 108, 102],
  [116, 105, 109, 101],
  [97, 110, 100],
  [111, 114],
  [114, 101],
  [105, 109],
  [116, 117, 114, 110],
  [102, 97, 114]]
def valL (l : Bs) : Nat := l.foldl (fun v c => 10 * v + (c.toNat - 48)) 0
/-- Is the first byte a sign of equality? -/
def equal1 (l : Bs) : Bool := match l with | [] => false | c :: _ => decide (c.toNat = 61)
/-- How long a sign is that begins with c, d behind it: 0 for none. -/
def sgnL (c : UInt8) (r : Bs) : Nat :=
  if (c.toNat = 58 ∨ c.toNat = 60 ∨ c.toNat = 62 ∨ c.toNat = 61) ∧ equal1 r = true then 2
  else if c.toNat = 123 ∨ c.toNat = 125 ∨ c.toNat = 40 ∨ c.toNat = 41 ∨ c.toNat = 59 ∨ c.toNat = 58 ∨ c.toNat = 61 ∨ c.toNat = 60 ∨ c.toNat = 43 ∨ c.toNat = 45 ∨ c.toNat = 42 ∨ c.toNat = 47 ∨ c.toNat = 44 ∨ c.toNat = 39 then 1 else 0
/-- A token: its kind, its number, where it stands, its text. -/
structure Tk where
  kd : Nat
  n : Nat
  pl : Nat
  tx : Bs
/-- The token that a text begins with, and its length. -/
def tokL (a : Nat) : Bs → Option (Tk × Nat)
  | [] => none
  | c :: r =>
    if bD c = true then
      if (List.takeWhile bW (c :: r)).all bD = true ∧ valL (List.takeWhile bW (c :: r)) ≤ 9223372036854775807 ∧ ¬ (c.toNat = 48 ∧ 1 < (List.takeWhile bW (c :: r)).length) then some (⟨3, valL (List.takeWhile bW (c :: r)), a, []⟩, (List.takeWhile bW (c :: r)).length) else none
    else if bL c = true then
      if kw.contains (List.takeWhile bW (c :: r)) = true then some (⟨2, 0, a, List.takeWhile bW (c :: r)⟩, (List.takeWhile bW (c :: r)).length)
      else if (List.takeWhile bW (c :: r)).length ≤ 24 then some (⟨1, 0, a, List.takeWhile bW (c :: r)⟩, (List.takeWhile bW (c :: r)).length) else none
    else if sgnL c r = 0 then none else some (⟨4, 0, a, (c :: r).take (sgnL c r)⟩, sgnL c r)
/-- What a text comes to from place a on: its tokens, or the place of the first that is none. -/
inductive Lx where
  | bad (p : Nat)
  | good (l : List Tk)
def Lx.cons (t : Tk) : Lx → Lx
  | .bad p => .bad p
  | .good l => .good (t :: l)
def toksL : Nat → Nat → Bs → Lx
  | 0, a, _ => .bad a
  | f + 1, a, l => match skipL false l with
    | [] => .good [⟨0, 0, a + l.length, []⟩]
    | c :: r => match tokL (a + (l.length - (c :: r).length)) (c :: r) with
      | none => .bad (a + (l.length - (c :: r).length))
      | some (t, n) => Lx.cons t (toksL f (a + (l.length - (c :: r).length) + n) ((c :: r).drop n))
/-- .. of a whole text. -/
def lexL (b : Bs) : Lx := toksL (b.length + 1) 0 b

/-! ### blanks -/
theorem skip_len : ∀ (l : Bs) (s : Bool), (skipL s l).length ≤ l.length
  | [], s => by cases s <;> simp [skipL]
  | c :: r, s => by
    have h1 := skip_len r true
    have h2 := skip_len r false
    cases s <;> simp only [skipL] <;> repeat' split
    all_goals simp only [List.length_cons]; omega
theorem skip_len1 (c : UInt8) (r : Bs) : (skipL true (c :: r)).length ≤ r.length := by
  have h1 := skip_len r true
  have h2 := skip_len r false
  simp only [skipL]
  split <;> omega
/-- What was skipped is skipped ahead of any text. -/
theorem skip_closed : ∀ (l : Bs) (s : Bool) (m : Bs), skipL s l = m → m ≠ [] → ∃ p, l = p ++ m ∧ ∀ Z, skipL s (p ++ Z) = skipL false Z
  | [], s, m, h, hm => by
    cases s <;> simp only [skipL] at h <;> exact absurd h.symm hm
  | c :: r, true, m, h, hm => by
    simp only [skipL] at h
    split at h
    · rename_i hc
      obtain ⟨p, hp, hz⟩ := skip_closed r false m h hm
      exact ⟨c :: p, by rw [hp]; rfl, fun Z => by simp only [List.cons_append, skipL, if_pos hc]; exact hz Z⟩
    · rename_i hc
      obtain ⟨p, hp, hz⟩ := skip_closed r true m h hm
      exact ⟨c :: p, by rw [hp]; rfl, fun Z => by simp only [List.cons_append, skipL, if_neg hc]; exact hz Z⟩
  | c :: r, false, m, h, hm => by
    simp only [skipL] at h
    split at h
    · rename_i hc
      obtain ⟨p, hp, hz⟩ := skip_closed r false m h hm
      exact ⟨c :: p, by rw [hp]; rfl, fun Z => by simp only [List.cons_append, skipL, if_pos hc]; exact hz Z⟩
    · rename_i hc
      split at h
      · rename_i hd
        obtain ⟨p, hp, hz⟩ := skip_closed r true m h hm
        have hpn : ∃ d q, p = d :: q := by
          cases p with
          | cons d q => exact ⟨d, q, rfl⟩
          | nil =>
            cases r with
            | nil => simp [slash] at hd
            | cons d q =>
              have := skip_len1 d q
              rw [h, ← (show d :: q = m from hp)] at this
              simp at this
              omega
        obtain ⟨d, q, rfl⟩ := hpn
        refine ⟨c :: d :: q, by rw [hp]; rfl, fun Z => ?_⟩
        have hs : slash (d :: (q ++ Z)) = true := by rw [hp] at hd; exact hd.2
        have := hz Z
        simp only [List.cons_append] at this ⊢
        rw [skipL, if_neg hc, if_pos ⟨hd.1, hs⟩]
        exact this
      · exact ⟨[], by rw [← h]; rfl, fun Z => rfl⟩
theorem skip_all : ∀ (l : Bs) (s : Bool) (e : Bs), skipL s l = [] → (∀ t, skipL t e = []) → skipL s (l ++ e) = []
  | [], s, e, _, he => he s
  | c :: r, true, e, h, he => by
    simp only [skipL, List.cons_append] at h ⊢
    split at h
    · rename_i hc; rw [if_pos hc]; exact skip_all r false e h he
    · rename_i hc; rw [if_neg hc]; exact skip_all r true e h he
  | c :: r, false, e, h, he => by
    simp only [skipL, List.cons_append] at h ⊢
    split at h
    · rename_i hc; rw [if_pos hc]; exact skip_all r false e h he
    · rename_i hc
      rw [if_neg hc]
      split at h
      · rename_i hd
        have hs : slash (r ++ e) = true := by
          cases r with
          | nil => simp [slash] at hd
          | cons d q => exact hd.2
        rw [if_pos ⟨hd.1, hs⟩]
        exact skip_all r true e h he
      · cases h
/-- What a text begins with once nothing is to be skipped. -/
theorem skip_head : ∀ (l : Bs) (s : Bool) (c : UInt8) (r : Bs), skipL s l = c :: r → bB c = false ∧ ¬ (c.toNat = 47 ∧ slash r = true)
  | [], s, c, r, h => by cases s <;> simp [skipL] at h
  | d :: q, true, c, r, h => by
    simp only [skipL] at h
    split at h
    · exact skip_head q false c r h
    · exact skip_head q true c r h
  | d :: q, false, c, r, h => by
    simp only [skipL] at h
    split at h
    · exact skip_head q false c r h
    · rename_i hb
      split at h
      · exact skip_head q true c r h
      · rename_i hc
        injection h with h1 h2
        subst h1 h2
        exact ⟨by simpa using hb, hc⟩
theorem skip_stay {c : UInt8} {r : Bs} (hb : bB c = false) (hc : ¬ (c.toNat = 47 ∧ slash r = true)) : skipL false (c :: r) = c :: r := by
  simp only [skipL]
  rw [if_neg (by simp [hb]), if_neg hc]

/-! ### one token -/
theorem bW_blank {d : UInt8} (h : bB d = true) : bW d = false := by
  simp [bB] at h
  simp [bW, bL, bD]
  omega
theorem word_len (c : UInt8) (r : Bs) : (List.takeWhile bW (c :: r)).length ≤ (c :: r).length := (List.takeWhile_sublist _).length_le
theorem word_pos {c : UInt8} {r : Bs} (h : bW c = true) : 1 ≤ (List.takeWhile bW (c :: r)).length := by
  rw [List.takeWhile_cons, if_pos h]
  simp
theorem bW_D {c : UInt8} (h : bD c = true) : bW c = true := by simp [bW, h]
theorem bW_L {c : UInt8} (h : bL c = true) : bW c = true := by simp [bW, h]
theorem sgn_le (c : UInt8) (r : Bs) : sgnL c r ≤ (c :: r).length := by
  unfold sgnL
  split
  · rename_i h
    cases r with
    | nil => simp [equal1] at h
    | cons d q => simp
  · split <;> simp
/-- A token is no longer than the text, and has a byte at least. -/
theorem tok_len {a n : Nat} {c : UInt8} {r : Bs} {t : Tk} (h : tokL a (c :: r) = some (t, n)) : 1 ≤ n ∧ n ≤ (c :: r).length := by
  have hw := word_len c r
  have hs := sgn_le c r
  simp only [tokL] at h
  split at h
  · rename_i hd
    have := word_pos (r := r) (bW_D hd)
    split at h
    · injection h with h; injection h with _ h; omega
    · cases h
  · split at h
    · rename_i hl
      have := word_pos (r := r) (bW_L hl)
      split at h
      · injection h with h; injection h with _ h; omega
      · split at h
        · injection h with h; injection h with _ h; omega
        · cases h
    · split at h
      · cases h
      · injection h with h; injection h with _ h; omega
/-- A token stands where it was looked for; its text is what stands there; it is no end. -/
theorem tok_at {a n : Nat} {l : Bs} {t : Tk} (h : tokL a l = some (t, n)) : t.pl = a ∧ (t.kd = 1 ∨ t.kd = 2 ∨ t.kd = 3 ∨ t.kd = 4) ∧ l.take t.tx.length = t.tx ∧ t.tx.length ≤ l.length := by
  cases l with
  | nil => simp [tokL] at h
  | cons c r =>
    have hw := word_len c r
    have ht : (c :: r).take (List.takeWhile bW (c :: r)).length = List.takeWhile bW (c :: r) := (List.prefix_iff_eq_take.1 (List.takeWhile_prefix _)).symm
    have hs := sgn_le c r
    simp only [tokL] at h
    split at h
    · split at h
      · injection h with h; injection h with h _; subst h; exact ⟨rfl, by simp, by simp, by simp⟩
      · cases h
    · split at h
      · split at h
        · injection h with h; injection h with h _; subst h; exact ⟨rfl, by simp, ht, hw⟩
        · split at h
          · injection h with h; injection h with h _; subst h; exact ⟨rfl, by simp, ht, hw⟩
          · cases h
      · split at h
        · cases h
        · injection h with h; injection h with h _; subst h
          refine ⟨rfl, by simp, ?_, ?_⟩
          · simp only [List.length_take]; rw [Nat.min_eq_left hs]
          · simp only [List.length_take]; omega
end Go.Proofs.Ytblcmgahgpnjmaa
