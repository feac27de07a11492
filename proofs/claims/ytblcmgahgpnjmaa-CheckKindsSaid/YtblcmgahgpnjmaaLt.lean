/-
  The lexer on lists of bytes, told place by place: what is left of a text from a place on, between tokens and within a remark. No program is named here; no condition beyond those that each theorem names.
-/
import Derived.Test.YtblcmgahgpnjmaaLs
namespace Go.Proofs.Ytblcmgahgpnjmaa

/-- Tokens that were found ahead. -/
def Lx.pre (ts : List Tk) : Lx → Lx
  | .bad p => .bad p
  | .good us => .good (ts ++ us)
theorem Lx.pre_cons (ts : List Tk) (t : Tk) (x : Lx) : Lx.pre ts (Lx.cons t x) = Lx.pre (ts ++ [t]) x := by cases x <;> simp [Lx.pre, Lx.cons]
theorem Lx.pre_nil (x : Lx) : Lx.pre [] x = x := by cases x <;> rfl
/-- What b comes to from place a on; s: within a remark. -/
def fromS (s : Bool) (b : Bs) (a : Nat) : Lx := match skipL s (b.drop a) with
  | [] => .good [⟨0, 0, b.length, []⟩]
  | c :: r => match tokL (b.length - (c :: r).length) (c :: r) with
    | none => .bad (b.length - (c :: r).length)
    | some (t, n) => Lx.cons t (toksL (b.length + 1) (b.length - (c :: r).length + n) ((c :: r).drop n))
theorem from_toks (b : Bs) (a : Nat) (ha : a ≤ b.length) : toksL (b.length + 1) a (b.drop a) = fromS false b a := by
  have hsk := skip_len (b.drop a) false
  have hl : (b.drop a).length = b.length - a := List.length_drop
  unfold fromS
  rw [toksL]
  cases h : skipL false (b.drop a) with
  | nil =>
    simp only
    rw [hl, show a + (b.length - a) = b.length from by omega]
  | cons c r =>
    rw [h, hl] at hsk
    simp only [hl]
    rw [show a + (b.length - a - (c :: r).length) = b.length - (c :: r).length from by omega]
    cases ht : tokL (b.length - (c :: r).length) (c :: r) with
    | none => rfl
    | some x =>
      obtain ⟨t, n⟩ := x
      have hn := tok_len ht
      simp only
      congr 1
      refine toks_fuel _ _ _ ?_ _ ?_
      · simp only [List.length_drop] at hsk ⊢; omega
      · simp only [List.length_drop] at hsk ⊢; omega
theorem lex_from (b : Bs) : lexL b = fromS false b 0 := by
  unfold lexL
  have := from_toks b 0 (Nat.zero_le _)
  simpa using this
theorem drop_at {b : Bs} {a : Nat} {c : UInt8} (h : b[a]? = some c) : b.drop a = c :: b.drop (a + 1) := by
  obtain ⟨h1, h2⟩ := List.getElem?_eq_some_iff.1 h
  rw [List.drop_eq_getElem_cons h1, h2]
theorem from_end (s : Bool) (b : Bs) : fromS s b b.length = .good [⟨0, 0, b.length, []⟩] := by
  unfold fromS
  rw [List.drop_length]
  cases s <;> rfl
theorem from_blank {b : Bs} {a : Nat} {c : UInt8} (h : b[a]? = some c) (hc : bB c = true) : fromS false b a = fromS false b (a + 1) := by
  unfold fromS
  rw [drop_at h, skipL, if_pos hc]
theorem from_open {b : Bs} {a : Nat} {c : UInt8} (h : b[a]? = some c) (hb : bB c = false) (hc : c.toNat = 47) (hs : slash (b.drop (a + 1)) = true) : fromS false b a = fromS true b (a + 1) := by
  unfold fromS
  rw [drop_at h, skipL, if_neg (by simp [hb]), if_pos ⟨hc, hs⟩]
theorem from_within {b : Bs} {a : Nat} {c : UInt8} (h : b[a]? = some c) (hc : ¬ c.toNat = 10) : fromS true b a = fromS true b (a + 1) := by
  unfold fromS
  rw [drop_at h, skipL, if_neg hc]
theorem from_shut {b : Bs} {a : Nat} {c : UInt8} (h : b[a]? = some c) (hc : c.toNat = 10) : fromS true b a = fromS false b a := by
  have hb : bB c = true := by simp [bB, hc]
  rw [from_blank h hb]
  unfold fromS
  rw [drop_at h, skipL, if_pos hc]
/-- A remark from its first byte on. -/
theorem from_remark {b : Bs} {a : Nat} {c : UInt8} (h : b[a]? = some c) (hc : c.toNat = 47) (hs : slash (b.drop (a + 1)) = true) : fromS false b a = fromS true b a := by
  have hb : bB c = false := by simp [bB, hc]
  rw [from_open h hb hc hs, from_within h (by omega)]
/-- A token. -/
theorem from_tok {b : Bs} {a : Nat} {c : UInt8} (h : b[a]? = some c) (hb : bB c = false) (hc : ¬ (c.toNat = 47 ∧ slash (b.drop (a + 1)) = true)) :
    fromS false b a = match tokL a (b.drop a) with
      | none => .bad a
      | some (t, n) => Lx.cons t (fromS false b (a + n)) := by
  have hlt := (List.getElem?_eq_some_iff.1 h).1
  have hd := drop_at h
  have hl : (c :: b.drop (a + 1)).length = b.length - a := by rw [← hd, List.length_drop]
  conv => lhs; unfold fromS
  rw [hd, skip_stay hb hc]
  simp only
  rw [hl, show b.length - (b.length - a) = a from by omega]
  cases ht : tokL a (c :: b.drop (a + 1)) with
  | none => rfl
  | some x =>
    obtain ⟨t, n⟩ := x
    have hn := tok_len ht
    simp only
    congr 1
    rw [← hd, List.drop_drop, from_toks b (a + n) (by omega)]

/-! ### what the code looks at, one by one -/
theorem bB_not {c : UInt8} (h : bW c = true) : bB c = false := by
  cases hb : bB c
  · rfl
  · rw [bW_blank hb] at h; cases h
theorem bW_not47 {c : UInt8} (h : bW c = true) : ¬ c.toNat = 47 := by
  intro e
  simp [bW, bL, bD, e] at h
/-- A run of bytes from a on, of which all are P: it goes on. -/
def Run (P : UInt8 → Bool) (b : Bs) (a k : Nat) : Prop := a ≤ k ∧ k ≤ b.length ∧ ∀ (i : Nat) (c : UInt8), a ≤ i → i < k → b[i]? = some c → P c = true
theorem Run.start (P : UInt8 → Bool) {b : Bs} {a : Nat} (h : a ≤ b.length) : Run P b a a := ⟨Nat.le_refl _, h, fun i c h1 h2 => by omega⟩
theorem Run.next {P : UInt8 → Bool} {b : Bs} {a k : Nat} {c : UInt8} (h : Run P b a k) (hk : b[k]? = some c) (hc : P c = true) : Run P b a (k + 1) := by
  refine ⟨by have := h.1; omega, (List.getElem?_eq_some_iff.1 hk).1, fun i d h1 h2 hd => ?_⟩
  by_cases e : i = k
  · subst e; rw [hk] at hd; injection hd with hd; subst hd; exact hc
  · exact h.2.2 i d h1 (by omega) hd
theorem take_run {P : UInt8 → Bool} : ∀ {l : Bs} {n : Nat}, n ≤ l.length → (∀ (i : Nat) (c : UInt8), i < n → l[i]? = some c → P c = true) → (∀ c, l[n]? = some c → P c = false) → List.takeWhile P l = l.take n
  | [], n, _, _, _ => by simp
  | d :: l, 0, _, _, h => by
    have := h d rfl
    simp [this]
  | d :: l, n + 1, hn, h1, h2 => by
    have hd := h1 0 d (by omega) rfl
    rw [List.takeWhile_cons, if_pos hd, List.take_succ_cons, take_run (l := l) (n := n) (by simpa using hn) (fun i c hi hc => h1 (i + 1) c (by omega) (by simpa using hc)) (fun c hc => h2 c (by simpa using hc))]
/-- A run that has ended is what takeWhile takes. -/
theorem Run.end {P : UInt8 → Bool} {b : Bs} {a k : Nat} (h : Run P b a k) (he : ∀ c, b[k]? = some c → P c = false) : List.takeWhile P (b.drop a) = (b.drop a).take (k - a) := by
  obtain ⟨h1, h2, h3⟩ := h
  refine take_run (by rw [List.length_drop]; omega) (fun i c hi hc => ?_) (fun c hc => ?_)
  · rw [List.getElem?_drop] at hc
    exact h3 (a + i) c (by omega) (by omega) hc
  · rw [List.getElem?_drop, show a + (k - a) = k from by omega] at hc
    exact he c hc
theorem Run.len {P : UInt8 → Bool} {b : Bs} {a k : Nat} (h : Run P b a k) : ((b.drop a).take (k - a)).length = k - a := by
  have := h.1; have := h.2.1
  rw [List.length_take, List.length_drop]; omega
theorem Run.all {P : UInt8 → Bool} {b : Bs} {a k : Nat} (h : Run P b a k) : ((b.drop a).take (k - a)).all P = true := by
  rw [List.all_eq_true]
  intro x hx
  obtain ⟨i, hi⟩ := List.mem_iff_getElem?.1 hx
  rw [List.getElem?_take] at hi
  split at hi
  · rw [List.getElem?_drop] at hi
    exact h.2.2 (a + i) x (by omega) (by omega) hi
  · cases hi
/-- The text of a run. -/
def cut (b : Bs) (a k : Nat) : Bs := (b.drop a).take (k - a)
/-- A word or a name. -/
theorem tok_letters {b : Bs} {a k : Nat} {c : UInt8} (h : b[a]? = some c) (hl : bL c = true) (hr : Run bW b a k) (he : ∀ d, b[k]? = some d → bW d = false) :
    tokL a (b.drop a) = if kw.contains (cut b a k) = true then some (⟨2, 0, a, cut b a k⟩, k - a) else if (cut b a k).length ≤ 24 then some (⟨1, 0, a, cut b a k⟩, k - a) else none := by
  have hw := hr.end he
  have hn := hr.len
  rw [drop_at h] at hw
  rw [drop_at h]
  rw [tokL]
  rw [if_neg (by rw [L_not_D hl]; simp), if_pos hl, hw, ← drop_at h]
  unfold cut
  rw [hn]
/-- A number, or none. -/
theorem tok_digits {b : Bs} {a k : Nat} {c : UInt8} (h : b[a]? = some c) (hl : bD c = true) (hr : Run bD b a k) (he : ∀ d, b[k]? = some d → bD d = false) :
    tokL a (b.drop a) = if valL (cut b a k) ≤ 9223372036854775807 ∧ ¬ (c.toNat = 48 ∧ 1 < k - a) ∧ (∀ d, b[k]? = some d → bW d = false) then some (⟨3, valL (cut b a k), a, []⟩, k - a) else none := by
  have hn := hr.len
  have hle := hr.1
  have hkl := hr.2.1
  have hW : Run bW b a k := ⟨hle, hkl, fun i d h1 h2 hd => bW_D (hr.2.2 i d h1 h2 hd)⟩
  rw [drop_at h]
  rw [tokL]
  rw [if_pos hl, ← drop_at h]
  by_cases hx : ∀ d, b[k]? = some d → bW d = false
  · rw [hW.end hx, hn]
    have ha := hr.all
    by_cases hq : valL (cut b a k) ≤ 9223372036854775807 ∧ ¬ (c.toNat = 48 ∧ 1 < k - a)
    · rw [if_pos ⟨ha, hq.1, hq.2⟩, if_pos ⟨hq.1, hq.2, hx⟩]; rfl
    · rw [if_neg (fun y => hq ⟨y.2.1, y.2.2⟩), if_neg (fun y => hq ⟨y.1, y.2.1⟩)]
  · rw [if_neg (c := _ ∧ _ ∧ ∀ d, b[k]? = some d → bW d = false) (fun y => hx y.2.2), if_neg]
    intro y
    have hex : ∃ d, b[k]? = some d ∧ bW d = true := by
      cases hd : b[k]? with
      | none => exact absurd (fun d h => by rw [hd] at h; cases h) hx
      | some d =>
        cases hw : bW d
        · exact absurd (fun d' h => by rw [hd] at h; injection h with h; subst h; exact hw) hx
        · exact ⟨d, rfl, hw⟩
    obtain ⟨d, hd, hdw⟩ := hex
    have hdD := he d hd
    have hall := y.1
    rw [List.all_eq_true] at hall
    have hk1 : Run bW b a (k + 1) := hW.next hd hdw
    have hmem : d ∈ List.takeWhile bW (b.drop a) := by
      have hsp : b.drop a = (b.drop a).take (k - a) ++ d :: b.drop (k + 1) := by
        conv => lhs; rw [← List.take_append_drop (k - a) (b.drop a)]
        rw [List.drop_drop, show a + (k - a) = k from by omega, drop_at hd]
      rw [hsp, List.takeWhile_append_of_pos (fun x hx => List.all_eq_true.1 hW.all x hx), List.takeWhile_cons, if_pos hdw]
      simp
    have := hall d hmem
    rw [hdD] at this
    cases this
/-- A sign, or none. -/
theorem tok_sign {b : Bs} {a : Nat} {c : UInt8} (h : b[a]? = some c) (h1 : bL c = false) (h2 : bD c = false) :
    tokL a (b.drop a) = if sgnL c (b.drop (a + 1)) = 0 then none else some (⟨4, 0, a, cut b a (a + sgnL c (b.drop (a + 1)))⟩, sgnL c (b.drop (a + 1))) := by
  rw [drop_at h]
  rw [tokL]
  rw [if_neg (by simp [h2]), if_neg (by simp [h1])]
  unfold cut
  rw [drop_at h, show a + sgnL c (b.drop (a + 1)) - a = sgnL c (b.drop (a + 1)) from by omega]
end Go.Proofs.Ytblcmgahgpnjmaa
