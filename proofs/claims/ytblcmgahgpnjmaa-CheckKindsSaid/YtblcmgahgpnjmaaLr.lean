/-
  The lexer over lists of bytes: blanks laid ahead of each token change where the tokens stand, and nothing else. No program is named here.
-/
import Derived.Test.YtblcmgahgpnjmaaLq
namespace Go.Proofs.Ytblcmgahgpnjmaa

/-- What may be laid between tokens: it begins with a blank byte, and is skipped ahead of anything. -/
structure Blank (s : Bs) : Prop where
  head : ∃ d q, s = d :: q ∧ bB d = true
  closed : ∀ X, skipL false (s ++ X) = skipL false X
  all : ∀ t, skipL t s = []
/-- Behind one token's text at most: blanks, or what stood there. -/
def After (Z W : Bs) : Prop := ∀ d q, Z = d :: q → bB d = true ∨ ∃ q', W = d :: q'

theorem take_word {w Z : Bs} (h : w.all bW = true) (hz : ∀ d q, Z = d :: q → bW d = false) : List.takeWhile bW (w ++ Z) = w := by
  induction w with
  | nil =>
    cases Z with
    | nil => rfl
    | cons d q => rw [List.nil_append, List.takeWhile_cons, if_neg (by rw [hz d q rfl]; simp)]
  | cons c r ih =>
    simp only [List.all_cons, Bool.and_eq_true] at h
    rw [List.cons_append, List.takeWhile_cons, if_pos h.1, ih h.2]
/-- Where a word ends. -/
theorem word_end (l : Bs) : ∀ d q, l.drop (List.takeWhile bW l).length = d :: q → bW d = false := by
  induction l with
  | nil => intro d q h; simp at h
  | cons c r ih =>
    intro d q h
    rw [List.takeWhile_cons] at h
    split at h
    · exact ih d q (by simpa using h)
    · rename_i hc
      simp at h
      rw [← h.1]
      simpa using hc
theorem word_all (l : Bs) : (List.takeWhile bW l).all bW = true := by
  induction l with
  | nil => rfl
  | cons c r ih =>
    rw [List.takeWhile_cons]
    split
    · rename_i hc; rw [List.all_cons, hc, ih]; rfl
    · rfl
theorem equal_blank {d : UInt8} {q : Bs} (h : bB d = true) : equal1 (d :: q) = false := by
  simp only [bB, equal1, decide_eq_true_eq, decide_eq_false_iff_not] at h ⊢
  omega
theorem slash_blank {d : UInt8} {q : Bs} (h : bB d = true) : slash (d :: q) = false := by
  simp only [bB, slash, decide_eq_true_eq, decide_eq_false_iff_not] at h ⊢
  omega
theorem slash_after {Z W : Bs} (h : After Z W) : slash Z = true → slash W = true := by
  intro hz
  cases Z with
  | nil => simp [slash] at hz
  | cons d q =>
    rcases h d q rfl with hb | ⟨q', rfl⟩
    · rw [slash_blank hb] at hz; cases hz
    · exact hz
theorem equal_after {Z W : Bs} (h : After Z W) : equal1 Z = true → equal1 W = true := by
  intro hz
  cases Z with
  | nil => simp [equal1] at hz
  | cons d q =>
    rcases h d q rfl with hb | ⟨q', rfl⟩
    · rw [equal_blank hb] at hz; cases hz
    · exact hz
theorem sgn_two {c : UInt8} {r : Bs} (h : sgnL c r = 2) : equal1 r = true := by
  unfold sgnL at h
  split at h
  · rename_i hc; exact hc.2
  · split at h <;> omega
theorem sgn_few (c : UInt8) (r : Bs) : sgnL c r = 0 ∨ sgnL c r = 1 ∨ sgnL c r = 2 := by
  unfold sgnL
  split
  · simp
  · split <;> simp
theorem sgn_one {c : UInt8} {r Z : Bs} (h : sgnL c r = 1) (hz : equal1 Z = true → equal1 r = true) : sgnL c Z = 1 := by
  unfold sgnL at h ⊢
  split at h
  · omega
  · rename_i hn
    rw [if_neg (fun e => hn ⟨e.1, hz e.2⟩)]
    exact h
theorem sgn_keep {c : UInt8} {r Z : Bs} (h : sgnL c r = 2) (hz : equal1 Z = true) : sgnL c Z = 2 := by
  unfold sgnL at h ⊢
  split at h
  · rename_i hc; rw [if_pos ⟨hc.1, hz⟩]
  · split at h <;> omega

/-- What a token comes to does not hang on where it stands. -/
def Tk.at (t : Tk) (a : Nat) : Tk := ⟨t.kd, t.n, a, t.tx⟩
/-- A token is the same whatever blanks stand behind it. -/
theorem tok_after {a a' n : Nat} {l Z : Bs} {t : Tk} (h : tokL a l = some (t, n)) (hz : After Z (l.drop n)) : tokL a' (l.take n ++ Z) = some (t.at a', n) := by
  cases l with
  | nil => simp [tokL] at h
  | cons c r =>
    have hwt : (c :: r).take (List.takeWhile bW (c :: r)).length = List.takeWhile bW (c :: r) := (List.prefix_iff_eq_take.1 (List.takeWhile_prefix _)).symm
    have hwall := word_all (c :: r)
    have hword : ∀ {n}, n = (List.takeWhile bW (c :: r)).length → After Z ((c :: r).drop n) → bW c = true → ∃ q, List.takeWhile bW (c :: r) ++ Z = c :: q ∧ (c :: r).take n ++ Z = c :: q ∧ List.takeWhile bW (c :: q) = List.takeWhile bW (c :: r) := by
      intro n hn hz hc
      have e1 : ∃ w', List.takeWhile bW (c :: r) = c :: w' := by rw [List.takeWhile_cons, if_pos hc]; exact ⟨_, rfl⟩
      obtain ⟨w', hw'⟩ := e1
      refine ⟨w' ++ Z, by rw [hw']; rfl, by rw [hn, hwt, hw']; rfl, ?_⟩
      rw [show c :: (w' ++ Z) = List.takeWhile bW (c :: r) ++ Z from by rw [hw']; rfl]
      refine take_word hwall (fun d q e => ?_)
      rcases hz d q e with hb | ⟨q', hq⟩
      · exact bW_blank hb
      · rw [hn] at hq; exact word_end (c :: r) d q' hq
    simp only [tokL] at h
    split at h
    · rename_i hd
      split at h
      · rename_i hv
        injection h with h; injection h with h1 h2
        obtain ⟨q, -, hq2, hq3⟩ := hword h2.symm hz (bW_D hd)
        rw [hq2]
        simp only [tokL, hq3]
        rw [if_pos hd, if_pos hv, ← h1, ← h2]
        rfl
      · cases h
    · rename_i hd
      split at h
      · rename_i hl
        split at h
        · rename_i hk
          injection h with h; injection h with h1 h2
          obtain ⟨q, -, hq2, hq3⟩ := hword h2.symm hz (bW_L hl)
          rw [hq2]
          simp only [tokL, hq3]
          rw [if_neg hd, if_pos hl, if_pos hk, ← h1, ← h2]
          rfl
        · rename_i hk
          split at h
          · rename_i hn
            injection h with h; injection h with h1 h2
            obtain ⟨q, -, hq2, hq3⟩ := hword h2.symm hz (bW_L hl)
            rw [hq2]
            simp only [tokL, hq3]
            rw [if_neg hd, if_pos hl, if_neg hk, if_pos hn, ← h1, ← h2]
            rfl
          · cases h
      · rename_i hl
        split at h
        · cases h
        · rename_i hs
          injection h with h; injection h with h1 h2
          rcases sgn_few c r with e | e | e
          · exact absurd e hs
          · rw [e] at h1 h2
            subst h2
            have e2 : sgnL c Z = 1 := sgn_one e (equal_after hz)
            show tokL a' (c :: Z) = _
            simp only [tokL]
            rw [if_neg hd, if_neg hl, e2, if_neg (by decide), ← h1]
            rfl
          · rw [e] at h1 h2
            subst h2
            have he := sgn_two e
            cases r with
            | nil => simp [equal1] at he
            | cons d r' =>
              have e2 : sgnL c (d :: Z) = 2 := sgn_keep e he
              show tokL a' (c :: d :: Z) = _
              simp only [tokL]
              rw [if_neg hd, if_neg hl, e2, if_neg (by decide), ← h1]
              rfl

/-- A text with s laid ahead of each of its tokens. -/
def insL (s : Bs) : Nat → Bs → Bs
  | 0, l => l
  | f + 1, l => match skipL false l with
    | [] => l ++ s
    | c :: r => l.take (l.length - (c :: r).length) ++ (s ++ (match tokL 0 (c :: r) with
      | none => c :: r
      | some (_, n) => (c :: r).take n ++ insL s f ((c :: r).drop n)))
theorem tok_shift {a a' n : Nat} {l : Bs} {t : Tk} (h : tokL a l = some (t, n)) : tokL a' l = some (t.at a', n) := by
  have := tok_after (a' := a') (Z := l.drop n) h (fun d q e => .inr ⟨q, e⟩)
  rwa [List.take_append_drop] at this
theorem tok_none {a a' : Nat} {l : Bs} (h : tokL a l = none) : tokL a' l = none := by
  cases h2 : tokL a' l with
  | none => rfl
  | some x =>
    obtain ⟨t, n⟩ := x
    rw [tok_shift h2] at h
    cases h
theorem ins_head {s : Bs} (hs : Blank s) (f : Nat) (l : Bs) : After (insL s (f + 1) l) l := by
  intro d q h
  simp only [insL] at h
  split at h
  · cases l with
    | nil =>
      obtain ⟨e, q', rfl, hb⟩ := hs.head
      simp at h
      rw [← h.1]
      exact .inl hb
    | cons c r => simp at h; rw [← h.1]; exact .inr ⟨r, rfl⟩
  · rename_i c r hm
    cases hp : l.take (l.length - (c :: r).length) with
    | nil =>
      rw [hp, List.nil_append] at h
      obtain ⟨e, q', rfl, hb⟩ := hs.head
      simp at h
      rw [← h.1]
      exact .inl hb
    | cons x p =>
      rw [hp] at h
      simp at h
      cases l with
      | nil => simp at hp
      | cons y l' =>
        have : x = y := by
          cases hk : (y :: l').length - (c :: r).length with
          | zero => rw [hk] at hp; simp at hp
          | succ k => rw [hk] at hp; simp at hp; exact hp.1.symm
        rw [← h.1, this]
        exact .inr ⟨l', rfl⟩
/-- What tells of a token beside its place. -/
def Tk.what (t : Tk) : Nat × Nat × Bs := (t.kd, t.n, t.tx)
theorem ins_same {s : Bs} (hs : Blank s) : ∀ (f a : Nat) (l : Bs) (ts : List Tk), toksL f a l = .good ts → ∀ a', ∃ us, toksL f a' (insL s f l) = .good us ∧ us.map Tk.what = ts.map Tk.what
  | 0, a, l, ts, h, _ => by simp [toksL] at h
  | f + 1, a, l, ts, h, a' => by
    simp only [toksL] at h
    cases hm : skipL false l with
    | nil =>
      rw [hm] at h
      injection h with h
      subst h
      have e1 : skipL false (l ++ s) = [] := skip_all l false s hm hs.all
      refine ⟨[⟨0, 0, a' + (l ++ s).length, []⟩], ?_, rfl⟩
      simp only [insL, hm, toksL, e1]
    | cons c r =>
      rw [hm] at h
      simp only at h
      obtain ⟨p, hp, hz⟩ := skip_closed l false _ hm (by simp)
      have hpk : l.take (l.length - (c :: r).length) = p := by rw [hp]; simp
      cases ht : tokL (a + (l.length - (c :: r).length)) (c :: r) with
      | none => rw [ht] at h; cases h
      | some x =>
        obtain ⟨t, n⟩ := x
        rw [ht] at h
        simp only at h
        cases hx : toksL f (a + (l.length - (c :: r).length) + n) ((c :: r).drop n) with
        | bad q => rw [hx] at h; simp [Lx.cons] at h
        | good vs =>
          rw [hx] at h
          simp only [Lx.cons] at h
          injection h with h
          subst h
          have hn := tok_len ht
          have haf : After (insL s f ((c :: r).drop n)) ((c :: r).drop n) := by
            cases f with
            | zero => simp [toksL] at hx
            | succ f => exact ins_head hs f _
          have ht0 := tok_shift (a' := 0) ht
          have hins : insL s (f + 1) l = p ++ (s ++ ((c :: r).take n ++ insL s f ((c :: r).drop n))) := by
            simp only [insL, hm, hpk, ht0]
          obtain ⟨hb, hc⟩ := skip_head l false c r hm
          obtain ⟨k, rfl⟩ : ∃ k, n = k + 1 := ⟨n - 1, by omega⟩
          have hY : (c :: r).take (k + 1) ++ insL s f ((c :: r).drop (k + 1)) = c :: (r.take k ++ insL s f (r.drop k)) := by simp
          have hsk : skipL false (insL s (f + 1) l) = c :: (r.take k ++ insL s f (r.drop k)) := by
            rw [hins, hz, hs.closed, hY]
            refine skip_stay hb (fun e => hc ⟨e.1, ?_⟩)
            have e2 := e.2
            cases k with
            | zero =>
              simp only [List.take_zero, List.nil_append, List.drop_zero] at e2
              exact slash_after (by simpa using haf) e2
            | succ k =>
              cases r with
              | nil => simp at hn
              | cons d r' => exact e2
          obtain ⟨a2, ha2⟩ : ∃ a2, a' + ((insL s (f + 1) l).length - (c :: (r.take k ++ insL s f (r.drop k))).length) = a2 := ⟨_, rfl⟩
          have ht2 : tokL a2 (c :: (r.take k ++ insL s f (r.drop k))) = some (t.at a2, k + 1) := by
            rw [← hY]; exact tok_after ht haf
          have hdr : (c :: (r.take k ++ insL s f (r.drop k))).drop (k + 1) = insL s f (r.drop k) := by
            have hl : (r.take k).length = k := by rw [List.length_take]; simp only [List.length_cons] at hn; omega
            rw [List.drop_succ_cons]
            have := List.drop_left (l₁ := r.take k) (l₂ := insL s f (r.drop k))
            rwa [hl] at this
          obtain ⟨us, hus, hwhat⟩ := ins_same hs f _ _ vs hx (a2 + (k + 1))
          refine ⟨t.at a2 :: us, ?_, by simp only [List.map_cons, hwhat]; rfl⟩
          simp only [toksL, hsk]
          rw [ha2, ht2]
          simp only
          rw [hdr]
          have : insL s f (r.drop k) = insL s f ((c :: r).drop (k + 1)) := rfl
          rw [this, hus]
          rfl
/-- The pieces of b between the places of its tokens, s behind each. -/
def catL (s b : Bs) : Nat → List Tk → Bs
  | _, [] => []
  | fr, t :: ts => (b.drop fr).take (t.pl - fr) ++ (s ++ catL s b t.pl ts)
theorem cat_ins (s : Bs) : ∀ (f a fr : Nat) (b : Bs) (ts : List Tk), fr ≤ a → a ≤ b.length → toksL f a (b.drop a) = .good ts → catL s b fr ts = (b.drop fr).take (a - fr) ++ insL s f (b.drop a)
  | 0, a, fr, b, ts, _, _, h => by simp [toksL] at h
  | f + 1, a, fr, b, ts, hfa, ha, h => by
    have hsf := skip_suffix (b.drop a) false
    have hsl := skip_len (b.drop a) false
    have hsplit : ∀ x y : Nat, x ≤ y → fr ≤ x → (b.drop fr).take (y - fr) = (b.drop fr).take (x - fr) ++ (b.drop x).take (y - x) := by
      intro x y hxy hx
      have e := List.take_append_drop (x - fr) ((b.drop fr).take (y - fr))
      rw [List.take_take, Nat.min_eq_left (by omega), List.drop_take, List.drop_drop] at e
      rw [show fr + (x - fr) = x from by omega, show y - fr - (x - fr) = y - x from by omega] at e
      exact e.symm
    simp only [toksL] at h
    simp only [insL]
    split at h
    · rename_i hm
      injection h with h
      subst h
      rw [hm]
      simp only [catL, List.append_nil]
      rw [hsplit a _ (by omega) hfa, List.append_assoc]
      congr 2
      exact List.take_of_length_le (by omega)
    · rename_i c r hm
      rw [hm] at hsf hsl
      rw [hm]
      split at h
      · cases h
      · rename_i t n ht
        have hn := tok_len ht
        obtain ⟨e1, -⟩ := tok_at ht
        have ht0 := tok_shift (a' := 0) ht
        rw [List.length_drop] at hsl e1 h ht hsf
        have hcr : c :: r = b.drop t.pl := by
          have := hsf
          rw [List.drop_drop, ← e1] at this
          exact this
        cases hx : toksL f (a + (b.length - a - (c :: r).length) + n) ((c :: r).drop n) with
        | bad p => rw [hx] at h; simp [Lx.cons] at h
        | good us =>
          rw [hx] at h
          simp only [Lx.cons] at h
          injection h with h
          subst h
          rw [← e1, hcr, List.drop_drop] at hx
          have hcl : (c :: r).length = b.length - t.pl := by rw [hcr, List.length_drop]
          have ih := cat_ins s f (t.pl + n) t.pl b us (by omega) (by omega) hx
          simp only [catL, ht0]
          rw [ih, hsplit a t.pl (by omega) hfa, List.length_drop, hcr, List.drop_drop, List.length_drop]
          rw [show b.length - a - (b.length - t.pl) = t.pl - a from by omega, show t.pl + n - t.pl = n from by omega]
          simp only [List.append_assoc]
theorem lex_blanks {s b : Bs} (hs : Blank s) {ts : List Tk} (h : lexL b = .good ts) : ∃ us, toksL (b.length + 1) 0 (catL s b 0 ts) = .good us ∧ us.map Tk.what = ts.map Tk.what := by
  have h0 : toksL (b.length + 1) 0 (b.drop 0) = .good ts := h
  obtain ⟨us, hu, hw⟩ := ins_same hs _ 0 b ts h 0
  refine ⟨us, ?_, hw⟩
  rw [cat_ins s (b.length + 1) 0 0 b ts (Nat.le_refl _) (Nat.zero_le _) h0]
  simpa using hu
end Go.Proofs.Ytblcmgahgpnjmaa
