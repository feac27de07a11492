/-
  The lexer over lists of bytes: fuel, the five blanks, numbers, signs, the example of the document. No program is named here.
-/
import Derived.Test.YtblcmgahgpnjmaaLr
import Derived.KernelRfl
namespace Go.Proofs.Ytblcmgahgpnjmaa

/-- More fuel changes nothing. -/
theorem toks_mono : ∀ (f a : Nat) (l : Bs) (ts : List Tk), toksL f a l = .good ts → ∀ f', f ≤ f' → toksL f' a l = .good ts
  | 0, a, l, ts, h, _, _ => by simp [toksL] at h
  | f + 1, a, l, ts, h, f', hf => by
    obtain ⟨k, rfl⟩ : ∃ k, f' = k + 1 := ⟨f' - 1, by omega⟩
    simp only [toksL] at h ⊢
    split at h
    · exact h
    · split at h
      · cases h
      · rename_i t n ht
        cases hx : toksL f (a + (l.length - (_ :: _).length) + n) (List.drop n (_ :: _)) with
        | bad q => rw [hx] at h; simp [Lx.cons] at h
        | good us =>
          rw [hx] at h
          rw [toks_mono f _ _ us hx k (by omega)]
          exact h
/-- Fuel for each byte and one more is enough. -/
theorem toks_fuel : ∀ (f a : Nat) (l : Bs), l.length < f → ∀ f', l.length < f' → toksL f a l = toksL f' a l
  | 0, a, l, h, _, _ => by omega
  | f + 1, a, l, h, f', hf => by
    obtain ⟨k, rfl⟩ : ∃ k, f' = k + 1 := ⟨f' - 1, by omega⟩
    have hsl := skip_len l false
    simp only [toksL]
    cases hm : skipL false l with
    | nil => rfl
    | cons c r =>
      rw [hm] at hsl
      simp only
      cases ht : tokL (a + (l.length - (c :: r).length)) (c :: r) with
      | none => rfl
      | some x =>
        obtain ⟨t, n⟩ := x
        have hn := tok_len ht
        simp only
        rw [toks_fuel f _ ((c :: r).drop n) (by rw [List.length_drop]; omega) k (by rw [List.length_drop]; omega)]

theorem blank_32 : Blank [32] := ⟨⟨32, [], rfl, by decide⟩, fun X => by simp [skipL, bB], fun t => by cases t <;> decide⟩
theorem blank_9 : Blank [9] := ⟨⟨9, [], rfl, by decide⟩, fun X => by simp [skipL, bB], fun t => by cases t <;> decide⟩
theorem blank_10 : Blank [10] := ⟨⟨10, [], rfl, by decide⟩, fun X => by simp [skipL, bB], fun t => by cases t <;> decide⟩
theorem blank_rem : Blank [32, 47, 47, 32, 120, 10] := ⟨⟨32, _, rfl, by decide⟩, fun X => by simp [skipL, bB, slash], fun t => by cases t <;> decide⟩
theorem blank_13 : Blank [13, 10, 32, 9] := ⟨⟨13, _, rfl, by decide⟩, fun X => by simp [skipL, bB], fun t => by cases t <;> decide⟩
theorem cat_len (s b : Bs) : ∀ (fr a : Nat) (ts : List Tk), PlOk b a ts → fr ≤ a → b.length - fr ≤ (catL s b fr ts).length
  | fr, a, [t], h, hf => by
    simp only [catL, List.length_append, List.length_take, List.length_drop]
    have := h.2.1
    omega
  | fr, a, t :: u :: r, h, hf => by
    have ih := cat_len s b t.pl (t.pl + 1) (u :: r) h.2.2.2.2.2 (Nat.le_succ _)
    have h1 := h.2.1
    have h2 := h.2.2.1
    rw [catL]
    simp only [List.length_append, List.length_take, List.length_drop]
    omega
theorem cat_max (s b : Bs) : ∀ (fr a : Nat) (ts : List Tk), PlOk b a ts → fr ≤ a → (catL s b fr ts).length ≤ b.length - fr + ts.length * s.length
  | fr, a, [t], h, hf => by
    simp only [catL, List.length_append, List.length_take, List.length_drop, List.length_nil, List.length_cons]
    have := h.2.1
    omega
  | fr, a, t :: u :: r, h, hf => by
    have ih := cat_max s b t.pl (t.pl + 1) (u :: r) h.2.2.2.2.2 (Nat.le_succ _)
    have h1 := h.2.1
    have h2 := h.2.2.1
    rw [catL]
    simp only [List.length_append, List.length_take, List.length_drop, List.length_cons] at ih ⊢
    rw [Nat.add_mul (r.length + 1) 1]
    omega
theorem pl_count (b : Bs) : ∀ (a : Nat) (ts : List Tk), PlOk b a ts → a + ts.length ≤ b.length + 1
  | a, [t], h => by have := h.2.1; have := h.2.2.1; simp only [List.length_cons, List.length_nil]; omega
  | a, t :: u :: r, h => by
    have ih := pl_count b (t.pl + 1) (u :: r) h.2.2.2.2.2
    have h1 := h.2.1
    simp only [List.length_cons] at ih ⊢
    omega
/-- What LexBlanks asks. -/
theorem blanks_lex {s b : Bs} (hs : Blank s) {ts : List Tk} (h : lexL b = .good ts) : ∃ us, lexL (catL s b 0 ts) = .good us ∧ us.map Tk.what = ts.map Tk.what := by
  obtain ⟨us, hu, hw⟩ := lex_blanks hs h
  refine ⟨us, ?_, hw⟩
  exact toks_mono _ 0 _ us hu _ (by have := cat_len s b 0 0 ts (lex_places h) (Nat.le_refl _); omega)

/-! ### numbers -/
theorem num_ok {n : Nat} (h : n ≤ 9223372036854775807) : lexL (decF 18 n) = .good [⟨3, n, 0, []⟩, ⟨0, 0, (decF 18 n).length, []⟩] := by
  have hb : n < 10 ^ (18 + 1) := by omega
  obtain ⟨c, r, hc, h0⟩ := decF_head 18 n hb
  have hv := decF_val 18 n hb
  have hd := decF_D 18 n
  rw [hc] at hv hd ⊢
  rw [lex_digits hd (by omega) h0, hv]
theorem num_zeros {n : Nat} (h : n ≤ 9223372036854775807) (e : Bs) (he : e.all bW = true) : lexL (48 :: (decF 18 n ++ e)) = .bad 0 := by
  have hb : n < 10 ^ (18 + 1) := by omega
  obtain ⟨c, r, hc, -⟩ := decF_head 18 n hb
  have hd := all_W_of_D (decF_D 18 n)
  refine lex_zero ?_ rfl ?_
  · rw [List.all_cons, List.all_append, hd, he]; rfl
  · rw [hc]; simp
theorem num_behind {n : Nat} (h : n ≤ 9223372036854775807) : lexL (decF 18 n ++ [97]) = .bad 0 := by
  have hb : n < 10 ^ (18 + 1) := by omega
  obtain ⟨c, r, hc, -⟩ := decF_head 18 n hb
  have hd := decF_D 18 n
  have hw := all_W_of_D hd
  rw [hc] at hd hw ⊢
  refine lex_behind (c := c) (r := r ++ [97]) ?_ ?_ ?_
  · rw [← List.cons_append, List.all_append, hw]; decide
  · simp only [List.all_cons, Bool.and_eq_true] at hd; exact hd.1
  · rw [← List.cons_append, List.all_append, show List.all [97] bD = false from by decide, Bool.and_false]

/-! ### signs, and the example of the document -/
theorem lex_nil : lexL [] = .good [⟨0, 0, 0, []⟩] := by kernel_rfl
theorem lex_ex : lexL [97, 58, 61, 49] = .good [⟨1, 0, 0, [97]⟩, ⟨4, 0, 1, [58, 61]⟩, ⟨3, 1, 3, []⟩, ⟨0, 0, 4, []⟩] := by kernel_rfl
/-- The texts of LexSigns. -/
def sgT : List Bs := [[58, 61, 61], [60, 61, 61], [61, 61, 61], [58, 61, 58], [60, 60, 61], [61, 32, 61], [58, 32, 61], [39, 97, 39], [62, 61, 62, 61], [45, 45, 62, 61]]
def sgW : List (List Bs) := [[[58, 61], [61]], [[60, 61], [61]], [[61, 61], [61]], [[58, 61], [58]], [[60], [60, 61]], [[61], [61]], [[58], [61]], [[39], [97], [39]], [[62, 61], [62, 61]], [[45], [45], [62, 61]]]
/-- The texts of tokens, the end's last. -/
def Lx.texts : Lx → List Bs
  | .bad _ => []
  | .good l => l.map Tk.tx
theorem signs_lex : sgT.map (fun b => (lexL b).texts) = sgW.map (fun l => l ++ [[]]) := by kernel_rfl
end Go.Proofs.Ytblcmgahgpnjmaa
