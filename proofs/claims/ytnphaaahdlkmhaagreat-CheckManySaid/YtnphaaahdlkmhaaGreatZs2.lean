/-
  The lexer over lists of bytes: fuel, the five blanks, numbers, signs, the example of the document. No program is named here.
-/
import Derived.Test.YtnphaaahdlkmhaaGreatZs1
import Derived.KernelRfl
namespace Go.Proofs.YtnphaaahdlkmhaaGreat

/-- Fuel for each byte and one more is enough. -/
theorem toks_fuel : ∀ (f a : Nat) (l : Bs), l.length < f → ∀ f', l.length < f' → toksL f a l = toksL f' a l
  | 0, a, l, h, _, _ => by omega
  | f + 1, a, l, h, f', hf => by
    obtain ⟨k, rfl⟩ : ∃ k, f' = k + 1 := ⟨f' - 1, by omega⟩
    have hsl := skip_len l false
    simp only [toksL]
    cases hm : skipL false l with
    | nil => rfl
    | cons c r =>
      rw [hm] at hsl
      simp only
      cases ht : tokL (a + (l.length - (c :: r).length)) (c :: r) with
      | none => rfl
      | some x =>
        obtain ⟨t, n⟩ := x
        have hn := tok_len ht
        simp only
        rw [toks_fuel f _ ((c :: r).drop n) (by rw [List.length_drop]; omega) k (by rw [List.length_drop]; omega)]

theorem pl_count (b : Bs) : ∀ (a : Nat) (ts : List Tk), PlOk b a ts → a + ts.length ≤ b.length + 1
  | a, [t], h => by have := h.2.1; have := h.2.2.1; simp only [List.length_cons, List.length_nil]; omega
  | a, t :: u :: r, h => by
    have ih := pl_count b (t.pl + 1) (u :: r) h.2.2.2.2.2
    have h1 := h.2.1
    simp only [List.length_cons] at ih ⊢
    omega
/-! ### numbers -/
/-! ### signs, and the example of the document -/
end Go.Proofs.YtnphaaahdlkmhaaGreat
