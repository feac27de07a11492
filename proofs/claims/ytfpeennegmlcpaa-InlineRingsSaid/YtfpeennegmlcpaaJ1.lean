/-
  What package inline's expander is to leave of a node and of a list of nodes. No condition beyond those that each theorem names.
-/
import Derived.Test.YtfpeennegmlcpaaI9
namespace Go.Proofs.Ytfpeennegmlcpaa
open Go.RowKit
set_option maxRecDepth 100000
set_option maxHeartbeats 1000000

section
variable (B eb ob mb tb D : Nat) (ts : List TrP)
def NoPost (w : World) (c0 x0 f : Nat) (R : Except Nat (BN × List Bool × Nat)) (e : Ending) (w' : World) : Prop :=
  Touch (fun b => b = eb ∨ b = ob) w w' ∧ (∀ er, R = .error er → e = .returned (.tuple #[ndV (.mk 0 ⟨#[]⟩ []) (.slice none 0 0), .int .i64 (er : Int)])) ∧
    ∀ n o c, R = .ok (n, o, c) → c ≤ 4000 ∧ n.ok ∧ ∃ u x, x + c0 ≤ x0 + c ∧ e = .returned (.tuple #[ndV n u, .int .i64 0]) ∧ KL w' (fun b => w.heap.size ≤ b ∧ b < w'.heap.size) f n.ks u ∧ EX w' B eb ob mb tb D ts o c x
def NoOk (f d : Nat) : Prop := ∀ (W : World) (o : List Bool) (c x : Nat) (n : BN) (u : Value), EX W B eb ob mb tb D ts o c x → x ≤ c → c ≤ 4000 → n.ok → KL W (fun b => b < B) D n.ks u →
  Calls Try.prog 43 #[.pointer (some ⟨eb, 0, none⟩), ndV n u, .int .i64 (d : Int)] W (NoPost B eb ob mb tb D ts W c x f (nodM ts f d o c n))
def KiPost (w : World) (c0 x0 f : Nat) (R : Except Nat (List BN × List Bool × Nat)) (e : Ending) (w' : World) : Prop :=
  Touch (fun b => b = eb ∨ b = ob) w w' ∧ (∀ er, R = .error er → 0 < er → e = .returned (.tuple #[.slice none 0 0, .int .i64 (er : Int)])) ∧
    ∀ l o c, R = .ok (l, o, c) → c ≤ 4000 ∧ ∃ v x, x + c0 ≤ x0 + c ∧ e = .returned (.tuple #[v, .int .i64 0]) ∧ KL w' (fun b => w.heap.size ≤ b ∧ b < w'.heap.size) (f + 1) l v ∧ EX w' B eb ob mb tb D ts o c x
end
/-- With nodes that were made ahead. -/
def preK (l : List BN) : Except Nat (List BN × List Bool × Nat) → Except Nat (List BN × List Bool × Nat)
  | .error e => .error e
  | .ok (l', o, c) => .ok (l ++ l', o, c)
theorem preK_nil (R : Except Nat (List BN × List Bool × Nat)) : preK [] R = R := by rcases R with e | ⟨n, l, o⟩ <;> rfl
theorem preK_step {nod : List Bool → Nat → BN → Except Nat (BN × List Bool × Nat)} {o o' : List Bool} {c c' : Nat} {n n' : BN} {l p : List BN} (h : nod o c n = .ok (n', o', c')) : preK p (kidM nod o c (n :: l)) = preK (p ++ [n']) (kidM nod o' c' l) := by
  simp only [kidM, h]
  rcases kidM nod o' c' l with e | ⟨l', o2, c2⟩
  · rfl
  · simp [preK]
theorem preK_bad {nod : List Bool → Nat → BN → Except Nat (BN × List Bool × Nat)} {o : List Bool} {c e : Nat} {n : BN} {l p : List BN} (h : nod o c n = .error e) : preK p (kidM nod o c (n :: l)) = .error e := by
  simp only [kidM, h]
  rfl
theorem folM_pos {ts : List TrP} {e : Nat} : ∀ {f : Nat} {o : List Bool} {n : BN}, folM ts f o n = .error e → 0 < e
  | 0, _, _, h => by simp only [folM] at h; injection h with h; omega
  | f + 1, o, n, h => by
    simp only [folM] at h
    split at h
    · split at h
      · injection h with h; omega
      · split at h
        · injection h with h; omega
        · split at h
          · injection h with h; omega
          · split at h
            · rename_i h2
              injection h with h
              subst h
              exact folM_pos h2
            · cases h
    · cases h
theorem kidM_pos {nod : List Bool → Nat → BN → Except Nat (BN × List Bool × Nat)} {e : Nat} (hn : ∀ o c n, nod o c n = .error e → 0 < e) : ∀ {l : List BN} {o : List Bool} {c : Nat}, kidM nod o c l = .error e → 0 < e
  | [], _, _, h => by simp only [kidM] at h; cases h
  | n :: l, o, c, h => by
    simp only [kidM] at h
    split at h
    · rename_i h2
      injection h with h
      subst h
      exact hn _ _ _ h2
    · split at h
      · rename_i h2
        injection h with h
        subst h
        exact kidM_pos hn h2
      · cases h
theorem nodM_pos {ts : List TrP} {e : Nat} : ∀ {f d : Nat} {o : List Bool} {c : Nat} {n : BN}, nodM ts f d o c n = .error e → 0 < e
  | 0, _, _, _, _, h => by simp only [nodM] at h; injection h with h; omega
  | f + 1, d, o, c, n, h => by
    simp only [nodM] at h
    split at h
    · rename_i h2
      injection h with h
      subst h
      exact folM_pos h2
    · split at h
      · injection h with h; omega
      · split at h
        · injection h with h; omega
        · split at h
          · rename_i h2
            injection h with h
            subst h
            exact kidM_pos (fun o c n => nodM_pos) h2
          · cases h
theorem kidM_more {nod : List Bool → Nat → BN → Except Nat (BN × List Bool × Nat)} (hn : ∀ o c n n' o' c', nod o c n = .ok (n', o', c') → c ≤ c') : ∀ {l : List BN} {o : List Bool} {c : Nat} {l' : List BN} {o' : List Bool} {c' : Nat}, kidM nod o c l = .ok (l', o', c') → c ≤ c'
  | [], _, _, _, _, _, h => by simp only [kidM] at h; injection h with h; injection h with h1 h2; injection h2 with h2 h3; omega
  | n :: l, o, c, l', o', c', h => by
    simp only [kidM] at h
    split at h
    · cases h
    · rename_i h2
      split at h
      · cases h
      · rename_i h3
        injection h with h
        injection h with h4 h5
        injection h5 with h5 h6
        subst h6
        exact Nat.le_trans (hn _ _ _ _ _ _ h2) (kidM_more hn h3)
theorem nodM_more {ts : List TrP} : ∀ {f d : Nat} {o : List Bool} {c : Nat} {n n' : BN} {o' : List Bool} {c' : Nat}, nodM ts f d o c n = .ok (n', o', c') → c + 1 ≤ c'
  | 0, _, _, _, _, _, _, _, h => by simp only [nodM] at h; cases h
  | f + 1, d, o, c, n, n', o', c', h => by
    simp only [nodM] at h
    split at h
    · cases h
    · split at h
      · cases h
      · split at h
        · cases h
        · split at h
          · cases h
          · rename_i h3
            injection h with h
            injection h with h4 h5
            injection h5 with h5 h6
            subst h6
            exact kidM_more (fun o c n n' o' c' hh => Nat.le_of_succ_le (nodM_more hh)) h3
/-- The cells of nodes in a row. -/
def flatC : List (BN × Value) → List Value
  | [] => []
  | p :: l => ndC p.1.kd p.1.nm p.2 ++ flatC l
theorem flatC_len : ∀ l : List (BN × Value), (flatC l).length = l.length * 10
  | [] => rfl
  | p :: l => by rw [flatC, List.length_append, flatC_len l, List.length_cons]; simp [ndC]; omega
theorem flatC_snoc : ∀ (l : List (BN × Value)) (p : BN × Value), flatC (l ++ [p]) = flatC l ++ ndC p.1.kd p.1.nm p.2
  | [], p => by simp [flatC]
  | q :: l, p => by rw [List.cons_append, flatC, flatC_snoc l p, flatC, List.append_assoc]
theorem flatC_at : ∀ {l : List (BN × Value)} {i : Nat} {p : BN × Value}, l[i]? = some p → ∀ j x, (ndC p.1.kd p.1.nm p.2)[j]? = some x → (flatC l)[i * 10 + j]? = some x
  | [], i, p, h => by simp at h
  | q :: l, 0, p, h => by
    intro j x hj
    simp at h
    subst h
    have : j < 10 := by have := (List.getElem?_eq_some_iff.1 hj).1; simpa [ndC] using this
    rw [flatC, List.getElem?_append_left (by simp [ndC]; omega), Nat.zero_mul, Nat.zero_add]
    exact hj
  | q :: l, i + 1, p, h => by
    intro j x hj
    rw [flatC, List.getElem?_append_right (by simp [ndC]; omega)]
    have e : (i + 1) * 10 + j - (ndC q.1.kd q.1.nm q.2).length = i * 10 + j := by simp [ndC]; omega
    rw [e]
    exact flatC_at (by simpa using h) j x hj
/-- A row of one's own, read as a list of nodes. -/
theorem kl_of_row {w : World} {base T : Nat} {v : Value} {ps : List (BN × Value)} {Q R : Nat → Prop} {d : Nat} (h : w.ownsRow base T 10 v ps.length (flatC ps)) (hq : ∀ p ∈ ps, p.1.ok ∧ KL w Q d p.1.ks p.2) (hR : ∀ b, Q b → R b) (hg : ∀ g, v.ownBlock = some g → R g) (h0 : ps = [] → v = .slice none 0 0) : KL w R (d + 1) (ps.map (·.1)) v := by
  by_cases hn : ps = []
  · subst hn; exact .inl ⟨rfl, h0 rfl⟩
  · have hl := List.length_pos_iff.2 hn
    rcases h.2 with ⟨-, h2⟩ | ⟨g, cap, cur, rfl, hB, hg2, hc, hm, hs, ht⟩
    · exact absurd h2 (by omega)
    · refine .inr ⟨g, ps.length, cap, cur, T, rfl, hg g rfl, by simp, hl, hc, hm, hg2, fun i y hy => ?_⟩
      rw [List.getElem?_map] at hy
      obtain ⟨p, hp, rfl⟩ : ∃ p, ps[i]? = some p ∧ p.1 = y := by
        cases hx : ps[i]? with
        | none => rw [hx] at hy; cases hy
        | some p => rw [hx] at hy; injection hy with hy; exact ⟨p, rfl, hy⟩
      obtain ⟨q1, q2⟩ := hq p (List.mem_of_getElem? hp)
      refine ⟨q1, p.2, fun j x hj => ?_, q2.via (Touch.refl NoB w) (fun b hb => ⟨fun f => f, hR b hb⟩)⟩
      have h3 := flatC_at hp j x hj
      rw [← ht] at h3
      have hlt := (List.getElem?_eq_some_iff.1 h3).1
      rw [List.getElem?_take_of_lt (by simp at hlt; omega), Array.getElem?_toList] at h3
      exact h3
end Go.Proofs.Ytfpeennegmlcpaa
