/-
  What package nest's Size counts: trees of lists, how many elements they have and how deep they are; a list in memory, whose elements have lists of their own, read as such trees. No program is named here. Conditions: those that each theorem names.
-/
import Derived.Test.YtfpeennegmlcpaaN1
namespace Go.Proofs.Ytfpeennegmlcpaa
open Go.RowKit
set_option maxRecDepth 100000
set_option maxHeartbeats 1000000

/-- An element, with what is below it. -/
inductive Tt where
  | mk (ks : List Tt)
def Tt.ks : Tt → List Tt
  | .mk l => l
mutual
def Tt.cnt : Tt → Nat
  | .mk l => 1 + cntT l
def cntT : List Tt → Nat
  | [] => 0
  | t :: l => t.cnt + cntT l
end
mutual
def Tt.dep : Tt → Nat
  | .mk l => 1 + depT l
def depT : List Tt → Nat
  | [] => 0
  | t :: l => max t.dep (depT l)
end
mutual
/-- The rounds that an element takes. -/
def Tt.cost : Tt → Nat
  | .mk l => 3 + costT l
def costT : List Tt → Nat
  | [] => 0
  | t :: l => t.cost + costT l
end
/-- How many elements lie below those of a list. -/
def lowT : List Tt → Nat
  | [] => 0
  | t :: l => cntT t.ks + lowT l
theorem Tt.cnt_ks (t : Tt) : t.cnt = 1 + cntT t.ks := by cases t with | mk l => simp only [Tt.cnt, Tt.ks]
theorem Tt.dep_ks (t : Tt) : t.dep = 1 + depT t.ks := by cases t with | mk l => simp only [Tt.dep, Tt.ks]
theorem Tt.cost_ks (t : Tt) : t.cost = 3 + costT t.ks := by cases t with | mk l => simp only [Tt.cost, Tt.ks]
theorem cntT_cons (t : Tt) (l : List Tt) : cntT (t :: l) = t.cnt + cntT l := by simp only [cntT]
theorem depT_cons (t : Tt) (l : List Tt) : depT (t :: l) = max t.dep (depT l) := by simp only [depT]
theorem costT_cons (t : Tt) (l : List Tt) : costT (t :: l) = t.cost + costT l := by simp only [costT]
theorem lowT_cons (t : Tt) (l : List Tt) : lowT (t :: l) = cntT t.ks + lowT l := by simp only [lowT]
theorem cntT_app : ∀ (l m : List Tt), cntT (l ++ m) = cntT l + cntT m
  | [], m => by simp [cntT]
  | t :: l, m => by rw [List.cons_append, cntT_cons, cntT_cons, cntT_app l m]; omega
theorem depT_app : ∀ (l m : List Tt), depT (l ++ m) = max (depT l) (depT m)
  | [], m => by simp [depT]
  | t :: l, m => by rw [List.cons_append, depT_cons, depT_cons, depT_app l m]; omega
theorem cntT_low : ∀ l : List Tt, cntT l = l.length + lowT l
  | [] => by simp [cntT, lowT]
  | t :: l => by rw [cntT_cons, lowT_cons, Tt.cnt_ks, cntT_low l, List.length_cons]; omega
theorem depT_cnt : ∀ (n : Nat) (l : List Tt), cntT l ≤ n → depT l ≤ cntT l
  | n, [], _ => by simp [depT]
  | 0, t :: l, h => by rw [cntT_cons, Tt.cnt_ks] at h; omega
  | n + 1, t :: l, h => by
    rw [cntT_cons, Tt.cnt_ks] at h
    have h1 := depT_cnt n t.ks (by omega)
    have h2 := depT_cnt n l (by omega)
    rw [depT_cons, cntT_cons, Tt.cnt_ks, Tt.dep_ks]
    omega
theorem cnt_below {l : List Tt} {t : Tt} (h : t ∈ l) : cntT t.ks < cntT l := by
  obtain ⟨a, b, rfl⟩ := List.append_of_mem h
  rw [cntT_app, cntT_cons, Tt.cnt_ks]
  omega
theorem cntT_pos {l : List Tt} (h : l ≠ []) : 0 < cntT l := by
  cases l with
  | nil => exact absurd rfl h
  | cons t l => rw [cntT_cons, Tt.cnt_ks]; omega
theorem drop_one {l : List Tt} {i : Nat} {t : Tt} (h : l[i]? = some t) : l.drop i = t :: l.drop (i + 1) := by
  obtain ⟨hi, rfl⟩ := List.getElem?_eq_some_iff.1 h
  exact List.drop_eq_getElem_cons hi
theorem take_one {l : List Tt} {i : Nat} {t : Tt} (h : l[i]? = some t) : l.take (i + 1) = l.take i ++ [t] := by
  rw [List.take_add_one, h]; rfl

/-- The list at a place reads as the trees ts; an element has sz cells, of which the one at off bears the list below it. -/
def LK (w : World) (sz off : Nat) : Nat → Addr × Nat → List Tt → Prop
  | 0, _, _ => False
  | d + 1, p, ts => ts.length = p.2 ∧ 0 < p.2 ∧ p.1.spot = none ∧ OkB w p.1.block ∧ ∀ i t, ts[i]? = some t → ∃ A m c, w.cell? ⟨p.1.block, p.1.off + i * sz + off, none⟩ = some (.slice A m c) ∧ m ≤ c ∧ (m = 0 → t.ks = []) ∧ (0 < m → ∃ a, A = some a ∧ LK w sz off d (a, m) t.ks)
theorem LK.same {w : World} {sz off : Nat} : ∀ {d e : Nat} {p : Addr × Nat} {ts us : List Tt}, LK w sz off d p ts → LK w sz off e p us → ts = us
  | 0, _, _, _, _, h, _ => h.elim
  | _, 0, _, _, _, _, h => h.elim
  | d + 1, e + 1, p, ts, us, ⟨a1, _, _, _, a2⟩, ⟨b1, _, _, _, b2⟩ => by
    apply List.ext_getElem?
    intro i
    by_cases hi : i < p.2
    · obtain ⟨t, ht⟩ : ∃ t, ts[i]? = some t := ⟨_, List.getElem?_eq_getElem (by omega)⟩
      obtain ⟨u, hu⟩ : ∃ u, us[i]? = some u := ⟨_, List.getElem?_eq_getElem (by omega)⟩
      obtain ⟨A, m, c, h1, -, h2, h3⟩ := a2 i t ht
      obtain ⟨B, n, k, g1, -, g2, g3⟩ := b2 i u hu
      rw [h1] at g1
      injection g1 with g1
      injection g1 with g4 g5 g6
      subst g4 g5 g6
      have : t.ks = u.ks := by
        by_cases hm : m = 0
        · rw [h2 hm, g2 hm]
        · obtain ⟨a, rfl, h4⟩ := h3 (by omega)
          obtain ⟨b, hb, g4⟩ := g3 (by omega)
          injection hb with hb
          subst hb
          exact LK.same h4 g4
      rw [ht, hu]
      cases t; cases u
      simp only [Tt.ks] at this
      rw [this]
    · rw [List.getElem?_eq_none (by omega), List.getElem?_eq_none (by omega)]
theorem LK.touch {w w' : World} {F : Nat → Prop} {sz off : Nat} (t : Touch F w w') (hF : ∀ b, F b → w.heap.size ≤ b) : ∀ {d : Nat} {p : Addr × Nat} {ts : List Tt}, LK w sz off d p ts → LK w' sz off d p ts
  | 0, _, _, h => h.elim
  | d + 1, p, ts, ⟨a1, a2, a3, a4, a5⟩ => by
    have hlt : p.1.block < w.heap.size := by obtain ⟨cs, ty, hb⟩ := a4; exact blk_lt hb
    have hf : ¬ F p.1.block := fun h => by have := hF _ h; omega
    refine ⟨a1, a2, a3, a4.touch t hf, fun i x hx => ?_⟩
    obtain ⟨A, m, c, h1, h2, h3, h4⟩ := a5 i x hx
    exact ⟨A, m, c, (t.cell (p := ⟨p.1.block, p.1.off + i * sz + off, none⟩) hlt hf).trans h1, h2, h3, fun hm => by obtain ⟨a, e, h5⟩ := h4 hm; exact ⟨a, e, LK.touch t hF h5⟩⟩
theorem LK.pos {w : World} {sz off d : Nat} {p : Addr × Nat} {ts : List Tt} (h : LK w sz off d p ts) : ts ≠ [] := by
  cases d with
  | zero => exact h.elim
  | succ d => intro e; have := h.1; have := h.2.1; subst e; simp at *; omega
theorem LK.len {w : World} {sz off d : Nat} {p : Addr × Nat} {ts : List Tt} (h : LK w sz off d p ts) : ts.length = p.2 := by
  cases d with
  | zero => exact h.elim
  | succ d => exact h.1
theorem LK.ok {w : World} {sz off d : Nat} {p : Addr × Nat} {ts : List Tt} (h : LK w sz off d p ts) : OkB w p.1.block := by
  cases d with
  | zero => exact h.elim
  | succ d => exact h.2.2.2.1
end Go.Proofs.Ytfpeennegmlcpaa
