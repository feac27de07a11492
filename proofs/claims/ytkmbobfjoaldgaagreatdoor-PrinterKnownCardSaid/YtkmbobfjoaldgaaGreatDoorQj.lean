/-
  What package expr's pair does: two operands behind one another. Conditions: those that each theorem names.
-/
import Derived.Test.YtkmbobfjoaldgaaGreatDoorQi
namespace Go.Proofs.YtkmbobfjoaldgaaGreatDoor
open Go.ChangeShapes Go.WideShapes Go.ChangeAt Go.RowKit
set_option maxRecDepth 100000
set_option maxHeartbeats 4000000

theorem expect_any {w : World} {gp g n cp : Nat} {ts : List Tk} {k e : Nat} {s : Bs} (h : PS w gp g n cp ts k e) :
    Calls Tryz.prog 83 #[.pointer (some ⟨gp, 0, none⟩), .string (bs s)] w fun x w' => x = .returned (.tuple #[]) ∧
      PS w' gp g n cp ts (if acc (nxt ts k e) s = true then k + 1 else k) (if acc (nxt ts k e) s = true then e else if e = 0 then 2 else e) ∧ Touch (AtB gp) w w' := by
  cases ha : acc (nxt ts k e) s
  · simp only [Bool.false_eq_true, if_false]
    by_cases he : e = 0
    · subst he
      exact (expect_no h ha).mono (fun x w' q => by simpa using q)
    · rw [if_neg he]
      exact (expect_bad h he).mono (fun x w' q => ⟨q.1, q.2.1, Touch.anyB q.2.2⟩)
  · simp only [if_true]
    exact expect_yes h ha
theorem form_any {w : World} {gp g n cp : Nat} {ts : List Tk} {k e : Nat} (h : PS w gp g n cp ts k e) {x : Ex} {kd : Int} {A : Option Addr} {m c : Nat} {Q : Nat → Prop} (hx : ET w Q x kd 0 ⟨#[]⟩ A m c) (hd : x.depth ≤ 100000) :
    Calls Tryz.prog 174 #[.pointer (some ⟨gp, 0, none⟩), .int .i64 kd, .slice A m c] w fun r w' => r = .returned (.agg #[.int .i64 kd, .int .i64 0, .string ⟨#[]⟩, .slice A m c]) ∧ PS w' gp g n cp ts k (if e = 0 ∧ 40 < x.depth then 4 else e) ∧ Touch (AtB gp) w w' := by
  by_cases h40 : 40 < x.depth
  · refine (form_deep h hx h40 hd).mono (fun r w' q => ?_)
    by_cases he : e = 0
    · rw [if_pos ⟨he, h40⟩]; rw [if_pos he] at q; exact q
    · rw [if_neg (fun z => he z.1)]; rw [if_neg he] at q; exact q
  · refine (form_small h hx (by omega)).mono (fun r w' q => ?_)
    rw [if_neg (fun z => h40 z.2)]
    exact ⟨q.1, q.2.1, Touch.anyB q.2.2⟩

/-- What a call leaves of tree and state, where the model comes to r. -/
def Out (r : Rs) (k e : Nat) (y : Ex) (k' e' : Nat) : Prop :=
  if e = 0 then (match r with | .ok z j => y = z ∧ k' = j ∧ e' = 0 | .er e2 j => k' = j ∧ e' = e2 ∧ e2 ≠ 0) else k' = k ∧ e' = e
theorem Out.bad {r : Rs} {k e : Nat} {y : Ex} (he : e ≠ 0) : Out r k e y k e := by unfold Out; rw [if_neg he]; exact ⟨rfl, rfl⟩
def XP (w : World) (Q : Nat → Prop) (gp g n cp : Nat) (ts : List Tk) (r : Rs) (k e D : Nat) (x : Ending) (w' : World) : Prop := Touch (AtB gp) w w' ∧ ∃ (y : Ex) (k' e' : Nat) (a b : Int) (s : ByteArray) (A : Option Addr) (m c : Nat),
  x = .returned (.agg #[.int .i64 a, .int .i64 b, .string s, .slice A m c]) ∧ ET w' (fun b => Q b ∨ w.heap.size ≤ b) y a b s A m c ∧ PS w' gp g n cp ts k' e' ∧ Out r k e y k' e' ∧ y.depth ≤ D
theorem XP.up {w : World} {Q : Nat → Prop} {gp g n cp : Nat} {ts : List Tk} {r : Rs} {k e D D' : Nat} {x : Ending} {w' : World} (h : XP w Q gp g n cp ts r k e D x w') (hD : D ≤ D') : XP w Q gp g n cp ts r k e D' x w' := by
  obtain ⟨h1, y, k', e', a, b, s, A, m, c, h2, h3, h4, h5, h6⟩ := h
  exact ⟨h1, y, k', e', a, b, s, A, m, c, h2, h3, h4, h5, Nat.le_trans h6 hD⟩
/-- An expression in a block of its own. -/
def XB (w : World) (q : Nat) (a b : Int) (s : ByteArray) (A : Option Addr) (m c : Nat) : Prop := w.heap[q]? = some (.cells #[.int .i64 a, .int .i64 b, .string s, .slice A m c] 44 (0, 0))
theorem XB.go {w w' : World} {gp q : Nat} {a b : Int} {s : ByteArray} {A : Option Addr} {m c : Nat} (h : XB w q a b s A m c) (t : Touch (AtB gp) w w') (hne : q ≠ gp) : XB w' q a b s A m c := (t.block q (blk_lt h) hne).trans h
theorem XB.new (w : World) (a b : Int) (s : ByteArray) (A : Option Addr) (m c : Nat) {N : Nat} (hN : w.heap.size = N) : XB (w.alloc (.cells #[.int .i64 a, .int .i64 b, .string s, .slice A m c] 44)) N a b s A m c := alloc_blk _ _ _ hN
theorem XB.old {w : World} {q : Nat} {a b : Int} {s : ByteArray} {A : Option Addr} {m c : Nat} (h : XB w q a b s A m c) (o : Obj) : XB (w.alloc o) q a b s A m c := by unfold XB; rw [heap_alloc_old _ _ (blk_lt h)]; exact h
theorem XB.cells {w : World} {q : Nat} {a b : Int} {s : ByteArray} {A : Option Addr} {m c : Nat} (h : XB w q a b s A m c) : w.cell? ⟨q, 0, none⟩ = some (.int .i64 a) ∧ w.cell? ⟨q, 1, none⟩ = some (.int .i64 b) ∧ w.cell? ⟨q, 2, none⟩ = some (.string s) ∧ w.cell? ⟨q, 3, none⟩ = some (.slice A m c) ∧ q < w.heap.size :=
  ⟨cell_blk h 0, cell_blk h 1, cell_blk h 2, cell_blk h 3, blk_lt h⟩
theorem XB.free {w : World} {q : Nat} {a b : Int} {s : ByteArray} {A : Option Addr} {m c : Nat} (h : XB w q a b s A m c) : w.frozen? ⟨q, 0, none⟩ = false ∧ w.frozen? ⟨q, 1, none⟩ = false ∧ w.frozen? ⟨q, 2, none⟩ = false ∧ w.frozen? ⟨q, 3, none⟩ = false :=
  ⟨free_blk h 0, free_blk h 1, free_blk h 2, free_blk h 3⟩
/-- Two Kids in a new row. -/
theorem ET.mk2 {w : World} {Q : Nat → Prop} {x y : Ex} {a b : Int} {s : ByteArray} {A : Option Addr} {m c : Nat} {a' b' : Int} {s' : ByteArray} {A' : Option Addr} {m' c' : Nat} (hx : ET w Q x a b s A m c) (hy : ET w Q y a' b' s' A' m' c') (kd : Int) {N : Nat} (hN : w.heap.size = N) (hQ : Q N) :
    ET (w.alloc (.cells #[.int .i64 a, .int .i64 b, .string s, .slice A m c, .int .i64 a', .int .i64 b', .string s', .slice A' m' c'] 44)) Q (.two kd x y) kd 0 ⟨#[]⟩ (some ⟨N, 0, none⟩) 2 2 := by
  have t : Touch NoB w (w.alloc (.cells #[.int .i64 a, .int .i64 b, .string s, .slice A m c, .int .i64 a', .int .i64 b', .string s', .slice A' m' c'] 44)) := (Touch.refl _ _).alloc _
  exact ⟨rfl, rfl, rfl, rfl, rfl, N, _, a, b, s, A, m, c, a', b', s', A', m', c', ⟨rfl, hQ⟩, alloc_blk _ _ _ hN, hx.touch0 t, hy.touch0 t⟩
theorem ET.mk1 {w : World} {Q : Nat → Prop} {x : Ex} {a b : Int} {s : ByteArray} {A : Option Addr} {m c : Nat} (hx : ET w Q x a b s A m c) (kd : Int) {N : Nat} (hN : w.heap.size = N) (hQ : Q N) :
    ET (w.alloc (.cells #[.int .i64 a, .int .i64 b, .string s, .slice A m c] 44)) Q (.one kd x) kd 0 ⟨#[]⟩ (some ⟨N, 0, none⟩) 1 1 := by
  have t : Touch NoB w (w.alloc (.cells #[.int .i64 a, .int .i64 b, .string s, .slice A m c] 44)) := (Touch.refl _ _).alloc _
  exact ⟨rfl, rfl, rfl, rfl, rfl, N, _, a, b, s, A, m, c, ⟨rfl, hQ⟩, alloc_blk _ _ _ hN, hx.touch0 t⟩
/-- A store to a block that no Kid lies in. -/
theorem ET.aside {w w' : World} {Q : Nat → Prop} {q : Nat} (t : Touch (fun b => b = q) w w') {x : Ex} {a b : Int} {s : ByteArray} {A : Option Addr} {m c : Nat} (h : ET w Q x a b s A m c) (hq : ¬ Q q) : ET w' Q x a b s A m c :=
  h.touch t (fun b _ _ hb hQ => by subst hb; exact absurd hQ hq)

/-- What follows the first operand, in the model. -/
theorem out_pair {ts : List Tk} {E : Nat → Rs} {kd : Int} {x y : Ex} {k e k1 e1 k2 e2 k3 e3 e4 : Nat}
    (h1 : k1 = if acc (nxt ts k e) [44] = true then k + 1 else k) (h1e : e1 = if acc (nxt ts k e) [44] = true then e else if e = 0 then 2 else e)
    (h2 : Out (E k1) k1 e1 y k2 e2)
    (h3 : k3 = if acc (nxt ts k2 e2) [41] = true then k2 + 1 else k2) (h3e : e3 = if acc (nxt ts k2 e2) [41] = true then e2 else if e2 = 0 then 2 else e2)
    (h4 : e4 = if e3 = 0 ∧ 40 < (Ex.two kd x y).depth then 4 else e3) : Out (pairL ts E kd x k) k e (.two kd x y) k3 e4 := by
  by_cases he : e = 0
  · subst he
    unfold Out
    rw [if_pos rfl]
    rw [acc_ok] at h1 h1e
    unfold pairL
    cases hc : sg ts k [44]
    · rw [hc] at h1 h1e
      simp only [Bool.false_eq_true, if_false, if_true] at h1 h1e ⊢
      subst h1 h1e
      unfold Out at h2
      rw [if_neg (by decide)] at h2
      obtain ⟨rfl, rfl⟩ := h2
      rw [acc_bad (by decide)] at h3 h3e
      simp at h3 h3e
      subst h3 h3e
      simp at h4
      exact ⟨rfl, h4, by decide⟩
    · rw [hc] at h1 h1e
      simp only [if_true] at h1 h1e ⊢
      subst h1 h1e
      unfold Out at h2
      rw [if_pos rfl] at h2
      cases hE : E (k + 1) with
      | er e2' j =>
        rw [hE] at h2
        obtain ⟨rfl, rfl, h0⟩ := h2
        rw [acc_bad h0] at h3 h3e
        simp [h0] at h3 h3e
        subst h3 h3e
        rw [if_neg (fun z => h0 z.1)] at h4
        exact ⟨rfl, h4, h0⟩
      | ok z j =>
        rw [hE] at h2
        obtain ⟨rfl, rfl, rfl⟩ := h2
        rw [acc_ok] at h3 h3e
        simp only
        cases hd : sg ts k2 [41]
        · rw [hd] at h3 h3e
          simp at h3 h3e
          subst h3 h3e
          simp at h4
          simp only [Bool.false_eq_true, if_false]
          refine ⟨?_, ?_, ?_⟩ <;> first | trivial | exact h4 | decide
        · rw [hd] at h3 h3e
          simp only [if_true] at h3 h3e ⊢
          subst h3 h3e
          unfold mk
          by_cases h40 : 40 < (Ex.two kd x y).depth
          · rw [if_pos h40]; rw [if_pos ⟨rfl, h40⟩] at h4; exact ⟨rfl, h4, by decide⟩
          · rw [if_neg h40]; rw [if_neg (fun z => h40 z.2)] at h4; exact ⟨rfl, rfl, h4⟩
  · rw [acc_bad he] at h1 h1e
    simp [he] at h1 h1e
    subst h1 h1e
    unfold Out at h2 ⊢
    rw [if_neg he] at h2 ⊢
    obtain ⟨rfl, rfl⟩ := h2
    rw [acc_bad he] at h3 h3e
    simp [he] at h3 h3e
    subst h3 h3e
    rw [if_neg (fun z => he z.1)] at h4
    exact ⟨rfl, h4⟩
end Go.Proofs.YtkmbobfjoaldgaaGreatDoor
