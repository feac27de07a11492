/-
  The document's own sameness of a program's parts, of two that lie apart in memory: acts. Conditions: those that each theorem names.
-/
import Derived.Test.YtnphaaahdlkmhaaGreatZs9
import Derived.WalkKit
import Derived.Scope
import Derived.WalkMore
section
namespace Go.Proofs.YtnphaaahdlkmhaaGreat
open Go.ChangeShapes Go.WideShapes Go.ChangeAt Go.RowKit
set_option maxRecDepth 100000
set_option maxHeartbeats 4000000

theorem mkC_at : ∀ (l : List Mk) (k : Nat) (c : Mk), l[k]? = some c → (mkC l)[k * 3]? = some (.string (bs c.nm)) ∧ (mkC l)[k * 3 + 1]? = some (.bool c.add) ∧ (mkC l)[k * 3 + 2]? = some (.int .i64 c.n)
  | [], k, c, h => by cases h
  | x :: l, 0, c, h => by
    simp only [List.getElem?_cons_zero, Option.some.injEq] at h
    subst h
    simp [mkC]
  | x :: l, k + 1, c, h => by
    rw [List.getElem?_cons_succ] at h
    obtain ⟨a, b, d⟩ := mkC_at l k c h
    have e : mkC (x :: l) = [.string (bs x.nm), .bool x.add, .int .i64 x.n] ++ mkC l := by simp [mkC]
    have r : ∀ j, (mkC (x :: l))[k * 3 + j + 3]? = (mkC l)[k * 3 + j]? := fun j => by rw [e]; rfl
    refine ⟨?_, ?_, ?_⟩
    · exact (congrArg (fun z => (mkC (x :: l))[z]?) (show (k + 1) * 3 = k * 3 + 0 + 3 by omega)).trans ((r 0).trans a)
    · exact (congrArg (fun z => (mkC (x :: l))[z]?) (show (k + 1) * 3 + 1 = k * 3 + 1 + 3 by omega)).trans ((r 1).trans b)
    · exact (congrArg (fun z => (mkC (x :: l))[z]?) (show (k + 1) * 3 + 2 = k * 3 + 2 + 3 by omega)).trans ((r 2).trans d)
end Go.Proofs.YtnphaaahdlkmhaaGreat
end
/-
  The document's own sameness of a program's parts, of two that lie apart in memory: lists part by part, variables. Conditions: those that each theorem names.
-/
section
namespace Go.Proofs.YtnphaaahdlkmhaaGreat
open Go.ChangeShapes Go.WideShapes Go.ChangeAt Go.RowKit
set_option maxRecDepth 100000
set_option maxHeartbeats 4000000

theorem LsAt.len {α : Type} {P : α → List Value → Prop} {l : List α} {xs : List Value} {s : Nat} (h : LsAt P l xs) (hs : ∀ a ys, P a ys → ys.length = s) : xs.length = l.length * s := by
  induction h with
  | nil => simp
  | snoc _ ha ih => rw [List.length_append, List.length_append, ih, hs _ _ ha]; simp [Nat.add_mul]
theorem LsAt.at_ {α : Type} {P : α → List Value → Prop} {l : List α} {xs : List Value} {s : Nat} (h : LsAt P l xs) (hs : ∀ a ys, P a ys → ys.length = s) :
    ∀ (i : Nat) (a : α), l[i]? = some a → ∃ ys, P a ys ∧ ∀ j, j < s → xs[i * s + j]? = ys[j]? := by
  induction h with
  | nil => intro i a hi; cases hi
  | @snoc l b xs ys h ha ih =>
    intro i a hi
    have hl := h.len hs
    by_cases hlt : i < l.length
    · rw [List.getElem?_append_left hlt] at hi
      obtain ⟨zs, hz, hj⟩ := ih i a hi
      refine ⟨zs, hz, fun j hjs => ?_⟩
      have hb : i * s + j < xs.length := by
        have h1 : (i + 1) * s ≤ l.length * s := Nat.mul_le_mul_right s hlt
        rw [Nat.add_mul] at h1
        omega
      rw [List.getElem?_append_left hb]
      exact hj j hjs
    · have hi2 := (List.getElem?_eq_some_iff.1 hi).1
      simp at hi2
      have e : i = l.length := by omega
      subst e
      rw [List.getElem?_append_right (Nat.le_refl _)] at hi
      simp at hi
      subst hi
      refine ⟨ys, ha, fun j hjs => ?_⟩
      rw [List.getElem?_append_right (by omega), hl]
      congr 1
      omega
theorem AcAt.len {w : World} {Q : Nat → Prop} {a : Ac} {l : List Value} (h : AcAt w Q a l) : l.length = 4 := by
  obtain ⟨v1, v2, rfl, -, -⟩ := h
  rfl
theorem vaC_at : ∀ (l : List Va) (k : Nat) (c : Va), l[k]? = some c → (vaC l)[k * 3]? = some (.string (bs c.nm)) ∧ (vaC l)[k * 3 + 1]? = some (.int .i64 c.lo) ∧ (vaC l)[k * 3 + 2]? = some (.int .i64 c.hi)
  | [], k, c, h => by cases h
  | x :: l, 0, c, h => by
    simp only [List.getElem?_cons_zero, Option.some.injEq] at h
    subst h
    simp [vaC]
  | x :: l, k + 1, c, h => by
    rw [List.getElem?_cons_succ] at h
    obtain ⟨a, b, d⟩ := vaC_at l k c h
    have e : vaC (x :: l) = [.string (bs x.nm), .int .i64 x.lo, .int .i64 x.hi] ++ vaC l := by simp [vaC]
    have r : ∀ j, (vaC (x :: l))[k * 3 + j + 3]? = (vaC l)[k * 3 + j]? := fun j => by rw [e]; rfl
    refine ⟨?_, ?_, ?_⟩
    · exact (congrArg (fun z => (vaC (x :: l))[z]?) (show (k + 1) * 3 = k * 3 + 0 + 3 by omega)).trans ((r 0).trans a)
    · exact (congrArg (fun z => (vaC (x :: l))[z]?) (show (k + 1) * 3 + 1 = k * 3 + 1 + 3 by omega)).trans ((r 1).trans b)
    · exact (congrArg (fun z => (vaC (x :: l))[z]?) (show (k + 1) * 3 + 2 = k * 3 + 2 + 3 by omega)).trans ((r 2).trans d)
end Go.Proofs.YtnphaaahdlkmhaaGreat
end
/-
  The document's own sameness of a program's parts, of two that lie apart in memory: domains. Conditions: those that each theorem names.
-/
section
namespace Go.Proofs.YtnphaaahdlkmhaaGreat
open Go.ChangeShapes Go.WideShapes Go.ChangeAt Go.RowKit
set_option maxRecDepth 100000
set_option maxHeartbeats 4000000

theorem SlAt.cells4 {w : World} {Q : Nat → Prop} {A : Option Addr} {n c i : Nat} {xs : List Value} {a b d e : Value} (h : SlAt w Q (.slice A n c) n xs) (h0 : xs[i * 4]? = some a) (h1 : xs[i * 4 + 1]? = some b) (h2 : xs[i * 4 + 2]? = some d) (h3 : xs[i * 4 + 3]? = some e) :
    ∃ g, A = some ⟨g, 0, none⟩ ∧ w.cell? ⟨g, i * 4, none⟩ = some a ∧ w.cell? ⟨g, i * 4 + 1, none⟩ = some b ∧ w.cell? ⟨g, i * 4 + 2, none⟩ = some d ∧ w.cell? ⟨g, i * 4 + 3, none⟩ = some e := by
  obtain ⟨A', c', e0, hx⟩ := h
  injection e0 with e1 e2 e3
  subst e1
  obtain ⟨g, hg, -, -, k0⟩ := hx _ _ h0
  obtain ⟨g1, hg1, -, -, k1⟩ := hx _ _ h1
  obtain ⟨g2, hg2, -, -, k2⟩ := hx _ _ h2
  obtain ⟨g3, hg3, -, -, k3⟩ := hx _ _ h3
  rw [hg] at hg1 hg2 hg3
  injection hg1 with hg1
  injection hg1 with hg1
  injection hg2 with hg2
  injection hg2 with hg2
  injection hg3 with hg3
  injection hg3 with hg3
  subst hg1 hg2 hg3
  exact ⟨_, hg, k0, k1, k2, k3⟩
end Go.Proofs.YtnphaaahdlkmhaaGreat
end
/-
  Nodes in memory: finished ones, open ones, the stack of those that wait for a kid. Blocks bear labels: 1 finished, 2 the stack's row, 3 + 2 i and 4 + 2 i the rows of the open node at place i. No condition beyond those that each theorem names.
-/
section
namespace Go.Proofs.YtnphaaahdlkmhaaGreat
open Go.ChangeShapes Go.WideShapes Go.ChangeAt Go.RowKit
set_option maxRecDepth 100000
set_option maxHeartbeats 4000000

def Nd.a : Nd → Nat | .mk _ a _ _ _ _ _ => a
def Nd.b : Nd → Nat | .mk _ _ b _ _ _ _ => b
def Nd.nm : Nd → Bs | .mk _ _ _ s _ _ _ => s
def Nd.ex : Nd → Ex | .mk _ _ _ _ x _ _ => x
/-- An expression's four cells. -/
def XAt (w : World) (Q : Nat → Prop) (x : Ex) (l : List Value) : Prop := ∃ (a b : Int) (s : ByteArray) (A : Option Addr) (m c : Nat), l = [.int .i64 a, .int .i64 b, .string s, .slice A m c] ∧ ET w Q x a b s A m c
theorem ET.far {w w' : World} {F Q : Nat → Prop} (t : Touch F w w') (hF : ∀ b, Q b → ¬ F b) {x : Ex} {a b : Int} {s : ByteArray} {A : Option Addr} {m c : Nat} (h : ET w Q x a b s A m c) : ET w' Q x a b s A m c := ET.touch t (fun b _ _ hf hq _ => hF b hq hf) h
theorem XAt.touch {w w' : World} {F Q : Nat → Prop} {x : Ex} {l : List Value} (h : XAt w Q x l) (t : Touch F w w') (hF : ∀ b, Q b → ¬ F b) : XAt w' Q x l := by
  obtain ⟨a, b, s, A, m, c, rfl, h1⟩ := h
  exact ⟨a, b, s, A, m, c, rfl, h1.far t hF⟩
theorem XAt.via {w : World} {Q R : Nat → Prop} {x : Ex} {l : List Value} (h : XAt w Q x l) (hQ : ∀ b, Q b → b < w.heap.size → R b) : XAt w R x l := by
  obtain ⟨a, b, s, A, m, c, rfl, h1⟩ := h
  exact ⟨a, b, s, A, m, c, rfl, h1.via hQ⟩
theorem XAt.len {w : World} {Q : Nat → Prop} {x : Ex} {l : List Value} (h : XAt w Q x l) : l.length = 4 := by
  obtain ⟨a, b, s, A, m, c, rfl, -⟩ := h
  rfl
/-- A finished node's ten cells; it is less than D deep. -/
def NT (w : World) (Q : Nat → Prop) : Nat → Nd → List Value → Prop
  | 0, _, _ => False
  | D + 1, n, l => ∃ (a b : Int) (s : ByteArray) (A : Option Addr) (m c : Nat) (kv wv : Value) (xs ys : List Value),
      l = [.int .i64 (n.kd : Int), .int .i64 (n.a : Int), .int .i64 (n.b : Int), .string (bs n.nm), .int .i64 a, .int .i64 b, .string s, .slice A m c, kv, wv] ∧ ET w Q n.ex a b s A m c ∧
      SlAt w Q kv n.ks.length xs ∧ LsAt (NT w Q D) n.ks xs ∧ SlAt w Q wv n.ws.length ys ∧ LsAt (XAt w Q) n.ws ys
theorem NT.touch {w w' : World} {F Q : Nat → Prop} (t : Touch F w w') (hF : ∀ b, Q b → ¬ F b) : ∀ (D : Nat) (n : Nd) (l : List Value), NT w Q D n l → NT w' Q D n l
  | 0, _, _, h => h
  | D + 1, n, l, h => by
    obtain ⟨a, b, s, A, m, c, kv, wv, xs, ys, e, h1, h2, h3, h4, h5⟩ := h
    exact ⟨a, b, s, A, m, c, kv, wv, xs, ys, e, h1.far t hF, h2.touch t hF, h3.mono (NT.touch t hF D), h4.touch t hF, h5.mono (fun x ys hx => hx.touch t hF)⟩
theorem NT.via {w : World} {Q R : Nat → Prop} (hQ : ∀ b, Q b → b < w.heap.size → R b) : ∀ (D : Nat) (n : Nd) (l : List Value), NT w Q D n l → NT w R D n l
  | 0, _, _, h => h
  | D + 1, n, l, h => by
    obtain ⟨a, b, s, A, m, c, kv, wv, xs, ys, e, h1, h2, h3, h4, h5⟩ := h
    exact ⟨a, b, s, A, m, c, kv, wv, xs, ys, e, h1.via hQ, h2.via hQ, h3.mono (NT.via hQ D), h4.via hQ, h5.mono (fun x ys hx => hx.via hQ)⟩
theorem NT.len {w : World} {Q : Nat → Prop} : ∀ {D : Nat} {n : Nd} {l : List Value}, NT w Q D n l → l.length = 10
  | 0, _, _, h => h.elim
  | D + 1, n, l, h => by
    obtain ⟨a, b, s, A, m, c, kv, wv, xs, ys, rfl, -⟩ := h
    rfl
def Fin1 (φ : Nat → Nat) (b : Nat) : Prop := φ b = 1
/-- An open node's ten cells, at place i. -/
structure OnC (w : World) (base : Nat) (φ : Nat → Nat) (i : Nat) (n : Nd) (e0 e1 : Int) (e2 : ByteArray) (A : Option Addr) (m c : Nat) (kv wv : Value) (D : Nat) (xs ys : List Value) : Prop where
  ex : ET w (Fin1 φ) n.ex e0 e1 e2 A m c
  rk : w.ownsRow base 62 10 kv n.ks.length xs
  lk : LsAt (NT w (Fin1 φ) D) n.ks xs
  rw_ : w.ownsRow base 44 4 wv n.ws.length ys
  lw : LsAt (XAt w (Fin1 φ)) n.ws ys
  fk : ∀ b, kv.ownBlock = some b → φ b = 3 + 2 * i
  fw : ∀ b, wv.ownBlock = some b → φ b = 4 + 2 * i
def onL (n : Nd) (e0 e1 : Int) (e2 : ByteArray) (A : Option Addr) (m c : Nat) (kv wv : Value) : List Value :=
  [.int .i64 (n.kd : Int), .int .i64 (n.a : Int), .int .i64 (n.b : Int), .string (bs n.nm), .int .i64 e0, .int .i64 e1, .string e2, .slice A m c, kv, wv]
def ON (w : World) (base : Nat) (φ : Nat → Nat) (i : Nat) (n : Nd) (l : List Value) : Prop := ∃ (e0 e1 : Int) (e2 : ByteArray) (A : Option Addr) (m c : Nat) (kv wv : Value) (D : Nat) (xs ys : List Value),
  l = onL n e0 e1 e2 A m c kv wv ∧ OnC w base φ i n e0 e1 e2 A m c kv wv D xs ys
theorem slat_own {w : World} {base size n : Nat} {e : TypeId} {v : Value} {xs : List Value} (h : w.ownsRow base e size v n xs) : SlAt w (fun b => v.ownBlock = some b) v n xs := by
  obtain ⟨A, c, rfl, hx⟩ := slat_of h
  refine ⟨A, c, rfl, fun j x hj => ?_⟩
  obtain ⟨b, rfl, -, h2, h3⟩ := hx j x hj
  exact ⟨b, rfl, rfl, h2, h3⟩
section
variable {w w' : World} {base i : Nat} {φ ψ : Nat → Nat} {n : Nd} {e0 e1 : Int} {e2 : ByteArray} {A : Option Addr} {m c : Nat} {kv wv : Value} {D : Nat} {xs ys l : List Value} {F : Nat → Prop}
theorem OnC.touch (h : OnC w base φ i n e0 e1 e2 A m c kv wv D xs ys) (t : Touch F w w') (hF : ∀ b, F b → φ b ≠ 1 ∧ φ b ≠ 3 + 2 * i ∧ φ b ≠ 4 + 2 * i) : OnC w' base φ i n e0 e1 e2 A m c kv wv D xs ys := by
  have q : ∀ b, Fin1 φ b → ¬ F b := fun b h1 f => (hF b f).1 h1
  exact ⟨h.ex.far t q, row_touch h.rk t (fun k hk f => (hF k f).2.1 (h.fk k hk)), h.lk.mono (NT.touch t q D), row_touch h.rw_ t (fun k hk f => (hF k f).2.2 (h.fw k hk)), h.lw.mono (fun x ys hx => hx.touch t q), h.fk, h.fw⟩
theorem ON.touch (h : ON w base φ i n l) (t : Touch F w w') (hF : ∀ b, F b → φ b ≠ 1 ∧ φ b ≠ 3 + 2 * i ∧ φ b ≠ 4 + 2 * i) : ON w' base φ i n l := by
  obtain ⟨e0, e1, e2, A, m, c, kv, wv, D, xs, ys, rfl, h⟩ := h
  exact ⟨e0, e1, e2, A, m, c, kv, wv, D, xs, ys, rfl, h.touch t hF⟩
theorem OnC.label (h : OnC w base φ i n e0 e1 e2 A m c kv wv D xs ys) (h1 : ∀ b, φ b = 1 → ψ b = 1) (h2 : ∀ b, φ b = 3 + 2 * i ∨ φ b = 4 + 2 * i → ψ b = φ b) : OnC w base ψ i n e0 e1 e2 A m c kv wv D xs ys := by
  have q : ∀ b, Fin1 φ b → b < w.heap.size → Fin1 ψ b := fun b hb _ => h1 b hb
  exact ⟨h.ex.via q, h.rk, h.lk.mono (NT.via q D), h.rw_, h.lw.mono (fun x ys hx => hx.via q), fun b hb => by rw [h2 b (.inl (h.fk b hb))]; exact h.fk b hb, fun b hb => by rw [h2 b (.inr (h.fw b hb))]; exact h.fw b hb⟩
theorem ON.label (h : ON w base φ i n l) (h1 : ∀ b, φ b = 1 → ψ b = 1) (h2 : ∀ b, φ b = 3 + 2 * i ∨ φ b = 4 + 2 * i → ψ b = φ b) : ON w base ψ i n l := by
  obtain ⟨e0, e1, e2, A, m, c, kv, wv, D, xs, ys, rfl, h⟩ := h
  exact ⟨e0, e1, e2, A, m, c, kv, wv, D, xs, ys, rfl, h.label h1 h2⟩
/-- An open node is finished. -/
theorem OnC.done (h : OnC w base φ i n e0 e1 e2 A m c kv wv D xs ys) (h1 : ∀ b, φ b = 1 ∨ φ b = 3 + 2 * i ∨ φ b = 4 + 2 * i → ψ b = 1) : NT w (Fin1 ψ) (D + 1) n (onL n e0 e1 e2 A m c kv wv) := by
  have q : ∀ b, Fin1 φ b → b < w.heap.size → Fin1 ψ b := fun b hb _ => h1 b (.inl hb)
  refine ⟨e0, e1, e2, A, m, c, kv, wv, xs, ys, rfl, h.ex.via q, ?_, h.lk.mono (NT.via q D), ?_, h.lw.mono (fun x ys hx => hx.via q)⟩
  · exact (slat_own h.rk).via (fun b hb _ => h1 b (.inr (.inl (h.fk b hb))))
  · exact (slat_own h.rw_).via (fun b hb _ => h1 b (.inr (.inr (h.fw b hb))))
theorem ON.done (h : ON w base φ i n l) (h1 : ∀ b, φ b = 1 ∨ φ b = 3 + 2 * i ∨ φ b = 4 + 2 * i → ψ b = 1) : ∃ D, NT w (Fin1 ψ) D n l := by
  obtain ⟨e0, e1, e2, A, m, c, kv, wv, D, xs, ys, rfl, h⟩ := h
  exact ⟨D + 1, h.done h1⟩
theorem ON.len (h : ON w base φ i n l) : l.length = 10 := by
  obtain ⟨e0, e1, e2, A, m, c, kv, wv, D, xs, ys, rfl, h⟩ := h
  rfl
end
/-- The open nodes of a stack, the outermost one at place 0; their cells one behind another. -/
def StAt (w : World) (base : Nat) (φ : Nat → Nat) : List Nd → List Value → Prop
  | [], cs => cs = []
  | n :: r, cs => ∃ xs l, cs = xs ++ l ∧ StAt w base φ r xs ∧ ON w base φ r.length n l
theorem StAt.len {w : World} {base : Nat} {φ : Nat → Nat} : ∀ {op : List Nd} {cs : List Value}, StAt w base φ op cs → cs.length = op.length * 10
  | [], cs, h => by rw [show cs = [] from h]; rfl
  | n :: r, cs, h => by
    obtain ⟨xs, l, rfl, h1, h2⟩ := h
    rw [List.length_append, h1.len, h2.len, List.length_cons]
    omega
theorem StAt.touch {w w' : World} {base : Nat} {φ : Nat → Nat} {F : Nat → Prop} (t : Touch F w w') : ∀ {op : List Nd} {cs : List Value}, StAt w base φ op cs → (∀ b, F b → φ b ≠ 1 ∧ ∀ i, i < op.length → φ b ≠ 3 + 2 * i ∧ φ b ≠ 4 + 2 * i) → StAt w' base φ op cs
  | [], cs, h, _ => h
  | n :: r, cs, h, hF => by
    obtain ⟨xs, l, rfl, h1, h2⟩ := h
    exact ⟨xs, l, rfl, StAt.touch t h1 (fun b f => ⟨(hF b f).1, fun i hi => (hF b f).2 i (by simp only [List.length_cons]; omega)⟩), h2.touch t (fun b f => ⟨(hF b f).1, (hF b f).2 r.length (by simp)⟩)⟩
theorem StAt.label {w : World} {base : Nat} {φ ψ : Nat → Nat} (h1 : ∀ b, φ b = 1 → ψ b = 1) : ∀ {op : List Nd} {cs : List Value}, StAt w base φ op cs → (∀ b i, i < op.length → φ b = 3 + 2 * i ∨ φ b = 4 + 2 * i → ψ b = φ b) → StAt w base ψ op cs
  | [], cs, h, _ => h
  | n :: r, cs, h, h2 => by
    obtain ⟨xs, l, rfl, h3, h4⟩ := h
    exact ⟨xs, l, rfl, StAt.label h1 h3 (fun b i hi => h2 b i (by simp only [List.length_cons]; omega)), h4.label h1 (fun b => h2 b r.length (by simp))⟩
end Go.Proofs.YtnphaaahdlkmhaaGreat
end
/-
  A scope in which the run jumps between many labels: what holds at every jump to each of them, and a measure that every pass from a label lowers. No program is named here; no condition beyond those that the theorem names.
-/
section
namespace Go.Proofs.YtnphaaahdlkmhaaGreat

/-- As Q; by a goto: what J says of its label. -/
def hop (J : Nat → Act → World → Prop) (Q : Exit → Act → World → Prop) : Exit → Act → World → Prop
  | .goto l, a, w => J l a w
  | e, a, w => Q e a w
section
variable {P : Program} {a : Act} {w : World} {Q : Exit → Act → World → Prop} {J : Nat → Act → World → Prop}
end
end Go.Proofs.YtnphaaahdlkmhaaGreat
end
/-
  The stack's way of reading a node, round by round, with fuel enough; a scope of labels with a number that every jump lowers. Lists alone; no condition beyond those that each theorem names.
-/
section
namespace Go.Proofs.YtnphaaahdlkmhaaGreat
set_option maxRecDepth 100000

/-! ### errors stay, places go on -/
theorem stepE_bad {t : Tk} {c e : Nat} (h : e ≠ 0) : stepE t c e ≠ 0 := by
  unfold stepE
  rw [if_neg h]
  split <;> exact h
theorem nuS_bad {ts : List Tk} {σ : St} (h : σ.2 ≠ 0) : (nuS ts σ).2 ≠ 0 := stepE_bad h
theorem naS_bad {ts : List Tk} {σ : St} (h : σ.2 ≠ 0) : (naS ts σ).2 ≠ 0 := stepE_bad h
/-! ### fuel -/
/-! ### labels -/
section
variable {P : Program} {a : Act} {w : World} {Q : Exit → Act → World → Prop} {J : Nat → Nat → Act → World → Prop}
end
end Go.Proofs.YtnphaaahdlkmhaaGreat
end
