/-
  Nodes in memory: finished ones, open ones, the stack of those that wait for a kid. Blocks bear labels: 1 finished, 2 the stack's row, 3 + 2 i and 4 + 2 i the rows of the open node at place i. No condition beyond those that each theorem names.
-/
import Derived.Test.YtkmbobfjoaldgaaGreatDoorZa8
import Derived.Test.YtkmbobfjoaldgaaGreatDoorZa5
import Derived.Test.YtkmbobfjoaldgaaGreatDoorZa6
import Derived.Deep.RegionLaw
namespace Go.Proofs.YtkmbobfjoaldgaaGreatDoor
open Go.ChangeShapes Go.WideShapes Go.ChangeAt Go.RowKit
set_option maxRecDepth 100000
set_option maxHeartbeats 4000000

def Nd.a : Nd → Nat | .mk _ a _ _ _ _ _ => a
def Nd.b : Nd → Nat | .mk _ _ b _ _ _ _ => b
def Nd.nm : Nd → Bs | .mk _ _ _ s _ _ _ => s
def Nd.ex : Nd → Ex | .mk _ _ _ _ x _ _ => x
/-- An expression's four cells. -/
def XAt (w : World) (Q : Nat → Prop) (x : Ex) (l : List Value) : Prop := ∃ (a b : Int) (s : ByteArray) (A : Option Addr) (m c : Nat), l = [.int .i64 a, .int .i64 b, .string s, .slice A m c] ∧ ET w Q x a b s A m c
theorem ET.far {w w' : World} {F Q : Nat → Prop} (t : Touch F w w') (hF : ∀ b, Q b → ¬ F b) {x : Ex} {a b : Int} {s : ByteArray} {A : Option Addr} {m c : Nat} (h : ET w Q x a b s A m c) : ET w' Q x a b s A m c := ET.touch t (fun b _ _ hf hq _ => hF b hq hf) h
theorem XAt.touch {w w' : World} {F Q : Nat → Prop} {x : Ex} {l : List Value} (h : XAt w Q x l) (t : Touch F w w') (hF : ∀ b, Q b → ¬ F b) : XAt w' Q x l := by
  obtain ⟨a, b, s, A, m, c, rfl, h1⟩ := h
  exact ⟨a, b, s, A, m, c, rfl, h1.far t hF⟩
theorem XAt.via {w : World} {Q R : Nat → Prop} {x : Ex} {l : List Value} (h : XAt w Q x l) (hQ : ∀ b, Q b → b < w.heap.size → R b) : XAt w R x l := by
  obtain ⟨a, b, s, A, m, c, rfl, h1⟩ := h
  exact ⟨a, b, s, A, m, c, rfl, h1.via hQ⟩
theorem XAt.len {w : World} {Q : Nat → Prop} {x : Ex} {l : List Value} (h : XAt w Q x l) : l.length = 4 := by
  obtain ⟨a, b, s, A, m, c, rfl, -⟩ := h
  rfl
/-- A finished node's ten cells; it is less than D deep. -/
def NT (w : World) (Q : Nat → Prop) : Nat → Nd → List Value → Prop
  | 0, _, _ => False
  | D + 1, n, l => ∃ (a b : Int) (s : ByteArray) (A : Option Addr) (m c : Nat) (kv wv : Value) (xs ys : List Value),
      l = [.int .i64 (n.kd : Int), .int .i64 (n.a : Int), .int .i64 (n.b : Int), .string (bs n.nm), .int .i64 a, .int .i64 b, .string s, .slice A m c, kv, wv] ∧ ET w Q n.ex a b s A m c ∧
      SlAt w Q kv n.ks.length xs ∧ LsAt (NT w Q D) n.ks xs ∧ SlAt w Q wv n.ws.length ys ∧ LsAt (XAt w Q) n.ws ys
theorem NT.touch {w w' : World} {F Q : Nat → Prop} (t : Touch F w w') (hF : ∀ b, Q b → ¬ F b) : ∀ (D : Nat) (n : Nd) (l : List Value), NT w Q D n l → NT w' Q D n l
  | 0, _, _, h => h
  | D + 1, n, l, h => by
    obtain ⟨a, b, s, A, m, c, kv, wv, xs, ys, e, h1, h2, h3, h4, h5⟩ := h
    exact ⟨a, b, s, A, m, c, kv, wv, xs, ys, e, h1.far t hF, h2.touch t hF, h3.mono (NT.touch t hF D), h4.touch t hF, h5.mono (fun x ys hx => hx.touch t hF)⟩
theorem NT.via {w : World} {Q R : Nat → Prop} (hQ : ∀ b, Q b → b < w.heap.size → R b) : ∀ (D : Nat) (n : Nd) (l : List Value), NT w Q D n l → NT w R D n l
  | 0, _, _, h => h
  | D + 1, n, l, h => by
    obtain ⟨a, b, s, A, m, c, kv, wv, xs, ys, e, h1, h2, h3, h4, h5⟩ := h
    exact ⟨a, b, s, A, m, c, kv, wv, xs, ys, e, h1.via hQ, h2.via hQ, h3.mono (NT.via hQ D), h4.via hQ, h5.mono (fun x ys hx => hx.via hQ)⟩
theorem NT.deeper {w : World} {Q : Nat → Prop} : ∀ (D E : Nat) (n : Nd) (l : List Value), D ≤ E → NT w Q D n l → NT w Q E n l
  | 0, _, _, _, _, h => h.elim
  | D + 1, 0, _, _, hd, _ => absurd hd (by omega)
  | D + 1, E + 1, n, l, hd, h => by
    obtain ⟨a, b, s, A, m, c, kv, wv, xs, ys, e, h1, h2, h3, h4, h5⟩ := h
    exact ⟨a, b, s, A, m, c, kv, wv, xs, ys, e, h1, h2, h3.mono (fun x ys hx => NT.deeper D E x ys (by omega) hx), h4, h5⟩
theorem NT.len {w : World} {Q : Nat → Prop} : ∀ {D : Nat} {n : Nd} {l : List Value}, NT w Q D n l → l.length = 10
  | 0, _, _, h => h.elim
  | D + 1, n, l, h => by
    obtain ⟨a, b, s, A, m, c, kv, wv, xs, ys, rfl, -⟩ := h
    rfl
def Fin1 (φ : Nat → Nat) (b : Nat) : Prop := φ b = 1
/-- An open node's ten cells, at place i. -/
structure OnC (w : World) (base : Nat) (φ : Nat → Nat) (i : Nat) (n : Nd) (e0 e1 : Int) (e2 : ByteArray) (A : Option Addr) (m c : Nat) (kv wv : Value) (D : Nat) (xs ys : List Value) : Prop where
  ex : ET w (Fin1 φ) n.ex e0 e1 e2 A m c
  rk : w.ownsRow base 47 10 kv n.ks.length xs
  lk : LsAt (NT w (Fin1 φ) D) n.ks xs
  rw_ : w.ownsRow base 44 4 wv n.ws.length ys
  lw : LsAt (XAt w (Fin1 φ)) n.ws ys
  fk : ∀ b, kv.ownBlock = some b → φ b = 3 + 2 * i
  fw : ∀ b, wv.ownBlock = some b → φ b = 4 + 2 * i
def onL (n : Nd) (e0 e1 : Int) (e2 : ByteArray) (A : Option Addr) (m c : Nat) (kv wv : Value) : List Value :=
  [.int .i64 (n.kd : Int), .int .i64 (n.a : Int), .int .i64 (n.b : Int), .string (bs n.nm), .int .i64 e0, .int .i64 e1, .string e2, .slice A m c, kv, wv]
def ON (w : World) (base : Nat) (φ : Nat → Nat) (i : Nat) (n : Nd) (l : List Value) : Prop := ∃ (e0 e1 : Int) (e2 : ByteArray) (A : Option Addr) (m c : Nat) (kv wv : Value) (D : Nat) (xs ys : List Value),
  l = onL n e0 e1 e2 A m c kv wv ∧ OnC w base φ i n e0 e1 e2 A m c kv wv D xs ys
theorem slat_own {w : World} {base size n : Nat} {e : TypeId} {v : Value} {xs : List Value} (h : w.ownsRow base e size v n xs) : SlAt w (fun b => v.ownBlock = some b) v n xs := by
  obtain ⟨A, c, rfl, hx⟩ := slat_of h
  refine ⟨A, c, rfl, fun j x hj => ?_⟩
  obtain ⟨b, rfl, -, h2, h3⟩ := hx j x hj
  exact ⟨b, rfl, rfl, h2, h3⟩
section
variable {w w' : World} {base i : Nat} {φ ψ : Nat → Nat} {n : Nd} {e0 e1 : Int} {e2 : ByteArray} {A : Option Addr} {m c : Nat} {kv wv : Value} {D : Nat} {xs ys l : List Value} {F : Nat → Prop}
theorem OnC.touch (h : OnC w base φ i n e0 e1 e2 A m c kv wv D xs ys) (t : Touch F w w') (hF : ∀ b, F b → φ b ≠ 1 ∧ φ b ≠ 3 + 2 * i ∧ φ b ≠ 4 + 2 * i) : OnC w' base φ i n e0 e1 e2 A m c kv wv D xs ys := by
  have q : ∀ b, Fin1 φ b → ¬ F b := fun b h1 f => (hF b f).1 h1
  exact ⟨h.ex.far t q, row_touch h.rk t (fun k hk f => (hF k f).2.1 (h.fk k hk)), h.lk.mono (NT.touch t q D), row_touch h.rw_ t (fun k hk f => (hF k f).2.2 (h.fw k hk)), h.lw.mono (fun x ys hx => hx.touch t q), h.fk, h.fw⟩
theorem ON.touch (h : ON w base φ i n l) (t : Touch F w w') (hF : ∀ b, F b → φ b ≠ 1 ∧ φ b ≠ 3 + 2 * i ∧ φ b ≠ 4 + 2 * i) : ON w' base φ i n l := by
  obtain ⟨e0, e1, e2, A, m, c, kv, wv, D, xs, ys, rfl, h⟩ := h
  exact ⟨e0, e1, e2, A, m, c, kv, wv, D, xs, ys, rfl, h.touch t hF⟩
theorem OnC.label (h : OnC w base φ i n e0 e1 e2 A m c kv wv D xs ys) (h1 : ∀ b, φ b = 1 → ψ b = 1) (h2 : ∀ b, φ b = 3 + 2 * i ∨ φ b = 4 + 2 * i → ψ b = φ b) : OnC w base ψ i n e0 e1 e2 A m c kv wv D xs ys := by
  have q : ∀ b, Fin1 φ b → b < w.heap.size → Fin1 ψ b := fun b hb _ => h1 b hb
  exact ⟨h.ex.via q, h.rk, h.lk.mono (NT.via q D), h.rw_, h.lw.mono (fun x ys hx => hx.via q), fun b hb => by rw [h2 b (.inl (h.fk b hb))]; exact h.fk b hb, fun b hb => by rw [h2 b (.inr (h.fw b hb))]; exact h.fw b hb⟩
theorem ON.label (h : ON w base φ i n l) (h1 : ∀ b, φ b = 1 → ψ b = 1) (h2 : ∀ b, φ b = 3 + 2 * i ∨ φ b = 4 + 2 * i → ψ b = φ b) : ON w base ψ i n l := by
  obtain ⟨e0, e1, e2, A, m, c, kv, wv, D, xs, ys, rfl, h⟩ := h
  exact ⟨e0, e1, e2, A, m, c, kv, wv, D, xs, ys, rfl, h.label h1 h2⟩
/-- An open node is finished. -/
theorem OnC.done (h : OnC w base φ i n e0 e1 e2 A m c kv wv D xs ys) (h1 : ∀ b, φ b = 1 ∨ φ b = 3 + 2 * i ∨ φ b = 4 + 2 * i → ψ b = 1) : NT w (Fin1 ψ) (D + 1) n (onL n e0 e1 e2 A m c kv wv) := by
  have q : ∀ b, Fin1 φ b → b < w.heap.size → Fin1 ψ b := fun b hb _ => h1 b (.inl hb)
  refine ⟨e0, e1, e2, A, m, c, kv, wv, xs, ys, rfl, h.ex.via q, ?_, h.lk.mono (NT.via q D), ?_, h.lw.mono (fun x ys hx => hx.via q)⟩
  · exact (slat_own h.rk).via (fun b hb _ => h1 b (.inr (.inl (h.fk b hb))))
  · exact (slat_own h.rw_).via (fun b hb _ => h1 b (.inr (.inr (h.fw b hb))))
theorem ON.done (h : ON w base φ i n l) (h1 : ∀ b, φ b = 1 ∨ φ b = 3 + 2 * i ∨ φ b = 4 + 2 * i → ψ b = 1) : ∃ D, NT w (Fin1 ψ) D n l := by
  obtain ⟨e0, e1, e2, A, m, c, kv, wv, D, xs, ys, rfl, h⟩ := h
  exact ⟨D + 1, h.done h1⟩
theorem ON.len (h : ON w base φ i n l) : l.length = 10 := by
  obtain ⟨e0, e1, e2, A, m, c, kv, wv, D, xs, ys, rfl, h⟩ := h
  rfl
end
/-- The open nodes of a stack, the outermost one at place 0; their cells one behind another. -/
def StAt (w : World) (base : Nat) (φ : Nat → Nat) : List Nd → List Value → Prop
  | [], cs => cs = []
  | n :: r, cs => ∃ xs l, cs = xs ++ l ∧ StAt w base φ r xs ∧ ON w base φ r.length n l
theorem StAt.len {w : World} {base : Nat} {φ : Nat → Nat} : ∀ {op : List Nd} {cs : List Value}, StAt w base φ op cs → cs.length = op.length * 10
  | [], cs, h => by rw [show cs = [] from h]; rfl
  | n :: r, cs, h => by
    obtain ⟨xs, l, rfl, h1, h2⟩ := h
    rw [List.length_append, h1.len, h2.len, List.length_cons]
    omega
theorem StAt.touch {w w' : World} {base : Nat} {φ : Nat → Nat} {F : Nat → Prop} (t : Touch F w w') : ∀ {op : List Nd} {cs : List Value}, StAt w base φ op cs → (∀ b, F b → φ b ≠ 1 ∧ ∀ i, i < op.length → φ b ≠ 3 + 2 * i ∧ φ b ≠ 4 + 2 * i) → StAt w' base φ op cs
  | [], cs, h, _ => h
  | n :: r, cs, h, hF => by
    obtain ⟨xs, l, rfl, h1, h2⟩ := h
    exact ⟨xs, l, rfl, StAt.touch t h1 (fun b f => ⟨(hF b f).1, fun i hi => (hF b f).2 i (by simp only [List.length_cons]; omega)⟩), h2.touch t (fun b f => ⟨(hF b f).1, (hF b f).2 r.length (by simp)⟩)⟩
theorem StAt.label {w : World} {base : Nat} {φ ψ : Nat → Nat} (h1 : ∀ b, φ b = 1 → ψ b = 1) : ∀ {op : List Nd} {cs : List Value}, StAt w base φ op cs → (∀ b i, i < op.length → φ b = 3 + 2 * i ∨ φ b = 4 + 2 * i → ψ b = φ b) → StAt w base ψ op cs
  | [], cs, h, _ => h
  | n :: r, cs, h, h2 => by
    obtain ⟨xs, l, rfl, h3, h4⟩ := h
    exact ⟨xs, l, rfl, StAt.label h1 h3 (fun b i hi => h2 b i (by simp only [List.length_cons]; omega)), h4.label h1 (fun b => h2 b r.length (by simp))⟩
end Go.Proofs.YtkmbobfjoaldgaaGreatDoor

/-
  A row of words of one's own; what package printer's head returns of a node in memory. Conditions: the library's table can be read; those that each theorem names.
-/
namespace Go.Proofs.YtkmbobfjoaldgaaGreatDoor
open Go.ChangeShapes Go.WideShapes Go.ChangeAt Go.RowKit
set_option maxRecDepth 100000
set_option maxHeartbeats 4000000

def sC (l : List Bs) : List Value := l.map (fun s => .string (bs s))
/-- A row of words of one's own. -/
def TR (w : World) (B : Nat) (v : Value) (ws : List Bs) : Prop := w.ownsRow B 9 1 v ws.length (sC ws)
theorem info_str : (Tryz.prog.info? 9).map (fun i => (i.zero, i.size, i.bytes)) = some (some (.string ⟨#[]⟩), 1, 16) := by kernel_rfl
theorem sC_len (l : List Bs) : (sC l).length = l.length := by simp [sC]
theorem sC_app (a b : List Bs) : sC (a ++ b) = sC a ++ sC b := by simp [sC]
theorem sC_at {l : List Bs} {i : Nat} {s : Bs} (h : l[i]? = some s) : (sC l)[i]? = some (.string (bs s)) := by simp [sC, h]
theorem TR.new (w : World) (B : Nat) {ws : List Bs} {cs : Array Value} (hcs : cs.toList = sC ws) (hB : B ≤ w.heap.size) (hl : ws.length ≤ 1000) {N : Nat} (hN : w.heap.size = N) : TR (w.alloc (.cells cs 9)) B (.slice (some ⟨N, 0, none⟩) ws.length ws.length) ws := by
  have hs : cs.size = ws.length := by rw [← Array.length_toList, hcs, sC_len]
  refine ⟨by rw [sC_len, Nat.mul_one], .inr ⟨N, ws.length, cs, rfl, by omega, alloc_blk _ _ _ hN, Nat.le_refl _, by unfold maxLen; omega, by omega, ?_⟩⟩
  rw [hcs, List.take_of_length_le (by rw [sC_len]; omega)]
theorem TR.app {w : World} {B : Nat} {v : Value} {ws : List Bs} (h : TR w B v ws) (hB : B ≤ w.heap.size) (new : List Bs) {cs : Array Value} (hcs : cs.toList = sC new) (hl : ws.length + new.length ≤ 1000) {N m : Nat} (hN : w.heap.size = N) (hm : new.length = m) {W : World} (hW : w.alloc (.cells cs 9) = W) :
    ∃ v' w', (Builtin.append_ #[41, 41] 41 #[v, .slice (some ⟨N, 0, none⟩) m m]).run Tryz.prog W = .ok v' w' ∧ TR w' B v' (ws ++ new) ∧ Below B w w' := by
  subst hN hm hW
  obtain ⟨i0, hi, hz0, hz1, hz2⟩ := info_parts info_str
  have t : Touch NoB w (w.alloc (.cells cs 9)) := (Touch.refl _ _).alloc _
  have h' : TR (w.alloc (.cells cs 9)) B v ws := row_touch h t (fun _ _ x => x)
  have hblk : (w.alloc (.cells cs 9)).heap[w.heap.size]? = some (.cells cs 9 (0, 0)) := alloc_blk _ _ _ rfl
  have hnews : ∀ j u, (sC new)[j]? = some u → (w.alloc (.cells cs 9)).cell? ((⟨w.heap.size, 0, none⟩ : Addr).add j) = some u := by
    intro j u hu
    rw [add_plain, cell_of_row _ _ _ _ _ _ hblk, ← Array.getElem?_toList, hcs]
    simpa using hu
  obtain ⟨v', w', hrun, h1, h2, -, -⟩ := run_append_own_at (P := Tryz.prog) (w.alloc (.cells cs 9)) B 41 41 9 i0 _ 1 16 Tryz.underlying41 hi hz0 hz1 hz2 rfl (by decide) v ws.length (sC ws) h' ⟨w.heap.size, 0, none⟩ new.length new.length (sC new) (by rw [sC_len]; omega) hnews (by intro u hu; obtain ⟨s, -, rfl⟩ := List.mem_map.1 hu; rfl) (by unfold maxLen; omega) (by omega) (Nat.le_trans hB t.size)
  refine ⟨v', w', hrun, ?_, (t.belowB hB).trans (grown_below h2 (fun b e => (World.ownsRow.lt h' b e).1) (Nat.le_trans hB t.size))⟩
  unfold TR
  rw [sC_app, List.length_append]
  exact h1
theorem TR.tka {w : World} {B : Nat} {v : Value} {ws : List Bs} (h : TR w B v ws) (h0 : ws ≠ []) : ∃ t c, v = .slice (some ⟨t, 0, none⟩) ws.length c ∧ B ≤ t ∧ TkA w t ws := by
  rcases h.2 with ⟨rfl, hz⟩ | ⟨g, cap, cur, rfl, h1, hh, hc, hm, hs, ht⟩
  · exact absurd (List.eq_nil_of_length_eq_zero hz) h0
  · refine ⟨g, cap, rfl, h1, ⟨cur, _, hh, fun i s hi => ?_⟩⟩
    have := sC_at hi
    rw [← ht, List.getElem?_take] at this
    split at this
    · simpa using this
    · cases this
theorem TR.below {w w' : World} {B : Nat} {v : Value} {ws : List Bs} (h : TR w B v ws) (t : Touch NoB w w') : TR w' B v ws := row_touch h t (fun _ _ x => x)
end Go.Proofs.YtkmbobfjoaldgaaGreatDoor

/-
  What package printer's head returns of a node in memory. Conditions: the library's table can be read; those that each theorem names.
-/
namespace Go.Proofs.YtkmbobfjoaldgaaGreatDoor
open Go.ChangeShapes Go.WideShapes Go.ChangeAt Go.RowKit
set_option maxRecDepth 100000
set_option maxHeartbeats 4000000

def HeadP (w : World) (ws : List Bs) (e : Ending) (w' : World) : Prop := ∃ v, e = .returned v ∧ TR w' w.heap.size v ws ∧ Touch NoB w w'
theorem word1 {w w1 : World} {s : Bs} (t : Touch NoB w w1) : ∀ W, W = w1.alloc (.cells #[.string (bs s)] 9) → TR W w.heap.size (.slice (some ⟨w1.heap.size, 0, none⟩) 1 1) [s] ∧ Touch NoB w W := by
  rintro W rfl
  exact ⟨TR.new w1 w.heap.size (ws := [s]) rfl t.size (by simp) rfl, t.alloc _⟩
/-- Kinds that have no more than their word. -/
theorem head_bare {w : World} {k : Nat} (h4 : k ≠ 4) (h6 : k ≠ 6) (h7 : k ≠ 7) (h8 : k ≠ 8) (h9 : k ≠ 9) (h10 : k ≠ 10) (h12 : k ≠ 12) {a b : Int} {s : ByteArray} {x0 x1 : Int} {x2 : ByteArray} {A : Option Addr} {m c : Nat} {A1 A2 : Option Addr} {m1 c1 m2 c2 : Nat} :
    Calls Tryz.prog 119 #[.agg #[.int .i64 (k : Int), .int .i64 a, .int .i64 b, .string s, .int .i64 x0, .int .i64 x1, .string x2, .slice A m c, .slice A1 m1 c1, .slice A2 m2 c2]] w (HeadP w [nodeW.getD k []]) := by
  obtain ⟨W0, hW0⟩ : ∃ W, w.alloc (.cells #[.int .i64 (k : Int), .int .i64 a, .int .i64 b, .string s, .int .i64 x0, .int .i64 x1, .string x2, .slice A m c, .slice A1 m1 c1, .slice A2 m2 c2] 47) = W := ⟨_, rfl⟩
  have t0 : Touch NoB w W0 := by rw [← hW0]; exact (Touch.refl _ _).alloc _
  have hblk : W0.heap[w.heap.size]? = some (.cells #[.int .i64 (k : Int), .int .i64 a, .int .i64 b, .string s, .int .i64 x0, .int .i64 x1, .string x2, .slice A m c, .slice A1 m1 c1, .slice A2 m2 c2] 47 (0, 0)) := by rw [← hW0]; exact alloc_blk _ _ _ rfl
  have td : Touch NoB W0 W0.drew := (Touch.refl _ _).drew
  have HN := Lib.hid (nodes_any W0.drew)
  have z0 : W0.cell? ⟨w.heap.size, 0, none⟩ = some (.int .i64 (k : Int)) := cell_blk hblk 0
  have y0 : W0.drew.cell? ⟨w.heap.size, 0, none⟩ = some (.int .i64 (k : Int)) := by simpa using z0
  have HB := Lib.hid (And.intro hblk (t0.same td))
  have e4 : ((k : Int) == 4) = false := by simp; omega
  have e6 : ((k : Int) == 6) = false := by simp; omega
  have e7 : ((k : Int) == 7) = false := by simp; omega
  have e8 : ((k : Int) == 8) = false := by simp; omega
  have e9 : ((k : Int) == 9) = false := by simp; omega
  have e10 : ((k : Int) == 10) = false := by simp; omega
  have e12 : ((k : Int) == 12) = false := by simp; omega
  clear h4 h6 h7 h8 h9 h10 h12 hblk t0 td
  go_enter Tryz.func119, Tryz.ntmps119
  go_wp2_with fail
  go_region_with (first
    | (go_at_call 131; refine HN.out.mono ?_
       rintro r w1 ⟨q, rfl, hq, hT1⟩
       have hb1 := (hT1.block _ (blk_lt HB.out.1) (fun x => x)).trans HB.out.1
       have x0' : w1.cell? ⟨w.heap.size, 0, none⟩ = some (.int .i64 (k : Int)) := cell_blk hb1 0
       have hlt' : w.heap.size < w1.heap.size := blk_lt hb1
       have HW := Lib.hid (word_any hq k)
       have HT1 := Lib.hid (HB.out.2.same hT1)
       have HB1 := Lib.hid hb1
       clear hq hT1 hb1)
    | (go_at_call 62; refine HW.out.mono ?_
       rintro r w2 ⟨rfl, rfl⟩))
  all_goals
    go_wp2
    go_ret
    have hh := word1 (s := nodeW.getD k []) HT1.out _ rfl
    exact ⟨_, rfl, hh.1, hh.2⟩
end Go.Proofs.YtkmbobfjoaldgaaGreatDoor

/-
  What package printer's head returns of a node that has a name, or numbers. Conditions: the library's table can be read; those that each theorem names.
-/
namespace Go.Proofs.YtkmbobfjoaldgaaGreatDoor
open Go.ChangeShapes Go.WideShapes Go.ChangeAt Go.RowKit
set_option maxRecDepth 100000
set_option maxHeartbeats 4000000

/-- Kinds that have a name. -/
theorem head_name {w : World} {k : Nat} (hk : k = 9 ∨ k = 10 ∨ k = 12) {nm : Bs} {a b : Int} {x0 x1 : Int} {x2 : ByteArray} {A : Option Addr} {m c : Nat} {A1 A2 : Option Addr} {m1 c1 m2 c2 : Nat} :
    Calls Tryz.prog 119 #[.agg #[.int .i64 (k : Int), .int .i64 a, .int .i64 b, .string (bs nm), .int .i64 x0, .int .i64 x1, .string x2, .slice A m c, .slice A1 m1 c1, .slice A2 m2 c2]] w (HeadP w [nodeW.getD k [], nm]) := by
  obtain ⟨W0, hW0⟩ : ∃ W, w.alloc (.cells #[.int .i64 (k : Int), .int .i64 a, .int .i64 b, .string (bs nm), .int .i64 x0, .int .i64 x1, .string x2, .slice A m c, .slice A1 m1 c1, .slice A2 m2 c2] 47) = W := ⟨_, rfl⟩
  have t0 : Touch NoB w W0 := by rw [← hW0]; exact (Touch.refl _ _).alloc _
  have hblk : W0.heap[w.heap.size]? = some (.cells #[.int .i64 (k : Int), .int .i64 a, .int .i64 b, .string (bs nm), .int .i64 x0, .int .i64 x1, .string x2, .slice A m c, .slice A1 m1 c1, .slice A2 m2 c2] 47 (0, 0)) := by rw [← hW0]; exact alloc_blk _ _ _ rfl
  have td : Touch NoB W0 W0.drew := (Touch.refl _ _).drew
  have HN := Lib.hid (nodes_any W0.drew)
  have z0 : W0.cell? ⟨w.heap.size, 0, none⟩ = some (.int .i64 (k : Int)) := cell_blk hblk 0
  have y0 : W0.drew.cell? ⟨w.heap.size, 0, none⟩ = some (.int .i64 (k : Int)) := by simpa using z0
  have HB := Lib.hid (And.intro hblk (t0.same td))
  have e4 : ((k : Int) == 4) = false := by simp; omega
  have e6 : ((k : Int) == 6) = false := by simp; omega
  have e7 : ((k : Int) == 7) = false := by simp; omega
  have e8 : ((k : Int) == 8) = false := by simp; omega
  clear hblk t0 td
  go_enter Tryz.func119, Tryz.ntmps119
  go_wp2_with fail
  go_region_with (first
    | (go_at_call 131; refine HN.out.mono ?_
       rintro r w1 ⟨q, rfl, hq, hT1⟩
       have hb1 := (hT1.block _ (blk_lt HB.out.1) (fun x => x)).trans HB.out.1
       have x0' : w1.cell? ⟨w.heap.size, 0, none⟩ = some (.int .i64 (k : Int)) := cell_blk hb1 0
       have x3' : w1.cell? ⟨w.heap.size, 3, none⟩ = some (.string (bs nm)) := cell_blk hb1 3
       have hlt' : w.heap.size < w1.heap.size := blk_lt hb1
       have HW := Lib.hid (word_any hq k)
       have HT1 := Lib.hid (HB.out.2.same hT1)
       have HB1 := Lib.hid hb1
       clear hq hT1 hb1)
    | (go_at_call 62; refine HW.out.mono ?_
       rintro r w2 ⟨rfl, rfl⟩))
  all_goals
    have hh := word1 (s := nodeW.getD k []) HT1.out _ rfl
    obtain ⟨v', w3, hr, htr, hb⟩ := hh.1.app hh.2.size [nm] (cs := #[.string (bs nm)]) rfl (by simp) (N := w2.heap.size + 1) (m := 1) (by simp) rfl rfl
    have HA := Lib.hid hr
    have HE := Lib.hid (And.intro htr (touch_of ((hh.2.belowB (Nat.le_refl _)).trans hb)))
    clear hh hr htr hb
    rcases hk with rfl | rfl | rfl
    all_goals
      go_wp2_with (at_builtin; refine Lib.wpList_append_run _ rfl _ _ _ _ rfl _ _ rfl rfl _ _ HA.out ?_)
      go_ret
      exact ⟨_, rfl, HE.out⟩
end Go.Proofs.YtkmbobfjoaldgaaGreatDoor

/-
  What package printer's head returns of a node that repeats. Conditions: the library's table can be read; those that each theorem names.
-/
namespace Go.Proofs.YtkmbobfjoaldgaaGreatDoor
open Go.ChangeShapes Go.WideShapes Go.ChangeAt Go.RowKit
set_option maxRecDepth 100000
set_option maxHeartbeats 4000000

/-- A node that repeats. -/
theorem head_rep {w : World} (htab : Lib.TabIs Tryz.prog w "internal/strconv.uint64pow10" .u64 Lib.pow10Tab) {s : ByteArray} {a b : Int} (ha0 : -9223372036854775808 ≤ a) (ha1 : a ≤ 9223372036854775807) {x0 x1 : Int} {x2 : ByteArray} {A : Option Addr} {m c : Nat} {A1 A2 : Option Addr} {m1 c1 m2 c2 : Nat} :
    Calls Tryz.prog 119 #[.agg #[.int .i64 6, .int .i64 a, .int .i64 b, .string s, .int .i64 x0, .int .i64 x1, .string x2, .slice A m c, .slice A1 m1 c1, .slice A2 m2 c2]] w (HeadP w [nodeW.getD 6 [], Lib.itoa a]) := by
  obtain ⟨W0, hW0⟩ : ∃ W, w.alloc (.cells #[.int .i64 6, .int .i64 a, .int .i64 b, .string s, .int .i64 x0, .int .i64 x1, .string x2, .slice A m c, .slice A1 m1 c1, .slice A2 m2 c2] 47) = W := ⟨_, rfl⟩
  have t0 : Touch NoB w W0 := by rw [← hW0]; exact (Touch.refl _ _).alloc _
  have hblk : W0.heap[w.heap.size]? = some (.cells #[.int .i64 6, .int .i64 a, .int .i64 b, .string s, .int .i64 x0, .int .i64 x1, .string x2, .slice A m c, .slice A1 m1 c1, .slice A2 m2 c2] 47 (0, 0)) := by rw [← hW0]; exact alloc_blk _ _ _ rfl
  have td : Touch NoB W0 W0.drew := (Touch.refl _ _).drew
  have HN := Lib.hid (nodes_any W0.drew)
  have z0 : W0.cell? ⟨w.heap.size, 0, none⟩ = some (.int .i64 6) := cell_blk hblk 0
  have y0 : W0.drew.cell? ⟨w.heap.size, 0, none⟩ = some (.int .i64 6) := by simpa using z0
  have HB := Lib.hid (And.intro hblk (t0.same td))
  have HTB := Lib.hid (Lib.tabBelow_of_tabIs htab)
  clear hblk t0 td htab
  go_enter Tryz.func119, Tryz.ntmps119
  go_wp2_with fail
  go_region_with (first
    | (go_at_call 131; refine HN.out.mono ?_
       rintro r w1 ⟨q, rfl, hq, hT1⟩
       have hb1 := (hT1.block _ (blk_lt HB.out.1) (fun x => x)).trans HB.out.1
       have x0' : w1.cell? ⟨w.heap.size, 0, none⟩ = some (.int .i64 6) := cell_blk hb1 0
       have x1' : w1.cell? ⟨w.heap.size, 1, none⟩ = some (.int .i64 a) := cell_blk hb1 1
       have hlt' : w.heap.size < w1.heap.size := blk_lt hb1
       have HW := Lib.hid (word_any hq 6)
       have HT1 := Lib.hid (HB.out.2.same hT1)
       have HB1 := Lib.hid hb1
       clear hq hT1 hb1)
    | (go_at_call 62; refine HW.out.mono ?_
       rintro r w2 ⟨rfl, rfl⟩))
  all_goals
    have hh := word1 (s := nodeW.getD 6 []) HT1.out _ rfl
    have HI := Lib.hid (itoa_any a ha0 ha1 (HTB.out.on (hh.2.belowB (Nat.le_refl _))).here)
    have HH := Lib.hid hh
    clear hh
    go_wp2_with (go_at_call 64; refine HI.out.mono ?_)
    rintro r w4 ⟨rfl, hT4⟩
    obtain ⟨v', w5, hr, htr, hb⟩ := (HH.out.1.below hT4).app (Nat.le_trans HH.out.2.size hT4.size) [Lib.itoa a] (cs := #[.string (bs (Lib.itoa a))]) rfl (by simp) (N := w4.heap.size) (m := 1) rfl rfl rfl
    have HA := Lib.hid hr
    have HE := Lib.hid (And.intro htr (touch_of (((HH.out.2.same hT4).belowB (Nat.le_refl _)).trans hb)))
    clear hr htr hb hT4
    go_wp2_with (at_builtin; refine Lib.wpList_append_run _ rfl _ _ _ _ rfl _ _ rfl rfl _ _ HA.out ?_)
    go_ret
    exact ⟨_, rfl, HE.out⟩
end Go.Proofs.YtkmbobfjoaldgaaGreatDoor
