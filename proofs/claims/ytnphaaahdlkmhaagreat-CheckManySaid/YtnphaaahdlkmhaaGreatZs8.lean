/-
  What package tree's key, variable and cond do with a parser in memory. Conditions: numbers among the tokens are such.
-/
import Derived.Test.YtnphaaahdlkmhaaGreatZs7
import Derived.Deep.RegionLaw
import Derived.Deep.AppendLies
section
namespace Go.Proofs.YtnphaaahdlkmhaaGreat
open Go.ChangeShapes Go.WideShapes Go.ChangeAt Go.RowKit
set_option maxRecDepth 100000
set_option maxHeartbeats 4000000

/-- A block of three cells of its own. -/
def B3 (w : World) (T : TypeId) (q : Nat) (a b c : Value) : Prop := w.heap[q]? = some (.cells #[a, b, c] T (0, 0))
theorem B3.go {w w' : World} {T : TypeId} {gp q : Nat} {a b c : Value} (h : B3 w T q a b c) (t : Touch (AtB gp) w w') (hne : q ≠ gp) : B3 w' T q a b c := (t.block q (blk_lt h) hne).trans h
theorem B3.new (w : World) (T : TypeId) (a b c : Value) {N : Nat} (hN : w.heap.size = N) : B3 (w.alloc (.cells #[a, b, c] T)) T N a b c := alloc_blk _ _ _ hN
theorem B3.old {w : World} {T : TypeId} {q : Nat} {a b c : Value} (h : B3 w T q a b c) (o : Obj) : B3 (w.alloc o) T q a b c := by unfold B3; rw [heap_alloc_old _ _ (blk_lt h)]; exact h
theorem B3.cells {w : World} {T : TypeId} {q : Nat} {a b c : Value} (h : B3 w T q a b c) : w.cell? ⟨q, 0, none⟩ = some a ∧ w.cell? ⟨q, 1, none⟩ = some b ∧ w.cell? ⟨q, 2, none⟩ = some c ∧ q < w.heap.size := ⟨cell_blk h 0, cell_blk h 1, cell_blk h 2, blk_lt h⟩
theorem B3.free {w : World} {T : TypeId} {q : Nat} {a b c : Value} (h : B3 w T q a b c) : w.frozen? ⟨q, 0, none⟩ = false ∧ w.frozen? ⟨q, 1, none⟩ = false ∧ w.frozen? ⟨q, 2, none⟩ = false := ⟨free_blk h 0, free_blk h 1, free_blk h 2⟩
theorem B3.set0 {w : World} {T : TypeId} {q : Nat} {a b c : Value} (h : B3 w T q a b c) (v : Value) : B3 (w.setCell ⟨q, 0, none⟩ v) T q v b c := set_blk h 0 v
theorem B3.set1 {w : World} {T : TypeId} {q : Nat} {a b c : Value} (h : B3 w T q a b c) (v : Value) : B3 (w.setCell ⟨q, 1, none⟩ v) T q a v c := set_blk h 1 v
theorem B3.set2 {w : World} {T : TypeId} {q : Nat} {a b c : Value} (h : B3 w T q a b c) (v : Value) : B3 (w.setCell ⟨q, 2, none⟩ v) T q a b v := set_blk h 2 v
theorem B3.aside {w : World} {T : TypeId} {q p i : Nat} {a b c v : Value} (h : B3 w T q a b c) (hne : q ≠ p) : B3 (w.setCell ⟨p, i, none⟩ v) T q a b c :=
  (((Touch.refl (fun b => b = p) w).setCell (p := ⟨p, i, none⟩) (.inl rfl) v).block q (blk_lt h) hne).trans h
theorem PSt.own {T : TypeId} {w : World} {gp g n cp : Nat} {ts : List Tk} {k e q i : Nat} {v : Value} (h : PSt T w gp g n cp ts k e) (h1 : gp < q) (h2 : g < q) : PSt T (w.setCell ⟨q, i, none⟩ v) gp g n cp ts k e :=
  h.touchX ((Touch.refl (fun b => b = q) w).setCell (p := ⟨q, i, none⟩) (.inl rfl) v) h1 h2
theorem touch3 {F : Nat → Prop} {w0 w : World} {q : Nat} (h : Touch F w0 w) (hq : F q ∨ w0.heap.size ≤ q) (x0 x1 x2 : Value) :
    Touch F w0 (((w.setCell ⟨q, 0, none⟩ x0).setCell ⟨q, 1, none⟩ x1).setCell ⟨q, 2, none⟩ x2) := ((h.setCell (p := ⟨q, 0, none⟩) hq x0).setCell (p := ⟨q, 1, none⟩) hq x1).setCell (p := ⟨q, 2, none⟩) hq x2
theorem words_at {w : World} {b m : Nat} {ws : List Bs} {cs : Array Value} {T : TypeId} (hb : w.heap[b]? = some (.cells cs T (0, 0))) (hm : ws.length = m) (hm2 : m ≤ 100) (hc : cs.toList = ws.map (fun s => .string (bs s))) : WdAt w b m ws := by
  refine ⟨⟨hm, hm2⟩, blk_lt hb, fun i s hi => ?_⟩
  rw [cell_of_row _ _ _ _ _ _ hb, ← Array.getElem?_toList, hc, List.getElem?_map, hi]
  rfl
/-! ### lists of words -/
end Go.Proofs.YtnphaaahdlkmhaaGreat
end
/-
  What package syntax's MostKids and Nodes, and package tree's expression do with a parser in memory. Conditions: the table of levels can be read; names and numbers among the tokens are such.
-/
section
namespace Go.Proofs.YtnphaaahdlkmhaaGreat
open Go.ChangeShapes Go.WideShapes Go.ChangeAt Go.RowKit
set_option maxRecDepth 100000
set_option maxHeartbeats 4000000

/-- How many Kids a kind may have. -/
def mostL (k : Nat) : Nat := if k ≤ 4 ∨ k = 11 then 16 else if k = 5 ∨ k = 6 then 1 else 0
theorem mostkids_any (k : Nat) (hk : k ≤ 15) (w : World) : Calls Tryz.prog 89 #[.int .i64 (k : Int)] w fun x w' => x = .returned (.int .i64 (mostL k : Int)) ∧ w = w' := by
  have hc : k = 0 ∨ k = 1 ∨ k = 2 ∨ k = 3 ∨ k = 4 ∨ k = 5 ∨ k = 6 ∨ k = 7 ∨ k = 8 ∨ k = 9 ∨ k = 10 ∨ k = 11 ∨ k = 12 ∨ k = 13 ∨ k = 14 ∨ k = 15 := by omega
  clear hk
  rcases hc with rfl | rfl | rfl | rfl | rfl | rfl | rfl | rfl | rfl | rfl | rfl | rfl | rfl | rfl | rfl | rfl
  all_goals
    go_enter Tryz.func89, Tryz.ntmps89
    go_wp2
    go_ret
    exact ⟨rfl, rfl⟩
/-- The words that nodes begin with. -/
def nodeW : List Bs := [[115, 101, 113], [115, 101, 108], [109, 115, 101, 113], [109, 115, 101, 108], [112, 97, 114], [110, 111, 116], [114, 101, 112, 101, 97, 116], [105, 102], [115, 101, 116], [100, 111], [117, 115, 101], [112, 105, 99, 107], [112, 108, 97, 110], [111, 107], [102, 97, 105, 108], [119, 97, 105, 116]]
end Go.Proofs.YtnphaaahdlkmhaaGreat
end
/-
  What package tree's head does with a parser in memory, kind by kind. Conditions: the table of levels can be read; names and numbers among the tokens are such.
-/
section
namespace Go.Proofs.YtnphaaahdlkmhaaGreat
open Go.ChangeShapes Go.WideShapes Go.ChangeAt Go.RowKit
set_option maxRecDepth 100000
set_option maxHeartbeats 4000000

/-- A node in a block of its own. -/
def NB (w : World) (q : Nat) (v0 v1 v2 v3 v4 v5 v6 v7 v8 v9 : Value) : Prop := w.heap[q]? = some (.cells #[v0, v1, v2, v3, v4, v5, v6, v7, v8, v9] 62 (0, 0))
theorem NB.go {w w' : World} {gp q : Nat} {v0 v1 v2 v3 v4 v5 v6 v7 v8 v9 : Value} (h : NB w q v0 v1 v2 v3 v4 v5 v6 v7 v8 v9) (t : Touch (AtB gp) w w') (hne : q ≠ gp) : NB w' q v0 v1 v2 v3 v4 v5 v6 v7 v8 v9 := (t.block q (blk_lt h) hne).trans h
theorem NB.new (w : World) (v0 v1 v2 v3 v4 v5 v6 v7 v8 v9 : Value) {N : Nat} (hN : w.heap.size = N) : NB (w.alloc (.cells #[v0, v1, v2, v3, v4, v5, v6, v7, v8, v9] 62)) N v0 v1 v2 v3 v4 v5 v6 v7 v8 v9 := alloc_blk _ _ _ hN
theorem NB.aside {w : World} {q p i : Nat} {v v0 v1 v2 v3 v4 v5 v6 v7 v8 v9 : Value} (h : NB w q v0 v1 v2 v3 v4 v5 v6 v7 v8 v9) (hne : q ≠ p) : NB (w.setCell ⟨p, i, none⟩ v) q v0 v1 v2 v3 v4 v5 v6 v7 v8 v9 :=
  (((Touch.refl (fun b => b = p) w).setCell (p := ⟨p, i, none⟩) (.inl rfl) v).block q (blk_lt h) hne).trans h
theorem NB.cells {w : World} {q : Nat} {v0 v1 v2 v3 v4 v5 v6 v7 v8 v9 : Value} (h : NB w q v0 v1 v2 v3 v4 v5 v6 v7 v8 v9) : w.cell? ⟨q, 0, none⟩ = some v0 ∧ w.cell? ⟨q, 1, none⟩ = some v1 ∧ w.cell? ⟨q, 2, none⟩ = some v2 ∧ w.cell? ⟨q, 3, none⟩ = some v3 ∧ w.cell? ⟨q, 4, none⟩ = some v4 ∧ w.cell? ⟨q, 5, none⟩ = some v5 ∧ w.cell? ⟨q, 6, none⟩ = some v6 ∧ w.cell? ⟨q, 7, none⟩ = some v7 ∧ w.cell? ⟨q, 8, none⟩ = some v8 ∧ w.cell? ⟨q, 9, none⟩ = some v9 ∧ q < w.heap.size :=
  ⟨cell_blk h 0, cell_blk h 1, cell_blk h 2, cell_blk h 3, cell_blk h 4, cell_blk h 5, cell_blk h 6, cell_blk h 7, cell_blk h 8, cell_blk h 9, blk_lt h⟩
theorem NB.free {w : World} {q : Nat} {v0 v1 v2 v3 v4 v5 v6 v7 v8 v9 : Value} (h : NB w q v0 v1 v2 v3 v4 v5 v6 v7 v8 v9) : w.frozen? ⟨q, 0, none⟩ = false ∧ w.frozen? ⟨q, 1, none⟩ = false ∧ w.frozen? ⟨q, 2, none⟩ = false ∧ w.frozen? ⟨q, 3, none⟩ = false ∧ w.frozen? ⟨q, 4, none⟩ = false ∧ w.frozen? ⟨q, 5, none⟩ = false ∧ w.frozen? ⟨q, 6, none⟩ = false ∧ w.frozen? ⟨q, 7, none⟩ = false ∧ w.frozen? ⟨q, 8, none⟩ = false ∧ w.frozen? ⟨q, 9, none⟩ = false :=
  ⟨free_blk h 0, free_blk h 1, free_blk h 2, free_blk h 3, free_blk h 4, free_blk h 5, free_blk h 6, free_blk h 7, free_blk h 8, free_blk h 9⟩
theorem ET.own {w : World} {Q : Nat → Prop} {q i : Nat} {v : Value} {x : Ex} {a b : Int} {s : ByteArray} {A : Option Addr} {m c : Nat} (h : ET w Q x a b s A m c) (hq : ¬ Q q) : ET (w.setCell ⟨q, i, none⟩ v) Q x a b s A m c :=
  h.aside ((Touch.refl (fun b => b = q) w).setCell (p := ⟨q, i, none⟩) (.inl rfl) v) hq
end Go.Proofs.YtnphaaahdlkmhaaGreat
end
/-
  A parser of nodes and programs over lists of tokens, told by plain functions of a place and an error: the nodes that wait for a kid on a stack. No program is named here.
-/
section
namespace Go.Proofs.YtnphaaahdlkmhaaGreat
set_option maxRecDepth 100000

/-- A node: its kind, its numbers, its name, its expression, its Kids, its weights. -/
inductive Nd where
  | mk (kd a b : Nat) (nm : Bs) (ex : Ex) (ks : List Nd) (ws : List Ex)
def nd0 : Nd := .mk 0 0 0 [] (.leaf 0 0 []) [] []
def Nd.kd : Nd → Nat | .mk k _ _ _ _ _ _ => k
def Nd.ks : Nd → List Nd | .mk _ _ _ _ _ l _ => l
def Nd.ws : Nd → List Ex | .mk _ _ _ _ _ _ l => l
def Nd.add : Nd → Nd → Nd | .mk k a b nm ex ks ws, c => .mk k a b nm ex (ks ++ [c]) ws
structure Tr where
  nm : Bs
  root : Nd
structure Ac where
  nm : Bs
  cost : Nat
  need : List Cn
  make : List Mk
structure Dm where
  nm : Bs
  vars : List Va
  acts : List Ac
  goal : List Cn
structure Pg where
  keys : List Ky
  trees : List Tr
  doms : List Dm
def needB : Bs := [110, 101, 101, 100]
def makeB : Bs := [109, 97, 107, 101]
def varB : Bs := [118, 97, 114]
def actB : Bs := [97, 99, 116]
def goalB : Bs := [103, 111, 97, 108]
def keyB : Bs := [107, 101, 121]
def treeB : Bs := [116, 114, 101, 101]
def domB : Bs := [100, 111, 109, 97, 105, 110]
def actH (ts : List Tk) (σ : St) : St := exS ts [123] (nuS ts (exS ts [99, 111, 115, 116] (naS ts σ)))
/-- What a text comes to: a program, or an error and its offset. -/
inductive Pr where
  | ok (p : Pg)
  | er (e at_ : Nat)
end Go.Proofs.YtnphaaahdlkmhaaGreat
end
/-
  An act's loop over lists, round by round; rows of conditions and makes. Lists alone but for the rows; no condition beyond those that each theorem names.
-/
section
namespace Go.Proofs.YtnphaaahdlkmhaaGreat
open Go.ChangeShapes Go.WideShapes Go.ChangeAt Go.RowKit
set_option maxRecDepth 100000

/-! ### places go on -/
theorem acS_ge (ts : List Tk) (s : Bs) (σ : St) : σ.1 ≤ (acS ts s σ).1 := by unfold acS; simp only; split <;> omega
theorem acS_yes {ts : List Tk} {s : Bs} {σ : St} (h : isS ts s σ = true) : acS ts s σ = (σ.1 + 1, σ.2) := by unfold acS; rw [if_pos h]
theorem exS_ge (ts : List Tk) (s : Bs) (σ : St) : σ.1 ≤ (exS ts s σ).1 := by unfold exS; simp only; split <;> omega
theorem nuS_ge (ts : List Tk) (σ : St) : σ.1 ≤ (nuS ts σ).1 := by unfold nuS stepK; simp only; split <;> omega
theorem naS_ge (ts : List Tk) (σ : St) : σ.1 ≤ (naS ts σ).1 := by unfold naS stepK; simp only; split <;> omega
theorem choS_ge (ts : List Tk) (ws : List Bs) (σ : St) : σ.1 ≤ (choS ts ws σ).1 := by unfold choS; split <;> simp [failS]
theorem siS_ge (ts : List Tk) (σ : St) : σ.1 ≤ (siS ts σ).1 := Nat.le_trans (acS_ge ts [45] σ) (nuS_ge ts _)
theorem varS_ge (ts : List Tk) (σ : St) : σ.1 ≤ (varS ts σ).1 := Nat.le_trans (naS_ge ts σ) (Nat.le_trans (siS_ge ts _) (Nat.le_trans (siS_ge ts _) (exS_ge ts [59] _)))
theorem failS_bad {c : Nat} (hc : c ≠ 0) (σ : St) : (failS c σ).2 ≠ 0 := by unfold failS; simp only; split <;> assumption
/-- Enough fuel for what is left to read. -/
def Fu (f n : Nat) (σ : St) : Prop := 1 ≤ f ∧ (σ.2 = 0 → n - σ.1 + 2 ≤ f)
theorem Fu.next {f n : Nat} {σ τ : St} (h : Fu (f + 1) n σ) (h0 : σ.2 = 0) (hk : σ.1 < n) (hg : σ.1 + 1 ≤ τ.1) : Fu f n τ := by
  have := h.2 h0
  exact ⟨by omega, fun _ => by omega⟩
theorem Fu.stop {f n : Nat} {σ τ : St} (h : Fu (f + 1) n σ) (h0 : σ.2 = 0) (hb : τ.2 ≠ 0) : Fu f n τ := by
  have := h.2 h0
  exact ⟨by omega, fun h => absurd h hb⟩
/-- The cells of conditions and makes. -/
def cnC (l : List Cn) : List Value := l.flatMap (fun c => [.string (bs c.nm), .int .i64 (c.op : Int), .int .i64 c.n])
def mkC (l : List Mk) : List Value := l.flatMap (fun c => [.string (bs c.nm), .bool c.add, .int .i64 c.n])
def vaC (l : List Va) : List Value := l.flatMap (fun c => [.string (bs c.nm), .int .i64 c.lo, .int .i64 c.hi])
def kyC (l : List Ky) : List Value := l.flatMap (fun c => [.string (bs c.nm), .int .i64 (c.kd : Int), .bool c.sh])
theorem cnC_snoc (l : List Cn) (c : Cn) : cnC (l ++ [c]) = cnC l ++ [.string (bs c.nm), .int .i64 (c.op : Int), .int .i64 c.n] := by simp [cnC]
theorem mkC_snoc (l : List Mk) (c : Mk) : mkC (l ++ [c]) = mkC l ++ [.string (bs c.nm), .bool c.add, .int .i64 c.n] := by simp [mkC]
theorem vaC_snoc (l : List Va) (c : Va) : vaC (l ++ [c]) = vaC l ++ [.string (bs c.nm), .int .i64 c.lo, .int .i64 c.hi] := by simp [vaC]
theorem kyC_snoc (l : List Ky) (c : Ky) : kyC (l ++ [c]) = kyC l ++ [.string (bs c.nm), .int .i64 (c.kd : Int), .bool c.sh] := by simp [kyC]
end Go.Proofs.YtnphaaahdlkmhaaGreat
end
/-
  What package tree's act does with a parser in memory. Conditions: numbers among the tokens are such.
-/
section
namespace Go.Proofs.YtnphaaahdlkmhaaGreat
open Go.ChangeShapes Go.WideShapes Go.ChangeAt Go.RowKit
set_option maxRecDepth 100000
set_option maxHeartbeats 4000000

theorem info_cond' : ∃ i0, Tryz.prog.info? 98 = some i0 ∧ i0.zero = some (.agg #[.string ⟨#[]⟩, .int .i64 0, .int .i64 0]) ∧ i0.size = 3 ∧ i0.bytes = 32 := by
  have h : (Tryz.prog.info? 98).map (fun i => (i.zero, i.size, i.bytes)) = some (some (.agg #[.string ⟨#[]⟩, .int .i64 0, .int .i64 0]), 3, 32) := by kernel_rfl
  cases hi : Tryz.prog.info? 98 with
  | none => rw [hi] at h; cases h
  | some i0 =>
    rw [hi] at h
    simp only [Option.map_some, Option.some.injEq, Prod.mk.injEq] at h
    exact ⟨i0, rfl, h.1, h.2.1, h.2.2⟩
theorem info_make' : ∃ i0, Tryz.prog.info? 126 = some i0 ∧ i0.zero = some (.agg #[.string ⟨#[]⟩, .bool false, .int .i64 0]) ∧ i0.size = 3 ∧ i0.bytes = 32 := by
  have h : (Tryz.prog.info? 126).map (fun i => (i.zero, i.size, i.bytes)) = some (some (.agg #[.string ⟨#[]⟩, .bool false, .int .i64 0]), 3, 32) := by kernel_rfl
  cases hi : Tryz.prog.info? 126 with
  | none => rw [hi] at h; cases h
  | some i0 =>
    rw [hi] at h
    simp only [Option.map_some, Option.some.injEq, Prod.mk.injEq] at h
    exact ⟨i0, rfl, h.1, h.2.1, h.2.2⟩
/-- A block of four cells of its own. -/
def B4 (w : World) (T : TypeId) (q : Nat) (a b c d : Value) : Prop := w.heap[q]? = some (.cells #[a, b, c, d] T (0, 0))
theorem B4.go {w w' : World} {T : TypeId} {gp q : Nat} {a b c d : Value} (h : B4 w T q a b c d) (t : Touch (AtB gp) w w') (hne : q ≠ gp) : B4 w' T q a b c d := (t.block q (blk_lt h) hne).trans h
theorem B4.new (w : World) (T : TypeId) (a b c d : Value) {N : Nat} (hN : w.heap.size = N) : B4 (w.alloc (.cells #[a, b, c, d] T)) T N a b c d := alloc_blk _ _ _ hN
theorem B4.cells {w : World} {T : TypeId} {q : Nat} {a b c d : Value} (h : B4 w T q a b c d) : w.cell? ⟨q, 0, none⟩ = some a ∧ w.cell? ⟨q, 1, none⟩ = some b ∧ w.cell? ⟨q, 2, none⟩ = some c ∧ w.cell? ⟨q, 3, none⟩ = some d ∧ q < w.heap.size := ⟨cell_blk h 0, cell_blk h 1, cell_blk h 2, cell_blk h 3, blk_lt h⟩
theorem B4.free {w : World} {T : TypeId} {q : Nat} {a b c d : Value} (h : B4 w T q a b c d) : w.frozen? ⟨q, 0, none⟩ = false ∧ w.frozen? ⟨q, 1, none⟩ = false ∧ w.frozen? ⟨q, 2, none⟩ = false ∧ w.frozen? ⟨q, 3, none⟩ = false := ⟨free_blk h 0, free_blk h 1, free_blk h 2, free_blk h 3⟩
theorem B4.aside {w : World} {T : TypeId} {q p i : Nat} {a b c d v : Value} (h : B4 w T q a b c d) (hne : q ≠ p) : B4 (w.setCell ⟨p, i, none⟩ v) T q a b c d :=
  (((Touch.refl (fun b => b = p) w).setCell (p := ⟨p, i, none⟩) (.inl rfl) v).block q (blk_lt h) hne).trans h
theorem B4.set2 {w : World} {T : TypeId} {q : Nat} {a b c d : Value} (h : B4 w T q a b c d) (v : Value) : B4 (w.setCell ⟨q, 2, none⟩ v) T q a b v d := set_blk h 2 v
theorem B4.set3 {w : World} {T : TypeId} {q : Nat} {a b c d : Value} (h : B4 w T q a b c d) (v : Value) : B4 (w.setCell ⟨q, 3, none⟩ v) T q a b c v := set_blk h 3 v
theorem B4.set1 {w : World} {T : TypeId} {q : Nat} {a b c d : Value} (h : B4 w T q a b c d) (v : Value) : B4 (w.setCell ⟨q, 1, none⟩ v) T q a v c d := set_blk h 1 v
/-- A row of one's own is left by a call, and by a store elsewhere. -/
theorem row_go {w w' : World} {base gp size m : Nat} {e : TypeId} {v : Value} {xs : List Value} (h : w.ownsRow base e size v m xs) (t : Touch (AtB gp) w w') (hb : gp < base) : w'.ownsRow base e size v m xs :=
  row_touch h t (fun k hk f => by have := (h.lt k hk).1; unfold AtB at f; omega)
theorem row_aside {w : World} {base q i size m : Nat} {e : TypeId} {v x : Value} {xs : List Value} (h : w.ownsRow base e size v m xs) (hq : v.ownBlock ≠ some q) : (w.setCell ⟨q, i, none⟩ x).ownsRow base e size v m xs :=
  row_touch h ((Touch.refl (fun b => b = q) w).setCell (p := ⟨q, i, none⟩) (.inl rfl) x) (fun k hk f => by subst f; exact hq hk)
def meas2 (gp n : Nat) (wr : World) : Nat := 2 * (n - (intOf ((wr.cell? ⟨gp, 1, none⟩).getD undef)).toNat) + (if (intOf ((wr.cell? ⟨gp, 2, none⟩).getD undef)) = 0 then 1 else 0)
end Go.Proofs.YtnphaaahdlkmhaaGreat
end
