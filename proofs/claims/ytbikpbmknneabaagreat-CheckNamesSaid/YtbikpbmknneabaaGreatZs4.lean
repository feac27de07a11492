/-
  What package syntax's MostKids and Nodes, and package tree's expression do with a parser in memory. Conditions: the table of levels can be read; names and numbers among the tokens are such.
-/
import Derived.Test.YtbikpbmknneabaaGreatZs3
import Derived.Deep.RegionLaw
import Derived.Deep.AppendLies
import Derived.Deep.DeepCutAuto
import Derived.Deep.RegionWith
section
namespace Go.Proofs.YtbikpbmknneabaaGreat
open Go.ChangeShapes Go.WideShapes Go.ChangeAt Go.RowKit
set_option maxRecDepth 100000
set_option maxHeartbeats 4000000

/-- How many Kids a kind may have. -/
def mostL (k : Nat) : Nat := if k ≤ 4 ∨ k = 11 then 16 else if k = 5 ∨ k = 6 then 1 else 0
theorem mostkids_any (k : Nat) (hk : k ≤ 15) (w : World) : Calls Tryz.prog 89 #[.int .i64 (k : Int)] w fun x w' => x = .returned (.int .i64 (mostL k : Int)) ∧ w = w' := by
  have hc : k = 0 ∨ k = 1 ∨ k = 2 ∨ k = 3 ∨ k = 4 ∨ k = 5 ∨ k = 6 ∨ k = 7 ∨ k = 8 ∨ k = 9 ∨ k = 10 ∨ k = 11 ∨ k = 12 ∨ k = 13 ∨ k = 14 ∨ k = 15 := by omega
  clear hk
  rcases hc with rfl | rfl | rfl | rfl | rfl | rfl | rfl | rfl | rfl | rfl | rfl | rfl | rfl | rfl | rfl | rfl
  all_goals
    go_enter Tryz.func89, Tryz.ntmps89
    go_wp2
    go_ret
    exact ⟨rfl, rfl⟩
/-- The words that nodes begin with. -/
def nodeW : List Bs := [[115, 101, 113], [115, 101, 108], [109, 115, 101, 113], [109, 115, 101, 108], [112, 97, 114], [110, 111, 116], [114, 101, 112, 101, 97, 116], [105, 102], [115, 101, 116], [100, 111], [117, 115, 101], [112, 105, 99, 107], [112, 108, 97, 110], [111, 107], [102, 97, 105, 108], [119, 97, 105, 116]]
end Go.Proofs.YtbikpbmknneabaaGreat
end
/-
  What package tree's head does with a parser in memory, kind by kind. Conditions: the table of levels can be read; names and numbers among the tokens are such.
-/
section
namespace Go.Proofs.YtbikpbmknneabaaGreat
open Go.ChangeShapes Go.WideShapes Go.ChangeAt Go.RowKit
set_option maxRecDepth 100000
set_option maxHeartbeats 4000000

/-- A node in a block of its own. -/
def NB (w : World) (q : Nat) (v0 v1 v2 v3 v4 v5 v6 v7 v8 v9 : Value) : Prop := w.heap[q]? = some (.cells #[v0, v1, v2, v3, v4, v5, v6, v7, v8, v9] 62 (0, 0))
theorem NB.go {w w' : World} {gp q : Nat} {v0 v1 v2 v3 v4 v5 v6 v7 v8 v9 : Value} (h : NB w q v0 v1 v2 v3 v4 v5 v6 v7 v8 v9) (t : Touch (AtB gp) w w') (hne : q ≠ gp) : NB w' q v0 v1 v2 v3 v4 v5 v6 v7 v8 v9 := (t.block q (blk_lt h) hne).trans h
theorem NB.new (w : World) (v0 v1 v2 v3 v4 v5 v6 v7 v8 v9 : Value) {N : Nat} (hN : w.heap.size = N) : NB (w.alloc (.cells #[v0, v1, v2, v3, v4, v5, v6, v7, v8, v9] 62)) N v0 v1 v2 v3 v4 v5 v6 v7 v8 v9 := alloc_blk _ _ _ hN
theorem NB.aside {w : World} {q p i : Nat} {v v0 v1 v2 v3 v4 v5 v6 v7 v8 v9 : Value} (h : NB w q v0 v1 v2 v3 v4 v5 v6 v7 v8 v9) (hne : q ≠ p) : NB (w.setCell ⟨p, i, none⟩ v) q v0 v1 v2 v3 v4 v5 v6 v7 v8 v9 :=
  (((Touch.refl (fun b => b = p) w).setCell (p := ⟨p, i, none⟩) (.inl rfl) v).block q (blk_lt h) hne).trans h
theorem NB.cells {w : World} {q : Nat} {v0 v1 v2 v3 v4 v5 v6 v7 v8 v9 : Value} (h : NB w q v0 v1 v2 v3 v4 v5 v6 v7 v8 v9) : w.cell? ⟨q, 0, none⟩ = some v0 ∧ w.cell? ⟨q, 1, none⟩ = some v1 ∧ w.cell? ⟨q, 2, none⟩ = some v2 ∧ w.cell? ⟨q, 3, none⟩ = some v3 ∧ w.cell? ⟨q, 4, none⟩ = some v4 ∧ w.cell? ⟨q, 5, none⟩ = some v5 ∧ w.cell? ⟨q, 6, none⟩ = some v6 ∧ w.cell? ⟨q, 7, none⟩ = some v7 ∧ w.cell? ⟨q, 8, none⟩ = some v8 ∧ w.cell? ⟨q, 9, none⟩ = some v9 ∧ q < w.heap.size :=
  ⟨cell_blk h 0, cell_blk h 1, cell_blk h 2, cell_blk h 3, cell_blk h 4, cell_blk h 5, cell_blk h 6, cell_blk h 7, cell_blk h 8, cell_blk h 9, blk_lt h⟩
theorem NB.free {w : World} {q : Nat} {v0 v1 v2 v3 v4 v5 v6 v7 v8 v9 : Value} (h : NB w q v0 v1 v2 v3 v4 v5 v6 v7 v8 v9) : w.frozen? ⟨q, 0, none⟩ = false ∧ w.frozen? ⟨q, 1, none⟩ = false ∧ w.frozen? ⟨q, 2, none⟩ = false ∧ w.frozen? ⟨q, 3, none⟩ = false ∧ w.frozen? ⟨q, 4, none⟩ = false ∧ w.frozen? ⟨q, 5, none⟩ = false ∧ w.frozen? ⟨q, 6, none⟩ = false ∧ w.frozen? ⟨q, 7, none⟩ = false ∧ w.frozen? ⟨q, 8, none⟩ = false ∧ w.frozen? ⟨q, 9, none⟩ = false :=
  ⟨free_blk h 0, free_blk h 1, free_blk h 2, free_blk h 3, free_blk h 4, free_blk h 5, free_blk h 6, free_blk h 7, free_blk h 8, free_blk h 9⟩
theorem ET.own {w : World} {Q : Nat → Prop} {q i : Nat} {v : Value} {x : Ex} {a b : Int} {s : ByteArray} {A : Option Addr} {m c : Nat} (h : ET w Q x a b s A m c) (hq : ¬ Q q) : ET (w.setCell ⟨q, i, none⟩ v) Q x a b s A m c :=
  h.aside ((Touch.refl (fun b => b = q) w).setCell (p := ⟨q, i, none⟩) (.inl rfl) v) hq
end Go.Proofs.YtbikpbmknneabaaGreat
end
/-
  A parser of nodes and programs over lists of tokens, told by plain functions of a place and an error: the nodes that wait for a kid on a stack. No program is named here.
-/
section
namespace Go.Proofs.YtbikpbmknneabaaGreat
set_option maxRecDepth 100000

/-- A node: its kind, its numbers, its name, its expression, its Kids, its weights. -/
inductive Nd where
  | mk (kd a b : Nat) (nm : Bs) (ex : Ex) (ks : List Nd) (ws : List Ex)
def nd0 : Nd := .mk 0 0 0 [] (.leaf 0 0 []) [] []
def Nd.kd : Nd → Nat | .mk k _ _ _ _ _ _ => k
def Nd.ks : Nd → List Nd | .mk _ _ _ _ _ l _ => l
def Nd.ws : Nd → List Ex | .mk _ _ _ _ _ _ l => l
def Nd.add : Nd → Nd → Nd | .mk k a b nm ex ks ws, c => .mk k a b nm ex (ks ++ [c]) ws
structure Tr where
  nm : Bs
  root : Nd
structure Ac where
  nm : Bs
  cost : Nat
  need : List Cn
  make : List Mk
structure Dm where
  nm : Bs
  vars : List Va
  acts : List Ac
  goal : List Cn
structure Pg where
  keys : List Ky
  trees : List Tr
  doms : List Dm
def needB : Bs := [110, 101, 101, 100]
def makeB : Bs := [109, 97, 107, 101]
def varB : Bs := [118, 97, 114]
def actB : Bs := [97, 99, 116]
def goalB : Bs := [103, 111, 97, 108]
def keyB : Bs := [107, 101, 121]
def treeB : Bs := [116, 114, 101, 101]
def domB : Bs := [100, 111, 109, 97, 105, 110]
def actH (ts : List Tk) (σ : St) : St := exS ts [123] (nuS ts (exS ts [99, 111, 115, 116] (naS ts σ)))
/-- What a text comes to: a program, or an error and its offset. -/
inductive Pr where
  | ok (p : Pg)
  | er (e at_ : Nat)
end Go.Proofs.YtbikpbmknneabaaGreat
end
/-
  An act's loop over lists, round by round; rows of conditions and makes. Lists alone but for the rows; no condition beyond those that each theorem names.
-/
section
namespace Go.Proofs.YtbikpbmknneabaaGreat
open Go.ChangeShapes Go.WideShapes Go.ChangeAt Go.RowKit
set_option maxRecDepth 100000

/-! ### places go on -/
theorem acS_ge (ts : List Tk) (s : Bs) (σ : St) : σ.1 ≤ (acS ts s σ).1 := by unfold acS; simp only; split <;> omega
theorem acS_yes {ts : List Tk} {s : Bs} {σ : St} (h : isS ts s σ = true) : acS ts s σ = (σ.1 + 1, σ.2) := by unfold acS; rw [if_pos h]
theorem exS_ge (ts : List Tk) (s : Bs) (σ : St) : σ.1 ≤ (exS ts s σ).1 := by unfold exS; simp only; split <;> omega
theorem nuS_ge (ts : List Tk) (σ : St) : σ.1 ≤ (nuS ts σ).1 := by unfold nuS stepK; simp only; split <;> omega
theorem naS_ge (ts : List Tk) (σ : St) : σ.1 ≤ (naS ts σ).1 := by unfold naS stepK; simp only; split <;> omega
theorem choS_ge (ts : List Tk) (ws : List Bs) (σ : St) : σ.1 ≤ (choS ts ws σ).1 := by unfold choS; split <;> simp [failS]
theorem siS_ge (ts : List Tk) (σ : St) : σ.1 ≤ (siS ts σ).1 := Nat.le_trans (acS_ge ts [45] σ) (nuS_ge ts _)
theorem varS_ge (ts : List Tk) (σ : St) : σ.1 ≤ (varS ts σ).1 := Nat.le_trans (naS_ge ts σ) (Nat.le_trans (siS_ge ts _) (Nat.le_trans (siS_ge ts _) (exS_ge ts [59] _)))
theorem failS_bad {c : Nat} (hc : c ≠ 0) (σ : St) : (failS c σ).2 ≠ 0 := by unfold failS; simp only; split <;> assumption
/-- Enough fuel for what is left to read. -/
def Fu (f n : Nat) (σ : St) : Prop := 1 ≤ f ∧ (σ.2 = 0 → n - σ.1 + 2 ≤ f)
theorem Fu.next {f n : Nat} {σ τ : St} (h : Fu (f + 1) n σ) (h0 : σ.2 = 0) (hk : σ.1 < n) (hg : σ.1 + 1 ≤ τ.1) : Fu f n τ := by
  have := h.2 h0
  exact ⟨by omega, fun _ => by omega⟩
theorem Fu.stop {f n : Nat} {σ τ : St} (h : Fu (f + 1) n σ) (h0 : σ.2 = 0) (hb : τ.2 ≠ 0) : Fu f n τ := by
  have := h.2 h0
  exact ⟨by omega, fun h => absurd h hb⟩
/-- The cells of conditions and makes. -/
def cnC (l : List Cn) : List Value := l.flatMap (fun c => [.string (bs c.nm), .int .i64 (c.op : Int), .int .i64 c.n])
def mkC (l : List Mk) : List Value := l.flatMap (fun c => [.string (bs c.nm), .bool c.add, .int .i64 c.n])
def vaC (l : List Va) : List Value := l.flatMap (fun c => [.string (bs c.nm), .int .i64 c.lo, .int .i64 c.hi])
def kyC (l : List Ky) : List Value := l.flatMap (fun c => [.string (bs c.nm), .int .i64 (c.kd : Int), .bool c.sh])
theorem cnC_snoc (l : List Cn) (c : Cn) : cnC (l ++ [c]) = cnC l ++ [.string (bs c.nm), .int .i64 (c.op : Int), .int .i64 c.n] := by simp [cnC]
theorem mkC_snoc (l : List Mk) (c : Mk) : mkC (l ++ [c]) = mkC l ++ [.string (bs c.nm), .bool c.add, .int .i64 c.n] := by simp [mkC]
theorem vaC_snoc (l : List Va) (c : Va) : vaC (l ++ [c]) = vaC l ++ [.string (bs c.nm), .int .i64 c.lo, .int .i64 c.hi] := by simp [vaC]
theorem kyC_snoc (l : List Ky) (c : Ky) : kyC (l ++ [c]) = kyC l ++ [.string (bs c.nm), .int .i64 (c.kd : Int), .bool c.sh] := by simp [kyC]
end Go.Proofs.YtbikpbmknneabaaGreat
end
/-
  What package tree's act does with a parser in memory. Conditions: numbers among the tokens are such.
-/
section
namespace Go.Proofs.YtbikpbmknneabaaGreat
open Go.ChangeShapes Go.WideShapes Go.ChangeAt Go.RowKit
set_option maxRecDepth 100000
set_option maxHeartbeats 4000000

theorem info_cond' : ∃ i0, Tryz.prog.info? 98 = some i0 ∧ i0.zero = some (.agg #[.string ⟨#[]⟩, .int .i64 0, .int .i64 0]) ∧ i0.size = 3 ∧ i0.bytes = 32 := by
  have h : (Tryz.prog.info? 98).map (fun i => (i.zero, i.size, i.bytes)) = some (some (.agg #[.string ⟨#[]⟩, .int .i64 0, .int .i64 0]), 3, 32) := by kernel_rfl
  cases hi : Tryz.prog.info? 98 with
  | none => rw [hi] at h; cases h
  | some i0 =>
    rw [hi] at h
    simp only [Option.map_some, Option.some.injEq, Prod.mk.injEq] at h
    exact ⟨i0, rfl, h.1, h.2.1, h.2.2⟩
theorem info_make' : ∃ i0, Tryz.prog.info? 126 = some i0 ∧ i0.zero = some (.agg #[.string ⟨#[]⟩, .bool false, .int .i64 0]) ∧ i0.size = 3 ∧ i0.bytes = 32 := by
  have h : (Tryz.prog.info? 126).map (fun i => (i.zero, i.size, i.bytes)) = some (some (.agg #[.string ⟨#[]⟩, .bool false, .int .i64 0]), 3, 32) := by kernel_rfl
  cases hi : Tryz.prog.info? 126 with
  | none => rw [hi] at h; cases h
  | some i0 =>
    rw [hi] at h
    simp only [Option.map_some, Option.some.injEq, Prod.mk.injEq] at h
    exact ⟨i0, rfl, h.1, h.2.1, h.2.2⟩
/-- A block of four cells of its own. -/
def B4 (w : World) (T : TypeId) (q : Nat) (a b c d : Value) : Prop := w.heap[q]? = some (.cells #[a, b, c, d] T (0, 0))
theorem B4.go {w w' : World} {T : TypeId} {gp q : Nat} {a b c d : Value} (h : B4 w T q a b c d) (t : Touch (AtB gp) w w') (hne : q ≠ gp) : B4 w' T q a b c d := (t.block q (blk_lt h) hne).trans h
theorem B4.new (w : World) (T : TypeId) (a b c d : Value) {N : Nat} (hN : w.heap.size = N) : B4 (w.alloc (.cells #[a, b, c, d] T)) T N a b c d := alloc_blk _ _ _ hN
theorem B4.cells {w : World} {T : TypeId} {q : Nat} {a b c d : Value} (h : B4 w T q a b c d) : w.cell? ⟨q, 0, none⟩ = some a ∧ w.cell? ⟨q, 1, none⟩ = some b ∧ w.cell? ⟨q, 2, none⟩ = some c ∧ w.cell? ⟨q, 3, none⟩ = some d ∧ q < w.heap.size := ⟨cell_blk h 0, cell_blk h 1, cell_blk h 2, cell_blk h 3, blk_lt h⟩
theorem B4.free {w : World} {T : TypeId} {q : Nat} {a b c d : Value} (h : B4 w T q a b c d) : w.frozen? ⟨q, 0, none⟩ = false ∧ w.frozen? ⟨q, 1, none⟩ = false ∧ w.frozen? ⟨q, 2, none⟩ = false ∧ w.frozen? ⟨q, 3, none⟩ = false := ⟨free_blk h 0, free_blk h 1, free_blk h 2, free_blk h 3⟩
theorem B4.aside {w : World} {T : TypeId} {q p i : Nat} {a b c d v : Value} (h : B4 w T q a b c d) (hne : q ≠ p) : B4 (w.setCell ⟨p, i, none⟩ v) T q a b c d :=
  (((Touch.refl (fun b => b = p) w).setCell (p := ⟨p, i, none⟩) (.inl rfl) v).block q (blk_lt h) hne).trans h
theorem B4.set2 {w : World} {T : TypeId} {q : Nat} {a b c d : Value} (h : B4 w T q a b c d) (v : Value) : B4 (w.setCell ⟨q, 2, none⟩ v) T q a b v d := set_blk h 2 v
theorem B4.set3 {w : World} {T : TypeId} {q : Nat} {a b c d : Value} (h : B4 w T q a b c d) (v : Value) : B4 (w.setCell ⟨q, 3, none⟩ v) T q a b c v := set_blk h 3 v
theorem B4.set1 {w : World} {T : TypeId} {q : Nat} {a b c d : Value} (h : B4 w T q a b c d) (v : Value) : B4 (w.setCell ⟨q, 1, none⟩ v) T q a v c d := set_blk h 1 v
/-- A row of one's own is left by a call, and by a store elsewhere. -/
theorem row_go {w w' : World} {base gp size m : Nat} {e : TypeId} {v : Value} {xs : List Value} (h : w.ownsRow base e size v m xs) (t : Touch (AtB gp) w w') (hb : gp < base) : w'.ownsRow base e size v m xs :=
  row_touch h t (fun k hk f => by have := (h.lt k hk).1; unfold AtB at f; omega)
theorem row_aside {w : World} {base q i size m : Nat} {e : TypeId} {v x : Value} {xs : List Value} (h : w.ownsRow base e size v m xs) (hq : v.ownBlock ≠ some q) : (w.setCell ⟨q, i, none⟩ x).ownsRow base e size v m xs :=
  row_touch h ((Touch.refl (fun b => b = q) w).setCell (p := ⟨q, i, none⟩) (.inl rfl) x) (fun k hk f => by subst f; exact hq hk)
def meas2 (gp n : Nat) (wr : World) : Nat := 2 * (n - (intOf ((wr.cell? ⟨gp, 1, none⟩).getD undef)).toNat) + (if (intOf ((wr.cell? ⟨gp, 2, none⟩).getD undef)) = 0 then 1 else 0)
end Go.Proofs.YtbikpbmknneabaaGreat
end
/-
  What package tree's act does with a parser in memory. Conditions: numbers among the tokens are such.
-/
section
namespace Go.Proofs.YtbikpbmknneabaaGreat
open Go.ChangeShapes Go.WideShapes Go.ChangeAt Go.RowKit
set_option maxRecDepth 100000
set_option maxHeartbeats 4000000

theorem B4.goR {w w' : World} {T : TypeId} {q : Nat} {a b c d v : Value} (h : B4 w T q a b c d) (t : Touch (fun b => v.ownBlock = some b) w w') (hne : v.ownBlock ≠ some q) : B4 w' T q a b c d := (t.block q (blk_lt h) hne).trans h
theorem row_base {w : World} {base size n : Nat} {e : TypeId} {v : Value} {xs : List Value} (h : w.ownsRow base e size v n xs) : ∀ k, v.ownBlock = some k → base ≤ k := fun k hk => by
  rcases h.2 with ⟨rfl, _⟩ | ⟨g, cap, cur, rfl, hb, _⟩
  · simp [Value.ownBlock] at hk
  · have : g = k := by simpa [Value.ownBlock] using hk
    omega
end Go.Proofs.YtbikpbmknneabaaGreat
end
/-
  A domain's and a program's loops over lists, round by round; lists of a program's finished parts in memory. No condition beyond those that each theorem names.
-/
section
namespace Go.Proofs.YtbikpbmknneabaaGreat
open Go.ChangeShapes Go.WideShapes Go.ChangeAt Go.RowKit
set_option maxRecDepth 100000

/-! ### places go on -/
/-! ### what is finished -/
/-- A row's cells lie in blocks of Q: to be read, no longer to be appended to. -/
def SlAt (w : World) (Q : Nat → Prop) (v : Value) (n : Nat) (xs : List Value) : Prop :=
  ∃ A c, v = .slice A n c ∧ ∀ (j : Nat) (x : Value), xs[j]? = some x → ∃ b, A = some ⟨b, 0, none⟩ ∧ Q b ∧ b < w.heap.size ∧ w.cell? ⟨b, j, none⟩ = some x
theorem SlAt.touch {w w' : World} {Q F : Nat → Prop} {v : Value} {n : Nat} {xs : List Value} (h : SlAt w Q v n xs) (t : Touch F w w') (hq : ∀ b, Q b → ¬ F b) : SlAt w' Q v n xs := by
  obtain ⟨A, c, rfl, hx⟩ := h
  refine ⟨A, c, rfl, fun j x hj => ?_⟩
  obtain ⟨b, rfl, h1, h2, h3⟩ := hx j x hj
  exact ⟨b, rfl, h1, Nat.lt_of_lt_of_le h2 t.size, (t.cell (p := ⟨b, j, none⟩) h2 (hq b h1)).trans h3⟩
theorem SlAt.via {w : World} {Q R : Nat → Prop} {v : Value} {n : Nat} {xs : List Value} (h : SlAt w Q v n xs) (hq : ∀ b, Q b → b < w.heap.size → R b) : SlAt w R v n xs := by
  obtain ⟨A, c, rfl, hx⟩ := h
  refine ⟨A, c, rfl, fun j x hj => ?_⟩
  obtain ⟨b, rfl, h1, h2, h3⟩ := hx j x hj
  exact ⟨b, rfl, hq b h1 h2, h2, h3⟩
theorem slat_of {w : World} {base size n : Nat} {e : TypeId} {v : Value} {xs : List Value} (h : w.ownsRow base e size v n xs) : SlAt w (fun b => base ≤ b) v n xs := by
  have hb := row_base h
  rcases h.2 with ⟨rfl, h0⟩ | ⟨g, cap, cur, rfl, h1, hh, hc, hm, hs, ht⟩
  · refine ⟨none, 0, by rw [h0], fun j x hj => ?_⟩
    have : xs = [] := List.eq_nil_of_length_eq_zero (by rw [h.1, h0]; simp)
    rw [this] at hj
    simp at hj
  · refine ⟨some ⟨g, 0, none⟩, cap, rfl, fun j x hj => ⟨g, rfl, h1, blk_lt hh, ?_⟩⟩
    rw [cell_of_row w g j _ _ _ hh]
    rw [← ht] at hj
    rw [List.getElem?_take] at hj
    split at hj
    · simpa using hj
    · cases hj
/-- An act's cells, its rows finished. -/
def AcAt (w : World) (Q : Nat → Prop) (a : Ac) (l : List Value) : Prop := ∃ v1 v2, l = [.string (bs a.nm), .int .i64 (a.cost : Int), v1, v2] ∧ SlAt w Q v1 a.need.length (cnC a.need) ∧ SlAt w Q v2 a.make.length (mkC a.make)
theorem AcAt.touch {w w' : World} {Q F : Nat → Prop} {a : Ac} {l : List Value} (h : AcAt w Q a l) (t : Touch F w w') (hq : ∀ b, Q b → ¬ F b) : AcAt w' Q a l := by
  obtain ⟨v1, v2, rfl, h1, h2⟩ := h
  exact ⟨v1, v2, rfl, h1.touch t hq, h2.touch t hq⟩
theorem AcAt.via {w : World} {Q R : Nat → Prop} {a : Ac} {l : List Value} (h : AcAt w Q a l) (hq : ∀ b, Q b → b < w.heap.size → R b) : AcAt w R a l := by
  obtain ⟨v1, v2, rfl, h1, h2⟩ := h
  exact ⟨v1, v2, rfl, h1.via hq, h2.via hq⟩
/-- A list's cells, part by part. -/
inductive LsAt {α : Type} (P : α → List Value → Prop) : List α → List Value → Prop where
  | nil : LsAt P [] []
  | snoc {l : List α} {a : α} {xs ys : List Value} (h : LsAt P l xs) (ha : P a ys) : LsAt P (l ++ [a]) (xs ++ ys)
theorem LsAt.mono {α : Type} {P P' : α → List Value → Prop} {l : List α} {xs : List Value} (h : LsAt P l xs) (hp : ∀ a ys, P a ys → P' a ys) : LsAt P' l xs := by
  induction h with
  | nil => exact .nil
  | snoc _ ha ih => exact .snoc ih (hp _ _ ha)
end Go.Proofs.YtbikpbmknneabaaGreat
end
/-
  What stands in memory while package tree's domain reads. No condition beyond those that each theorem names.
-/
section
namespace Go.Proofs.YtbikpbmknneabaaGreat
open Go.ChangeShapes Go.WideShapes Go.ChangeAt Go.RowKit
set_option maxRecDepth 100000
set_option maxHeartbeats 4000000

theorem info_var' : ∃ i0, Tryz.prog.info? 92 = some i0 ∧ i0.zero = some (.agg #[.string ⟨#[]⟩, .int .i64 0, .int .i64 0]) ∧ i0.size = 3 ∧ i0.bytes = 32 := by
  have h : (Tryz.prog.info? 92).map (fun i => (i.zero, i.size, i.bytes)) = some (some (.agg #[.string ⟨#[]⟩, .int .i64 0, .int .i64 0]), 3, 32) := by kernel_rfl
  cases hi : Tryz.prog.info? 92 with
  | none => rw [hi] at h; cases h
  | some i0 =>
    rw [hi] at h
    simp only [Option.map_some, Option.some.injEq, Prod.mk.injEq] at h
    exact ⟨i0, rfl, h.1, h.2.1, h.2.2⟩
theorem info_act' : ∃ i0, Tryz.prog.info? 95 = some i0 ∧ i0.zero = some (.agg #[.string ⟨#[]⟩, .int .i64 0, .slice none 0 0, .slice none 0 0]) ∧ i0.size = 4 ∧ i0.bytes = 72 := by
  have h : (Tryz.prog.info? 95).map (fun i => (i.zero, i.size, i.bytes)) = some (some (.agg #[.string ⟨#[]⟩, .int .i64 0, .slice none 0 0, .slice none 0 0]), 4, 72) := by kernel_rfl
  cases hi : Tryz.prog.info? 95 with
  | none => rw [hi] at h; cases h
  | some i0 =>
    rw [hi] at h
    simp only [Option.map_some, Option.some.injEq, Prod.mk.injEq] at h
    exact ⟨i0, rfl, h.1, h.2.1, h.2.2⟩
/-- A domain that is being read, at block q3; Q: the blocks of its finished acts. -/
structure DM (w wr : World) (gp q3 : Nat) (Q : Nat → Prop) (nm : ByteArray) (a : List Va) (b : List Ac) (c : List Cn) (vv va vg : Value) (xs : List Value) : Prop where
  t : Touch (AtB gp) w wr
  b2 : B4 wr 71 w.heap.size (.string ⟨#[]⟩) (.slice none 0 0) (.slice none 0 0) (.slice none 0 0)
  b3 : B4 wr 71 q3 (.string nm) vv va vg
  rv : wr.ownsRow w.heap.size 92 3 vv a.length (vaC a)
  ra : wr.ownsRow w.heap.size 95 4 va b.length xs
  ls : LsAt (AcAt wr Q) b xs
  rg : wr.ownsRow w.heap.size 98 3 vg c.length (cnC c)
  hQ : ∀ k, Q k → w.heap.size < k ∧ k < wr.heap.size ∧ k ≠ q3 ∧ vv.ownBlock ≠ some k ∧ va.ownBlock ≠ some k ∧ vg.ownBlock ≠ some k
theorem DM.go {w wr V : World} {gp q3 : Nat} {Q : Nat → Prop} {nm : ByteArray} {a : List Va} {b : List Ac} {c : List Cn} {vv va vg : Value} {xs : List Value} (h : DM w wr gp q3 Q nm a b c vv va vg xs) (t : Touch (AtB gp) wr V) (hgp : gp < w.heap.size) (hsq : w.heap.size < q3) : DM w V gp q3 Q nm a b c vv va vg xs :=
  ⟨h.t.same t, h.b2.go t (by omega), h.b3.go t (by omega), row_go h.rv t hgp, row_go h.ra t hgp, h.ls.mono (fun x ys hx => hx.touch t (fun k hk f => by have := (h.hQ k hk).1; unfold AtB at f; omega)), row_go h.rg t hgp,
    fun k hk => ⟨(h.hQ k hk).1, Nat.lt_of_lt_of_le (h.hQ k hk).2.1 t.size, (h.hQ k hk).2.2⟩⟩
/-- What a call has made new is finished. -/
theorem DM.widen {w wr V : World} {gp q3 : Nat} {Q : Nat → Prop} {nm : ByteArray} {a : List Va} {b : List Ac} {c : List Cn} {vv va vg : Value} {xs : List Value} (h : DM w wr gp q3 Q nm a b c vv va vg xs) (t : Touch (AtB gp) wr V) (hgp : gp < w.heap.size) (hsq : w.heap.size < q3) :
    DM w V gp q3 (fun k => Q k ∨ (wr.heap.size ≤ k ∧ k < V.heap.size)) nm a b c vv va vg xs := by
  have h3 := h.go t hgp hsq
  have hb2 := blk_lt h.b2
  have hb3 := blk_lt h.b3
  refine ⟨h3.t, h3.b2, h3.b3, h3.rv, h3.ra, h3.ls.mono (fun x ys hx => hx.via (fun k hk _ => .inl hk)), h3.rg, fun k hk => ?_⟩
  rcases hk with hk | ⟨h1, h2⟩
  · exact h3.hQ k hk
  · exact ⟨by omega, h2, by omega, fun e => by have := (h.rv.lt k e).2; omega, fun e => by have := (h.ra.lt k e).2; omega, fun e => by have := (h.rg.lt k e).2; omega⟩
section
variable {w w3 wx : World} {gp q3 gd cap : Nat} {Q : Nat → Prop} {nm : ByteArray} {a : List Va} {b : List Ac} {c : List Cn} {vv va vg : Value} {xs : List Value}
theorem DM.addG {v : Cn} (h : DM w w3 gp q3 Q nm a b c vv va vg xs) (hsq : w.heap.size < q3) (TR : Touch (fun b => vg.ownBlock = some b) w3 wx)
    (hown : wx.ownsRow w.heap.size 98 3 (.slice (some ⟨gd, 0, none⟩) (c.length + 1) cap) (c.length + 1) (cnC c ++ [.string (bs v.nm), .int .i64 (v.op : Int), .int .i64 v.n])) (hat : vg.ownBlock = some gd ∨ gd = w3.heap.size + 1) :
    DM w (wx.setCell ⟨q3, 3, none⟩ (.slice (some ⟨gd, 0, none⟩) (c.length + 1) cap)) gp q3 Q nm a b (c ++ [v]) vv va (.slice (some ⟨gd, 0, none⟩) (c.length + 1) cap) xs := by
  have hb2 := h.b2.goR TR (row_ne h.rg h.b2 (by decide))
  have hb3 := h.b3.goR TR (row_ne h.rg h.b3 (by decide))
  have ra := row_touch h.ra TR (fun k hk f => row_row_ne h.rg h.ra (by decide) f hk)
  have rv := row_touch h.rv TR (fun k hk f => row_row_ne h.rg h.rv (by decide) f hk)
  have tS := (Touch.refl (fun b => b = q3) wx).setCell (p := ⟨q3, 3, none⟩) (.inl rfl) (.slice (some ⟨gd, 0, none⟩) (c.length + 1) cap)
  refine ⟨(h.t.trans TR (fun k hk => .inr (row_base h.rg k hk))).setCell (p := ⟨q3, 3, none⟩) (.inr (by simp only; omega)) _, hb2.aside (by omega), hb3.set3 _, row_aside rv (row_ne rv hb3 (by decide)), row_aside ra (row_ne ra hb3 (by decide)), ?_, ?_, fun k hk => ?_⟩
  · exact h.ls.mono (fun x ys hx => (hx.touch TR (fun k hk => (h.hQ k hk).2.2.2.2.2)).touch tS (fun k hk => (h.hQ k hk).2.2.1))
  · rw [List.length_append, cnC_snoc]
    exact row_aside hown (row_ne hown hb3 (by decide))
  · obtain ⟨q1, q2, q3', q4, q5, q6⟩ := h.hQ k hk
    refine ⟨q1, Nat.lt_of_lt_of_le q2 (Nat.le_trans TR.size tS.size), q3', q4, q5, fun e => ?_⟩
    have e1 : gd = k := by simpa [Value.ownBlock] using e
    subst e1
    rcases hat with e | e
    · exact q6 e
    · omega
theorem DM.addA {v : Ac} {ys : List Value} (h : DM w w3 gp q3 Q nm a b c vv va vg xs) (hsq : w.heap.size < q3) (hv : AcAt w3 Q v ys) (TR : Touch (fun b => va.ownBlock = some b) w3 wx)
    (hown : wx.ownsRow w.heap.size 95 4 (.slice (some ⟨gd, 0, none⟩) (b.length + 1) cap) (b.length + 1) (xs ++ ys)) (hat : va.ownBlock = some gd ∨ gd = w3.heap.size + 1) :
    DM w (wx.setCell ⟨q3, 2, none⟩ (.slice (some ⟨gd, 0, none⟩) (b.length + 1) cap)) gp q3 Q nm a (b ++ [v]) c vv (.slice (some ⟨gd, 0, none⟩) (b.length + 1) cap) vg (xs ++ ys) := by
  have hb2 := h.b2.goR TR (row_ne h.ra h.b2 (by decide))
  have hb3 := h.b3.goR TR (row_ne h.ra h.b3 (by decide))
  have rg := row_touch h.rg TR (fun k hk f => row_row_ne h.ra h.rg (by decide) f hk)
  have rv := row_touch h.rv TR (fun k hk f => row_row_ne h.ra h.rv (by decide) f hk)
  have tS := (Touch.refl (fun b => b = q3) wx).setCell (p := ⟨q3, 2, none⟩) (.inl rfl) (.slice (some ⟨gd, 0, none⟩) (b.length + 1) cap)
  refine ⟨(h.t.trans TR (fun k hk => .inr (row_base h.ra k hk))).setCell (p := ⟨q3, 2, none⟩) (.inr (by simp only; omega)) _, hb2.aside (by omega), hb3.set2 _, row_aside rv (row_ne rv hb3 (by decide)), ?_, ?_, row_aside rg (row_ne rg hb3 (by decide)), fun k hk => ?_⟩
  · rw [List.length_append]
    exact row_aside hown (row_ne hown hb3 (by decide))
  · exact (LsAt.snoc h.ls hv).mono (fun x ys hx => (hx.touch TR (fun k hk => (h.hQ k hk).2.2.2.2.1)).touch tS (fun k hk => (h.hQ k hk).2.2.1))
  · obtain ⟨q1, q2, q3', q4, q5, q6⟩ := h.hQ k hk
    refine ⟨q1, Nat.lt_of_lt_of_le q2 (Nat.le_trans TR.size tS.size), q3', q4, fun e => ?_, q6⟩
    have e1 : gd = k := by simpa [Value.ownBlock] using e
    subst e1
    rcases hat with e | e
    · exact q5 e
    · omega
end
/-- A domain's cells, its lists finished. -/
def DmAt (w : World) (Q : Nat → Prop) (d : Dm) (l : List Value) : Prop := ∃ v1 v2 v3 xs, l = [.string (bs d.nm), v1, v2, v3] ∧ SlAt w Q v1 d.vars.length (vaC d.vars) ∧ SlAt w Q v2 d.acts.length xs ∧ LsAt (AcAt w Q) d.acts xs ∧ SlAt w Q v3 d.goal.length (cnC d.goal)
end Go.Proofs.YtbikpbmknneabaaGreat
end
