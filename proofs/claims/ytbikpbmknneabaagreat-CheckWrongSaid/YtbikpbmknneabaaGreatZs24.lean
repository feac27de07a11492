/-
  What the Builder's WriteString and WriteByte do to a writer of text. Conditions: those that each theorem names.
-/
import Derived.Test.YtbikpbmknneabaaGreatZs23
import Derived.Test.YtbikpbmknneabaaGreatZs5
import Derived.Test.YtbikpbmknneabaaGreatZs4
import Derived.WalkKit
import Derived.Shelf.Strconv.Itoa3
import Derived.Deep.RegionLaw
import Derived.Test.YtbikpbmknneabaaGreatZs11
section
namespace Go.Proofs.YtbikpbmknneabaaGreat
open Go.ChangeShapes Go.WideShapes Go.ChangeAt Go.RowKit
set_option maxRecDepth 100000
set_option maxHeartbeats 4000000

theorem BR.slice {w : World} {B : Nat} {v : Value} {l : Bs} (h : BR w B v l) : ∃ a n c, v = .slice a n c := by
  rcases h.2 with ⟨hv, _⟩ | ⟨g, cap, cur, hv, _⟩
  · exact ⟨_, _, _, hv⟩
  · exact ⟨_, _, _, hv⟩
end Go.Proofs.YtbikpbmknneabaaGreat
end
/-
  A line of tokens written by a writer of text. Conditions: those that each theorem names.
-/
section
namespace Go.Proofs.YtbikpbmknneabaaGreat
open Go.ChangeShapes Go.WideShapes Go.ChangeAt Go.RowKit
set_option maxRecDepth 100000
set_option maxHeartbeats 4000000

/-- Words at the head of a block of strings. -/
structure TkA (w : World) (t : Nat) (ws : List Bs) : Prop where
  blk : ∃ (cs : Array Value) (fz : Nat × Nat), w.heap[t]? = some (.cells cs 9 fz) ∧ ∀ (i : Nat) (s : Bs), ws[i]? = some s → cs[i]? = some (Value.string (bs s))
theorem TkA.go {w w' : World} {B b t : Nat} {ws : List Bs} (h : TkA w t ws) (k : Wr B b w w') (hne : t ≠ b) : TkA w' t ws := by
  obtain ⟨cs, fz, h1, h2⟩ := h.blk
  exact ⟨cs, fz, k.oth t cs _ fz h1 (by decide) hne, h2⟩
theorem TkA.lt {w : World} {t : Nat} {ws : List Bs} (h : TkA w t ws) : t < w.heap.size := by
  obtain ⟨cs, fz, h1, -⟩ := h.blk
  exact blk_lt h1
theorem TkA.cell {w : World} {t i : Nat} {ws : List Bs} {s : Bs} (h : TkA w t ws) (hi : ws[i]? = some s) : w.cell? ⟨t, i, none⟩ = some (.string (bs s)) := by
  obtain ⟨cs, fz, h1, h2⟩ := h.blk
  rw [Lib.cell_of_heap h1]
  exact h2 i s hi
end Go.Proofs.YtbikpbmknneabaaGreat
end
/-
  What package expr's write appends for each kind of expression. Conditions: the library's table can be read; those that each theorem names.
-/
section
namespace Go.Proofs.YtbikpbmknneabaaGreat
open Go.ChangeShapes Go.WideShapes Go.ChangeAt Go.RowKit
set_option maxRecDepth 100000
set_option maxHeartbeats 4000000

theorem bs_app (a b : Bs) : bs a ++ bs b = bs (a ++ b) := by
  apply ByteArray.ext
  simp [bs, ByteArray.data_append]
end Go.Proofs.YtbikpbmknneabaaGreat
end
/-
  A row of words of one's own; what package printer's head returns of a node in memory. Conditions: the library's table can be read; those that each theorem names.
-/
section
namespace Go.Proofs.YtbikpbmknneabaaGreat
open Go.ChangeShapes Go.WideShapes Go.ChangeAt Go.RowKit
set_option maxRecDepth 100000
set_option maxHeartbeats 4000000

def sC (l : List Bs) : List Value := l.map (fun s => .string (bs s))
/-- A row of words of one's own. -/
def TR (w : World) (B : Nat) (v : Value) (ws : List Bs) : Prop := w.ownsRow B 9 1 v ws.length (sC ws)
theorem sC_len (l : List Bs) : (sC l).length = l.length := by simp [sC]
theorem TR.new (w : World) (B : Nat) {ws : List Bs} {cs : Array Value} (hcs : cs.toList = sC ws) (hB : B ≤ w.heap.size) (hl : ws.length ≤ 1000) {N : Nat} (hN : w.heap.size = N) : TR (w.alloc (.cells cs 9)) B (.slice (some ⟨N, 0, none⟩) ws.length ws.length) ws := by
  have hs : cs.size = ws.length := by rw [← Array.length_toList, hcs, sC_len]
  refine ⟨by rw [sC_len, Nat.mul_one], .inr ⟨N, ws.length, cs, rfl, by omega, alloc_blk _ _ _ hN, Nat.le_refl _, by unfold maxLen; omega, by omega, ?_⟩⟩
  rw [hcs, List.take_of_length_le (by rw [sC_len]; omega)]
theorem TR.below {w w' : World} {B : Nat} {v : Value} {ws : List Bs} (h : TR w B v ws) (t : Touch NoB w w') : TR w' B v ws := row_touch h t (fun _ _ x => x)
end Go.Proofs.YtbikpbmknneabaaGreat
end
/-
  What package printer's head returns of a node in memory, whatever its kind. Conditions: the library's table can be read; numbers fit; expressions are valid.
-/
section
namespace Go.Proofs.YtbikpbmknneabaaGreat
open Go.ChangeShapes Go.WideShapes Go.ChangeAt Go.RowKit
set_option maxRecDepth 100000
set_option maxHeartbeats 4000000

/-- What head wants of a node. -/
structure HdOk (n : Nd) : Prop where
  a : (n.a : Int) ≤ 9223372036854775807
  b : (n.b : Int) ≤ 9223372036854775807
  x : n.kd = 7 ∨ n.kd = 8 → n.ex.depth ≤ 40 ∧ vE n.ex ∧ (prt n.ex).length ≤ 900000
end Go.Proofs.YtbikpbmknneabaaGreat
end
/-
  Kids of a node in memory; package printer's nested tells that a node is nested no deeper than may be. Conditions: those that each theorem names.
-/
section
namespace Go.Proofs.YtbikpbmknneabaaGreat
open Go.ChangeShapes Go.WideShapes Go.ChangeAt Go.RowKit
set_option maxRecDepth 100000
set_option maxHeartbeats 4000000

/-- A node's kinds are such, its kids not too many. -/
def KdOk : Nat → Nd → Prop
  | 0, _ => True
  | D + 1, n => n.kd ≤ 15 ∧ n.ks.length ≤ 100000 ∧ ∀ k ∈ n.ks, KdOk D k
end Go.Proofs.YtbikpbmknneabaaGreat
end
/-
  What a node's text is made of, over lists: its kids' texts piece by piece; which nodes are written, told by a plain function. Lists alone, but for what a table's place is.
-/
section
namespace Go.Proofs.YtbikpbmknneabaaGreat
open Go.ChangeShapes Go.WideShapes Go.ChangeAt Go.RowKit
set_option maxRecDepth 100000
set_option maxHeartbeats 4000000

/-- Nodes less than D deep that are written. -/
def PrN : Nat → Nd → Prop
  | 0, _ => False
  | D + 1, n => n.kd ≤ 15 ∧ n.ks.length ≤ 1000 ∧ n.ws.length ≤ 1000 ∧ (n.a : Int) ≤ 9223372036854775807 ∧ (n.b : Int) ≤ 9223372036854775807 ∧ (n.kd = 7 ∨ n.kd = 8 → n.ex.depth ≤ 40 ∧ vE n.ex) ∧ (∀ x ∈ n.ws, x.depth ≤ 40 ∧ vE x) ∧ ∀ k ∈ n.ks, PrN D k
theorem PrN.kd : ∀ {D : Nat} {n : Nd}, PrN D n → KdOk D n
  | 0, _, _ => trivial
  | D + 1, n, h => ⟨h.1, by have := h.2.1; omega, fun k hk => PrN.kd (h.2.2.2.2.2.2.2 k hk)⟩
theorem jnL_mem {ws : List Bs} {t : Bs} (h : t ∈ ws) : t.length ≤ (jnL ws).length := by
  cases ws with
  | nil => cases h
  | cons a r =>
    unfold jnL
    rw [List.length_append]
    rcases List.mem_cons.1 h with rfl | h
    · omega
    · have : ∀ (r : List Bs), t ∈ r → t.length ≤ (r.flatMap (fun t => if t = [59] then t else 32 :: t)).length := by
        intro r
        induction r with
        | nil => intro h; cases h
        | cons b r ih =>
          intro h
          rw [List.flatMap_cons, List.length_append]
          rcases List.mem_cons.1 h with rfl | h
          · split
            · omega
            · simp only [List.length_cons]; omega
          · have := ih h; omega
      have := this r h
      omega
theorem lnL_mem {lv : Nat} {ws : List Bs} {t : Bs} (h : t ∈ ws) : t.length ≤ (lnL lv ws).length := by
  have := jnL_mem h
  unfold lnL
  simp only [List.length_append]
  omega
/-- What head wants. -/
theorem PrN.hd {D : Nat} {n : Nd} (h : PrN (D + 1) n) {lv : Nat} (hl : (ndL (D + 1) lv n).length ≤ 900000) : HdOk n := by
  refine ⟨h.2.2.2.1, h.2.2.2.2.1, fun hk => ?_⟩
  obtain ⟨h1, h2⟩ := h.2.2.2.2.2.1 hk
  refine ⟨h1, h2, ?_⟩
  have hm : mostL n.kd = 0 := by rcases hk with e | e <;> rw [e] <;> rfl
  unfold ndL at hl
  rw [if_pos hm] at hl
  have hmem : prt n.ex ∈ hdL n ++ [[59]] := by
    obtain ⟨k, a, b, nm, ex, ks, ws⟩ := n
    simp only [Nd.kd, Nd.ex] at *
    unfold hdL
    simp only [Nd.kd, Nd.a', Nd.b', Nd.nm', Nd.ex']
    rcases hk with rfl | rfl <;> simp
  have := lnL_mem (lv := lv) hmem
  omega
end Go.Proofs.YtbikpbmknneabaaGreat
end
/-
  What package printer's kids writes, if node writes what it should of nodes that are less deep. Conditions: those that each theorem names.
-/
section
namespace Go.Proofs.YtbikpbmknneabaaGreat
open Go.ChangeShapes Go.WideShapes Go.ChangeAt Go.RowKit
set_option maxRecDepth 100000
set_option maxHeartbeats 4000000

/-- The library's table, below B. -/
def TbB (B : Nat) (w : World) : Prop := Lib.TabBelow Tryz.prog B w "internal/strconv.uint64pow10" .u64 Lib.pow10Tab
theorem TbB.go {B : Nat} {w w' : World} (h : TbB B w) (k : Below B w w') : TbB B w' := Lib.TabBelow.on h k
theorem TbB.here {B : Nat} {w : World} (h : TbB B w) : Lib.TabIs Tryz.prog w "internal/strconv.uint64pow10" .u64 Lib.pow10Tab := Lib.TabBelow.here h
end Go.Proofs.YtbikpbmknneabaaGreat
end
