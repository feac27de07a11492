/-
  What package printer writes, over lists: lines of tokens at levels, nodes, declarations. No program is named here.
-/
import Derived.Test.YtnphaaahdlkmhaaGreatZs8
import Derived.Test.YtnphaaahdlkmhaaGreatZs27
import Derived.Test.YtnphaaahdlkmhaaGreatZs10
import Derived.WalkKit
import Derived.Shelf.Strconv.Itoa3
section
namespace Go.Proofs.YtnphaaahdlkmhaaGreat
set_option maxRecDepth 100000

def Nd.a' : Nd → Nat | .mk _ a _ _ _ _ _ => a
def Nd.b' : Nd → Nat | .mk _ _ b _ _ _ _ => b
def Nd.nm' : Nd → Bs | .mk _ _ _ s _ _ _ => s
def Nd.ex' : Nd → Ex | .mk _ _ _ _ x _ _ => x
/-- A line of tokens at a level. -/
def indL (lv : Nat) : Bs := List.replicate (2 * lv) 32
def jnL : List Bs → Bs
  | [] => []
  | a :: r => a ++ r.flatMap (fun t => if t = [59] then t else 32 :: t)
def lnL (lv : Nat) (l : List Bs) : Bs := indL lv ++ jnL l ++ [10]
/-- The tokens that a node begins with. -/
def hdL (n : Nd) : List Bs := (nodeW.getD n.kd []) :: (
  if n.kd = 4 then [Lib.itoa n.a', Lib.itoa n.b']
  else if n.kd = 6 then [Lib.itoa n.a']
  else if n.kd = 7 then [prt n.ex']
  else if n.kd = 8 then [n.nm', [58, 61], prt n.ex']
  else if n.kd = 9 ∨ n.kd = 10 ∨ n.kd = 12 then [n.nm']
  else [])
/-- A node's Kids from place i on, each written by f. -/
def kdL (f : Nat → Nd → Bs) (pick : Bool) (lv : Nat) (ws : List Ex) : Nat → List Nd → Bs
  | _, [] => []
  | i, k :: r => (match pick, ws[i]? with
      | true, some x => lnL lv [prt x, [58]] ++ f (lv + 1) k
      | _, _ => f lv k) ++ kdL f pick lv ws (i + 1) r
/-- A node less than D deep. -/
def ndL : Nat → Nat → Nd → Bs
  | 0, _, _ => []
  | D + 1, lv, n =>
    if mostL n.kd = 0 then lnL lv (hdL n ++ [[59]])
    else if mostL n.kd = 1 then lnL lv (hdL n) ++ kdL (ndL D) (n.kd == 11) (lv + 1) n.ws 0 n.ks
    else lnL lv (hdL n ++ [[123]]) ++ kdL (ndL D) (n.kd == 11) (lv + 1) n.ws 0 n.ks ++ lnL lv [[125]]
end Go.Proofs.YtnphaaahdlkmhaaGreat
end
/-
  A writer of text (package printer's: a strings.Builder at the head of a block of its own type) in memory; what the Builder's methods do to it. Conditions: those that each theorem names.
-/
section
namespace Go.Proofs.YtnphaaahdlkmhaaGreat
open Go.ChangeShapes Go.WideShapes Go.ChangeAt Go.RowKit
set_option maxRecDepth 100000
set_option maxHeartbeats 4000000

/-- What a write leaves as it was: all below B, and all blocks but the writer's own that are no rows of bytes. -/
structure Wr (B b : Nat) (w w' : World) : Prop where
  below : Below B w w'
  oth : ∀ k cs T fz, w.heap[k]? = some (.cells cs T fz) → T ≠ 5 → k ≠ b → w'.heap[k]? = some (.cells cs T fz)
theorem Wr.refl (B b : Nat) (w : World) : Wr B b w w := ⟨Below.refl B w, fun _ _ _ _ h _ _ => h⟩
theorem Wr.trans {B b : Nat} {w w1 w2 : World} (h : Wr B b w w1) (k : Wr B b w1 w2) : Wr B b w w2 :=
  ⟨h.below.trans k.below, fun i cs T fz hi hT hb => k.oth i cs T fz (h.oth i cs T fz hi hT hb) hT hb⟩
theorem Wr.touch {B b : Nat} {w w' : World} (hB : B ≤ w.heap.size) (t : Touch NoB w w') : Wr B b w w' :=
  ⟨t.belowB hB, fun k _ _ _ hk _ _ => (t.block k (blk_lt hk) (fun x => x)).trans hk⟩
/-- A row of bytes stays, where only another block is stored to. -/
theorem BR.set {w : World} {B b : Nat} {v x : Value} {l : Bs} {cs : Array Value} {T : TypeId} {fz : Nat × Nat} (hb : w.heap[b]? = some (.cells cs T fz)) (hT : 5 ≠ T) (h : BR w B v l) (i : Nat) : BR (w.setCell ⟨b, i, none⟩ x) B v l :=
  World.ownsRow.kept (row := some b) h ⟨rfl, rfl, rfl, by simp [World.setCell], fun k _ hk => Below.heap_setCell _ _ _ _ (fun e => hk (by simp [e]))⟩ (Or.inr (row_ne h hb hT))
end Go.Proofs.YtnphaaahdlkmhaaGreat
end
/-
  What the Builder's WriteString and WriteByte do to a writer of text. Conditions: those that each theorem names.
-/
section
namespace Go.Proofs.YtnphaaahdlkmhaaGreat
open Go.ChangeShapes Go.WideShapes Go.ChangeAt Go.RowKit
set_option maxRecDepth 100000
set_option maxHeartbeats 4000000

theorem BR.slice {w : World} {B : Nat} {v : Value} {l : Bs} (h : BR w B v l) : ∃ a n c, v = .slice a n c := by
  rcases h.2 with ⟨hv, _⟩ | ⟨g, cap, cur, hv, _⟩
  · exact ⟨_, _, _, hv⟩
  · exact ⟨_, _, _, hv⟩
end Go.Proofs.YtnphaaahdlkmhaaGreat
end
/-
  A line of tokens written by a writer of text. Conditions: those that each theorem names.
-/
section
namespace Go.Proofs.YtnphaaahdlkmhaaGreat
open Go.ChangeShapes Go.WideShapes Go.ChangeAt Go.RowKit
set_option maxRecDepth 100000
set_option maxHeartbeats 4000000

/-- Words at the head of a block of strings. -/
structure TkA (w : World) (t : Nat) (ws : List Bs) : Prop where
  blk : ∃ (cs : Array Value) (fz : Nat × Nat), w.heap[t]? = some (.cells cs 9 fz) ∧ ∀ (i : Nat) (s : Bs), ws[i]? = some s → cs[i]? = some (Value.string (bs s))
theorem TkA.go {w w' : World} {B b t : Nat} {ws : List Bs} (h : TkA w t ws) (k : Wr B b w w') (hne : t ≠ b) : TkA w' t ws := by
  obtain ⟨cs, fz, h1, h2⟩ := h.blk
  exact ⟨cs, fz, k.oth t cs _ fz h1 (by decide) hne, h2⟩
theorem TkA.lt {w : World} {t : Nat} {ws : List Bs} (h : TkA w t ws) : t < w.heap.size := by
  obtain ⟨cs, fz, h1, -⟩ := h.blk
  exact blk_lt h1
theorem TkA.cell {w : World} {t i : Nat} {ws : List Bs} {s : Bs} (h : TkA w t ws) (hi : ws[i]? = some s) : w.cell? ⟨t, i, none⟩ = some (.string (bs s)) := by
  obtain ⟨cs, fz, h1, h2⟩ := h.blk
  rw [Lib.cell_of_heap h1]
  exact h2 i s hi
end Go.Proofs.YtnphaaahdlkmhaaGreat
end
/-
  What package expr's write appends for each kind of expression. Conditions: the library's table can be read; those that each theorem names.
-/
section
namespace Go.Proofs.YtnphaaahdlkmhaaGreat
open Go.ChangeShapes Go.WideShapes Go.ChangeAt Go.RowKit
set_option maxRecDepth 100000
set_option maxHeartbeats 4000000

theorem bs_app (a b : Bs) : bs a ++ bs b = bs (a ++ b) := by
  apply ByteArray.ext
  simp [bs, ByteArray.data_append]
end Go.Proofs.YtnphaaahdlkmhaaGreat
end
/-
  A row of words of one's own; what package printer's head returns of a node in memory. Conditions: the library's table can be read; those that each theorem names.
-/
section
namespace Go.Proofs.YtnphaaahdlkmhaaGreat
open Go.ChangeShapes Go.WideShapes Go.ChangeAt Go.RowKit
set_option maxRecDepth 100000
set_option maxHeartbeats 4000000

def sC (l : List Bs) : List Value := l.map (fun s => .string (bs s))
/-- A row of words of one's own. -/
def TR (w : World) (B : Nat) (v : Value) (ws : List Bs) : Prop := w.ownsRow B 9 1 v ws.length (sC ws)
theorem sC_len (l : List Bs) : (sC l).length = l.length := by simp [sC]
theorem TR.new (w : World) (B : Nat) {ws : List Bs} {cs : Array Value} (hcs : cs.toList = sC ws) (hB : B ≤ w.heap.size) (hl : ws.length ≤ 1000) {N : Nat} (hN : w.heap.size = N) : TR (w.alloc (.cells cs 9)) B (.slice (some ⟨N, 0, none⟩) ws.length ws.length) ws := by
  have hs : cs.size = ws.length := by rw [← Array.length_toList, hcs, sC_len]
  refine ⟨by rw [sC_len, Nat.mul_one], .inr ⟨N, ws.length, cs, rfl, by omega, alloc_blk _ _ _ hN, Nat.le_refl _, by unfold maxLen; omega, by omega, ?_⟩⟩
  rw [hcs, List.take_of_length_le (by rw [sC_len]; omega)]
theorem TR.below {w w' : World} {B : Nat} {v : Value} {ws : List Bs} (h : TR w B v ws) (t : Touch NoB w w') : TR w' B v ws := row_touch h t (fun _ _ x => x)
end Go.Proofs.YtnphaaahdlkmhaaGreat
end
