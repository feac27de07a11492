/-
  Bytes built up for the text of an expression: appends of strings, of single bytes, of numbers, of truths. Conditions: the library's table can be read; those that each theorem names.
-/
import Derived.Test.YtadpihipnffiaaaDoorQv
import Derived.Test.YtadpihipnffiaaaDoorLw
import Derived.Test.YtadpihipnffiaaaDoorSh
import Derived.Deep.AppendLies
import Derived.Lib.AppendZeros
namespace Go.Proofs.YtadpihipnffiaaaDoor
open Go.ChangeShapes Go.WideShapes Go.ChangeAt Go.RowKit
set_option maxRecDepth 100000
set_option maxHeartbeats 4000000

/-- An append whose outcome is known, as one step of a region. -/
theorem step_appended {P : Program} {ops : Array Oper} {o : Oper} {a : Act} {w w1 : World} {K : Act → World → Prop} {Q : Exit → Act → World → Prop} {E : Prop} {T U : TypeId} {d s : Operand} {x y r : Value} (hop : o.op = .call { callee := .builtin .append, args := #[d, s], argTypes := #[T, U] })
    (hrun : (Builtin.append_ #[T, U] o.type #[x, y]).run P w = .ok r w1) (hgd : o.guard = none) (hx : a.eval d = x) (hy : a.eval s = y) (hK : K (a.put o.dst r) w1) : if Region.wanted o (yielded ops a.tmps) = true then Oper.wp P o a w K Q else E := by
  have h1 : Region.wanted o (yielded ops a.tmps) = true := by simp [Region.wanted, hgd]
  rw [if_pos h1]
  unfold Oper.wp
  simp [execOp, hop, resolve, invoke, builtin, hx, hy, hrun, Result.andThen]
  exact hK
theorem grown_below {w w' : World} {row : Option Nat} {B : Nat} (h : w.grownBy w' row) (hr : ∀ b, row = some b → B ≤ b) (hB : B ≤ w.heap.size) : Below B w w' :=
  (show Touch (fun b => row = some b) w w' from (Touch.refl _ w).grown h (fun _ e => .inl e)).grow hr hB
theorem Touch.belowB {w w' : World} {B : Nat} (h : Touch NoB w w') (hB : B ≤ w.heap.size) : Below B w w' := h.grow (fun _ x => x.elim) hB
theorem below_trans {B : Nat} {a b c : World} (h : Below B a b) (k : Below B b c) : Below B a c := h.trans k
/-- An expression whose Kids lie below B. -/
theorem ET.below {w w' : World} {B : Nat} (h : Below B w w') {x : Ex} {a b : Int} {s : ByteArray} {A : Option Addr} {m c : Nat} (hx : ET w (fun b => b < B) x a b s A m c) : ET w' (fun b => b < B) x a b s A m c := by
  have t : Touch (fun b => B ≤ b) w w' := ⟨h.os, h.tape, h.output, h.size, fun k _ hf => h.block k (by omega)⟩
  exact hx.touch t (fun b _ _ h1 h2 => by omega)
/-- All blocks but the row's own are as they were. -/
def Kept (v : Value) (w w' : World) : Prop := w.heap.size ≤ w'.heap.size ∧ ∀ k, k < w.heap.size → v.ownBlock ≠ some k → w'.heap[k]? = w.heap[k]?
/-- What is built up: the row, and what it wants around it. -/
structure WS (w : World) (B : Nat) (v : Value) (l : Bs) : Prop where
  row : BR w B v l
  le : B ≤ w.heap.size
  tab : Lib.TabBelow Tryd.prog B w "internal/strconv.uint64pow10" .u64 Lib.pow10Tab
theorem WS.own {w : World} {B : Nat} {v : Value} {l : Bs} (h : WS w B v l) {k : Nat} (hk : v.ownBlock = some k) : B ≤ k ∧ k < w.heap.size := World.ownsRow.lt h.row k hk
/-- An expression in a block is no part of the row. -/
theorem WS.keptX {w w' : World} {B : Nat} {v : Value} {l : Bs} (h : WS w B v l) (hk : Kept v w w') {q : Nat} {a b : Int} {s : ByteArray} {A : Option Addr} {m c : Nat} (hx : XB w q a b s A m c) : XB w' q a b s A m c :=
  (hk.2 q (blk_lt hx) (row_ne h.row hx (by decide))).trans hx
theorem WS.on {w w' : World} {B : Nat} {v v' : Value} {l l' : Bs} (h : WS w B v l) (hb : Below B w w') (hr : BR w' B v' l') : WS w' B v' l' := ⟨hr, Nat.le_trans h.le hb.size, h.tab.on hb⟩
theorem WS.touch {w w' : World} {B : Nat} {v : Value} {l : Bs} (h : WS w B v l) (t : Touch NoB w w') : WS w' B v l := h.on (t.belowB h.le) (row_touch h.row t (fun _ _ x => x))
/-- A string appended. -/
theorem WS.str {w : World} {B : Nat} {v : Value} {l : Bs} (h : WS w B v l) (s : Bs) (hl : l.length + s.length ≤ 1000000) :
    ∃ v' w', (Builtin.append_ #[26, 9] 26 #[v, .string (bs s)]).run Tryd.prog w = .ok v' w' ∧ WS w' B v' (l ++ s) ∧ Below B w w' ∧ Kept v w w' := by
  obtain ⟨v', w', h1, h2, h3⟩ := app_str (s := s) h.le hl h.row
  have hb := grown_below h3 (fun b e => (World.ownsRow.lt h.row b e).1) h.le
  exact ⟨v', w', h1, h.on hb h2, hb, h3.size, fun k hk hn => h3.block k hk (fun e => hn e.symm)⟩
/-- One byte appended, out of a new block. -/
theorem WS.byte {w : World} {B : Nat} {v : Value} {l : Bs} (h : WS w B v l) (c : UInt8) (hl : l.length + 1 ≤ 1000000) {N : Nat} (hN : w.heap.size = N) {W : World} (hW : w.alloc (.cells #[.int .u8 (c.toNat : Int)] 5) = W) :
    ∃ v' w', (Builtin.append_ #[26, 26] 26 #[v, .slice (some ⟨N, 0, none⟩) 1 1]).run Tryd.prog W = .ok v' w' ∧ WS w' B v' (l ++ [c]) ∧ Below B w w' ∧ Kept v w w' := by
  subst hN hW
  obtain ⟨i0, hi0, hz0, hz1, hz2⟩ := info_u8'
  have t : Touch NoB w (w.alloc (.cells #[.int .u8 (c.toNat : Int)] 5)) := (Touch.refl _ _).alloc _
  have h' := h.touch t
  have hblk : (w.alloc (.cells #[.int .u8 (c.toNat : Int)] 5)).heap[w.heap.size]? = some (.cells #[.int .u8 (c.toNat : Int)] 5 (0, 0)) := alloc_blk _ _ _ rfl
  have hnews : ∀ j u, ([Value.int .u8 (c.toNat : Int)])[j]? = some u → (w.alloc (.cells #[.int .u8 (c.toNat : Int)] 5)).cell? ((⟨w.heap.size, 0, none⟩ : Addr).add j) = some u := by
    intro j u hu
    have hj : j = 0 := by have := (List.getElem?_eq_some_iff.1 hu).1; simp at this; exact this
    subst hj
    simp only [List.getElem?_cons_zero, Option.some.injEq] at hu
    subst hu
    exact cell_blk hblk 0
  obtain ⟨v', w', hrun, h1, h2, -, -⟩ := run_append_own_at (P := Tryd.prog) _ B 26 26 5 i0 _ 1 1 Tryd.underlying26 hi0 hz0 hz1 hz2 rfl (by decide) v l.length (bC l) h'.row ⟨w.heap.size, 0, none⟩ 1 1 [.int .u8 (c.toNat : Int)] (by simp) hnews (by intro u hu; simp at hu; subst hu; rfl) (by unfold maxLen; omega) (by omega) h'.le
  have hb := grown_below h2 (fun b e => (World.ownsRow.lt h'.row b e).1) h'.le
  refine ⟨v', w', hrun, h'.on hb ?_, (t.belowB h.le).trans hb, Nat.le_trans t.size h2.size, fun k hk hn => (h2.block k (Nat.lt_of_lt_of_le hk t.size) (fun e => hn e.symm)).trans (t.block k hk (fun x => x))⟩
  unfold BR
  rw [bC_app, List.length_append]
  exact h1
/-- A number appended. -/
theorem WS.int {w : World} {B : Nat} {v : Value} {l : Bs} (h : WS w B v l) (n : Int) (h0 : -9223372036854775808 ≤ n) (h1 : n ≤ 9223372036854775807) (hl : l.length ≤ 1000000) :
    Calls Tryd.prog 49 #[v, .int .i64 n, .int .i64 10] w fun e w' => ∃ v', e = .returned v' ∧ WS w' B v' (l ++ Lib.itoa n) ∧ Below B w w' := by
  refine (Tryd.strconv_AppendInt_10 B l.length n h0 h1 v (bC l) w h.row h.le (by omega) h.tab).mono ?_
  rintro e w' ⟨v', rfl, h2, h3, -⟩
  refine ⟨v', rfl, h.on h3 ?_, h3⟩
  unfold BR
  rw [bC_app, List.length_append]
  exact h2
def truB (q : Bool) : Bs := if q = true then [116, 114, 117, 101] else [102, 97, 108, 115, 101]
theorem WS.bool {w : World} {B : Nat} {v : Value} {l : Bs} (h : WS w B v l) (q : Bool) (hl : l.length + 5 ≤ 1000000) :
    Calls Tryd.prog 50 #[v, .bool q] w fun e w' => ∃ v', e = .returned v' ∧ WS w' B v' (l ++ truB q) ∧ Below B w w' := by
  have HI : Hid (Calls Tryd.prog 74 #[v, .bool q] w fun e w' => ∃ v', e = .returned v' ∧ WS w' B v' (l ++ truB q) ∧ Below B w w') := Lib.hid (by
    cases q
    · obtain ⟨v', w', h1, h2, h3, -⟩ := h.str [102, 97, 108, 115, 101] (by simpa using hl)
      have HA : Hid ((Builtin.append_ #[26, 9] 26 #[v, .string ⟨#[102, 97, 108, 115, 101]⟩]).run Tryd.prog w = .ok v' w') := Lib.hid h1
      have HE := Lib.hid (And.intro h2 h3)
      clear h h1 h2 h3
      go_enter Tryd.func74, Tryd.ntmps74
      go_wp2_with (at_builtin; refine Lib.wpList_append_run _ rfl _ _ _ _ rfl _ _ rfl rfl _ _ HA.out ?_)
      go_ret
      exact ⟨v', rfl, HE.out⟩
    · obtain ⟨v', w', h1, h2, h3, -⟩ := h.str [116, 114, 117, 101] (by simp at hl ⊢; omega)
      have HA : Hid ((Builtin.append_ #[26, 9] 26 #[v, .string ⟨#[116, 114, 117, 101]⟩]).run Tryd.prog w = .ok v' w') := Lib.hid h1
      have HE := Lib.hid (And.intro h2 h3)
      clear h h1 h2 h3
      go_enter Tryd.func74, Tryd.ntmps74
      go_wp2_with (at_builtin; refine Lib.wpList_append_run _ rfl _ _ _ _ rfl _ _ rfl rfl _ _ HA.out ?_)
      go_ret
      exact ⟨v', rfl, HE.out⟩)
  go_enter Tryd.func50, Tryd.ntmps50
  go_wp2_with fail
  refine HI.out.mono ?_
  rintro e w' ⟨v', rfl, hE⟩
  have HE := Lib.hid hE
  clear hE
  go_wp2
  go_ret
  exact ⟨v', rfl, HE.out⟩
end Go.Proofs.YtadpihipnffiaaaDoor
