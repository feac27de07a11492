/-
  What package printer writes, over lists: lines of tokens at levels, nodes, declarations. No program is named here.
-/
import Derived.Test.YtkmbobfjoaldgaaGreatDoorZa3
import Derived.Test.YtkmbobfjoaldgaaGreatDoorZa4
import Derived.Shelf.Strconv.Itoa3
import Derived.Test.YtkmbobfjoaldgaaGreatDoorProg
import Derived.Test.YtkmbobfjoaldgaaGreatDoorZa2
namespace Go.Proofs.YtkmbobfjoaldgaaGreatDoor
set_option maxRecDepth 100000

def Nd.a' : Nd → Nat | .mk _ a _ _ _ _ _ => a
def Nd.b' : Nd → Nat | .mk _ _ b _ _ _ _ => b
def Nd.nm' : Nd → Bs | .mk _ _ _ s _ _ _ => s
def Nd.ex' : Nd → Ex | .mk _ _ _ _ x _ _ => x
/-- A line of tokens at a level. -/
def indL (lv : Nat) : Bs := List.replicate (2 * lv) 32
def jnL : List Bs → Bs
  | [] => []
  | a :: r => a ++ r.flatMap (fun t => if t = [59] then t else 32 :: t)
def lnL (lv : Nat) (l : List Bs) : Bs := indL lv ++ jnL l ++ [10]
/-- The tokens that a node begins with. -/
def hdL (n : Nd) : List Bs := (nodeW.getD n.kd []) :: (
  if n.kd = 4 then [Lib.itoa n.a', Lib.itoa n.b']
  else if n.kd = 6 then [Lib.itoa n.a']
  else if n.kd = 7 then [prt n.ex']
  else if n.kd = 8 then [n.nm', [58, 61], prt n.ex']
  else if n.kd = 9 ∨ n.kd = 10 ∨ n.kd = 12 then [n.nm']
  else [])
/-- A node's Kids from place i on, each written by f. -/
def kdL (f : Nat → Nd → Bs) (pick : Bool) (lv : Nat) (ws : List Ex) : Nat → List Nd → Bs
  | _, [] => []
  | i, k :: r => (match pick, ws[i]? with
      | true, some x => lnL lv [prt x, [58]] ++ f (lv + 1) k
      | _, _ => f lv k) ++ kdL f pick lv ws (i + 1) r
/-- A node less than D deep. -/
def ndL : Nat → Nat → Nd → Bs
  | 0, _, _ => []
  | D + 1, lv, n =>
    if mostL n.kd = 0 then lnL lv (hdL n ++ [[59]])
    else if mostL n.kd = 1 then lnL lv (hdL n) ++ kdL (ndL D) (n.kd == 11) (lv + 1) n.ws 0 n.ks
    else lnL lv (hdL n ++ [[123]]) ++ kdL (ndL D) (n.kd == 11) (lv + 1) n.ws 0 n.ks ++ lnL lv [[125]]
def kyL (k : Ky) : Bs := lnL 0 [keyB, ownW.getD (if k.sh = true then 1 else 0) [], k.nm, kindW.getD k.kd [], [59]]
def trL (t : Tr) : Bs := lnL 0 [treeB, t.nm, [123]] ++ ndL 41 1 t.root ++ lnL 0 [[125]]
def cnL (lv : Nat) (w : Bs) (c : Cn) : Bs := lnL lv [w, c.nm, opW.getD c.op [], Lib.itoa c.n, [59]]
def mkL (m : Mk) : Bs := lnL 2 [makeB, m.nm, if m.add = true then (if m.n < 0 then [45] else [43]) else [61], Lib.itoa (if m.add = true ∧ m.n < 0 then -m.n else m.n), [59]]
def acL (a : Ac) : Bs := lnL 1 [actB, a.nm, [99, 111, 115, 116], Lib.itoa a.cost, [123]] ++ a.need.flatMap (cnL 2 needB) ++ a.make.flatMap mkL ++ lnL 1 [[125]]
def vaL (v : Va) : Bs := lnL 1 [varB, v.nm, Lib.itoa v.lo, Lib.itoa v.hi, [59]]
def dmL (d : Dm) : Bs := lnL 0 [domB, d.nm, [123]] ++ d.vars.flatMap vaL ++ d.acts.flatMap acL ++ d.goal.flatMap (cnL 1 goalB) ++ lnL 0 [[125]]
def pgL (p : Pg) : Bs := p.keys.flatMap kyL ++ p.trees.flatMap trL ++ p.doms.flatMap dmL
end Go.Proofs.YtkmbobfjoaldgaaGreatDoor

/-
  A writer of text (package printer's: a strings.Builder at the head of a block of its own type) in memory; what the Builder's methods do to it. Conditions: those that each theorem names.
-/
namespace Go.Proofs.YtkmbobfjoaldgaaGreatDoor
open Go.ChangeShapes Go.WideShapes Go.ChangeAt Go.RowKit
set_option maxRecDepth 100000
set_option maxHeartbeats 4000000

/-- What a write leaves as it was: all below B, and all blocks but the writer's own that are no rows of bytes. -/
structure Wr (B b : Nat) (w w' : World) : Prop where
  below : Below B w w'
  oth : ∀ k cs T fz, w.heap[k]? = some (.cells cs T fz) → T ≠ 5 → k ≠ b → w'.heap[k]? = some (.cells cs T fz)
theorem Wr.refl (B b : Nat) (w : World) : Wr B b w w := ⟨Below.refl B w, fun _ _ _ _ h _ _ => h⟩
theorem Wr.trans {B b : Nat} {w w1 w2 : World} (h : Wr B b w w1) (k : Wr B b w1 w2) : Wr B b w w2 :=
  ⟨h.below.trans k.below, fun i cs T fz hi hT hb => k.oth i cs T fz (h.oth i cs T fz hi hT hb) hT hb⟩
theorem Wr.touch {B b : Nat} {w w' : World} (hB : B ≤ w.heap.size) (t : Touch NoB w w') : Wr B b w w' :=
  ⟨t.belowB hB, fun k _ _ _ hk _ _ => (t.block k (blk_lt hk) (fun x => x)).trans hk⟩
/-- The writer in block b: what it has written. -/
structure WB (w : World) (B b : Nat) (l : Bs) : Prop where
  le : B ≤ b
  blk : ∃ p v, w.heap[b]? = some (.cells #[p, v] 88 (0, 0)) ∧ (p = .pointer none ∨ p = .pointer (some ⟨b, 0, none⟩)) ∧ BR w B v l
/-- .. and it has been used. -/
def WU (w : World) (B b : Nat) (l : Bs) (v : Value) : Prop := B ≤ b ∧ w.heap[b]? = some (.cells #[.pointer (some ⟨b, 0, none⟩), v] 88 (0, 0)) ∧ BR w B v l
theorem WU.wb {w : World} {B b : Nat} {l : Bs} {v : Value} (h : WU w B b l v) : WB w B b l := ⟨h.1, _, _, h.2.1, .inr rfl, h.2.2⟩
theorem WB.lt {w : World} {B b : Nat} {l : Bs} (h : WB w B b l) : b < w.heap.size := by
  obtain ⟨p, v, hb, -, -⟩ := h.blk
  exact blk_lt hb
theorem WB.leB {w : World} {B b : Nat} {l : Bs} (h : WB w B b l) : B ≤ w.heap.size := Nat.le_of_lt (Nat.lt_of_le_of_lt h.le h.lt)
/-- A row of bytes stays, where only another block is stored to. -/
theorem BR.set {w : World} {B b : Nat} {v x : Value} {l : Bs} {cs : Array Value} {T : TypeId} {fz : Nat × Nat} (hb : w.heap[b]? = some (.cells cs T fz)) (hT : 5 ≠ T) (h : BR w B v l) (i : Nat) : BR (w.setCell ⟨b, i, none⟩ x) B v l :=
  World.ownsRow.kept (row := some b) h ⟨rfl, rfl, rfl, by simp [World.setCell], fun k _ hk => Below.heap_setCell _ _ _ _ (fun e => hk (by simp [e]))⟩ (Or.inr (row_ne h hb hT))
theorem Wr.set {w : World} {B b : Nat} {l : Bs} (h : WB w B b l) (i : Nat) (x : Value) : Wr B b w (w.setCell ⟨b, i, none⟩ x) :=
  ⟨(Below.refl B w).setCell (p := ⟨b, i, none⟩) h.le x, fun k _ _ _ hk _ hb => (Below.heap_setCell w ⟨b, i, none⟩ x k (fun e => hb e)).trans hk⟩
theorem lies_writer : liesAt Tryz.prog Tryz.prog.depth 88 (2 / Tryz.prog.cellsOf 88) 0 86 1 = true := by kernel_rfl
theorem info_builder : ∃ j, Tryz.prog.info? 86 = some j ∧ j.size = 2 := by
  have h : (Tryz.prog.info? 86).map (·.size) = some 2 := by kernel_rfl
  obtain ⟨j, h1, h2⟩ := Option.map_eq_some_iff.1 h
  exact ⟨j, h1, h2⟩
/-- The Builder's check: from then on it holds its own address. -/
theorem chk_used {w : World} {b : Nat} (h0 : w.cell? ⟨b, 0, none⟩ = some (.pointer (some ⟨b, 0, none⟩))) :
    Calls Tryz.prog 123 #[.pointer (some ⟨b, 0, none⟩)] w fun e w' => e = .returned (.tuple #[]) ∧ w' = w := by
  obtain ⟨j, hj, -⟩ := info_builder
  go_enter Tryz.func123, Tryz.ntmps123
  go_wp2
  rw [Lib.run_neq_ptr_same w _ Tryz.underlying84 hj]
  go_wp2
  go_end0
  exact ⟨rfl, rfl⟩
theorem chk_fresh {w : World} {b : Nat} (h0 : w.cell? ⟨b, 0, none⟩ = some (.pointer none)) (hsh : w.shape? b = some (88, 2)) (hfz : w.frozen? ⟨b, 0, none⟩ = false) :
    Calls Tryz.prog 123 #[.pointer (some ⟨b, 0, none⟩)] w fun e w' => e = .returned (.tuple #[]) ∧ w' = w.setCell ⟨b, 0, none⟩ (.pointer (some ⟨b, 0, none⟩)) := by
  obtain ⟨j, hj, hjs⟩ := info_builder
  go_enter Tryz.func123, Tryz.ntmps123
  go_wp2
  rw [Lib.run_to_unsafe w ⟨b, 0, none⟩ Tryz.underlying84 Tryz.underlying168 hj (by rw [hjs]; decide) hsh (Nat.zero_lt_succ 1)]
  simp only [Result.andThen]
  rw [Oper.upon_value]
  go_wp2
  rw [run_callFunc_extern Tryz.func134 (by kernel_rfl) (by kernel_rfl) (by kernel_rfl) (e := Extern.AbiNoEscape.same) (by kernel_rfl)]
  rw [Lib.run_noEscape]
  simp only [Result.andThen]
  rw [Oper.upon_value]
  go_wp2
  rw [Lib.run_from_unsafe w ⟨b, 0, none⟩ Tryz.underlying168 Tryz.underlying84 hj hsh lies_writer]
  simp only [Result.andThen]
  rw [Oper.upon_value]
  go_wp2
  go_end0
  exact ⟨rfl, rfl⟩
theorem chk_any {w : World} {B b : Nat} {l : Bs} (h : WB w B b l) :
    Calls Tryz.prog 123 #[.pointer (some ⟨b, 0, none⟩)] w fun e w' => e = .returned (.tuple #[]) ∧ (∃ v, WU w' B b l v) ∧ Wr B b w w' := by
  obtain ⟨p, v, hb, hp, hr⟩ := h.blk
  have c0 : w.cell? ⟨b, 0, none⟩ = some p := by simp [World.cell?, hb]
  rcases hp with rfl | rfl
  · refine (chk_fresh c0 (by simp [World.shape?, hb]) (by simp [World.frozen?, hb])).mono ?_
    rintro e w' ⟨rfl, rfl⟩
    exact ⟨rfl, ⟨v, h.le, by simp [World.setCell, Array.getElem?_modify, hb], hr.set hb (by decide) 0⟩, Wr.set h 0 _⟩
  · refine (chk_used c0).mono ?_
    rintro e w' ⟨rfl, rfl⟩
    exact ⟨rfl, ⟨v, h.le, hb, hr⟩, Wr.refl B b _⟩
/-- A new row laid into the writer. -/
theorem WU.put {w w1 : World} {B b : Nat} {l l' : Bs} {v v' : Value} (h : WU w B b l v) (hr : BR w1 B v' l') (hg : w.grownBy w1 v.ownBlock) :
    WU (w1.setCell ⟨b, 1, none⟩ v') B b l' v' ∧ Wr B b w (w1.setCell ⟨b, 1, none⟩ v') := by
  obtain ⟨hB, hb, hv⟩ := h
  have hlt := blk_lt hb
  have hb1 : w1.heap[b]? = some (.cells #[.pointer (some ⟨b, 0, none⟩), v] 88 (0, 0)) := (hg.block b hlt (fun e => row_ne hv hb (by decide) e.symm)).trans hb
  have hbw : Below B w w1 := grown_below hg (fun b e => (World.ownsRow.lt hv b e).1) (by omega)
  refine ⟨⟨hB, by simp [World.setCell, Array.getElem?_modify, hb1], hr.set hb1 (by decide) 1⟩, hbw.trans ((Below.refl B w1).setCell (p := ⟨b, 1, none⟩) hB v'), fun k cs T fz hk hT hkb => ?_⟩
  exact (Below.heap_setCell w1 ⟨b, 1, none⟩ v' k (fun e => hkb e)).trans ((hg.block k (blk_lt hk) (fun e => row_ne hv hk hT.symm e.symm)).trans hk)
end Go.Proofs.YtkmbobfjoaldgaaGreatDoor

/-
  What the Builder's WriteString and WriteByte do to a writer of text. Conditions: those that each theorem names.
-/
namespace Go.Proofs.YtkmbobfjoaldgaaGreatDoor
open Go.ChangeShapes Go.WideShapes Go.ChangeAt Go.RowKit
set_option maxRecDepth 100000
set_option maxHeartbeats 4000000

theorem BR.slice {w : World} {B : Nat} {v : Value} {l : Bs} (h : BR w B v l) : ∃ a n c, v = .slice a n c := by
  rcases h.2 with ⟨hv, _⟩ | ⟨g, cap, cur, hv, _⟩
  · exact ⟨_, _, _, hv⟩
  · exact ⟨_, _, _, hv⟩
/-- A string written. -/
theorem wstr_any {w : World} {B b : Nat} {l : Bs} (h : WB w B b l) (s : Bs) (hl : l.length + s.length ≤ 1000000) :
    Calls Tryz.prog 99 #[.pointer (some ⟨b, 0, none⟩), .string (bs s)] w fun e w' => e = .returned (.tuple #[.int .i64 (s.length : Int), .nilIface]) ∧ WB w' B b (l ++ s) ∧ Wr B b w w' := by
  have HC := Lib.hid (chk_any h)
  clear h
  go_enter Tryz.func99, Tryz.ntmps99
  go_wp2_with (go_at_call 123; refine HC.out.mono ?_)
  rintro e w1 ⟨rfl, ⟨v, h1⟩, hk1⟩
  have hbk := h1.2.1
  have hBw : B ≤ w1.heap.size := h1.wb.leB
  obtain ⟨v', w2, hr2, hs2, hg2⟩ := app_str (s := s) hBw hl h1.2.2
  obtain ⟨hput, hwr⟩ := h1.put hs2 hg2
  have HR := Lib.hid (And.intro hput.wb (hk1.trans hwr))
  have HA : Hid ((Builtin.append_ #[33, 9] 33 #[v, .string (bs s)]).run Tryz.prog w1 = .ok v' w2) := Lib.hid hr2
  have c1 : w1.cell? ⟨b, 1, none⟩ = some v := by rw [Lib.cell_of_heap hbk]; rfl
  have hb2 : w2.heap[b]? = some (.cells #[.pointer (some ⟨b, 0, none⟩), v] 88 (0, 0)) := (hg2.block b (blk_lt hbk) (fun e => row_ne h1.2.2 hbk (by decide) e.symm)).trans hbk
  have d1 : w2.cell? ⟨b, 1, none⟩ = some v := by rw [Lib.cell_of_heap hb2]; rfl
  have f1 : w2.frozen? ⟨b, 1, none⟩ = false := Lib.frozen_of_heap hb2 1
  obtain ⟨ao, n', cap, rfl⟩ := hs2.slice
  clear h1 hbk hb2 hr2 hs2 hg2 hput hwr hk1 HC hBw
  go_wp2_with (at_builtin; refine Lib.wpList_append_run _ rfl _ _ _ _ rfl _ _ rfl rfl _ _ HA.out ?_)
  go_ret2
  refine ⟨?_, HR.out⟩
  simp [bs_size]
/-- A byte written. -/
theorem wbyte_any {w : World} {B b : Nat} {l : Bs} (h : WB w B b l) (c : UInt8) (hl : l.length + 1 ≤ 1000000) :
    Calls Tryz.prog 100 #[.pointer (some ⟨b, 0, none⟩), .int .u8 (c.toNat : Int)] w fun e w' => e = .returned .nilIface ∧ WB w' B b (l ++ [c]) ∧ Wr B b w w' := by
  have HC := Lib.hid (chk_any h)
  clear h
  go_enter Tryz.func100, Tryz.ntmps100
  go_wp2_with (go_at_call 123; refine HC.out.mono ?_)
  rintro e w1 ⟨rfl, ⟨v, h1⟩, hk1⟩
  have hbk := h1.2.1
  have hBw : B ≤ w1.heap.size := h1.wb.leB
  obtain ⟨W, hW⟩ : ∃ W, w1.alloc (.cells #[.int .u8 (c.toNat : Int)] 5) = W := ⟨_, rfl⟩
  have t : Touch NoB w1 W := by rw [← hW]; exact (Touch.refl _ _).alloc _
  have hbkW : W.heap[b]? = some (.cells #[.pointer (some ⟨b, 0, none⟩), v] 88 (0, 0)) := (t.block b (blk_lt hbk) (fun x => x)).trans hbk
  have h1W : WU W B b l v := ⟨h1.1, hbkW, row_touch h1.2.2 t (fun _ _ x => x)⟩
  obtain ⟨i0, hi0, hz0, hz1, hz2⟩ := info_u8'
  have hblk : W.heap[w1.heap.size]? = some (.cells #[.int .u8 (c.toNat : Int)] 5 (0, 0)) := by rw [← hW]; exact alloc_blk _ _ _ rfl
  have hnews : ∀ j u, ([Value.int .u8 (c.toNat : Int)])[j]? = some u → W.cell? ((⟨w1.heap.size, 0, none⟩ : Addr).add j) = some u := by
    intro j u hu
    have hj : j = 0 := by have := (List.getElem?_eq_some_iff.1 hu).1; simp at this; exact this
    subst hj
    simp only [List.getElem?_cons_zero, Option.some.injEq] at hu
    subst hu
    exact cell_blk hblk 0
  obtain ⟨v', w2, hr2, hs2', hg2, -, -⟩ := run_append_own_at (P := Tryz.prog) W B 33 33 5 i0 _ 1 1 Tryz.underlying33 hi0 hz0 hz1 hz2 rfl (by decide) v l.length (bC l) h1W.2.2 ⟨w1.heap.size, 0, none⟩ 1 1 [.int .u8 (c.toNat : Int)] (by simp) hnews (by intro u hu; simp at hu; subst hu; rfl) (by unfold maxLen; omega) (by omega) h1W.wb.leB
  have hs2 : BR w2 B v' (l ++ [c]) := by
    unfold BR
    rw [bC_app, List.length_append]
    exact hs2'
  obtain ⟨hput, hwr⟩ := h1W.put hs2 hg2
  have HR := Lib.hid (And.intro hput.wb ((hk1.trans (Wr.touch (b := b) hBw t)).trans hwr))
  have HA : Hid ((Builtin.append_ #[33, 33] 33 #[v, .slice (some ⟨w1.heap.size, 0, none⟩) 1 1]).run Tryz.prog W = .ok v' w2) := Lib.hid hr2
  have c1 : w1.cell? ⟨b, 1, none⟩ = some v := by rw [Lib.cell_of_heap hbk]; rfl
  have hb2 : w2.heap[b]? = some (.cells #[.pointer (some ⟨b, 0, none⟩), v] 88 (0, 0)) := (hg2.block b (blk_lt hbkW) (fun e => row_ne h1W.2.2 hbkW (by decide) e.symm)).trans hbkW
  have d1 : w2.cell? ⟨b, 1, none⟩ = some v := by rw [Lib.cell_of_heap hb2]; rfl
  have f1 : w2.frozen? ⟨b, 1, none⟩ = false := Lib.frozen_of_heap hb2 1
  obtain ⟨ao, n', cap, rfl⟩ := hs2.slice
  subst hW
  clear h1 h1W hbk hbkW hb2 hr2 hs2 hs2' hg2 hput hwr hk1 HC hBw hnews hblk t
  go_wp2_with (at_builtin; refine Lib.wpList_append_run _ rfl _ _ _ _ rfl _ _ rfl rfl _ _ HA.out ?_)
  go_ret
  exact ⟨rfl, HR.out⟩
end Go.Proofs.YtkmbobfjoaldgaaGreatDoor

/-
  A line of tokens written by a writer of text. Conditions: those that each theorem names.
-/
namespace Go.Proofs.YtkmbobfjoaldgaaGreatDoor
open Go.ChangeShapes Go.WideShapes Go.ChangeAt Go.RowKit
set_option maxRecDepth 100000
set_option maxHeartbeats 4000000

/-- A line's tokens, one more. -/
def tkL (i : Nat) (t : Bs) : Bs := if i = 0 then t else if t = [59] then t else 32 :: t
theorem jnL_snoc (l : List Bs) (t : Bs) : jnL (l ++ [t]) = jnL l ++ tkL l.length t := by
  cases l with
  | nil => simp [jnL, tkL]
  | cons a r => simp [jnL, tkL, List.flatMap_append]
theorem jnL_take {ws : List Bs} {i : Nat} {t : Bs} (h : ws[i]? = some t) : jnL (ws.take (i + 1)) = jnL (ws.take i) ++ tkL i t := by
  have hi := (List.getElem?_eq_some_iff.1 h).1
  rw [List.take_add_one, h, Option.toList_some, jnL_snoc, List.length_take, Nat.min_eq_left (Nat.le_of_lt hi)]
theorem jnL_le (ws : List Bs) (i : Nat) : (jnL (ws.take i)).length ≤ (jnL ws).length := by
  cases ws with
  | nil => simp
  | cons a r =>
    cases i with
    | zero => simp [jnL]
    | succ i =>
      simp only [List.take_succ_cons, jnL, List.length_append]
      have : ∀ (r : List Bs) (i : Nat), ((r.take i).flatMap (fun t => if t = [59] then t else 32 :: t)).length ≤ (r.flatMap (fun t => if t = [59] then t else 32 :: t)).length := by
        intro r
        induction r with
        | nil => intro i; simp
        | cons b r ih =>
          intro i
          cases i with
          | zero => simp
          | succ i => simp only [List.take_succ_cons, List.flatMap_cons, List.length_append]; have := ih i; omega
      have := this r i
      omega
theorem indL_len (n : Nat) : (indL n).length = 2 * n := by simp [indL]
theorem indL_succ (n : Nat) : indL (n + 1) = indL n ++ [32, 32] := by
  unfold indL
  rw [show 2 * (n + 1) = 2 * n + 2 by omega, ← List.replicate_append_replicate]
  rfl
/-- Words at the head of a block of strings. -/
structure TkA (w : World) (t : Nat) (ws : List Bs) : Prop where
  blk : ∃ (cs : Array Value) (fz : Nat × Nat), w.heap[t]? = some (.cells cs 9 fz) ∧ ∀ (i : Nat) (s : Bs), ws[i]? = some s → cs[i]? = some (Value.string (bs s))
theorem TkA.go {w w' : World} {B b t : Nat} {ws : List Bs} (h : TkA w t ws) (k : Wr B b w w') (hne : t ≠ b) : TkA w' t ws := by
  obtain ⟨cs, fz, h1, h2⟩ := h.blk
  exact ⟨cs, fz, k.oth t cs _ fz h1 (by decide) hne, h2⟩
theorem TkA.lt {w : World} {t : Nat} {ws : List Bs} (h : TkA w t ws) : t < w.heap.size := by
  obtain ⟨cs, fz, h1, -⟩ := h.blk
  exact blk_lt h1
theorem TkA.cell {w : World} {t i : Nat} {ws : List Bs} {s : Bs} (h : TkA w t ws) (hi : ws[i]? = some s) : w.cell? ⟨t, i, none⟩ = some (.string (bs s)) := by
  obtain ⟨cs, fz, h1, h2⟩ := h.blk
  rw [Lib.cell_of_heap h1]
  exact h2 i s hi
def InRel (w0 : World) (B b : Nat) (l : Bs) (m : Nat) (v : Value) (wr : World) : Prop := ∃ i : Nat, i ≤ m ∧ v = .int .i64 i ∧ WB wr B b (l ++ indL i) ∧ Wr B b w0 wr
def TkRel (w0 : World) (B b : Nat) (l : Bs) (ws : List Bs) (v : Value) (wr : World) : Prop := ∃ i : Nat, i ≤ ws.length ∧ v = .int .i64 i ∧ WB wr B b (l ++ jnL (ws.take i)) ∧ Wr B b w0 wr
theorem line_any {w : World} {B b : Nat} {l : Bs} (h : WB w B b l) (lv : Nat) {t n c : Nat} {ws : List Bs} (hn : ws.length = n) (ht : TkA w t ws) (hne : t ≠ b) (hl : l.length + (lnL lv ws).length ≤ 900000) (hm : n ≤ 1000000) :
    Calls Tryz.prog 60 #[.pointer (some ⟨b, 0, none⟩), .int .i64 (lv : Int), .slice (some ⟨t, 0, none⟩) n c] w fun e w' => e = .returned (.tuple #[]) ∧ WB w' B b (l ++ lnL lv ws) ∧ Wr B b w w' := by
  have hlen : l.length + 2 * lv + (jnL ws).length + 1 ≤ 900000 := by
    unfold lnL at hl
    simp only [List.length_append, indL_len, List.length_cons, List.length_nil] at hl
    omega
  have HX := Lib.hid (And.intro h (And.intro ht (And.intro hn hlen)))
  have hlv : lv ≤ 1000000 := by omega
  clear h ht hl hlen
  go_enter Tryz.func60, Tryz.ntmps60
  go_wp2
  go_loopw [9] (fun v9 wr => InRel w B b l lv v9 wr) (fun v9 _ => lv - (intOf v9).toNat)
  case atStart => exact ⟨0, Nat.zero_le _, rfl, by simpa [indL] using HX.out.1, Wr.refl _ _ _⟩
  case round =>
    obtain ⟨i, hi, rfl, hw, hk⟩ := hrel
    by_cases hlt : i < lv
    · have HC := Lib.hid (wstr_any hw [32, 32] (by have := HX.out.2.2.2; simp only [List.length_append, indL_len, List.length_cons, List.length_nil]; omega))
      have hb := hw.lt
      have HK := Lib.hid hk
      clear hw hk
      go_wp2_with (go_at_call 99; refine HC.out.mono ?_)
      rintro r w2 ⟨rfl, hw2, hk2⟩
      have HE := Lib.hid (And.intro hw2 (HK.out.trans hk2))
      clear hw2 hk2
      go_wp2
      go_roundw
      case rel => exact ⟨i + 1, by omega, by go_num, by rw [indL_succ, ← List.append_assoc]; exact HE.out.1, HE.out.2⟩
      case measure => simp [intOf]; omega
    · obtain rfl : i = lv := by omega
      have HE := Lib.hid (And.intro hw hk)
      have hb := hw.lt
      clear hw hk
      go_wp2
      go_loopw [18] (fun v18 wr => TkRel w B b (l ++ indL i) ws v18 wr) (fun v18 _ => n - (intOf v18).toNat)
      case atStart => exact ⟨0, Nat.zero_le _, rfl, by simpa [jnL] using HE.out.1, HE.out.2⟩
      case round =>
        obtain ⟨j, hj, rfl, hw, hk⟩ := hrel
        rw [HX.out.2.2.1] at hj
        have hb := hw.lt
        by_cases hlt : j < n
        · obtain ⟨s, hs⟩ : ∃ s, ws[j]? = some s := ⟨ws[j]'(by rw [HX.out.2.2.1]; exact hlt), List.getElem?_eq_getElem _⟩
          have hjs := jnL_take hs
          have hle := jnL_le ws (j + 1)
          have hcell : wr.cell? ⟨t, j, none⟩ = some (.string (bs s)) := (HX.out.2.1.go hk hne).cell hs
          have htl := (HX.out.2.1.go hk hne).lt
          rw [hjs, List.length_append] at hle
          have HK := Lib.hid hk
          have HJ := Lib.hid (And.intro hjs hle)
          have hlx := HX.out.2.2.2
          by_cases hj0 : j = 0
          · subst hj0
            have HC := Lib.hid (wstr_any hw s (by simp only [List.length_append, indL_len] at hle ⊢; simp [tkL] at hle; simp [jnL]; omega))
            clear hw hk hjs hle
            go_wp2_with (go_at_call 99; refine HC.out.mono ?_)
            rintro r w2 ⟨rfl, hw2, hk2⟩
            have HE := Lib.hid (And.intro hw2 (HK.out.trans hk2))
            clear hw2 hk2
            go_wp2
            go_roundw
            case rel => exact ⟨1, by omega, by go_num, by rw [HJ.out.1, ← List.append_assoc]; simpa [tkL] using HE.out.1, HE.out.2⟩
            case measure => simp [intOf]; omega
          · have hgt : decide ((j : Int) > 0) = true := by simp; omega
            have hxx : ((bs s).toList == [59]) = (s == [59]) := by rw [bs_toList]
            by_cases hs59 : s = [59]
            · have hx : ((bs s).toList == [59]) = true := by rw [hxx, hs59]; rfl
              have hts : tkL j s = s := by unfold tkL; rw [if_neg hj0, if_pos hs59]
              rw [hts] at HJ
              have HC := Lib.hid (wstr_any hw s (by rw [hts] at hle; simp only [List.length_append, indL_len] at hle ⊢; omega))
              clear hw hk hjs hle hxx hs59 hts
              go_wp2_with (go_at_call 99; refine HC.out.mono ?_)
              rintro r w2 ⟨rfl, hw2, hk2⟩
              have HE := Lib.hid (And.intro hw2 (HK.out.trans hk2))
              clear hw2 hk2
              go_wp2
              go_roundw
              case rel => exact ⟨j + 1, by omega, by go_num, by rw [HJ.out.1, ← List.append_assoc]; exact HE.out.1, HE.out.2⟩
              case measure => simp [intOf]; omega
            · have hx : ((bs s).toList == [59]) = false := by rw [hxx]; simpa using hs59
              have hts : tkL j s = [32] ++ s := by unfold tkL; rw [if_neg hj0, if_neg hs59]; rfl
              rw [hts] at HJ hle
              have HC := Lib.hid (wbyte_any hw 32 (by simp only [List.length_append, indL_len, List.length_cons, List.length_nil] at hle ⊢; omega))
              have HL := Lib.hid hle
              clear hw hk hjs hle hxx hs59 hts
              go_wp2_with (go_at_call 100; refine HC.out.mono ?_)
              rintro r w2 ⟨rfl, hw2, hk2⟩
              have hb2 := hw2.lt
              have HE := Lib.hid (And.intro hw2 (HK.out.trans hk2))
              have HC2 := Lib.hid (wstr_any hw2 s (by have hle := HL.out; simp only [List.length_append, indL_len, List.length_cons, List.length_nil] at hle ⊢; omega))
              clear hw2 hk2
              go_wp2_with (go_at_call 99; refine HC2.out.mono ?_)
              rintro r w3 ⟨rfl, hw3, hk3⟩
              have HE3 := Lib.hid (And.intro hw3 (HE.out.2.trans hk3))
              clear hw3 hk3
              go_wp2
              go_roundw
              case rel => exact ⟨j + 1, by omega, by go_num, by rw [HJ.out.1]; simpa only [List.append_assoc] using HE3.out.1, HE3.out.2⟩
              case measure => simp [intOf]; omega
        · obtain rfl : j = n := by omega
          rw [List.take_of_length_le (by rw [HX.out.2.2.1]; exact Nat.le_refl _)] at hw
          have HC := Lib.hid (wbyte_any hw 10 (by have := HX.out.2.2.2; simp only [List.length_append, indL_len]; omega))
          have HK := Lib.hid hk
          clear hw hk
          go_wp2_with (go_at_call 100; refine HC.out.mono ?_)
          rintro r w2 ⟨rfl, hw2, hk2⟩
          have HE2 := Lib.hid (And.intro hw2 (HK.out.trans hk2))
          clear hw2 hk2
          go_wp2
          go_end0
          exact ⟨rfl, by have := HE2.out.1; unfold lnL; simpa only [List.append_assoc] using this, HE2.out.2⟩
end Go.Proofs.YtkmbobfjoaldgaaGreatDoor

/-
  The library functions that the program calls, at its own numbers: each an application of a law of the library; no condition beyond those that each names.
-/
namespace Go.Proofs
open Go.Shelf
def Tryz.laysM171_ren : Go.Shelf.Ren := ⟨fun | 171 => 64 | 243 => 101 | 246 => 124 | 283 => 135 | 284 => 136 | 285 => 137 | 286 => 138 | 129 => 152 | 317 => 151 | 318 => 153 | 319 => 154 | 320 => 155 | 337 => 167 | 338 => 168 | n => n, fun | 3 => 3 | 9 => 9 | 2 => 2 | 4 => 4 | 171 => 170 | 0 => 0 | 53 => 171 | 37 => 33 | 5 => 5 | 173 => 174 | 212 => 187 | 51 => 188 | 20 => 20 | 213 => 189 | 46 => 190 | 232 => 211 | 233 => 212 | n => n, fun | 17 => 0 | 18 => 4 | 19 => 5 | n => n⟩
theorem Tryz.laysM171 : Go.Proofs.LaysM.n171 Tryz.prog Tryz.laysM171_ren := {
  mixed := by kernel_rfl
  f129 := Tryz.func152.trans (congrArg some (by kernel_rfl))
  f171 := Tryz.func64.trans (congrArg some (by kernel_rfl))
  f243 := Tryz.func101.trans (congrArg some (by kernel_rfl))
  f246 := Tryz.func124.trans (congrArg some (by kernel_rfl))
  f283 := Tryz.func135.trans (congrArg some (by kernel_rfl))
  f284 := Tryz.func136.trans (congrArg some (by kernel_rfl))
  f285 := Tryz.func137.trans (congrArg some (by kernel_rfl))
  f286 := Tryz.func138.trans (congrArg some (by kernel_rfl))
  f317 := Tryz.func151.trans (congrArg some (by kernel_rfl))
  f318 := Tryz.func153.trans (congrArg some (by kernel_rfl))
  f319 := Tryz.func154.trans (congrArg some (by kernel_rfl))
  f320 := Tryz.func155.trans (congrArg some (by kernel_rfl))
  f337 := Tryz.func167.trans (congrArg some (by kernel_rfl))
  f338 := Tryz.func168.trans (congrArg some (by kernel_rfl))
  t0 := Tryz.underlying0
  a0 := Tryz.isAgg0
  z0 := Tryz.sizeOf0
  v0 := Tryz.zeroValue0
  t2 := Tryz.underlying2
  a2 := Tryz.isAgg2
  z2 := Tryz.sizeOf2
  v2 := Tryz.zeroValue2
  t3 := Tryz.underlying3
  a3 := Tryz.isAgg3
  z3 := Tryz.sizeOf3
  v3 := Tryz.zeroValue3
  t4 := Tryz.underlying4
  a4 := Tryz.isAgg4
  z4 := Tryz.sizeOf4
  v4 := Tryz.zeroValue4
  t5 := Tryz.underlying5
  a5 := Tryz.isAgg5
  z5 := Tryz.sizeOf5
  v5 := Tryz.zeroValue5
  t9 := Tryz.underlying9
  a9 := Tryz.isAgg9
  z9 := Tryz.sizeOf9
  v9 := Tryz.zeroValue9
  t20 := Tryz.underlying20
  a20 := Tryz.isAgg20
  z20 := Tryz.sizeOf20
  v20 := Tryz.zeroValue20
  t37 := Tryz.underlying33
  a37 := Tryz.isAgg33
  z37 := Tryz.sizeOf33
  v37 := Tryz.zeroValue33
  t46 := Tryz.underlying190
  a46 := Tryz.isAgg190
  z46 := Tryz.sizeOf190
  v46 := Tryz.zeroValue190
  t51 := Tryz.underlying188
  a51 := Tryz.isAgg188
  z51 := Tryz.sizeOf188
  v51 := Tryz.zeroValue188
  t53 := Tryz.underlying171
  a53 := Tryz.isAgg171
  z53 := Tryz.sizeOf171
  v53 := Tryz.zeroValue171
  t171 := Tryz.underlying170
  a171 := Tryz.isAgg170
  z171 := Tryz.sizeOf170
  v171 := Tryz.zeroValue170
  t173 := Tryz.underlying174
  a173 := Tryz.isAgg174
  z173 := Tryz.sizeOf174
  v173 := Tryz.zeroValue174
  t212 := Tryz.underlying187
  a212 := Tryz.isAgg187
  z212 := Tryz.sizeOf187
  v212 := Tryz.zeroValue187
  t213 := Tryz.underlying189
  a213 := Tryz.isAgg189
  z213 := Tryz.sizeOf189
  t232 := Tryz.underlying211
  a232 := Tryz.isAgg211
  z232 := Tryz.sizeOf211
  v232 := Tryz.zeroValue211
  t233 := Tryz.underlying212
  a233 := Tryz.isAgg212
  z233 := Tryz.sizeOf212
  v233 := Tryz.zeroValue212
  g17 := by kernel_rfl
  g18 := by kernel_rfl
  g19 := by kernel_rfl
  i0 := by kernel_rfl
  i2 := by kernel_rfl
  i3 := by kernel_rfl
  i4 := by kernel_rfl
  i5 := by kernel_rfl
  i9 := by kernel_rfl
  i20 := by kernel_rfl
  i37 := by kernel_rfl
  i46 := by kernel_rfl
  i51 := by kernel_rfl
  i53 := by kernel_rfl
  i171 := by kernel_rfl
  i173 := by kernel_rfl
  i212 := by kernel_rfl
  i232 := by kernel_rfl
  i233 := by kernel_rfl
  m17 := by kernel_rfl
  m18 := by kernel_rfl
  m19 := by kernel_rfl }
open Go.RowKit Go.Sort Go.Lib in
theorem Tryz.strconv_Itoa (n : Int) (h0 : -9223372036854775808 ≤ n) (h1 : n ≤ 9223372036854775807) (w : World) (htab : Lib.TabIs Tryz.prog w "internal/strconv.uint64pow10" .u64 Lib.pow10Tab) :
    Calls Tryz.prog 64 #[.int .i64 n] w fun e w' => e = .returned (.string ⟨(Lib.itoa n).toArray⟩) ∧ ∃ k os, w' = grow (w.drewN k) os := Any.strconv_Itoa Tryz.laysM171 n h0 h1 w htab
end Go.Proofs

/-
  A number's text; a word at an index; what package expr prints, beside a writer of text. Conditions: the library's table can be read; those that each theorem names.
-/
namespace Go.Proofs.YtkmbobfjoaldgaaGreatDoor
open Go.ChangeShapes Go.WideShapes Go.ChangeAt Go.RowKit Go.Sort
set_option maxRecDepth 100000
set_option maxHeartbeats 4000000

theorem touch_grow {F : Nat → Prop} (w : World) (k : Nat) (os : Array Obj) : Touch F w (grow (w.drewN k) os) :=
  ⟨rfl, rfl, rfl, by simp [grow, World.drewN], fun b hb _ => by simp only [grow, World.drewN]; exact Array.getElem?_append_left hb⟩
theorem itoa_any {w : World} (n : Int) (h0 : -9223372036854775808 ≤ n) (h1 : n ≤ 9223372036854775807) (ht : Lib.TabIs Tryz.prog w "internal/strconv.uint64pow10" .u64 Lib.pow10Tab) :
    Calls Tryz.prog 64 #[.int .i64 n] w fun e w' => e = .returned (.string (bs (Lib.itoa n))) ∧ Touch NoB w w' := by
  refine (Tryz.strconv_Itoa n h0 h1 w ht).mono ?_
  rintro e w' ⟨rfl, k, os, rfl⟩
  exact ⟨rfl, touch_grow w k os⟩
/-- The word at an index. -/
theorem word_any {w : World} {b m : Nat} {ws : List Bs} (h : WdAt w b m ws) (k : Nat) :
    Calls Tryz.prog 62 #[.slice (some ⟨b, 0, none⟩) m m, .int .i64 (k : Int)] w fun e w' => e = .returned (.string (bs (ws.getD k []))) ∧ w' = w := by
  have hm := h.1
  have hlt := h.2.1
  have hk0 : decide ((k : Int) < 0) = false := by simp
  by_cases hkm : k < m
  · obtain ⟨s, hs⟩ : ∃ s, ws[k]? = some s := ⟨ws[k]'(by rw [hm.1]; exact hkm), List.getElem?_eq_getElem _⟩
    have hc := h.2.2 k s hs
    have hg : ws.getD k [] = s := by simp [List.getD, hs]
    rw [hg]
    clear h hs hg
    go_enter Tryz.func62, Tryz.ntmps62
    go_wp2
    go_ret
    exact ⟨rfl, rfl⟩
  · have hg : ws.getD k [] = [] := by simp [List.getD, List.getElem?_eq_none (show ws.length ≤ k by rw [hm.1]; omega)]
    rw [hg]
    clear h hg
    go_enter Tryz.func62, Tryz.ntmps62
    go_wp2
    go_ret
    exact ⟨rfl, rfl⟩
end Go.Proofs.YtkmbobfjoaldgaaGreatDoor

/-
  What package expr's write appends for each kind of expression. Conditions: the library's table can be read; those that each theorem names.
-/
namespace Go.Proofs.YtkmbobfjoaldgaaGreatDoor
open Go.ChangeShapes Go.WideShapes Go.ChangeAt Go.RowKit
set_option maxRecDepth 100000
set_option maxHeartbeats 4000000

theorem bs_app (a b : Bs) : bs a ++ bs b = bs (a ++ b) := by
  apply ByteArray.ext
  simp [bs, ByteArray.data_append]
theorem wr_int {w : World} {B : Nat} {v : Value} {l : Bs} (h : WS w B v l) {n : Int} (h0 : -9223372036854775808 < n) (h1 : n ≤ 9223372036854775807) (hl : l.length ≤ 900000) :
    Calls Tryz.prog 150 #[v, .agg #[.int .i64 0, .int .i64 n, .string ⟨#[]⟩, .slice none 0 0]] w (WP w B (l ++ Lib.itoa n)) := by
  have t0 : Touch NoB w (w.alloc (.cells #[.int .i64 0, .int .i64 n, .string ⟨#[]⟩, .slice none 0 0] 44)) := (Touch.refl _ _).alloc _
  have HC := Lib.hid ((h.touch t0).int n (by omega) h1 (by omega))
  have HB := Lib.hid (t0.belowB h.le)
  clear h t0
  go_enter Tryz.func150, Tryz.ntmps150
  go_wp2_with fail
  refine HC.out.mono ?_
  rintro r w1 ⟨v1, rfl, hs1, hb1⟩
  have HE := Lib.hid (And.intro hs1 (HB.out.trans hb1))
  clear hs1 hb1
  go_wp2
  go_ret
  exact ⟨v1, rfl, HE.out.1, HE.out.2⟩
theorem wr_bool {w : World} {B : Nat} {v : Value} {l : Bs} (h : WS w B v l) {n : Int} (hn : n = 0 ∨ n = 1) (hl : l.length + 4 ≤ 900000) :
    Calls Tryz.prog 150 #[v, .agg #[.int .i64 1, .int .i64 n, .string ⟨#[]⟩, .slice none 0 0]] w (WP w B (l ++ truB (decide (n = 1)))) := by
  have t0 : Touch NoB w (w.alloc (.cells #[.int .i64 1, .int .i64 n, .string ⟨#[]⟩, .slice none 0 0] 44)) := (Touch.refl _ _).alloc _
  have HC := Lib.hid ((h.touch t0).bool (decide (n = 1)) (by omega))
  have HB := Lib.hid (t0.belowB h.le)
  clear h t0 hl
  rcases hn with rfl | rfl
  all_goals
    go_enter Tryz.func150, Tryz.ntmps150
    go_wp2_with fail
    refine HC.out.mono ?_
    rintro r w1 ⟨v1, rfl, hs1, hb1⟩
    have HE := Lib.hid (And.intro hs1 (HB.out.trans hb1))
    clear hs1 hb1
    go_wp2
    go_ret
    exact ⟨v1, rfl, HE.out.1, HE.out.2⟩
theorem wr_name {w : World} {B : Nat} {v : Value} {l s : Bs} (h : WS w B v l) (hl : l.length + s.length ≤ 900000) :
    Calls Tryz.prog 150 #[v, .agg #[.int .i64 2, .int .i64 0, .string (bs s), .slice none 0 0]] w (WP w B (l ++ s)) := by
  have t0 : Touch NoB w (w.alloc (.cells #[.int .i64 2, .int .i64 0, .string (bs s), .slice none 0 0] 44)) := (Touch.refl _ _).alloc _
  obtain ⟨v1, w1, hr1, hs1, hb1, -⟩ := (h.touch t0).str s (by omega)
  have HE := Lib.hid (And.intro hs1 ((t0.belowB h.le).trans hb1))
  obtain ⟨sx, hsx⟩ : ∃ sx, bs s = sx := ⟨_, rfl⟩
  rw [hsx] at hr1 ⊢
  have HA := Lib.hid hr1
  clear h t0 hr1 hs1 hb1 hsx hl
  go_enter Tryz.func150, Tryz.ntmps150
  go_wp2_with (at_builtin; refine Lib.wpList_append_run _ rfl _ _ _ _ rfl _ _ rfl rfl _ _ HA.out ?_)
  go_ret
  exact ⟨v1, rfl, HE.out.1, HE.out.2⟩
theorem wr_word {w : World} {B : Nat} {v : Value} {l : Bs} {k : Int} (hk : k = 4 ∨ k = 5) (h : WS w B v l) (hl : l.length + (wordB k).length ≤ 900000) :
    Calls Tryz.prog 150 #[v, .agg #[.int .i64 k, .int .i64 0, .string ⟨#[]⟩, .slice none 0 0]] w (WP w B (l ++ wordB k)) := by
  have t0 : Touch NoB w (w.alloc (.cells #[.int .i64 k, .int .i64 0, .string ⟨#[]⟩, .slice none 0 0] 44)) := (Touch.refl _ _).alloc _
  obtain ⟨v1, w1, hr1, hs1, hb1, -⟩ := (h.touch t0).str (wordB k) (by omega)
  have HE := Lib.hid (And.intro hs1 ((t0.belowB h.le).trans hb1))
  have HW := Lib.hid (fun w => word_kd k (by omega) w)
  obtain ⟨sx, hsx⟩ : ∃ sx, bs (wordB k) = sx := ⟨_, rfl⟩
  rw [hsx] at hr1 HW
  have HA := Lib.hid hr1
  clear h t0 hr1 hs1 hb1 hsx hl
  rcases hk with rfl | rfl
  all_goals
    go_enter Tryz.func150, Tryz.ntmps150
    go_wp2_with (first
      | (go_at_call 165; refine (HW.out _).mono ?_; rintro e w' ⟨rfl, rfl⟩)
      | (at_builtin; refine Lib.wpList_append_run _ rfl _ _ _ _ rfl _ _ rfl rfl _ _ HA.out ?_))
    go_ret
    exact ⟨v1, rfl, HE.out.1, HE.out.2⟩
theorem wr_sym {w : World} {B : Nat} {v : Value} {l s : Bs} (h : WS w B v l) (hl : l.length + s.length + 1 ≤ 900000) :
    Calls Tryz.prog 150 #[v, .agg #[.int .i64 3, .int .i64 0, .string (bs s), .slice none 0 0]] w (WP w B (l ++ 39 :: s)) := by
  obtain ⟨sx, hsx⟩ : ∃ sx, bs s = sx := ⟨_, rfl⟩
  obtain ⟨W0, hW0⟩ : ∃ W, w.alloc (.cells #[.int .i64 3, .int .i64 0, .string sx, .slice none 0 0] 44) = W := ⟨_, rfl⟩
  have t0 : Touch NoB w W0.drew := by rw [← hW0]; exact ((Touch.refl _ _).alloc _).drew
  have hx0 : XB W0 w.heap.size 3 0 sx none 0 0 := by rw [← hW0]; exact XB.new _ _ _ _ _ _ _ rfl
  obtain ⟨W1, hW1⟩ : ∃ W, W0.drew.alloc (.cells #[.int .u8 39] 5) = W := ⟨_, rfl⟩
  obtain ⟨v1, w1, hr1, hs1, hb1, hk1⟩ := (h.touch t0).byte 39 (by omega) (N := W0.heap.size) rfl (W := W1) hW1
  obtain ⟨v2, w2, hr2, hs2, hb2, -⟩ := hs1.str s (by simp only [List.length_append, List.length_cons, List.length_nil]; omega)
  rw [hsx] at hr2 ⊢
  have HA1 : Hid ((Builtin.append_ #[33, 33] 33 #[v, .slice (some ⟨W0.heap.size, 0, none⟩) 1 1]).run Tryz.prog W1 = .ok v1 w1) := Lib.hid hr1
  have HA2 := Lib.hid hr2
  have HE := Lib.hid (And.intro hs2 (((t0.belowB h.le).trans hb1).trans hb2))
  have hlt : w.heap.size < W0.heap.size := blk_lt hx0
  have hx1 : XB W1 w.heap.size 3 0 sx none 0 0 := by rw [← hW1]; exact (show XB W0.drew _ _ _ _ _ _ _ from hx0).old _
  have hx2 : XB w1 w.heap.size 3 0 sx none 0 0 := (h.touch t0).keptX hk1 hx0
  obtain ⟨z0, z1, z2, z3, z4⟩ := hx0.cells
  have c0 : W0.drew.cell? ⟨w.heap.size, 2, none⟩ = some (.string sx) := cell_blk hx0 2
  have c1 : W1.cell? ⟨w.heap.size, 2, none⟩ = some (.string sx) := cell_blk hx1 2
  have c2 : w1.cell? ⟨w.heap.size, 2, none⟩ = some (.string sx) := cell_blk hx2 2
  have hl1 : w.heap.size < W1.heap.size := blk_lt hx1
  have hl2 : w.heap.size < w1.heap.size := blk_lt hx2
  clear h t0 hx0 hx1 hx2 hr1 hr2 hs1 hs2 hb1 hb2 hk1 hsx hl
  go_enter Tryz.func150, Tryz.ntmps150
  go_wp2_with fail
  go_region_law (first
    | (refine step_appended (T := 33) (U := 33) (d := .tmp 28) (s := .tmp 29) rfl HA1.out rfl (by simp [Act.eval]) (by simp [Act.eval]) ?_)
    | (refine step_appended (T := 33) (U := 9) (d := .tmp 30) (s := .tmp 32) rfl HA2.out rfl (by first | (simp [Act.eval]; done) | (simp [Act.eval, Act.put]; done) | rfl) (by first | (simp [Act.eval]; done) | (simp [Act.eval, Act.put]; done) | rfl) ?_))
  all_goals
    go_wp2
    go_ret
    exact ⟨v2, rfl, by have := HE.out.1; simp only [List.append_assoc, List.cons_append, List.nil_append] at this; exact this, HE.out.2⟩
theorem wr_one {N : Nat} (H : WriteOk N) {x : Ex} (hx : x.depth ≤ N) (hvx : vE x) {k : Int} (hk : k = 14 ∨ k = 16 ∨ k = 17 ∨ k = 18) {w : World} {B g : Nat} {v : Value} {l : Bs} {a1 b1 : Int} {s1 : ByteArray} {A1 : Option Addr} {m1 c1 : Nat}
    (h : WS w B v l) (hgB : g < B) (h1 : KidAt w (fun b => b < B) g 0 x a1 b1 s1 A1 m1 c1) (hl : l.length + (wordB k ++ [32] ++ prt x).length ≤ 900000) :
    Calls Tryz.prog 150 #[v, .agg #[.int .i64 k, .int .i64 0, .string ⟨#[]⟩, .slice (some ⟨g, 0, none⟩) 1 1]] w (WP w B (l ++ (wordB k ++ [32] ++ prt x))) := by
  simp only [List.length_append, List.length_cons, List.length_nil] at hl
  obtain ⟨W0, hW0⟩ : ∃ W, w.alloc (.cells #[.int .i64 k, .int .i64 0, .string ⟨#[]⟩, .slice (some ⟨g, 0, none⟩) 1 1] 44) = W := ⟨_, rfl⟩
  have t0 : Touch NoB w W0 := by rw [← hW0]; exact (Touch.refl _ _).alloc _
  have hx0 : XB W0 w.heap.size k 0 ⟨#[]⟩ (some ⟨g, 0, none⟩) 1 1 := by rw [← hW0]; exact XB.new _ _ _ _ _ _ _ rfl
  obtain ⟨v1, w1, hr1, hs1, hb1, hk1⟩ := (h.touch t0).str (wordB k) (by omega)
  obtain ⟨W1, hW1⟩ : ∃ W, w1.alloc (.cells #[.int .u8 32] 5) = W := ⟨_, rfl⟩
  obtain ⟨v2, w2, hr2, hs2, hb2, hk2⟩ := hs1.byte 32 (by simp only [List.length_append]; omega) (N := w1.heap.size) rfl (W := W1) hW1
  have HW := Lib.hid (fun w => word_kd k (by omega) w)
  obtain ⟨sx, hsx⟩ : ∃ sx, bs (wordB k) = sx := ⟨_, rfl⟩
  rw [hsx] at hr1 HW
  have HA1 := Lib.hid hr1
  have HA2 : Hid ((Builtin.append_ #[33, 33] 33 #[v1, .slice (some ⟨w1.heap.size, 0, none⟩) 1 1]).run Tryz.prog W1 = .ok v2 w2) := Lib.hid hr2
  have hlt : w.heap.size < W0.heap.size := blk_lt hx0
  have hx1 : XB w1 w.heap.size k 0 ⟨#[]⟩ (some ⟨g, 0, none⟩) 1 1 := (h.touch t0).keptX hk1 hx0
  have hx2 : XB w2 w.heap.size k 0 ⟨#[]⟩ (some ⟨g, 0, none⟩) 1 1 := hs1.keptX hk2 hx1
  have hbb : Below B w w2 := ((t0.belowB h.le).trans hb1).trans hb2
  have k2 := h1.below hgB hbb
  obtain ⟨p0, p1, p2, p3, p4⟩ := hx2.cells
  obtain ⟨z0, z1, z2, z3, z4⟩ := hx0.cells
  have e0 : w2.cell? ⟨g, 0, none⟩ = some (.int .i64 a1) := by have := k2.c0; simpa using this
  have e1 : w2.cell? ⟨g, 1, none⟩ = some (.int .i64 b1) := by have := k2.c1; simpa using this
  have e2 : w2.cell? ⟨g, 2, none⟩ = some (.string s1) := by have := k2.c2; simpa using this
  have e3 : w2.cell? ⟨g, 3, none⟩ = some (.slice A1 m1 c1) := by have := k2.c3; simpa using this
  have hgw := k2.lt
  have HC := Lib.hid (H x hx hvx w2 B v2 (l ++ wordB k ++ [32]) _ _ _ _ _ _ hs2 k2.et (by simp only [List.length_append, List.length_cons, List.length_nil]; omega))
  have HBB := Lib.hid hbb
  clear h h1 hl t0 hx0 hr1 hs1 hb1 hk1 hr2 hs2 hb2 hk2 hsx hlt hx1 hx2 hbb k2 H hx hvx
  rcases hk with rfl | rfl | rfl | rfl
  all_goals
    go_enter Tryz.func150, Tryz.ntmps150
    go_wp2_with (first
      | (go_at_call 165; refine (HW.out _).mono ?_; rintro e w' ⟨rfl, rfl⟩)
      | (at_builtin; refine Lib.wpList_append_run _ rfl _ _ _ _ rfl _ _ rfl rfl _ _ HA1.out ?_)
      | (at_builtin; refine Lib.wpList_append_run _ rfl _ _ _ _ rfl _ _ rfl rfl _ _ HA2.out ?_)
      | (go_at_call 150; refine HC.out.mono ?_; rintro r w3 ⟨v3, rfl, hs3, hb3⟩; have HE := Lib.hid (And.intro hs3 (HBB.out.trans hb3)); clear hs3 hb3))
    go_ret
    exact ⟨v3, rfl, by have := HE.out.1; simp only [List.append_assoc, List.cons_append, List.nil_append] at this ⊢; exact this, HE.out.2⟩
end Go.Proofs.YtkmbobfjoaldgaaGreatDoor

/-
  What package expr's write and Print return of valid expressions. Conditions: the library's table can be read; those that each theorem names.
-/
namespace Go.Proofs.YtkmbobfjoaldgaaGreatDoor
open Go.ChangeShapes Go.WideShapes Go.ChangeAt Go.RowKit
set_option maxRecDepth 100000
set_option maxHeartbeats 4000000

theorem wr_far {N : Nat} (H : WriteOk N) {x y : Ex} (hx : x.depth ≤ N) (hy : y.depth ≤ N) (hvx : vE x) (hvy : vE y) {k : Int} (hk : k = 15 ∨ k = 19) {w : World} {B g : Nat} {v : Value} {l : Bs} {a1 b1 a2 b2 : Int} {s1 s2 : ByteArray} {A1 A2 : Option Addr} {m1 c1 m2 c2 : Nat}
    (h : WS w B v l) (hgB : g < B) (h1 : KidAt w (fun b => b < B) g 0 x a1 b1 s1 A1 m1 c1) (h2 : KidAt w (fun b => b < B) g 1 y a2 b2 s2 A2 m2 c2) (hl : l.length + (wordB k ++ ([40] ++ prt x ++ [44, 32] ++ prt y ++ [41])).length ≤ 900000) :
    Calls Tryz.prog 150 #[v, .agg #[.int .i64 k, .int .i64 0, .string ⟨#[]⟩, .slice (some ⟨g, 0, none⟩) 2 2]] w (WP w B (l ++ (wordB k ++ ([40] ++ prt x ++ [44, 32] ++ prt y ++ [41])))) := by
  obtain ⟨W0, hW0⟩ : ∃ W, w.alloc (.cells #[.int .i64 k, .int .i64 0, .string ⟨#[]⟩, .slice (some ⟨g, 0, none⟩) 2 2] 44) = W := ⟨_, rfl⟩
  have t0 : Touch NoB w W0.drew := by rw [← hW0]; exact ((Touch.refl _ _).alloc _).drew
  have hx0 : XB W0 w.heap.size k 0 ⟨#[]⟩ (some ⟨g, 0, none⟩) 2 2 := by rw [← hW0]; exact XB.new _ _ _ _ _ _ _ rfl
  have hll : l.length + (wordB k).length + ([40] ++ prt x ++ [44, 32] ++ prt y ++ [41]).length ≤ 900000 := by rw [List.length_append] at hl; omega
  obtain ⟨v1, w1, hr1, hs1, hb1, hk1⟩ := (h.touch t0).str (wordB k) (by omega)
  have HW := Lib.hid (fun w => word_kd k (by omega) w)
  obtain ⟨sx, hsx⟩ : ∃ sx, bs (wordB k) = sx := ⟨_, rfl⟩
  rw [hsx] at hr1 HW
  have HA1 := Lib.hid hr1
  have hx1 : XB w1 w.heap.size k 0 ⟨#[]⟩ (some ⟨g, 0, none⟩) 2 2 := (h.touch t0).keptX hk1 hx0
  have hbb : Below B w w1 := (t0.belowB h.le).trans hb1
  obtain ⟨z0, z1, z2, z3, z4⟩ := hx0.cells
  have y0 : W0.drew.cell? ⟨w.heap.size, 0, none⟩ = some (.int .i64 k) := z0
  have y3 : W0.drew.cell? ⟨w.heap.size, 3, none⟩ = some (.slice (some ⟨g, 0, none⟩) 2 2) := z3
  obtain ⟨p0, p1, p2, p3, p4⟩ := hx1.cells
  have HC : Hid (Calls Tryz.prog 166 #[v1, .slice (some ⟨g, 0, none⟩) 2 2, .string ⟨#[44, 32]⟩] w1 (WP w1 B (l ++ wordB k ++ ([40] ++ prt x ++ [44, 32] ++ prt y ++ [41])))) := Lib.hid (wpair_any H hx hy hvx hvy (q := [44, 32]) hs1 hgB (h1.below hgB hbb) (h2.below hgB hbb) (by rw [List.length_append]; exact hll))
  have HBB := Lib.hid hbb
  clear h h1 h2 hl hll t0 hx0 hr1 hs1 hb1 hk1 hsx hx1 hbb H hx hy hvx hvy
  rcases hk with rfl | rfl
  all_goals
    go_enter Tryz.func150, Tryz.ntmps150
    go_wp2_with fail
    go_region_law (first
      | (go_simp; go_at_call 165; refine (HW.out _).mono ?_; rintro e w' ⟨rfl, rfl⟩)
      | (refine step_appended (T := 33) (U := 9) (d := .tmp 63) (s := .tmp 66) rfl HA1.out rfl (by simp [Act.eval]) (by simp [Act.eval]) ?_)
      | (go_simp; go_at_call 166; refine HC.out.mono ?_; rintro r w3 ⟨v3, rfl, hs3, hb3⟩
         have HE := Lib.hid (And.intro hs3 (HBB.out.trans hb3))
         clear hs3 hb3))
    all_goals
      go_wp2
      go_ret
      exact ⟨v3, rfl, by have := HE.out.1; simp only [List.append_assoc, List.cons_append, List.nil_append] at this ⊢; exact this, HE.out.2⟩
theorem wr_bin {N : Nat} (H : WriteOk N) {x y : Ex} (hx : x.depth ≤ N) (hy : y.depth ≤ N) (hvx : vE x) (hvy : vE y) {k : Int} (hk : 6 ≤ k ∧ k ≤ 13) {w : World} {B g : Nat} {v : Value} {l : Bs} {a1 b1 a2 b2 : Int} {s1 s2 : ByteArray} {A1 A2 : Option Addr} {m1 c1 m2 c2 : Nat}
    (h : WS w B v l) (hgB : g < B) (h1 : KidAt w (fun b => b < B) g 0 x a1 b1 s1 A1 m1 c1) (h2 : KidAt w (fun b => b < B) g 1 y a2 b2 s2 A2 m2 c2) (hl : l.length + ([40] ++ prt x ++ ([32] ++ wordB k ++ [32]) ++ prt y ++ [41]).length ≤ 900000) :
    Calls Tryz.prog 150 #[v, .agg #[.int .i64 k, .int .i64 0, .string ⟨#[]⟩, .slice (some ⟨g, 0, none⟩) 2 2]] w (WP w B (l ++ ([40] ++ prt x ++ ([32] ++ wordB k ++ [32]) ++ prt y ++ [41]))) := by
  obtain ⟨W0, hW0⟩ : ∃ W, w.alloc (.cells #[.int .i64 k, .int .i64 0, .string ⟨#[]⟩, .slice (some ⟨g, 0, none⟩) 2 2] 44) = W := ⟨_, rfl⟩
  have t0 : Touch NoB w W0.drew := by rw [← hW0]; exact ((Touch.refl _ _).alloc _).drew
  have hx0 : XB W0 w.heap.size k 0 ⟨#[]⟩ (some ⟨g, 0, none⟩) 2 2 := by rw [← hW0]; exact XB.new _ _ _ _ _ _ _ rfl
  have HW := Lib.hid (fun w => word_kd k (by omega) w)
  have hwl : (wordB k).length ≤ 4 := by
    have hk' : k = 6 ∨ k = 7 ∨ k = 8 ∨ k = 9 ∨ k = 10 ∨ k = 11 ∨ k = 12 ∨ k = 13 := by omega
    rcases hk' with rfl | rfl | rfl | rfl | rfl | rfl | rfl | rfl <;> decide
  have hbb : Below B w W0.drew := t0.belowB h.le
  obtain ⟨z0, z1, z2, z3, z4⟩ := hx0.cells
  have y0 : W0.drew.cell? ⟨w.heap.size, 0, none⟩ = some (.int .i64 k) := z0
  have y3 : W0.drew.cell? ⟨w.heap.size, 3, none⟩ = some (.slice (some ⟨g, 0, none⟩) 2 2) := z3
  have hc := wpair_any H hx hy hvx hvy (q := [32] ++ wordB k ++ [32]) (h.touch t0) hgB (h1.below hgB hbb) (h2.below hgB hbb) hl
  have e1 : (⟨#[32]⟩ : ByteArray) ++ bs (wordB k) = bs ([32] ++ wordB k) := bs_app [32] (wordB k)
  have e2 : bs ([32] ++ wordB k) ++ (⟨#[32]⟩ : ByteArray) = bs ([32] ++ wordB k ++ [32]) := bs_app ([32] ++ wordB k) [32]
  obtain ⟨sx, hsx⟩ : ∃ sx, bs (wordB k) = sx := ⟨_, rfl⟩
  obtain ⟨sy, hsy⟩ : ∃ sy, bs ([32] ++ wordB k) = sy := ⟨_, rfl⟩
  obtain ⟨sz, hsz⟩ : ∃ sz, bs ([32] ++ wordB k ++ [32]) = sz := ⟨_, rfl⟩
  have z1x : sx.size ≤ 4 := by rw [← hsx, bs_size]; exact hwl
  have z1y : sy.size ≤ 5 := by rw [← hsy, bs_size]; simp; omega
  rw [hsx] at HW e1
  rw [hsy] at e1 e2
  rw [hsz] at e2 hc
  have ha1 : ∀ W, (Op.stringOp .add ⟨#[32]⟩ sx).run Tryz.prog W = .ok (.string sy) W := fun W => (run_string_add_sum (P := Tryz.prog) (w := W) _ _ (by have : (⟨#[32]⟩ : ByteArray).size = 1 := rfl; omega)).trans (by rw [e1])
  have ha2 : ∀ W, (Op.stringOp .add sy ⟨#[32]⟩).run Tryz.prog W = .ok (.string sz) W := fun W => (run_string_add_sum (P := Tryz.prog) (w := W) _ _ (by have : (⟨#[32]⟩ : ByteArray).size = 1 := rfl; omega)).trans (by rw [e2])
  have HC := Lib.hid hc
  have HBB := Lib.hid hbb
  have q0 : (k == 0) = false := by simp; omega
  have q1 : (k == 1) = false := by simp; omega
  have q2 : (k == 2) = false := by simp; omega
  have q3 : (k == 3) = false := by simp; omega
  have q4 : (k == 4) = false := by simp; omega
  have q5 : (k == 5) = false := by simp; omega
  have q14 : (k == 14) = false := by simp; omega
  have q16 : (k == 16) = false := by simp; omega
  have q17 : (k == 17) = false := by simp; omega
  have q18 : (k == 18) = false := by simp; omega
  have q15 : (k == 15) = false := by simp; omega
  have q19 : (k == 19) = false := by simp; omega
  clear h h1 h2 hl t0 hx0 hsx hsy hsz hbb H hx hy hvx hvy hc e1 e2 z1x z1y hwl hk
  go_enter Tryz.func150, Tryz.ntmps150
  go_wp2_with fail
  go_region_law (first
    | (go_simp; go_at_call 165; refine (HW.out _).mono ?_; rintro e w' ⟨rfl, rfl⟩)
    | (go_simp; go_at_call 166; refine HC.out.mono ?_; rintro r w3 ⟨v3, rfl, hs3, hb3⟩
       have HE := Lib.hid (And.intro hs3 (HBB.out.trans hb3))
       clear hs3 hb3))
  all_goals
    go_wp2
    go_ret
    exact ⟨v3, rfl, HE.out.1, HE.out.2⟩
end Go.Proofs.YtkmbobfjoaldgaaGreatDoor
