/-
  What package check's Kind returns of an expression of any shape and a list of keys. Conditions: those that each theorem names.
-/
import Derived.Test.YtnphaaahdlkmhaaGreatZs17
import Derived.Deep.RegionHeld3
import Derived.Test.YtnphaaahdlkmhaaGreatZs10
import Derived.Deep.MidRow
import Derived.Test.YtnphaaahdlkmhaaGreatZs12
import Derived.Test.YtnphaaahdlkmhaaGreatZs11
import Derived.Laws.ComplexArith
section
namespace Go.Proofs.YtnphaaahdlkmhaaGreat
open Go.ChangeShapes Go.WideShapes Go.ChangeAt Go.RowKit Go.Maps
set_option maxRecDepth 100000
set_option maxHeartbeats 4000000

/-- The kind of any expression, and the error. -/
def kindT (ks : List KyG) (x : GE) : Int × Int := if rightG 40 x = true then kindG ks 40 x else (0, 1)
theorem kkind_any {ks : List KyG} {mb nk : Nat} (x : GE) (w : World) (d : Nat) {a b : Int} {s : ByteArray} {A : Option Addr} {m c : Nat} (hx : GAt w d x a b s A m) (hc : m ≤ c) (hM : KM w mb nk ks) :
    Calls Tryz.prog 29 #[.map (some mb), .agg #[.int .i64 a, .int .i64 b, .string s, .slice A m c]] w fun e w' => e = .returned (.tuple #[.int .i64 (kindT ks x).1, .int .i64 (kindT ks x).2]) ∧ Touch NoB w w' := by
  have HR := Lib.hid (fun W (t : Touch NoB w W) => rightp_any x W d (hx.touch t) hc)
  unfold kindT
  cases hr : rightG 40 x with
  | false =>
    rw [hr] at HR
    clear hx hc hM hr
    go_enter Tryz.func29, Tryz.ntmps29
    go_wp2_with fail
    refine (HR.out _ ((Touch.refl _ _).alloc _)).mono ?_
    rintro r w2 ⟨rfl, hT2⟩
    have HT2 := Lib.hid ((gbw_touch w a b s A m c).same hT2)
    clear hT2
    go_wp2
    go_ret2
    exact ⟨rfl, HT2.out⟩
  | true =>
    have HV := Lib.hid (fun W (t : Touch NoB w W) => valid_any 40 (by omega) x hr W d (hx.touch t) hc (hM.touch t (fun f => f)))
    rw [hr] at HR
    clear hx hc hM hr
    rw [if_pos rfl]
    obtain ⟨p, hp⟩ : ∃ p, (kindG ks 40 x).1 = p := ⟨_, rfl⟩
    obtain ⟨q, hq⟩ : ∃ q, (kindG ks 40 x).2 = q := ⟨_, rfl⟩
    rw [hp, hq] at HV ⊢
    clear hp hq
    go_enter Tryz.func29, Tryz.ntmps29
    go_wp2_with fail
    refine (HR.out _ ((Touch.refl _ _).alloc _)).mono ?_
    rintro r w2 ⟨rfl, hT2⟩
    obtain ⟨p0, p1, p2, p3, p4⟩ := ((gbw_blk w a b s A m c).touch hT2).cells
    have HT2 := Lib.hid ((gbw_touch w a b s A m c).same hT2)
    clear hT2
    go_wp2_with fail
    refine (HV.out _ HT2.out).mono ?_
    rintro r w3 ⟨rfl, hT3⟩
    have HT3 := Lib.hid (HT2.out.same hT3)
    clear hT3
    go_wp2
    go_ret2
    exact ⟨rfl, HT3.out⟩
theorem kind_any {ks : List KyG} {K : Option Addr} {n cp : Nat} (hn : ks.length = n) (hn2 : n ≤ 1000000) (hw : ∀ k ∈ ks, W64 k.kd) (x : GE) (w : World) (d : Nat) {a b : Int} {s : ByteArray} {A : Option Addr} {m c : Nat} (hx : GAt w d x a b s A m) (hc : m ≤ c) (hK : KAtG w NoB K ks) :
    Calls Tryz.prog 11 #[.agg #[.int .i64 a, .int .i64 b, .string s, .slice A m c], .slice K n cp] w fun e w' => e = .returned (.tuple #[.int .i64 (kindT ks x).1, .int .i64 (kindT ks x).2]) ∧ Touch NoB w w' := by
  have HKO := Lib.hid (fun W (t : Touch NoB w W) => kindsof_any K n cp ks W hn hn2 (hK.touch t) hw)
  have HKD := Lib.hid (fun W mb (t : Touch NoB w W) (hM : KM W mb n ks) => kkind_any x W d (hx.touch t) hc hM)
  obtain ⟨p, hp⟩ : ∃ p, (kindT ks x).1 = p := ⟨_, rfl⟩
  obtain ⟨q, hq⟩ : ∃ q, (kindT ks x).2 = q := ⟨_, rfl⟩
  rw [hp, hq] at HKD ⊢
  clear hx hc hK hn hw hp hq
  go_enter Tryz.func11, Tryz.ntmps11
  go_wp2_with fail
  go_region_held3 (fun w' => w'.cell? ⟨w.heap.size, 0, none⟩ = some (.int .i64 a) ∧ w'.cell? ⟨w.heap.size, 1, none⟩ = some (.int .i64 b) ∧ w'.cell? ⟨w.heap.size, 2, none⟩ = some (.string s) ∧ w'.cell? ⟨w.heap.size, 3, none⟩ = some (.slice A m c)) (first | go_keep | exact ⟨p0, p1, p2, p3⟩)
    (first | (go_at_call 22
              refine (HKO.out _ (gbw_touch w a b s A m c).drew).mono ?_
              rintro r w3 ⟨rfl, hM, hT3⟩
              obtain ⟨p0, p1, p2, p3, p4⟩ := ((gbw_blk w a b s A m c).touch ((Touch.refl NoB (gbw w a b s A m c)).drew.same hT3)).cells
              have HT3 := Lib.hid (And.intro hM ((gbw_touch w a b s A m c).drew.same hT3))
              clear hM hT3)
           | (go_at_call 29
              refine (HKD.out _ _ HT3.out.2 HT3.out.1).mono ?_
              rintro r w4 ⟨rfl, hT4⟩
              have p0 := (hT4.cell (p := ⟨w.heap.size, 0, none⟩) p4 (fun f => f)).trans p0
              have p1 := (hT4.cell (p := ⟨w.heap.size, 1, none⟩) p4 (fun f => f)).trans p1
              have p2 := (hT4.cell (p := ⟨w.heap.size, 2, none⟩) p4 (fun f => f)).trans p2
              have p3 := (hT4.cell (p := ⟨w.heap.size, 3, none⟩) p4 (fun f => f)).trans p3
              have HT4 := Lib.hid (HT3.out.2.same hT4)
              clear hT4))
  go_wp2
  go_ret2
  exact ⟨rfl, HT4.out⟩
end Go.Proofs.YtnphaaahdlkmhaaGreat
end
/-
  An expression among others in memory. No condition beyond those that the theorem names.
-/
section
namespace Go.Proofs.YtnphaaahdlkmhaaGreat
open Go.ChangeShapes Go.WideShapes Go.ChangeAt Go.RowKit
set_option maxRecDepth 100000
set_option maxHeartbeats 4000000

/-- An expression among others. -/
theorem ex_at {w : World} {Q : Nat → Prop} {A : Option Addr} {n c i : Nat} {l : List Ex} {xs : List Value} {t : Ex} (h : SlAt w Q (.slice A n c) n xs) (hl : LsAt (XAt w Q) l xs) (ht : l[i]? = some t) :
    ∃ g a b s B m d, A = some ⟨g, 0, none⟩ ∧ w.cell? ⟨g, i * 4, none⟩ = some (.int .i64 a) ∧ w.cell? ⟨g, i * 4 + 1, none⟩ = some (.int .i64 b) ∧ w.cell? ⟨g, i * 4 + 2, none⟩ = some (.string s) ∧ w.cell? ⟨g, i * 4 + 3, none⟩ = some (.slice B m d) ∧ ET w Q t a b s B m d := by
  obtain ⟨ys, ⟨a, b, s, B, m, d, rfl, het⟩, hj⟩ := hl.at_ (s := 4) (fun a ys hy => hy.len) i t ht
  obtain ⟨g, rfl, k0, k1, k2, k3⟩ := h.cells4 (i := i) (hj 0 (by decide)) (hj 1 (by decide)) (hj 2 (by decide)) (hj 3 (by decide))
  exact ⟨g, a, b, s, B, m, d, rfl, k0, k1, k2, k3, het⟩
/-- The load of a whole node: closed to the walk's simp. -/
def LoadNd (v : Value) : Sem Value := Instr.loadAt 62 v
theorem loadNd_of (v : Value) : Instr.loadAt 62 v = LoadNd v := rfl
theorem isRow_nd : (Tryz.prog.underlying 62).map TypeDesc.isRow = some true := by kernel_rfl
theorem size_nd : (Tryz.prog.info? 62).map (·.size) = some 10 := by kernel_rfl
theorem run_LoadNd (W : World) (b o : Nat) (cs : List Value) (hl : cs.length = 10) (hc : W.rangeAt b o cs) : (LoadNd (.pointer (some ⟨b, o, none⟩))).run Tryz.prog W = .ok (.agg cs.toArray) W := by
  cases hu : Tryz.prog.underlying 62 with
  | none => have := isRow_nd; rw [hu] at this; cases this
  | some d =>
    have h := isRow_nd
    rw [hu] at h
    exact run_loadAt_mid W b o _ cs d hc hu (by injection h) (by rw [hl]; exact size_nd)
theorem range10 {W : World} {b o : Nat} {v0 v1 v2 v3 v4 v5 v6 v7 v8 v9 : Value} (h0 : W.cell? ⟨b, o, none⟩ = some v0) (h1 : W.cell? ⟨b, o + 1, none⟩ = some v1) (h2 : W.cell? ⟨b, o + 2, none⟩ = some v2) (h3 : W.cell? ⟨b, o + 3, none⟩ = some v3) (h4 : W.cell? ⟨b, o + 4, none⟩ = some v4) (h5 : W.cell? ⟨b, o + 5, none⟩ = some v5) (h6 : W.cell? ⟨b, o + 6, none⟩ = some v6) (h7 : W.cell? ⟨b, o + 7, none⟩ = some v7) (h8 : W.cell? ⟨b, o + 8, none⟩ = some v8) (h9 : W.cell? ⟨b, o + 9, none⟩ = some v9) : W.rangeAt b o [v0, v1, v2, v3, v4, v5, v6, v7, v8, v9] := by
  intro j v hj
  match j, hj with
  | 0, hj => cases hj; exact h0
  | 1, hj => cases hj; exact h1
  | 2, hj => cases hj; exact h2
  | 3, hj => cases hj; exact h3
  | 4, hj => cases hj; exact h4
  | 5, hj => cases hj; exact h5
  | 6, hj => cases hj; exact h6
  | 7, hj => cases hj; exact h7
  | 8, hj => cases hj; exact h8
  | 9, hj => cases hj; exact h9
  | n + 10, hj => cases hj
theorem nd_cells {W : World} {N : Nat} {T : TypeId} {fz : Nat × Nat} {v0 v1 v2 v3 v4 v5 v6 v7 v8 v9 : Value} (h : W.heap[N]? = some (.cells #[v0, v1, v2, v3, v4, v5, v6, v7, v8, v9] T fz)) :
    W.cell? ⟨N, 0, none⟩ = some v0 ∧ W.cell? ⟨N, 1, none⟩ = some v1 ∧ W.cell? ⟨N, 2, none⟩ = some v2 ∧ W.cell? ⟨N, 3, none⟩ = some v3 ∧ W.cell? ⟨N, 4, none⟩ = some v4 ∧ W.cell? ⟨N, 5, none⟩ = some v5 ∧ W.cell? ⟨N, 6, none⟩ = some v6 ∧ W.cell? ⟨N, 7, none⟩ = some v7 ∧ W.cell? ⟨N, 8, none⟩ = some v8 ∧ W.cell? ⟨N, 9, none⟩ = some v9 ∧ N < W.heap.size :=
  ⟨by rw [Lib.cell_of_heap h]; rfl, by rw [Lib.cell_of_heap h]; rfl, by rw [Lib.cell_of_heap h]; rfl, by rw [Lib.cell_of_heap h]; rfl, by rw [Lib.cell_of_heap h]; rfl, by rw [Lib.cell_of_heap h]; rfl, by rw [Lib.cell_of_heap h]; rfl, by rw [Lib.cell_of_heap h]; rfl, by rw [Lib.cell_of_heap h]; rfl, by rw [Lib.cell_of_heap h]; rfl, blk_lt h⟩
end Go.Proofs.YtnphaaahdlkmhaaGreat
end
/-
  Package check over lists: nodes, the uses of trees, what trees come to with what they use, told by plain recursion; an expression in memory told as one of any shape; a node's Kids in memory. Conditions: those that each theorem names.
-/
section
namespace Go.Proofs.YtnphaaahdlkmhaaGreat
open Go.ChangeShapes Go.WideShapes Go.ChangeAt Go.RowKit Go.Maps
set_option maxRecDepth 100000
set_option maxHeartbeats 4000000

/-- An expression of at most two Kids, told as one of any shape. -/
def toG : Ex → GE
  | .leaf k n s => .mk k n (bs s) []
  | .one k x => .mk k 0 ⟨#[]⟩ [toG x]
  | .two k x y => .mk k 0 ⟨#[]⟩ [toG x, toG y]
def w64B (a : Int) : Bool := decide (-9223372036854775808 ≤ a) && decide (a ≤ 9223372036854775807)
theorem w64B_iff {a : Int} (h : w64B a = true) : W64 a := by
  unfold w64B at h
  simp at h
  exact h
/-- Its numbers fit. -/
def exFit : Ex → Bool
  | .leaf k n s => w64B k && w64B n && decide (s.length ≤ 100000)
  | .one k x => w64B k && exFit x
  | .two k x y => w64B k && exFit x && exFit y
theorem gat_of {w : World} {Q : Nat → Prop} : ∀ (x : Ex) (a b : Int) (s : ByteArray) (A : Option Addr) (m c : Nat), exFit x = true → ET w Q x a b s A m c → ∃ d, GAt w d (toG x) a b s A m
  | .leaf k n t, a, b, s, A, m, c, hf, h => by
    simp only [exFit, Bool.and_eq_true, decide_eq_true_eq] at hf
    obtain ⟨rfl, rfl, rfl, rfl, rfl, rfl⟩ := h
    exact ⟨1, rfl, rfl, rfl, rfl, w64B_iff hf.1.1, w64B_iff hf.1.2, by rw [bs_size]; omega, by omega, fun i y hy => by simp at hy⟩
  | .one k x, a, b, s, A, m, c, hf, h => by
    simp only [exFit, Bool.and_eq_true] at hf
    obtain ⟨rfl, rfl, rfl, rfl, rfl, g, fr, a1, b1, t1, A1, m1, c1, ⟨rfl, hQ⟩, hb, hx⟩ := h
    obtain ⟨d, hd⟩ := gat_of x a1 b1 t1 A1 m1 c1 hf.2 hx
    have hl := hx.len
    refine ⟨d + 1, rfl, rfl, rfl, rfl, w64B_iff hf.1, by unfold W64; omega, by decide, by omega, fun i y hy => ?_⟩
    match i, hy with
    | 0, hy =>
      cases hy
      exact ⟨g, 0, a1, b1, t1, A1, m1, c1, rfl, blk_lt hb, cell_blk hb 0, cell_blk hb 1, cell_blk hb 2, cell_blk hb 3, by omega, hd⟩
    | i + 1, hy => simp at hy
  | .two k x y, a, b, s, A, m, c, hf, h => by
    simp only [exFit, Bool.and_eq_true] at hf
    obtain ⟨rfl, rfl, rfl, rfl, rfl, g, fr, a1, b1, t1, A1, m1, c1, a2, b2, t2, A2, m2, c2, ⟨rfl, hQ⟩, hb, hx, hy⟩ := h
    obtain ⟨d, hd⟩ := gat_of x a1 b1 t1 A1 m1 c1 hf.1.2 hx
    obtain ⟨e, he⟩ := gat_of y a2 b2 t2 A2 m2 c2 hf.2 hy
    have hl := hx.len
    have hl2 := hy.len
    refine ⟨max d e + 1, rfl, rfl, rfl, rfl, w64B_iff hf.1.1, by unfold W64; omega, by decide, by omega, fun i z hz => ?_⟩
    match i, hz with
    | 0, hz =>
      cases hz
      exact ⟨g, 0, a1, b1, t1, A1, m1, c1, rfl, blk_lt hb, cell_blk hb 0, cell_blk hb 1, cell_blk hb 2, cell_blk hb 3, by omega, hd.more (by omega)⟩
    | 1, hz =>
      cases hz
      exact ⟨g, 0, a2, b2, t2, A2, m2, c2, rfl, blk_lt hb, cell_blk hb 4, cell_blk hb 5, cell_blk hb 6, cell_blk hb 7, by omega, he.more (by omega)⟩
    | i + 2, hz => simp at hz

/-- The error of an expression that is to be of a kind. -/
def exprE (ks : List KyG) (want : Int) (x : Ex) : Int := if (kindT ks (toG x)).2 = 0 then (if (kindT ks (toG x)).1 = want then 0 else 7) else (kindT ks (toG x)).2
/-- The error of a node without its Kids: ks the keys, tn and dn the names of trees and domains. -/
def aloneE (ks : List KyG) (tn dn : List ByteArray) (n : Nd) : Int :=
  if n.kd = 7 then exprE ks 1 n.ex
  else if n.kd = 8 then (match kdG ks (bs n.nm) with | none => 5 | some k => exprE ks k n.ex)
  else if n.kd = 11 then firstE (n.ws.map (exprE ks 0))
  else if n.kd = 12 then (if inN dn (bs n.nm) = true then 0 else 5)
  else if n.kd = 10 then (if inN tn (bs n.nm) = true then 0 else 5)
  else if n.kd = 4 then (if decide (1 ≤ n.a ∧ n.a ≤ n.ks.length) && decide (1 ≤ n.b ∧ n.b ≤ n.ks.length) then 0 else 1)
  else if n.kd = 6 then (if decide (1 ≤ n.a ∧ n.a ≤ 1000) then 0 else 1)
  else 0
/-- The first error of a node, less than f deep. -/
def nodE (ks : List KyG) (tn dn : List ByteArray) : Nat → Nd → Int
  | 0, _ => 0
  | f + 1, n => if aloneE ks tn dn n = 0 then firstE (n.ks.map (nodE ks tn dn f)) else aloneE ks tn dn n
/-- How many nodes. -/
def sumC : List Nat → Nat
  | [] => 0
  | a :: l => a + sumC l
def ndC : Nat → Nd → Nat
  | 0, _ => 0
  | f + 1, n => 1 + sumC (n.ks.map (ndC f))
/-- Well formed, and less than f deep. -/
def ndFit : Nat → Nd → Bool
  | 0, _ => false
  | f + 1, n => decide (n.kd ≤ 15) && (decide (mostL n.kd = 0) || decide (1 ≤ n.ks.length)) && decide (n.ks.length ≤ mostL n.kd) && decide (n.ws.length = if n.kd = 11 then n.ks.length else 0) &&
      exFit n.ex && n.ws.all exFit && decide (n.nm.length ≤ 100000) && decide (n.a ≤ 1000000000) && decide (n.b ≤ 1000000000) && n.ks.all (ndFit f)
/-- The Kids, one after the other. -/
def usK (g : Nd → List ByteArray → Option (Bool × List ByteArray)) : List Nd → List ByteArray → Option (Bool × List ByteArray)
  | [], s => some (false, s)
  | y :: l, s => match g y s with
    | none => none
    | some (true, s') => some (true, s')
    | some (false, s') => usK g l s'
/-- Does a node use the tree nm? rt: what a tree's name stands for. -/
def usF (rt : Bs → Option Nd) : Nat → Nd → Bs → List ByteArray → Option (Bool × List ByteArray)
  | 0, _, _, _ => none
  | f + 1, n, nm, seen =>
    if n.kd = 10 then
      (if eqG (bs n.nm) (bs nm) = true then some (true, seen)
      else if inN seen (bs n.nm) = true then some (false, seen)
      else if 1000 < seen.length then none
      else match rt n.nm with | none => none | some r => usF rt f r nm (addNm seen (bs n.nm)))
    else usK (fun y s => usF rt f y nm s) n.ks seen
def epK (g : Nd → Nat → Option (Int × Nat)) : List Nd → Nat → Option (Int × Nat)
  | [], k => some (0, k)
  | y :: l, k => match g y k with
    | none => none
    | some (e, k') => if e = 0 then epK g l k' else some (e, k')
/-- What a node comes to with what it uses: the first error, and the number of nodes so far. -/
def epF (rt : Bs → Option Nd) : Nat → Nd → Nat → Nat → Option (Int × Nat)
  | 0, _, _, _ => none
  | f + 1, n, d, k =>
    if n.kd = 10 then (match rt n.nm with | none => none | some r => epF rt f r d k)
    else if 40 < d then some (4, k + 1)
    else if 4000 < k + 1 then some (9, k + 1)
    else epK (fun y k => epF rt f y (d + 1) k) n.ks (k + 1)
def findR : List Tr → Bs → Option Nd
  | [], _ => none
  | t :: l, s => if eqG (bs t.nm) (bs s) = true then some t.root else findR l s
/-- Where a node's Kid stands. -/
structure NKidC (w : World) (Q : Nat → Prop) (D g o : Nat) (y : Nd) (e0 e1 : Int) (e2 : ByteArray) (A : Option Addr) (m c : Nat) (A1 : Option Addr) (c1 : Nat) (A2 : Option Addr) (c2 : Nat) : Prop where
  q : Q g
  lt : g < w.heap.size
  rg : w.rangeAt g o [.int .i64 (y.kd : Int), .int .i64 (y.a : Int), .int .i64 (y.b : Int), .string (bs y.nm), .int .i64 e0, .int .i64 e1, .string e2, .slice A m c, .slice A1 y.ks.length c1, .slice A2 y.ws.length c2]
  nt : NT w Q D y [.int .i64 (y.kd : Int), .int .i64 (y.a : Int), .int .i64 (y.b : Int), .string (bs y.nm), .int .i64 e0, .int .i64 e1, .string e2, .slice A m c, .slice A1 y.ks.length c1, .slice A2 y.ws.length c2]
theorem kids_atC {w : World} {Q : Nat → Prop} {D : Nat} {ks : List Nd} {A : Option Addr} {n c : Nat} {xs : List Value} (hs : SlAt w Q (.slice A n c) n xs) (hl : LsAt (NT w Q D) ks xs) (i : Nat) (y : Nd) (hi : ks[i]? = some y) :
    ∃ g e0 e1 e2 B m c' A1 c1 A2 c2, A = some ⟨g, 0, none⟩ ∧ NKidC w Q D g (i * 10) y e0 e1 e2 B m c' A1 c1 A2 c2 := by
  obtain ⟨ys, hy, hc⟩ := hl.at_ (s := 10) (fun a ys h => h.len) i y hi
  have hN := hy
  cases D with
  | zero => exact hy.elim
  | succ D =>
    obtain ⟨e0, e1, s, B, m, c', kv, wv, us, vs, rfl, hx, hk, -, hw, -⟩ := hy
    obtain ⟨A1, c1, rfl, -⟩ := hk
    obtain ⟨A2, c2, rfl, -⟩ := hw
    obtain ⟨A', c'', he, hA⟩ := hs
    cases he
    obtain ⟨g, hg, hq, hlt, -⟩ := hA (i * 10 + 0) _ ((hc 0 (by decide)).trans rfl)
    have hcell : ∀ (j : Nat) (v : Value), j < 10 → ([Value.int .i64 (y.kd : Int), .int .i64 (y.a : Int), .int .i64 (y.b : Int), .string (bs y.nm), .int .i64 e0, .int .i64 e1, .string s, .slice B m c', .slice A1 y.ks.length c1, .slice A2 y.ws.length c2] : List Value)[j]? = some v → w.cell? ⟨g, i * 10 + j, none⟩ = some v := by
      intro j v hj hv
      obtain ⟨g', hg', -, -, hcc⟩ := hA (i * 10 + j) v ((hc j hj).trans hv)
      rw [hg] at hg'
      cases hg'
      exact hcc
    exact ⟨g, e0, e1, s, B, m, c', A1, c1, A2, c2, hg, hq, hlt, range10 (hcell 0 _ (by decide) rfl) (hcell 1 _ (by decide) rfl) (hcell 2 _ (by decide) rfl) (hcell 3 _ (by decide) rfl) (hcell 4 _ (by decide) rfl) (hcell 5 _ (by decide) rfl) (hcell 6 _ (by decide) rfl) (hcell 7 _ (by decide) rfl) (hcell 8 _ (by decide) rfl) (hcell 9 _ (by decide) rfl), hN⟩
end Go.Proofs.YtnphaaahdlkmhaaGreat
end
/-
  Package check's map from the names of trees to their roots; the rows of a program's trees. Conditions: those that each theorem names.
-/
section
namespace Go.Proofs.YtnphaaahdlkmhaaGreat
open Go.ChangeShapes Go.WideShapes Go.ChangeAt Go.RowKit Go.Maps
set_option maxRecDepth 100000
set_option maxHeartbeats 4000000

open Classical in
/-- Where a value stands in a list, from 1 on; 0 where it doesn't. -/
noncomputable def idxV : List Value → Value → Nat
  | [], _ => 0
  | x :: l, v => if x = v then 1 else if idxV l v = 0 then 0 else idxV l v + 1
theorem idxV_pos : ∀ (l : List Value) (v : Value), v ∈ l → idxV l v ≠ 0
  | [], _, h => by cases h
  | x :: l, v, h => by
    unfold idxV
    by_cases e : x = v
    · rw [if_pos e]; omega
    · rw [if_neg e]
      have h1 : v ∈ l := by
        rcases List.mem_cons.1 h with h | h
        · exact absurd h.symm e
        · exact h
      have := idxV_pos l v h1
      rw [if_neg this]
      omega
theorem idxV_inj : ∀ (l : List Value) (a b : Value), a ∈ l → idxV l a = idxV l b → a = b
  | [], _, _, h, _ => by cases h
  | x :: l, a, b, h, e => by
    unfold idxV at e
    by_cases ha : x = a
    · by_cases hb : x = b
      · rw [← ha, ← hb]
      · rw [if_pos ha, if_neg hb] at e
        by_cases h0 : idxV l b = 0
        · rw [if_pos h0] at e; omega
        · rw [if_neg h0] at e; omega
    · have h1 : a ∈ l := by
        rcases List.mem_cons.1 h with h | h
        · exact absurd h.symm ha
        · exact h
      have hp := idxV_pos l a h1
      rw [if_neg ha, if_neg hp] at e
      by_cases hb : x = b
      · rw [if_pos hb] at e; omega
      · rw [if_neg hb] at e
        by_cases h0 : idxV l b = 0
        · rw [if_pos h0] at e; omega
        · rw [if_neg h0] at e
          exact idxV_inj l a b h1 (by omega)
noncomputable def codeR (vs : List Value) (v : Value) : Option (DataW Unit × List MemPlace) := some (.lit (.int .i64 (idxV vs v : Int)), [])
/-- The zero node. -/
def nodeZ : Value := .agg #[.int .i64 0, .int .i64 0, .int .i64 0, .string ⟨#[]⟩, .int .i64 0, .int .i64 0, .string ⟨#[]⟩, .slice none 0 0, .slice none 0 0, .slice none 0 0]
theorem zeroNd (w : World) : (zeroValue 62).run Tryz.prog w = .ok nodeZ w := by kernel_rfl
def fnd : List (ByteArray × Value) → ByteArray → Option Value
  | [], _ => none
  | p :: l, s => if eqG p.1 s = true then some p.2 else fnd l s
theorem fnd_snoc : ∀ (l : List (ByteArray × Value)) (p : ByteArray × Value) (s : ByteArray), fnd (l ++ [p]) s = match fnd l s with | some x => some x | none => if eqG p.1 s = true then some p.2 else none
  | [], p, s => rfl
  | x :: r, p, s => by
    show (if eqG x.1 s = true then some x.2 else fnd (r ++ [p]) s) = _
    rw [fnd_snoc r p s, show fnd (x :: r) s = if eqG x.1 s = true then some x.2 else fnd r s from rfl]
    split <;> rfl
theorem fnd_in : ∀ (l : List (ByteArray × Value)) (s : ByteArray), (fnd l s).isSome = inN (l.map (·.1)) s
  | [], s => rfl
  | p :: l, s => by
    have ih := fnd_in l s
    unfold inN at ih ⊢
    show (if eqG p.1 s = true then some p.2 else fnd l s).isSome = _
    simp only [List.map_cons, List.any_cons]
    cases h : eqG p.1 s with
    | true => simp
    | false => simpa using ih
/-- The map at block mb holds l; vs: what may stand in it. -/
def RM (w : World) (vs : List Value) (mb n : Nat) (l : List (ByteArray × Value)) : Prop :=
  (nodeZ ∈ vs ∧ ∀ p ∈ l, p.2 ∈ vs) ∧ ∃ D : DataW Unit, w.ownsMap Tryz.prog 9 (codeR vs) mb n D ∧ ∀ s : ByteArray, Maps.has D (klS s) = (fnd l s).isSome ∧ D.atKey (klS s) (.lit (.int .i64 (idxV vs nodeZ : Int))) = .lit (.int .i64 (idxV vs ((fnd l s).getD nodeZ) : Int))
theorem fnd_mem : ∀ (l : List (ByteArray × Value)) (s : ByteArray) (v : Value), fnd l s = some v → ∃ p ∈ l, p.2 = v
  | [], s, v, h => by cases h
  | p :: l, s, v, h => by
    have h2 : (if eqG p.1 s = true then some p.2 else fnd l s) = some v := h
    split at h2
    · injection h2 with h2; exact ⟨p, by simp, h2⟩
    · obtain ⟨q, hq, e⟩ := fnd_mem l s v h2
      exact ⟨q, List.mem_cons_of_mem _ hq, e⟩
theorem RM.touch {w w' : World} {vs : List Value} {mb n : Nat} {l : List (ByteArray × Value)} {F : Nat → Prop} (h : RM w vs mb n l) (t : Touch F w w') (hf : ¬ F mb) : RM w' vs mb n l := by
  obtain ⟨h0, D, ⟨es, clock, hb, r⟩, r2⟩ := h
  exact ⟨h0, D, ⟨es, clock, (t.block mb (blk_lt hb) hf).trans hb, r⟩, r2⟩
theorem RM.made (w : World) (vs : List Value) (hz : nodeZ ∈ vs) : RM (w.alloc (.map #[] 0)) vs w.heap.size 0 [] := ⟨⟨hz, fun p hp => by cases hp⟩, .map [], World.ownsMap_made _ _ _ _, fun s => ⟨rfl, rfl⟩⟩
theorem RM.lt {w : World} {vs : List Value} {mb n : Nat} {l : List (ByteArray × Value)} (h : RM w vs mb n l) : mb < w.heap.size := by obtain ⟨_, D, h, _⟩ := h; exact h.lt
theorem RM.more {w : World} {vs : List Value} {mb n m : Nat} {l : List (ByteArray × Value)} (h : RM w vs mb n l) (hm : n ≤ m) : RM w vs mb m l := by
  obtain ⟨h0, D, hown, hD⟩ := h
  exact ⟨h0, D, hown.mono hm, hD⟩
theorem RM.val {w : World} {vs : List Value} {mb n : Nat} {l : List (ByteArray × Value)} (h : RM w vs mb n l) (s : ByteArray) : (fnd l s).getD nodeZ ∈ vs := by
  cases hf : fnd l s with
  | none => exact h.1.1
  | some v =>
    obtain ⟨p, hp, e⟩ := fnd_mem l s v hf
    rw [← e]
    exact h.1.2 p hp
theorem RM.same {w : World} {vs : List Value} {mb n : Nat} {l : List (ByteArray × Value)} (h : RM w vs mb n l) {s : ByteArray} {D : DataW Unit} {u : Value} {ps : List MemPlace}
    (hD : D.atKey (klS s) (.lit (.int .i64 (idxV vs nodeZ : Int))) = .lit (.int .i64 (idxV vs ((fnd l s).getD nodeZ) : Int))) (hv : codeR vs u = some (D.atKey (klS s) (.lit (.int .i64 (idxV vs nodeZ : Int))), ps)) : u = (fnd l s).getD nodeZ := by
  rw [hD] at hv
  unfold codeR at hv
  simp only [Option.some.injEq, Prod.mk.injEq, DataW.lit.injEq, Lit.int.injEq, true_and] at hv
  exact (idxV_inj vs _ u (h.val s) (by omega)).symm
theorem RM.look2 {w : World} {vs : List Value} {mb n : Nat} {l : List (ByteArray × Value)} (h : RM w vs mb n l) {s : ByteArray} (hs : s.size ≤ 9223372036854775807) :
    (Instr.lookup 76 (.map (some mb)) (.string s) true).run Tryz.prog w = .ok (.tuple #[(fnd l s).getD nodeZ, .bool (fnd l s).isSome]) w := by
  have h' := h
  obtain ⟨h0, D, hown, hD⟩ := h
  obtain ⟨v, ps, hrun, hv⟩ := hown.look_ok lawStr Tryz.underlying76 (zeroNd w) (zd := .lit (.int .i64 (idxV vs nodeZ : Int))) (zp := []) rfl (key_str hs)
  rw [h'.same (hD s).2 hv, (hD s).1] at hrun
  exact hrun
theorem RM.look {w : World} {vs : List Value} {mb n : Nat} {l : List (ByteArray × Value)} (h : RM w vs mb n l) {s : ByteArray} (hs : s.size ≤ 9223372036854775807) :
    (Instr.lookup 76 (.map (some mb)) (.string s) false).run Tryz.prog w = .ok ((fnd l s).getD nodeZ) w := by
  have h' := h
  obtain ⟨h0, D, hown, hD⟩ := h
  obtain ⟨u, ps, hrun, hv⟩ := hown.lookup lawStr Tryz.underlying76 (zeroNd w) (zd := .lit (.int .i64 (idxV vs nodeZ : Int))) (zp := []) rfl (key_str hs)
  rw [h'.same (hD s).2 hv] at hrun
  exact hrun
theorem RM.store {w : World} {vs : List Value} {mb n : Nat} {l : List (ByteArray × Value)} (h : RM w vs mb n l) (hn : n < 9223372036854775807) {s : ByteArray} {v : Value} (hs : s.size ≤ 9223372036854775807) (hv : v ∈ vs) (hno : fnd l s = none) :
    ∃ w', (Instr.mapUpdate 76 (.map (some mb)) (.string s) v).run Tryz.prog w = .ok () w' ∧ RM w' vs mb (n + 1) (l ++ [(s, v)]) ∧ Touch (fun b => b = mb) w w' := by
  obtain ⟨h0, D, hown, hD⟩ := h
  obtain ⟨w', hrun, hown', ht⟩ := hown.store lawStr Tryz.underlying76 (by unfold maxLen; omega) (key_str hs) (val := v) (d := .lit (.int .i64 (idxV vs v : Int))) (ps := []) rfl
  have hmp := hown.isMap
  have hkl : WideAt.IsKeyLit (klS s) := lawStr.key (key_str hs)
  refine ⟨w', hrun, ⟨⟨h0.1, fun p hp => ?_⟩, _, hown', fun x => ?_⟩, (Touch.refl _ _).grown ht.grown (fun b e => by cases e; exact .inl rfl)⟩
  · rcases List.mem_append.1 hp with hp | hp
    · exact h0.2 p hp
    · simp at hp; subst hp; exact hv
  rw [fnd_snoc]
  cases he : eqG s x with
  | true =>
    have e := eqG_iff.1 he
    subst e
    rw [hno]
    simp only [if_true]
    exact ⟨has_put_same hmp hkl _, atKey_put_same hmp hkl _ _⟩
  | false =>
    rw [has_put_other (klS_ne he), atKey_put_other (klS_ne he), (hD x).1, (hD x).2]
    cases hx : fnd l x with
    | none => exact ⟨by simp, by simp⟩
    | some y => exact ⟨rfl, rfl⟩
/-- A program's trees, row by row: rs the names and the roots' cells. -/
def RsAt (w : World) (Q : Nat → Prop) (ts : List Tr) (rs : List (ByteArray × Value)) : Prop :=
  rs.length = ts.length ∧ ∀ (i : Nat) (t : Tr), ts[i]? = some t → ∃ D ys, rs[i]? = some (bs t.nm, .agg ys.toArray) ∧ NT w Q D t.root ys
theorem RsAt.touch {w w' : World} {Q F : Nat → Prop} {ts : List Tr} {rs : List (ByteArray × Value)} (h : RsAt w Q ts rs) (t : Touch F w w') (hq : ∀ b, Q b → ¬ F b) : RsAt w' Q ts rs :=
  ⟨h.1, fun i t' hi => by obtain ⟨D, ys, h1, h2⟩ := h.2 i t' hi; exact ⟨D, ys, h1, NT.touch t hq _ _ _ h2⟩⟩
theorem rs_of {w : World} {Q : Nat → Prop} {ts : List Tr} {xs : List Value} (h : LsAt (TrAt w Q) ts xs) :
    ∃ rs, RsAt w Q ts rs ∧ ∀ (i : Nat) (p : ByteArray × Value), rs[i]? = some p → ∃ ys : List Value, p.2 = .agg ys.toArray ∧ ys.length = 10 ∧ xs[i * 11]? = some (.string p.1) ∧ ∀ j, j < 10 → xs[i * 11 + 1 + j]? = ys[j]? := by
  have hlen : ∀ a ys, TrAt w Q a ys → ys.length = 11 := fun a ys h => by obtain ⟨D, zs, rfl, h⟩ := h; rw [List.length_cons, h.len]
  have key : ∀ (i : Nat) (t : Tr), ts[i]? = some t → ∃ D ys, NT w Q D t.root ys ∧ ys.length = 10 ∧ xs[i * 11]? = some (.string (bs t.nm)) ∧ ∀ j, j < 10 → xs[i * 11 + 1 + j]? = ys[j]? := by
    intro i t hi
    obtain ⟨ys, ⟨D, zs, rfl, hz⟩, hj⟩ := h.at_ (s := 11) hlen i t hi
    refine ⟨D, zs, hz, hz.len, (hj 0 (by omega)).trans rfl, fun j hj2 => ?_⟩
    have := hj (1 + j) (by omega)
    rw [← Nat.add_assoc] at this
    rw [this, Nat.add_comm 1 j]
    simp
  have hex : ∃ f : Nat → ByteArray × Value, ∀ (i : Nat) (t : Tr), ts[i]? = some t → ∃ D ys, f i = (bs t.nm, .agg ys.toArray) ∧ NT w Q D t.root ys ∧ ys.length = 10 ∧ xs[i * 11]? = some (.string (bs t.nm)) ∧ ∀ j, j < 10 → xs[i * 11 + 1 + j]? = ys[j]? := by
    have : ∀ i : Nat, ∃ p : ByteArray × Value, ∀ t : Tr, ts[i]? = some t → ∃ D ys, p = (bs t.nm, .agg ys.toArray) ∧ NT w Q D t.root ys ∧ ys.length = 10 ∧ xs[i * 11]? = some (.string (bs t.nm)) ∧ ∀ j, j < 10 → xs[i * 11 + 1 + j]? = ys[j]? := by
      intro i
      cases hi : ts[i]? with
      | none => exact ⟨(⟨#[]⟩, nodeZ), fun t ht => by cases ht⟩
      | some t =>
        obtain ⟨D, ys, h1, h2⟩ := key i t hi
        exact ⟨(bs t.nm, .agg ys.toArray), fun t' ht => by injection ht with ht; subst ht; exact ⟨D, ys, rfl, h1, h2⟩⟩
    exact ⟨fun i => (this i).choose, fun i t ht => (this i).choose_spec t ht⟩
  obtain ⟨f, hf⟩ := hex
  refine ⟨(List.range ts.length).map f, ⟨by simp, fun i t hi => ?_⟩, fun i p hp => ?_⟩
  · obtain ⟨D, ys, h1, h2, -⟩ := hf i t hi
    have hlt := (List.getElem?_eq_some_iff.1 hi).1
    refine ⟨D, ys, ?_, h2⟩
    rw [List.getElem?_map, List.getElem?_range hlt]
    simp [h1]
  · have hlt : i < ts.length := by
      have := (List.getElem?_eq_some_iff.1 hp).1
      simpa using this
    obtain ⟨t, ht⟩ : ∃ t, ts[i]? = some t := ⟨_, List.getElem?_eq_getElem hlt⟩
    obtain ⟨D, ys, h1, h2, h3, h4, h5⟩ := hf i t ht
    rw [List.getElem?_map, List.getElem?_range hlt] at hp
    simp only [Option.map_some, Option.some.injEq] at hp
    rw [← hp, h1]
    exact ⟨ys, rfl, h3, h4, h5⟩
theorem RsAt.find {w : World} {Q : Nat → Prop} : ∀ {ts : List Tr} {rs : List (ByteArray × Value)}, RsAt w Q ts rs → ∀ (s : Bs) (r : Nd), findR ts s = some r → ∃ D ys, fnd rs (bs s) = some (.agg ys.toArray) ∧ NT w Q D r ys
  | [], rs, h, s, r, hr => by cases hr
  | t :: ts, [], h, s, r, hr => by have := h.1; simp at this
  | t :: ts, p :: rs, h, s, r, hr => by
    obtain ⟨D, ys, h1, h2⟩ := h.2 0 t rfl
    simp only [List.getElem?_cons_zero, Option.some.injEq] at h1
    subst h1
    have hr2 : (if eqG (bs t.nm) (bs s) = true then some t.root else findR ts s) = some r := hr
    show ∃ D, ∃ zs : List Value, (if eqG (bs t.nm) (bs s) = true then some (Value.agg ys.toArray) else fnd rs (bs s)) = some (.agg zs.toArray) ∧ _
    by_cases e : eqG (bs t.nm) (bs s) = true
    · rw [if_pos e] at hr2 ⊢
      injection hr2 with hr2
      subst hr2
      exact ⟨D, ys, rfl, h2⟩
    · rw [if_neg e] at hr2 ⊢
      exact RsAt.find ⟨by have := h.1; simpa using this, fun i t' hi => h.2 (i + 1) t' (by simpa using hi)⟩ s r hr2
theorem rs_names {w : World} {Q : Nat → Prop} {ts : List Tr} {rs : List (ByteArray × Value)} (h : RsAt w Q ts rs) : rs.map (·.1) = ts.map fun t => bs t.nm := by
  apply List.ext_getElem?
  intro i
  rw [List.getElem?_map, List.getElem?_map]
  cases hi : ts[i]? with
  | none =>
    have : rs[i]? = none := by
      rw [List.getElem?_eq_none_iff] at hi ⊢
      rw [h.1]; exact hi
    rw [this]; rfl
  | some t =>
    obtain ⟨D, ys, h1, -⟩ := h.2 i t hi
    rw [h1]; rfl
end Go.Proofs.YtnphaaahdlkmhaaGreat
end
/-
  Floats that stand for whole numbers below 2^53: what +, -, *, the comparisons and the conversions to int give on them. Plain arithmetic over Ieee; no program.
-/
section
namespace Go.Proofs.YtnphaaahdlkmhaaGreat.K7
open Ieee

/-- The integer of a sign and a magnitude. -/
def sv (s : Bool) (k : Nat) : Int := if s then -(k : Int) else (k : Int)
/-- The word of a sign and a whole number. -/
def fw (s : Bool) (k : Nat) : Nat := double.write (.number s k 0)

theorem sv_not (s : Bool) (k : Nat) : sv (!s) k = -sv s k := by cases s <;> simp [sv]
theorem sv_pow (s : Bool) (k u : Nat) : sv s (k * 2 ^ u) = sv s k * 2 ^ u := by
  cases s <;> simp [sv, Int.neg_mul]
theorem signed_sv (s : Bool) (m u : Nat) : signed s m u = sv s (m * 2 ^ u) := by
  cases s <;> simp [signed, sv, Nat.shiftLeft_eq]

theorem log2_shift (z M : Nat) (h : z ≠ 0) : (z * 2 ^ M).log2 = z.log2 + M := by
  have hp : 0 < 2 ^ M := Nat.two_pow_pos M
  have hz : z * 2 ^ M ≠ 0 := Nat.mul_ne_zero h (by omega)
  rw [Nat.log2_eq_iff hz]
  have h1 := Nat.log2_self_le h
  have h2 := @Nat.lt_log2_self z
  constructor
  · rw [Nat.pow_add]; exact Nat.mul_le_mul_right _ h1
  · rw [show z.log2 + M + 1 = (z.log2 + 1) + M from by omega, Nat.pow_add]
    exact Nat.mul_lt_mul_of_pos_right h2 hp

theorem cut_exact (way : Toward) (s : Bool) (n d : Nat) : way.cut s (n * 2 ^ d) d = n := by
  have key : n * 2 ^ d / (1 <<< min d ((n * 2 ^ d).log2 + 2)) = n ∧ n * 2 ^ d % (1 <<< min d ((n * 2 ^ d).log2 + 2)) = 0 := by
    by_cases h : n = 0
    · subst h; simp
    · have : min d ((n * 2 ^ d).log2 + 2) = d := by rw [log2_shift n d h]; omega
      rw [this, Nat.shiftLeft_eq, Nat.one_mul]
      exact ⟨Nat.mul_div_cancel _ (Nat.two_pow_pos d), Nat.mul_mod_left _ _⟩
  have hg : 0 < 1 <<< min d ((n * 2 ^ d).log2 + 2) := by rw [Nat.shiftLeft_eq, Nat.one_mul]; exact Nat.two_pow_pos _
  unfold Toward.cut
  dsimp only
  rw [key.1, key.2]
  generalize 1 <<< min d ((n * 2 ^ d).log2 + 2) = g at hg
  cases way <;> simp
  · omega

theorem log2_le52 {z : Nat} (h : z ≠ 0) (hb : z < 9007199254740992) : z.log2 ≤ 52 := by
  have := (Nat.log2_lt h (k := 53)).2 (by simpa using hb)
  omega

theorem span52 {z : Nat} (h : z ≠ 0) (hb : z < 9007199254740992) : 4503599627370496 ≤ z * 2 ^ (52 - z.log2) ∧ z * 2 ^ (52 - z.log2) < 9007199254740992 := by
  have hl := log2_le52 h hb
  have h1 := Nat.log2_self_le h
  have h2 := @Nat.lt_log2_self z
  have e1 : 2 ^ z.log2 * 2 ^ (52 - z.log2) = 4503599627370496 := by
    rw [← Nat.pow_add, show z.log2 + (52 - z.log2) = 52 from by omega]
  have e2 : 2 ^ (z.log2 + 1) * 2 ^ (52 - z.log2) = 9007199254740992 := by
    rw [← Nat.pow_add, show z.log2 + 1 + (52 - z.log2) = 53 from by omega]
  constructor
  · rw [← e1]; exact Nat.mul_le_mul_right _ h1
  · rw [← e2]; exact Nat.mul_lt_mul_of_pos_right h2 (Nat.two_pow_pos _)

theorem near_exact (s : Bool) (z M : Nat) (h : z ≠ 0) (hb : z < 9007199254740992) :
    double.nearest s (z * 2 ^ M) (-(M : Int)) = double.word s ((1022 + z.log2) * 4503599627370496 + z * 2 ^ (52 - z.log2)) := by
  have hz : z * 2 ^ M ≠ 0 := Nat.mul_ne_zero h (by have := Nat.two_pow_pos M; omega)
  have hl := log2_le52 h hb
  have hs := span52 h hb
  have lp : double.leastPlace = -1074 := by decide
  have fb : double.fractionBits = 52 := rfl
  have bi : double.binade = 4503599627370496 := by decide
  have ir : double.infRung = 9218868437227405312 := by decide
  unfold Format.nearest
  rw [if_neg hz]
  dsimp only
  rw [log2_shift z M h, lp, fb, bi, ir]
  have el : max (-(M : Int) + ((z.log2 + M : Nat) : Int) - ((52 : Nat) : Int)) (-1074) = (z.log2 : Int) - 52 := by omega
  rw [el]
  have ek : Toward.even.cut s ((z * 2 ^ M) <<< (-(M : Int) - ((z.log2 : Int) - 52)).toNat) ((z.log2 : Int) - 52 - -(M : Int)).toNat = z * 2 ^ (52 - z.log2) := by
    by_cases hc : 52 ≤ z.log2 + M
    · have q1 : (-(M : Int) - ((z.log2 : Int) - 52)).toNat = 0 := by omega
      have q2 : ((z.log2 : Int) - 52 - -(M : Int)).toNat = z.log2 + M - 52 := by omega
      rw [q1, q2, Nat.shiftLeft_zero]
      have : z * 2 ^ M = z * 2 ^ (52 - z.log2) * 2 ^ (z.log2 + M - 52) := by
        rw [Nat.mul_assoc, ← Nat.pow_add, show 52 - z.log2 + (z.log2 + M - 52) = M from by omega]
      rw [this]
      exact cut_exact _ _ _ _
    · have q1 : (-(M : Int) - ((z.log2 : Int) - 52)).toNat = 52 - z.log2 - M := by omega
      have q2 : ((z.log2 : Int) - 52 - -(M : Int)).toNat = 0 := by omega
      rw [q1, q2, Nat.shiftLeft_eq, Nat.mul_assoc, ← Nat.pow_add, show M + (52 - z.log2 - M) = 52 - z.log2 from by omega]
      have := cut_exact .even s (z * 2 ^ (52 - z.log2)) 0
      simpa using this
  rw [ek]
  have q3 : ((z.log2 : Int) - 52 - -1074).toNat = 1022 + z.log2 := by omega
  rw [q3, Nat.min_eq_left (by omega)]

theorem write_scaled (s : Bool) (z M : Nat) (hb : z < 9007199254740992) : double.write (.number s (z * 2 ^ M) (-(M : Int))) = fw s z := by
  by_cases h : z = 0
  · subst h; simp [fw, Format.write, Format.nearest]
  · unfold fw Format.write
    dsimp only
    rw [near_exact s z M h hb]
    have := near_exact s z 0 h hb
    simpa using this.symm

theorem read_word (s : Bool) (L y : Nat) (hL : L ≤ 52) (h1 : 4503599627370496 ≤ y) (h2 : y < 9007199254740992) :
    double.read (double.word s ((1022 + L) * 4503599627370496 + y)) = .number s y (-((52 - L : Nat) : Int)) := by
  have lp : double.leastPlace = -1074 := by decide
  have sw : double.signWeight = 9223372036854775808 := by decide
  have bi : double.binade = 4503599627370496 := by decide
  have ir : double.infRung = 9218868437227405312 := by decide
  obtain ⟨r, hr⟩ : ∃ r, (1022 + L) * 4503599627370496 + y = r := ⟨_, rfl⟩
  have hrr : r < 9223372036854775808 := by omega
  have d1 : double.word s r / 9223372036854775808 % 2 = s.toNat := by
    unfold Format.word; rw [sw]; cases s <;> simp <;> omega
  have d2 : double.word s r % 9223372036854775808 = r := by
    unfold Format.word; rw [sw]; cases s <;> simp <;> omega
  rw [hr]
  unfold Format.read
  dsimp only
  rw [sw, bi, ir, lp, d1, d2]
  have n1 : ¬ r < 4503599627370496 := by omega
  have n2 : r < 9218868437227405312 := by omega
  have n3 : 4503599627370496 + r % 4503599627370496 = y := by omega
  have n4 : r / 4503599627370496 = 1023 + L := by omega
  rw [if_neg n1, if_pos n2, n3, n4]
  have n5 : (-1074 : Int) + ((1023 + L - 1 : Nat) : Int) = -((52 - L : Nat) : Int) := by omega
  rw [n5]
  cases s <;> rfl

theorem read_fw (s : Bool) (z : Nat) (hb : z < 9007199254740992) : ∃ e : Nat, double.read (fw s z) = .number s (z * 2 ^ e) (-(e : Int)) := by
  by_cases h : z = 0
  · subst h
    obtain ⟨e, he⟩ : ∃ e : Nat, e = 1074 := ⟨_, rfl⟩
    refine ⟨e, ?_⟩
    have : double.read (fw s 0) = .number s 0 (-1074) := by cases s <;> decide
    rw [this, Nat.zero_mul, he]
    rfl
  · refine ⟨52 - z.log2, ?_⟩
    have e : fw s z = double.word s ((1022 + z.log2) * 4503599627370496 + z * 2 ^ (52 - z.log2)) := by
      have := near_exact s z 0 h hb
      simpa [fw, Format.write] using this
    rw [e]
    have hs := span52 h hb
    exact read_word s z.log2 _ (log2_le52 h hb) hs.1 hs.2

theorem up_left (e f : Nat) : (-(e : Int) - min (-(e : Int)) (-(f : Int))).toNat = max e f - e := by omega
theorem up_right (e f : Nat) : (-(f : Int) - min (-(e : Int)) (-(f : Int))).toNat = max e f - f := by omega
theorem base_max (e f : Nat) : min (-(e : Int)) (-(f : Int)) = -((max e f : Nat) : Int) := by omega

theorem scale_to (k e m : Nat) (h : e ≤ m) : k * 2 ^ e * 2 ^ (m - e) = k * 2 ^ m := by
  rw [Nat.mul_assoc, ← Nat.pow_add, show e + (m - e) = m from by omega]

theorem sum_num (s t : Bool) (k l e f : Nat) : Datum.sum (.number s (k * 2 ^ e) (-(e : Int))) (.number t (l * 2 ^ f) (-(f : Int)))
    = some (.number (if sv s k + sv t l = 0 then s && t else decide (sv s k + sv t l < 0)) ((sv s k + sv t l).natAbs * 2 ^ (max e f)) (-((max e f : Nat) : Int))) := by
  unfold Datum.sum
  dsimp only
  rw [up_left, up_right, signed_sv, signed_sv, scale_to k e _ (Nat.le_max_left ..), scale_to l f _ (Nat.le_max_right ..), sv_pow, sv_pow, ← Int.add_mul, base_max]
  have hp : (0 : Int) < 2 ^ max e f := Int.pow_pos (by decide)
  generalize sv s k + sv t l = z
  have c0 : z * 2 ^ max e f = 0 ↔ z = 0 := by
    constructor
    · intro h; rcases Int.mul_eq_zero.1 h with h | h
      · exact h
      · omega
    · rintro rfl; simp
  have c1 : z * 2 ^ max e f < 0 ↔ z < 0 := by
    constructor
    · intro h
      rcases Int.lt_trichotomy z 0 with g | g | g
      · exact g
      · subst g; simp at h
      · have := Int.mul_pos g hp; omega
    · intro h; exact Int.mul_neg_of_neg_of_pos h hp
  have c2 : (z * 2 ^ max e f).natAbs = z.natAbs * 2 ^ max e f := by
    rw [Int.natAbs_mul, Int.natAbs_pow]; rfl
  rw [c2]
  simp only [c0, c1]

/-- A word that stands for the whole number n (either zero for 0). -/
def Rep (x : Nat) (n : Int) : Prop := ∃ s : Bool, x = fw s n.natAbs ∧ sv s n.natAbs = n ∧ n.natAbs < 9007199254740992

theorem Rep.sum_some {s t : Bool} {a b : Int} (ha : sv s a.natAbs = a) (hb : sv t b.natAbs = b) (h : (a + b).natAbs < 9007199254740992) (e f : Nat) :
    ∃ r, ((Datum.sum (.number s (a.natAbs * 2 ^ e) (-(e : Int))) (.number t (b.natAbs * 2 ^ f) (-(f : Int)))).map double.write) = some r ∧ Rep r (a + b) := by
  rw [sum_num, ha, hb]
  refine ⟨_, rfl, (if a + b = 0 then s && t else decide (a + b < 0)), write_scaled _ _ _ h, ?_, h⟩
  by_cases h0 : a + b = 0
  · rw [if_pos h0, h0]; cases (s && t) <;> rfl
  · rw [if_neg h0]
    by_cases h1 : a + b < 0
    · simp [h1, sv]; omega
    · simp [h1, sv]; omega

theorem Rep.add {x y : Nat} {a b : Int} (hx : Rep x a) (hy : Rep y b) (h : (a + b).natAbs < 9007199254740992) : ∃ r, floatBits .add .f64 x y = some r ∧ Rep r (a + b) := by
  obtain ⟨s, rfl, ha, ha'⟩ := hx
  obtain ⟨t, rfl, hb, hb'⟩ := hy
  obtain ⟨e, he⟩ := read_fw s _ ha'
  obtain ⟨f, hf⟩ := read_fw t _ hb'
  show ∃ r, ((double.read _).sum (double.read _)).map double.write = some r ∧ _
  rw [he, hf]
  exact Rep.sum_some ha hb h e f

theorem Rep.sub {x y : Nat} {a b : Int} (hx : Rep x a) (hy : Rep y b) (h : (a - b).natAbs < 9007199254740992) : ∃ r, floatBits .sub .f64 x y = some r ∧ Rep r (a - b) := by
  obtain ⟨s, rfl, ha, ha'⟩ := hx
  obtain ⟨t, rfl, hb, hb'⟩ := hy
  obtain ⟨e, he⟩ := read_fw s _ ha'
  obtain ⟨f, hf⟩ := read_fw t _ hb'
  show ∃ r, ((double.read _).sum (double.read _).opposite).map double.write = some r ∧ _
  rw [he, hf]
  have hb2 : sv (!t) (-b).natAbs = -b := by rw [Int.natAbs_neg, sv_not, hb]
  have := Rep.sum_some ha hb2 (by rw [← Int.sub_eq_add_neg]; exact h) e f
  rw [Int.natAbs_neg, ← Int.sub_eq_add_neg] at this
  exact this

theorem compare_scaled (a b : Int) (m : Nat) : compare (a * 2 ^ m) (b * 2 ^ m) = compare a b := by
  have hp : (0 : Int) < 2 ^ m := Int.pow_pos (by decide)
  have e1 : a * 2 ^ m < b * 2 ^ m ↔ a < b := Int.mul_lt_mul_right hp
  have e2 : a * 2 ^ m = b * 2 ^ m ↔ a = b := by
    constructor
    · intro h; exact Int.eq_of_mul_eq_mul_right (by omega) h
    · rintro rfl; rfl
  simp only [compare, compareOfLessAndEq, e1, e2]

theorem Rep.order {x y : Nat} {a b : Int} (hx : Rep x a) (hy : Rep y b) : FloatKind.f64.format.order x y = some (compare a b) := by
  obtain ⟨s, rfl, ha, ha'⟩ := hx
  obtain ⟨t, rfl, hb, hb'⟩ := hy
  obtain ⟨e, he⟩ := read_fw s _ ha'
  obtain ⟨f, hf⟩ := read_fw t _ hb'
  show (double.read _).order (double.read _) = _
  rw [he, hf]
  unfold Datum.order
  dsimp only
  rw [up_left, up_right, signed_sv, signed_sv, scale_to _ e _ (Nat.le_max_left ..), scale_to _ f _ (Nat.le_max_right ..), sv_pow, sv_pow, ha, hb, compare_scaled]

theorem Rep.eq {x y : Nat} {a b : Int} (hx : Rep x a) (hy : Rep y b) : (FloatKind.f64.format.order x y == some .eq) = decide (a = b) := by
  rw [hx.order hy]
  simp only [compare, compareOfLessAndEq]
  by_cases h : a = b
  · subst h; simp
  · by_cases h' : a < b <;> simp [h, h']

theorem Rep.le {x y : Nat} {a b : Int} (hx : Rep x a) (hy : Rep y b) : (FloatKind.f64.format.order x y == some .lt || FloatKind.f64.format.order x y == some .eq) = decide (a ≤ b) := by
  rw [hx.order hy]
  simp only [compare, compareOfLessAndEq]
  by_cases h : a = b
  · subst h; simp
  · by_cases h' : a < b
    · simp [h']; omega
    · simp [h, h']; omega

theorem Rep.toInt {x : Nat} {a : Int} (hx : Rep x a) : floatToIntVal .f64 x .i64 = some a := by
  obtain ⟨s, rfl, ha, ha'⟩ := hx
  obtain ⟨e, he⟩ := read_fw s _ ha'
  have h1 : (FloatKind.f64.decode (fw s a.natAbs)).toInt .zero = some a := by
    show (double.read _).toInt .zero = _
    rw [he]
    unfold Datum.toInt Datum.integral
    dsimp only
    have q1 : (-(e : Int)).toNat = 0 := by omega
    have q2 : (-(-(e : Int))).toNat = e := by omega
    rw [q1, q2, Nat.shiftLeft_zero, cut_exact, signed_sv, Nat.pow_zero, Nat.mul_one, ha]
  unfold floatToIntVal
  rw [h1]
  dsimp only
  have mn : IntKind.i64.min = -9223372036854775808 := by decide
  have mx : IntKind.i64.max = 9223372036854775807 := by decide
  rw [if_pos]
  rw [mn, mx]
  omega

/-- The word of float64(n). -/
def fi (n : Int) : Nat := floatOfInt .f64 n

theorem rep_fi (n : Int) (h : n.natAbs < 9007199254740992) : Rep (fi n) n := by
  refine ⟨decide (n < 0), rfl, ?_, h⟩
  by_cases h1 : n < 0
  · simp [sv, h1]; omega
  · simp [sv, h1]; omega

theorem rep_bits {x : Nat} {n : Int} (hx : fw (decide (n < 0)) n.natAbs = x) (h : n.natAbs < 9007199254740992) : Rep x n := by
  subst hx; exact rep_fi n h

end Go.Proofs.YtnphaaahdlkmhaaGreat.K7
end
