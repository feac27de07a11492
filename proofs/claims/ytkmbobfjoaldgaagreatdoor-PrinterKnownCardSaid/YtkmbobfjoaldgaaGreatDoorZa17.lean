/-
  The document's own sameness of programs: of two that lie apart in memory and are the same it returns true. Conditions: those that each theorem names.
-/
import Derived.Test.YtkmbobfjoaldgaaGreatDoorZa16
import Derived.StillTailTactics
namespace Go.Proofs.YtkmbobfjoaldgaaGreatDoor
open Go.ChangeShapes Go.WideShapes Go.ChangeAt Go.RowKit
set_option maxRecDepth 100000
set_option maxHeartbeats 8000000

/-- Not too much of anything. -/
def dmFit (d : Dm) : Bool := decide (d.vars.length ≤ 1000) && decide (d.acts.length ≤ 1000) && decide (d.goal.length ≤ 1000) && d.acts.all (fun a => decide (a.need.length ≤ 1000) && decide (a.make.length ≤ 1000))
def pgFit (p : Pg) : Bool := decide (p.keys.length ≤ 1000) && decide (p.trees.length ≤ 1000) && decide (p.doms.length ≤ 1000) && p.trees.all (fun t => fitB 40 t.root) && p.doms.all dmFit
theorem kyC_at : ∀ (l : List Ky) (k : Nat) (c : Ky), l[k]? = some c → (kyC l)[k * 3]? = some (.string (bs c.nm)) ∧ (kyC l)[k * 3 + 1]? = some (.int .i64 (c.kd : Int)) ∧ (kyC l)[k * 3 + 2]? = some (.bool c.sh)
  | [], k, c, h => by cases h
  | x :: l, 0, c, h => by
    simp only [List.getElem?_cons_zero, Option.some.injEq] at h
    subst h
    simp [kyC]
  | x :: l, k + 1, c, h => by
    rw [List.getElem?_cons_succ] at h
    obtain ⟨a, b, d⟩ := kyC_at l k c h
    have e : kyC (x :: l) = [.string (bs x.nm), .int .i64 (x.kd : Int), .bool x.sh] ++ kyC l := by simp [kyC]
    have r : ∀ j, (kyC (x :: l))[k * 3 + j + 3]? = (kyC l)[k * 3 + j]? := fun j => by rw [e]; rfl
    refine ⟨?_, ?_, ?_⟩
    · exact (congrArg (fun z => (kyC (x :: l))[z]?) (show (k + 1) * 3 = k * 3 + 0 + 3 by omega)).trans ((r 0).trans a)
    · exact (congrArg (fun z => (kyC (x :: l))[z]?) (show (k + 1) * 3 + 1 = k * 3 + 1 + 3 by omega)).trans ((r 1).trans b)
    · exact (congrArg (fun z => (kyC (x :: l))[z]?) (show (k + 1) * 3 + 2 = k * 3 + 2 + 3 by omega)).trans ((r 2).trans d)
theorem TrAt.len {w : World} {Q : Nat → Prop} {t : Tr} {l : List Value} (h : TrAt w Q t l) : l.length = 11 := by
  obtain ⟨D, ys, rfl, h⟩ := h
  rw [List.length_cons, h.len]
theorem DmAt.len {w : World} {Q : Nat → Prop} {t : Dm} {l : List Value} (h : DmAt w Q t l) : l.length = 4 := by
  obtain ⟨v1, v2, v3, xs, rfl, -⟩ := h
  rfl
/-- A tree among others. -/
structure TKid (w : World) (Q : Nat → Prop) (D g i : Nat) (t : Tr) (e0 e1 : Int) (e2 : ByteArray) (A : Option Addr) (m c : Nat) (A1 : Option Addr) (c1 : Nat) (A2 : Option Addr) (c2 : Nat) : Prop where
  lt : g < w.heap.size
  kn : w.cell? ⟨g, i * 11, none⟩ = some (.string (bs t.nm))
  k0 : w.cell? ⟨g, i * 11 + 1, none⟩ = some (.int .i64 (t.root.kd : Int))
  k1 : w.cell? ⟨g, i * 11 + 2, none⟩ = some (.int .i64 (t.root.a : Int))
  k2 : w.cell? ⟨g, i * 11 + 3, none⟩ = some (.int .i64 (t.root.b : Int))
  k3 : w.cell? ⟨g, i * 11 + 4, none⟩ = some (.string (bs t.root.nm))
  k4 : w.cell? ⟨g, i * 11 + 5, none⟩ = some (.int .i64 e0)
  k5 : w.cell? ⟨g, i * 11 + 6, none⟩ = some (.int .i64 e1)
  k6 : w.cell? ⟨g, i * 11 + 7, none⟩ = some (.string e2)
  k7 : w.cell? ⟨g, i * 11 + 8, none⟩ = some (.slice A m c)
  k8 : w.cell? ⟨g, i * 11 + 9, none⟩ = some (.slice A1 t.root.ks.length c1)
  k9 : w.cell? ⟨g, i * 11 + 10, none⟩ = some (.slice A2 t.root.ws.length c2)
  nt : NT w Q D t.root [.int .i64 (t.root.kd : Int), .int .i64 (t.root.a : Int), .int .i64 (t.root.b : Int), .string (bs t.root.nm), .int .i64 e0, .int .i64 e1, .string e2, .slice A m c, .slice A1 t.root.ks.length c1, .slice A2 t.root.ws.length c2]
theorem tree_at {w : World} {Q : Nat → Prop} {ts : List Tr} {A : Option Addr} {n c : Nat} {xs : List Value} (hs : SlAt w Q (.slice A n c) n xs) (hl : LsAt (TrAt w Q) ts xs) (i : Nat) (t : Tr) (hi : ts[i]? = some t) :
    ∃ D g e0 e1 e2 B m c' A1 c1 A2 c2, A = some ⟨g, 0, none⟩ ∧ TKid w Q D g i t e0 e1 e2 B m c' A1 c1 A2 c2 := by
  obtain ⟨ys, hy, hc⟩ := hl.at_ (s := 11) (fun a ys h => h.len) i t hi
  obtain ⟨D, zs, rfl, hN⟩ := hy
  have hN0 := hN
  cases D with
  | zero => exact hN.elim
  | succ D =>
    obtain ⟨e0, e1, s, B, m, c', kv, wv, us, vs, rfl, hx, hk, -, hw, -⟩ := hN
    obtain ⟨A1, c1, rfl, -⟩ := hk
    obtain ⟨A2, c2, rfl, -⟩ := hw
    obtain ⟨A', c'', he, hA⟩ := hs
    cases he
    obtain ⟨g, hg, -, hlt, -⟩ := hA (i * 11 + 0) _ ((hc 0 (by decide)).trans rfl)
    have hcell : ∀ (j : Nat) (v : Value), j < 11 → ([Value.string (bs t.nm), Value.int .i64 (t.root.kd : Int), .int .i64 (t.root.a : Int), .int .i64 (t.root.b : Int), .string (bs t.root.nm), .int .i64 e0, .int .i64 e1, .string s, .slice B m c', .slice A1 t.root.ks.length c1, .slice A2 t.root.ws.length c2] : List Value)[j]? = some v → w.cell? ⟨g, i * 11 + j, none⟩ = some v := by
      intro j v hj hv
      obtain ⟨g', hg', -, -, hcc⟩ := hA (i * 11 + j) v ((hc j hj).trans hv)
      rw [hg] at hg'
      cases hg'
      exact hcc
    exact ⟨D + 1, g, e0, e1, s, B, m, c', A1, c1, A2, c2, hg, hlt, hcell 0 _ (by decide) rfl, hcell 1 _ (by decide) rfl, hcell 2 _ (by decide) rfl, hcell 3 _ (by decide) rfl, hcell 4 _ (by decide) rfl, hcell 5 _ (by decide) rfl, hcell 6 _ (by decide) rfl, hcell 7 _ (by decide) rfl, hcell 8 _ (by decide) rfl, hcell 9 _ (by decide) rfl, hcell 10 _ (by decide) rfl, hN0⟩
/-- A domain among others. -/
theorem dom_at {w : World} {Q : Nat → Prop} {A : Option Addr} {n c i : Nat} {l : List Dm} {xs : List Value} {d : Dm} (h : SlAt w Q (.slice A n c) n xs) (hl : LsAt (DmAt w Q) l xs) (hd : l[i]? = some d) :
    ∃ g A1 c1 A2 c2 A3 c3 ys, A = some ⟨g, 0, none⟩ ∧ w.cell? ⟨g, i * 4, none⟩ = some (.string (bs d.nm)) ∧ w.cell? ⟨g, i * 4 + 1, none⟩ = some (.slice A1 d.vars.length c1) ∧ w.cell? ⟨g, i * 4 + 2, none⟩ = some (.slice A2 d.acts.length c2) ∧ w.cell? ⟨g, i * 4 + 3, none⟩ = some (.slice A3 d.goal.length c3) ∧
      SlAt w Q (.slice A1 d.vars.length c1) d.vars.length (vaC d.vars) ∧ SlAt w Q (.slice A2 d.acts.length c2) d.acts.length ys ∧ LsAt (AcAt w Q) d.acts ys ∧ SlAt w Q (.slice A3 d.goal.length c3) d.goal.length (cnC d.goal) := by
  obtain ⟨ys, ⟨v1, v2, v3, zs, rfl, s1, s2, s3, s4⟩, hj⟩ := hl.at_ (s := 4) (fun a ys hy => hy.len) i d hd
  obtain ⟨A1, c1, rfl, r1⟩ := s1
  obtain ⟨A2, c2, rfl, r2⟩ := s2
  obtain ⟨A3, c3, rfl, r3⟩ := s4
  obtain ⟨g, rfl, k0, k1, k2, k3⟩ := h.cells4 (i := i) (hj 0 (by decide)) (hj 1 (by decide)) (hj 2 (by decide)) (hj 3 (by decide))
  exact ⟨g, A1, c1, A2, c2, A3, c3, zs, rfl, k0, k1, k2, k3, ⟨A1, c1, rfl, r1⟩, ⟨A2, c2, rfl, r2⟩, s3, ⟨A3, c3, rfl, r3⟩⟩
attribute [local go_sem ↓] loadNd_of
theorem sameprog_any {p : Pg} (hf : pgFit p = true) {w : World} {Q R : Nat → Prop} {A1 A2 A3 B1 B2 B3' : Option Addr} {n1 n2 n3 m1 m2 m3 c1 c2 c3 d1 d2 d3 : Nat} (h1 : PgAt w Q p [.slice A1 n1 c1, .slice A2 n2 c2, .slice A3 n3 c3]) (h2 : PgAt w R p [.slice B1 m1 d1, .slice B2 m2 d2, .slice B3' m3 d3]) :
    Calls Tryz.prog 9 #[.agg #[.slice A1 n1 c1, .slice A2 n2 c2, .slice A3 n3 c3], .agg #[.slice B1 m1 d1, .slice B2 m2 d2, .slice B3' m3 d3]] w fun e w' => e = .returned (.bool true) ∧ Touch NoB w w' := by
  simp only [pgFit, Bool.and_eq_true, List.all_eq_true, decide_eq_true_eq] at hf
  obtain ⟨⟨⟨⟨hf1, hf2⟩, hf3⟩, hf4⟩, hf5⟩ := hf
  obtain ⟨v1, v2, v3, xs, ys, e, x1, x2, x3, x4, x5⟩ := h1
  obtain ⟨z1, z2, z3, xs', ys', e', y1, y2, y3, y4, y5⟩ := h2
  simp only [List.cons.injEq, and_true] at e e'
  obtain ⟨rfl, rfl, rfl⟩ := e
  obtain ⟨rfl, rfl, rfl⟩ := e'
  obtain ⟨e1, e2, e3⟩ : n1 = p.keys.length ∧ n2 = p.trees.length ∧ n3 = p.doms.length := by
    obtain ⟨_, _, e1, -⟩ := x1
    obtain ⟨_, _, e2, -⟩ := x2
    obtain ⟨_, _, e3, -⟩ := x4
    cases e1; cases e2; cases e3; exact ⟨rfl, rfl, rfl⟩
  obtain ⟨e1', e2', e3'⟩ : m1 = p.keys.length ∧ m2 = p.trees.length ∧ m3 = p.doms.length := by
    obtain ⟨_, _, e1, -⟩ := y1
    obtain ⟨_, _, e2, -⟩ := y2
    obtain ⟨_, _, e3, -⟩ := y4
    cases e1; cases e2; cases e3; exact ⟨rfl, rfl, rfl⟩
  obtain ⟨K, hK⟩ : ∃ K, p.keys.length = K := ⟨_, rfl⟩
  obtain ⟨T, hT⟩ : ∃ K, p.trees.length = K := ⟨_, rfl⟩
  obtain ⟨O, hO⟩ : ∃ K, p.doms.length = K := ⟨_, rfl⟩
  rw [hK] at e1 e1' hf1 x1 y1
  rw [hT] at e2 e2' hf2 x2 y2
  rw [hO] at e3 e3' hf3 x4 y4
  subst e1 e2 e3 e1' e2' e3'
  have HX := Lib.hid (And.intro x1 (And.intro x2 (And.intro x3 (And.intro x4 x5))))
  have HY := Lib.hid (And.intro y1 (And.intro y2 (And.intro y3 (And.intro y4 y5))))
  have HF := Lib.hid (And.intro hf4 hf5)
  have HK := Lib.hid (And.intro hK (And.intro hT hO))
  obtain ⟨W1, hW1⟩ : ∃ W, w.alloc (.cells #[.slice A1 m1 c1, .slice A2 m2 c2, .slice A3 m3 c3] 29) = W := ⟨_, rfl⟩
  obtain ⟨W0, hW0⟩ : ∃ W, W1.alloc (.cells #[.slice B1 m1 d1, .slice B2 m2 d2, .slice B3' m3 d3] 29) = W := ⟨_, rfl⟩
  have t1 : Touch NoB w W1 := by rw [← hW1]; exact (Touch.refl _ _).alloc _
  have t2 : Touch NoB W1 W0 := by rw [← hW0]; exact (Touch.refl _ _).alloc _
  have hA : B3 W0 29 w.heap.size (.slice A1 m1 c1) (.slice A2 m2 c2) (.slice A3 m3 c3) := by
    have hx : B3 W1 29 w.heap.size (.slice A1 m1 c1) (.slice A2 m2 c2) (.slice A3 m3 c3) := by rw [← hW1]; exact B3.new w _ _ _ _ rfl
    exact (t2.block _ (blk_lt hx) (fun x => x)).trans hx
  have hB : B3 W0 29 W1.heap.size (.slice B1 m1 d1) (.slice B2 m2 d2) (.slice B3' m3 d3) := by
    rw [← hW0]
    exact B3.new _ _ _ _ _ rfl
  have HT0 := Lib.hid (t1.same t2)
  have HCS := Lib.hid (fun (W : World) (t : Touch NoB W0 W) => And.intro (B3.cells ((t.block _ (blk_lt hA) (fun x => x)).trans hA)) (B3.cells ((t.block _ (blk_lt hB) (fun x => x)).trans hB)))
  obtain ⟨aa0, aa1, aa2, aal⟩ := hA.cells
  obtain ⟨bb0, bb1, bb2, bbl⟩ := hB.cells
  have dk : ((m1 : Int) != (m1 : Int)) = false := by simp
  have dt : ((m2 : Int) != (m2 : Int)) = false := by simp
  have dd : ((m3 : Int) != (m3 : Int)) = false := by simp
  clear x1 x2 x3 x4 x5 y1 y2 y3 y4 y5 hf4 hf5 hK hT hO t1 t2 hA hB
  go_enter Tryz.func9, Tryz.ntmps9
  go_wp2
  go_loopw [5] (fun v5 wr => SrRel m1 W0 v5 wr) (fun v5 _ => m1 - (intOf v5).toNat)
  case atStart => exact ⟨0, Nat.zero_le _, rfl, Touch.refl _ _⟩
  case round =>
    obtain ⟨i, hi, rfl, hTr⟩ := hrel
    obtain ⟨⟨r0, r1, r2, rl⟩, s0, s1, s2, sl⟩ := HCS.out wr hTr
    by_cases hlt : i < m1
    · have r0' : wr.drew.cell? ⟨w.heap.size, 0, none⟩ = some (.slice A1 m1 c1) := r0
      have s0' : wr.drew.cell? ⟨W1.heap.size, 0, none⟩ = some (.slice B1 m1 d1) := s0
      obtain ⟨t, ht⟩ : ∃ t, p.keys[i]? = some t := ⟨p.keys[i]'(by rw [HK.out.1]; exact hlt), List.getElem?_eq_getElem _⟩
      obtain ⟨e0, e1', e2'⟩ := kyC_at p.keys i t ht
      obtain ⟨g1, rfl, a0, a1, a2⟩ := (HX.out.1.touch (HT0.out.same hTr) (fun _ _ x => x)).cells3 e0 e1' e2'
      obtain ⟨g2, rfl, b0, b1, b2⟩ := (HY.out.1.touch (HT0.out.same hTr) (fun _ _ x => x)).cells3 e0 e1' e2'
      obtain ⟨sx, hsx⟩ : ∃ sx, bs t.nm = sx := ⟨_, rfl⟩
      rw [hsx] at a0 b0
      obtain ⟨kd, hkd⟩ : ∃ kd, t.kd = kd := ⟨_, rfl⟩
      rw [hkd] at a1 b1
      obtain ⟨nn, hnn⟩ : ∃ nn, t.sh = nn := ⟨_, rfl⟩
      rw [hnn] at a2 b2
      have p0 : wr.drew.cell? ⟨g1, i * 3, none⟩ = some (.string sx) := a0
      have p1 : wr.drew.cell? ⟨g1, i * 3 + 1, none⟩ = some (.int .i64 kd) := a1
      have p2 : wr.drew.cell? ⟨g1, i * 3 + 2, none⟩ = some (.bool nn) := a2
      have q0 : wr.drew.cell? ⟨g2, i * 3, none⟩ = some (.string sx) := b0
      have q1 : wr.drew.cell? ⟨g2, i * 3 + 1, none⟩ = some (.int .i64 kd) := b1
      have q2 : wr.drew.cell? ⟨g2, i * 3 + 2, none⟩ = some (.bool nn) := b2
      have e3 : ((kd : Int) == (kd : Int)) = true := by simp
      have e4 : (nn == nn) = true := by simp
      have e5 : (sx.toList == sx.toList) = true := by simp
      have HT := Lib.hid hTr
      clear hTr ht a0 a1 a2 b0 b1 b2 hsx hkd hnn e0 e1' e2'
      go_wp2
      go_region
      go_wp2
      go_roundw
      case rel => exact ⟨i + 1, by omega, by go_num, HT.out.drew⟩
      case measure => simp [intOf]; omega
    · obtain rfl : i = m1 := by omega
      have HT := Lib.hid hTr
      clear hTr
      go_wp2
      go_loopw [6] (fun v5 wr => SrRel m2 W0 v5 wr) (fun v5 _ => m2 - (intOf v5).toNat)
      case atStart => exact ⟨0, Nat.zero_le _, rfl, HT.out⟩
      case round =>
        obtain ⟨i, hi, rfl, hTr⟩ := hrel
        obtain ⟨⟨r0, r1, r2, rl⟩, s0, s1, s2, sl⟩ := HCS.out wr hTr
        by_cases hlt : i < m2
        · have td : Touch NoB wr wr.drew := (Touch.refl _ _).drew
          have tw := (HT0.out.same hTr).same td
          have r1' : wr.drew.cell? ⟨w.heap.size, 1, none⟩ = some (.slice A2 m2 c2) := r1
          have s1' : wr.drew.cell? ⟨W1.heap.size, 1, none⟩ = some (.slice B2 m2 d2) := s1
          obtain ⟨t, ht⟩ : ∃ t, p.trees[i]? = some t := ⟨p.trees[i]'(by rw [HK.out.2.1]; exact hlt), List.getElem?_eq_getElem _⟩
          obtain ⟨D1, g, f0, f1, f2, C, cm, cc, C1, e1, C2, e2, rfl, hk⟩ := tree_at (HX.out.2.1.touch tw (fun _ _ x => x)) (HX.out.2.2.1.mono (fun x ys hx => hx.touch tw (fun _ _ x => x))) i t ht
          obtain ⟨D2, g', f0', f1', f2', C', cm', cc', C1', e1', C2', e2', rfl, hk'⟩ := tree_at (HY.out.2.1.touch tw (fun _ _ x => x)) (HY.out.2.2.1.mono (fun x ys hx => hx.touch tw (fun _ _ x => x))) i t ht
          obtain ⟨kl, kn, k0, k1, k2, k3, k4, k5, k6, k7, k8, k9, hnt⟩ := hk
          obtain ⟨kl', kn', k0', k1', k2', k3', k4', k5', k6', k7', k8', k9', hnt'⟩ := hk'
          have HR := Lib.hid (samenode_any 40 t.root (HF.out.1 t (List.mem_of_getElem? ht)) wr.drew _ _ _ _ _ _ _ _ _ _ _ _ _ _ _ _ _ _ _ _ _ _ _ _ hnt hnt')
          have hld := run_LoadNd wr.drew g (i * 11 + 1) _ rfl (range10 k0 k1 k2 k3 k4 k5 k6 k7 k8 k9)
          have hld' := run_LoadNd wr.drew g' (i * 11 + 1) _ rfl (range10 k0' k1' k2' k3' k4' k5' k6' k7' k8' k9')
          clear k0 k1 k2 k3 k4 k5 k6 k7 k8 k9 k0' k1' k2' k3' k4' k5' k6' k7' k8' k9'
          obtain ⟨nm, hnm⟩ : ∃ nm, bs t.nm = nm := ⟨_, rfl⟩
          rw [hnm] at kn kn'
          have e5 : (nm.toList == nm.toList) = true := by simp
          have HT3 := Lib.hid (hTr.same td)
          clear hTr hnt hnt' ht td tw hnm
          go_wp2_with fail
          go_still_tail 26, (by kernel_rfl)
          change wpList _ _ _ _ _ wr.drew
          go_wp2_with fail
          refine HR.out.mono ?_
          rintro r w3 ⟨rfl, hT3⟩
          have HT4 := Lib.hid (HT3.out.same hT3)
          clear hT3
          all_goals
            go_wp2
            go_roundw
            case rel => exact ⟨i + 1, by omega, by go_num, HT4.out⟩
            case measure => simp [intOf]; omega
        · obtain rfl : i = m2 := by omega
          have HT := Lib.hid hTr
          clear hTr
          go_wp2
          go_loopw [7] (fun v5 wr => SrRel m3 W0 v5 wr) (fun v5 _ => m3 - (intOf v5).toNat)
          case atStart => exact ⟨0, Nat.zero_le _, rfl, HT.out⟩
          case round =>
            obtain ⟨i, hi, rfl, hTr⟩ := hrel
            obtain ⟨⟨r0, r1, r2, rl⟩, s0, s1, s2, sl⟩ := HCS.out wr hTr
            by_cases hlt : i < m3
            · have td : Touch NoB wr wr.drew := (Touch.refl _ _).drew
              have tw := (HT0.out.same hTr).same td
              have r2' : wr.drew.cell? ⟨w.heap.size, 2, none⟩ = some (.slice A3 m3 c3) := r2
              have s2' : wr.drew.cell? ⟨W1.heap.size, 2, none⟩ = some (.slice B3' m3 d3) := s2
              obtain ⟨d, hd⟩ : ∃ d, p.doms[i]? = some d := ⟨p.doms[i]'(by rw [HK.out.2.2]; exact hlt), List.getElem?_eq_getElem _⟩
              obtain ⟨g, F1, e1, F2, e2, F3, e3, us, rfl, k0, k1, k2, k3, q1, q2, q3, q4⟩ := dom_at (HX.out.2.2.2.1.touch tw (fun _ _ x => x)) (HX.out.2.2.2.2.mono (fun x ys hx => hx.touch tw (fun _ _ x => x))) hd
              obtain ⟨g', F1', e1', F2', e2', F3', e3', us', rfl, k0', k1', k2', k3', q1', q2', q3', q4'⟩ := dom_at (HY.out.2.2.2.1.touch tw (fun _ _ x => x)) (HY.out.2.2.2.2.mono (fun x ys hx => hx.touch tw (fun _ _ x => x))) hd
              have hdf := HF.out.2 d (List.mem_of_getElem? hd)
              simp only [dmFit, Bool.and_eq_true, List.all_eq_true, decide_eq_true_eq] at hdf
              obtain ⟨⟨⟨hd1, hd2⟩, hd3⟩, hd4⟩ := hdf
              have HR := Lib.hid (samedom_any (nm := bs d.nm) rfl (by omega) rfl (by omega) rfl (by omega) (fun a ha => by have := hd4 a ha; omega) q1 q1' q2 q2' q3 q3' q4 q4')
              have HT3 := Lib.hid (hTr.same td)
              clear hTr q1 q2 q3 q4 q1' q2' q3' q4' hd td tw hd1 hd2 hd3 hd4
              go_wp2_with fail
              go_region_law (go_simp; go_at_call 19; refine HR.out.mono ?_; rintro r w3 ⟨rfl, hT3⟩; have HT4 := Lib.hid (HT3.out.same hT3); clear hT3)
              all_goals
                go_wp2
                go_roundw
                case rel => exact ⟨i + 1, by omega, by go_num, HT4.out⟩
                case measure => simp [intOf]; omega
            · obtain rfl : i = m3 := by omega
              have HT := Lib.hid hTr
              clear hTr
              go_wp2
              go_ret
              exact ⟨rfl, HT0.out.same HT.out⟩
end Go.Proofs.YtkmbobfjoaldgaaGreatDoor

/-
  Sameness of programs over lists, told by a plain function; the texts of TreeSame: each pair comes to the same program. Lists alone.
-/
namespace Go.Proofs.YtkmbobfjoaldgaaGreatDoor
set_option maxRecDepth 100000

def allEq {α : Type} (r : α → α → Bool) : List α → List α → Bool
  | [], [] => true
  | a :: l, b :: m => r a b && allEq r l m
  | _, _ => false
theorem allEq_eq {α : Type} {r : α → α → Bool} (h : ∀ a b, r a b = true → a = b) : ∀ (l m : List α), allEq r l m = true → l = m
  | [], [], _ => rfl
  | a :: l, b :: m, e => by
    simp only [allEq, Bool.and_eq_true] at e
    rw [h a b e.1, allEq_eq h l m e.2]
  | [], b :: m, e => by simp [allEq] at e
  | a :: l, [], e => by simp [allEq] at e
def ndE : Nat → Nd → Nd → Bool
  | 0, _, _ => false
  | f + 1, .mk k a b nm ex ks ws, .mk k' a' b' nm' ex' ks' ws' => decide (k = k') && decide (a = a') && decide (b = b') && decide (nm = nm') && ex.same ex' && allEq (ndE f) ks ks' && allEq Ex.same ws ws'
theorem ndE_eq : ∀ (f : Nat) (x y : Nd), ndE f x y = true → x = y
  | 0, _, _, h => by simp [ndE] at h
  | f + 1, .mk k a b nm ex ks ws, .mk k' a' b' nm' ex' ks' ws', h => by
    simp only [ndE, Bool.and_eq_true, decide_eq_true_eq] at h
    obtain ⟨⟨⟨⟨⟨⟨rfl, rfl⟩, rfl⟩, rfl⟩, h1⟩, h2⟩, h3⟩ := h
    rw [Ex.same_eq _ _ h1, allEq_eq (ndE_eq f) _ _ h2, allEq_eq Ex.same_eq _ _ h3]
def kyE (x y : Ky) : Bool := decide (x.nm = y.nm) && decide (x.kd = y.kd) && (x.sh == y.sh)
theorem kyE_eq (x y : Ky) (h : kyE x y = true) : x = y := by
  obtain ⟨a, b, c⟩ := x
  obtain ⟨a', b', c'⟩ := y
  simp only [kyE, Bool.and_eq_true, decide_eq_true_eq, beq_iff_eq] at h
  obtain ⟨⟨rfl, rfl⟩, rfl⟩ := h
  rfl
def vaE (x y : Va) : Bool := decide (x.nm = y.nm) && decide (x.lo = y.lo) && decide (x.hi = y.hi)
theorem vaE_eq (x y : Va) (h : vaE x y = true) : x = y := by
  obtain ⟨a, b, c⟩ := x
  obtain ⟨a', b', c'⟩ := y
  simp only [vaE, Bool.and_eq_true, decide_eq_true_eq] at h
  obtain ⟨⟨rfl, rfl⟩, rfl⟩ := h
  rfl
def cnE (x y : Cn) : Bool := decide (x.nm = y.nm) && decide (x.op = y.op) && decide (x.n = y.n)
theorem cnE_eq (x y : Cn) (h : cnE x y = true) : x = y := by
  obtain ⟨a, b, c⟩ := x
  obtain ⟨a', b', c'⟩ := y
  simp only [cnE, Bool.and_eq_true, decide_eq_true_eq] at h
  obtain ⟨⟨rfl, rfl⟩, rfl⟩ := h
  rfl
def mkE (x y : Mk) : Bool := decide (x.nm = y.nm) && (x.add == y.add) && decide (x.n = y.n)
theorem mkE_eq (x y : Mk) (h : mkE x y = true) : x = y := by
  obtain ⟨a, b, c⟩ := x
  obtain ⟨a', b', c'⟩ := y
  simp only [mkE, Bool.and_eq_true, decide_eq_true_eq, beq_iff_eq] at h
  obtain ⟨⟨rfl, rfl⟩, rfl⟩ := h
  rfl
def acE (x y : Ac) : Bool := decide (x.nm = y.nm) && decide (x.cost = y.cost) && allEq cnE x.need y.need && allEq mkE x.make y.make
theorem acE_eq (x y : Ac) (h : acE x y = true) : x = y := by
  obtain ⟨a, b, c, d⟩ := x
  obtain ⟨a', b', c', d'⟩ := y
  simp only [acE, Bool.and_eq_true, decide_eq_true_eq] at h
  obtain ⟨⟨⟨rfl, rfl⟩, h1⟩, h2⟩ := h
  rw [allEq_eq cnE_eq _ _ h1, allEq_eq mkE_eq _ _ h2]
def dmE (x y : Dm) : Bool := decide (x.nm = y.nm) && allEq vaE x.vars y.vars && allEq acE x.acts y.acts && allEq cnE x.goal y.goal
theorem dmE_eq (x y : Dm) (h : dmE x y = true) : x = y := by
  obtain ⟨a, b, c, d⟩ := x
  obtain ⟨a', b', c', d'⟩ := y
  simp only [dmE, Bool.and_eq_true, decide_eq_true_eq] at h
  obtain ⟨⟨⟨rfl, h1⟩, h2⟩, h3⟩ := h
  rw [allEq_eq vaE_eq _ _ h1, allEq_eq acE_eq _ _ h2, allEq_eq cnE_eq _ _ h3]
def trE (x y : Tr) : Bool := decide (x.nm = y.nm) && ndE 41 x.root y.root
theorem trE_eq (x y : Tr) (h : trE x y = true) : x = y := by
  obtain ⟨a, b⟩ := x
  obtain ⟨a', b'⟩ := y
  simp only [trE, Bool.and_eq_true, decide_eq_true_eq] at h
  obtain ⟨rfl, h1⟩ := h
  rw [ndE_eq _ _ _ h1]
def pgE (x y : Pg) : Bool := allEq kyE x.keys y.keys && allEq trE x.trees y.trees && allEq dmE x.doms y.doms
theorem pgE_eq (x y : Pg) (h : pgE x y = true) : x = y := by
  obtain ⟨a, b, c⟩ := x
  obtain ⟨a', b', c'⟩ := y
  simp only [pgE, Bool.and_eq_true] at h
  obtain ⟨⟨h1, h2⟩, h3⟩ := h
  rw [allEq_eq kyE_eq _ _ h1, allEq_eq trE_eq _ _ h2, allEq_eq dmE_eq _ _ h3]
/-- The pairs of texts. -/
def tsP : List (Bs × Bs) := [
  ([116, 114, 101, 101, 32, 116, 123, 111, 107, 59, 125], [116, 114, 101, 101, 32, 116, 32, 123, 32, 47, 47, 32, 120, 10, 32, 111, 107, 32, 59, 32, 125]),
  ([100, 111, 109, 97, 105, 110, 32, 100, 32, 123, 32, 103, 111, 97, 108, 32, 118, 32, 62, 61, 32, 49, 59, 32, 118, 97, 114, 32, 118, 32, 48, 32, 49, 59, 32, 125], [100, 111, 109, 97, 105, 110, 32, 100, 32, 123, 32, 118, 97, 114, 32, 118, 32, 48, 32, 49, 59, 32, 103, 111, 97, 108, 32, 118, 32, 62, 61, 32, 49, 59, 32, 125]),
  ([100, 111, 109, 97, 105, 110, 32, 100, 32, 123, 32, 97, 99, 116, 32, 97, 32, 99, 111, 115, 116, 32, 49, 32, 123, 32, 109, 97, 107, 101, 32, 118, 32, 61, 32, 49, 59, 32, 110, 101, 101, 100, 32, 118, 32, 61, 61, 32, 48, 59, 32, 125, 32, 125], [100, 111, 109, 97, 105, 110, 32, 100, 32, 123, 32, 97, 99, 116, 32, 97, 32, 99, 111, 115, 116, 32, 49, 32, 123, 32, 110, 101, 101, 100, 32, 118, 32, 61, 61, 32, 48, 59, 32, 109, 97, 107, 101, 32, 118, 32, 61, 32, 49, 59, 32, 125, 32, 125]),
  ([107, 101, 121, 32, 111, 119, 110, 32, 97, 32, 105, 110, 116, 59, 32, 116, 114, 101, 101, 32, 116, 32, 123, 32, 111, 107, 59, 32, 125, 32, 107, 101, 121, 32, 111, 119, 110, 32, 98, 32, 105, 110, 116, 59], [107, 101, 121, 32, 111, 119, 110, 32, 97, 32, 105, 110, 116, 59, 32, 107, 101, 121, 32, 111, 119, 110, 32, 98, 32, 105, 110, 116, 59, 32, 116, 114, 101, 101, 32, 116, 32, 123, 32, 111, 107, 59, 32, 125]),
  ([100, 111, 109, 97, 105, 110, 32, 100, 32, 123, 32, 97, 99, 116, 32, 97, 32, 99, 111, 115, 116, 32, 49, 32, 123, 32, 109, 97, 107, 101, 32, 118, 32, 43, 32, 48, 59, 32, 125, 32, 125], [100, 111, 109, 97, 105, 110, 32, 100, 32, 123, 32, 97, 99, 116, 32, 97, 32, 99, 111, 115, 116, 32, 49, 32, 123, 32, 109, 97, 107, 101, 32, 118, 32, 45, 32, 48, 59, 32, 125, 32, 125]),
  ([116, 114, 101, 101, 32, 116, 32, 123, 32, 105, 102, 32, 40, 97, 41, 59, 32, 125], [116, 114, 101, 101, 32, 116, 32, 123, 32, 105, 102, 32, 97, 59, 32, 125]),
  ([100, 111, 109, 97, 105, 110, 32, 100, 32, 123, 32, 125, 32, 116, 114, 101, 101, 32, 116, 32, 123, 32, 111, 107, 59, 32, 125], [116, 114, 101, 101, 32, 116, 32, 123, 32, 111, 107, 59, 32, 125, 32, 100, 111, 109, 97, 105, 110, 32, 100, 32, 123, 32, 125]),
  ([100, 111, 109, 97, 105, 110, 32, 100, 32, 123, 32, 118, 97, 114, 32, 118, 32, 45, 32, 49, 32, 50, 59, 32, 125], [100, 111, 109, 97, 105, 110, 32, 100, 32, 123, 32, 118, 97, 114, 32, 118, 32, 45, 49, 32, 50, 59, 32, 125])]
def tsF (p : Bs × Bs) : Bool := match parP p.1, parP p.2 with
  | .ok a, .ok b => pgE a b && pgFit a && decide (p.1.length ≤ 100) && decide (p.2.length ≤ 100)
  | _, _ => false
theorem tsP_all : tsP.all tsF = true := by decide +kernel
theorem tsP_at {i : Nat} {p : Bs × Bs} (h : tsP[i]? = some p) : ∃ a, parP p.1 = .ok a ∧ parP p.2 = .ok a ∧ pgFit a = true ∧ p.1.length ≤ 100 ∧ p.2.length ≤ 100 := by
  have := List.all_eq_true.1 tsP_all p (List.mem_of_getElem? h)
  unfold tsF at this
  split at this
  · rename_i a b h1 h2
    simp only [Bool.and_eq_true, decide_eq_true_eq] at this
    obtain ⟨⟨⟨hab, hf⟩, l1⟩, l2⟩ := this
    obtain rfl := pgE_eq _ _ hab
    exact ⟨a, h1, h2, hf, l1, l2⟩
  · cases this
end Go.Proofs.YtkmbobfjoaldgaaGreatDoor

/-
  TreeSame: programs that are written otherwise are the same. Conditions: the listed variables read as they are laid.
-/
namespace Go.Proofs.YtkmbobfjoaldgaaGreatDoor
open Go.ChangeShapes Go.WideShapes Go.ChangeAt Go.RowKit
set_option maxRecDepth 100000
set_option maxHeartbeats 8000000

def tsC (p : Bs × Bs) : List Value := [.string (bs p.1), .string (bs p.2)]
def tsA : Array Value := (tsP.flatMap tsC).toArray
theorem ts2_at (l : List (Bs × Bs)) : ∀ (i : Nat) (p : Bs × Bs), l[i]? = some p → (l.flatMap tsC)[i * 2]? = some (.string (bs p.1)) ∧ (l.flatMap tsC)[i * 2 + 1]? = some (.string (bs p.2)) := by
  induction l with
  | nil => intro i p h; cases h
  | cons a r ih =>
    intro i p h
    rw [List.flatMap_cons]
    have hl : (tsC a).length = 2 := rfl
    cases i with
    | zero => simp only [List.getElem?_cons_zero, Option.some.injEq] at h; subst h; exact ⟨rfl, rfl⟩
    | succ i =>
      have := ih i p (by simpa using h)
      refine ⟨?_, ?_⟩
      · rw [List.getElem?_append_right (by rw [hl]; omega), hl, show (i + 1) * 2 - 2 = i * 2 from by omega]; exact this.1
      · rw [List.getElem?_append_right (by rw [hl]; omega), hl, show (i + 1) * 2 + 1 - 2 = i * 2 + 1 from by omega]; exact this.2
theorem tsame_out (k : Int) (w : World) (h : k < 0 ∨ 8 ≤ k) (hev : E2 w) : Calls Tryz.prog 3 #[.int .i64 k] w fun e w' => e = .returned (.bool true) ∧ Touch NoB w w' := by
  have HA := Lib.hid (alive_any w hev)
  clear hev
  rcases h with h | h
  · have h0 : decide (k < 0) = true := by simpa using h
    go_enter Tryz.func3, Tryz.ntmps3
    go_wp2_with fail
    refine HA.out.mono ?_
    rintro e w1 ⟨rfl, hT1⟩
    have HT := Lib.hid hT1
    clear hT1
    go_wp2
    go_ret
    exact ⟨rfl, HT.out.alloc _⟩
  · have h0 : decide (k < 0) = false := by simp; omega
    have h1 : decide (8 ≤ k) = true := by simpa using h
    go_enter Tryz.func3, Tryz.ntmps3
    go_wp2_with fail
    refine HA.out.mono ?_
    rintro e w1 ⟨rfl, hT1⟩
    have HT := Lib.hid hT1
    clear hT1
    go_wp2
    go_ret
    exact ⟨rfl, HT.out.alloc _⟩
/-- What Parse returns of a text that is a program. -/
theorem parse_ok {w : World} {s : ByteArray} {b : Bs} {p : Pg} (hb : s.data.toList = b) (hl : b.length ≤ 1000) (hp : parP b = .ok p) {cap : Nat} {A : Option Addr} (hc1 : s.size ≤ cap) (hc2 : cap ≤ 9223372036854775807) (hB : BAt w A b) (he : E2 w) :
    Calls Tryz.prog 7 #[.slice A s.size cap] w fun e w' => Touch NoB w w' ∧ ∃ A1 n1 c1 A2 n2 c2 A3 n3 c3, e = .returned (.tuple #[.agg #[.slice A1 n1 c1, .slice A2 n2 c2, .slice A3 n3 c3], .int .i64 (s.size : Int), .int .i64 0]) ∧ PgAt w' (fun k => w.heap.size ≤ k) p [.slice A1 n1 c1, .slice A2 n2 c2, .slice A3 n3 c3] := by
  have hs : b.length = s.size := by rw [← hb]; rfl
  refine (parse_e2 (w := w) (n := s.size) hs (by omega) hc1 hc2 hB he).mono ?_
  rintro e w' ⟨hT, h⟩
  rw [hp] at h
  obtain ⟨v1, v2, v3, rfl, hpg⟩ := h
  obtain ⟨x1, l1, c1, x2, l2, c2, x3, l3, c3, rfl, rfl, rfl⟩ := pg_form hpg
  exact ⟨hT, x1, l1, c1, x2, l2, c2, x3, l3, c3, by rw [hs], hpg⟩
theorem tsame_in (i : Nat) (w : World) (h : i < 8) (hev : E2 w) : Calls Tryz.prog 3 #[.int .i64 (i : Int)] w fun e w' => e = .returned (.bool true) ∧ Touch NoB w w' := by
  have HA := Lib.hid (alive_any w hev)
  have HE := Lib.hid hev
  have HN := Lib.hid (fun n w => num11_any n w)
  obtain ⟨p, hp⟩ : ∃ p, tsP[i]? = some p := ⟨_, List.getElem?_eq_getElem (show i < tsP.length from h)⟩
  obtain ⟨pg, t1, t2, hfit, l1, l2⟩ := tsP_at hp
  have HP := Lib.hid (ts2_at tsP i p hp)
  obtain ⟨s1, hs1⟩ : ∃ s, bs p.1 = s := ⟨_, rfl⟩
  obtain ⟨s2, hs2⟩ : ∃ s, bs p.2 = s := ⟨_, rfl⟩
  have hd1 : s1.data.toList = p.1 := by rw [← hs1, bs_list]
  have hd2 : s2.data.toList = p.2 := by rw [← hs2, bs_list]
  have HR1 := Lib.hid (fun (W : World) (cap : Nat) (A : Option Addr) (hc1 : s1.size ≤ cap) (hc2 : cap ≤ 9223372036854775807) (hB : BAt W A p.1) (hE : E2 W) => parse_ok hd1 (by omega) t1 hc1 hc2 hB hE)
  have HR2 := Lib.hid (fun (W : World) (cap : Nat) (A : Option Addr) (hc1 : s2.size ≤ cap) (hc2 : cap ≤ 9223372036854775807) (hB : BAt W A p.2) (hE : E2 W) => parse_ok hd2 (by omega) t2 hc1 hc2 hB hE)
  have HSZ := Lib.hid (And.intro (show s1.size ≤ 1000 by rw [← hs1, bs_size]; omega) (And.intro (show s2.size ≤ 1000 by rw [← hs2, bs_size]; omega) (And.intro hd1 hd2)))
  have HF := Lib.hid hfit
  have hi0 : decide ((i : Int) < 0) = false := by simp
  have hi1 : decide ((8 : Int) ≤ (i : Int)) = false := by simp; omega
  have hi8 : (i : Int) < 8 := by omega
  rw [hs1, hs2] at HP
  clear hev t1 t2 hp hfit l1 l2 hs1 hs2 hd1 hd2
  go_enter Tryz.func3, Tryz.ntmps3
  go_wp2_with fail
  refine HA.out.mono ?_
  rintro e w1 ⟨rfl, hT1⟩
  have HT1 := Lib.hid hT1
  clear hT1
  go_upto_region 3 with fail
  obtain ⟨W, hW⟩ : ∃ W, W = w1.alloc (.cells tsA 23 (0, 0)) := ⟨_, rfl⟩
  show Code.wp _ _ _ _ (w1.alloc (.cells tsA 23 (0, 0)))
  obtain ⟨N, hN⟩ : ∃ N, w1.heap.size = N := ⟨_, rfl⟩
  have hblk : W.heap[N]? = some (.cells tsA 23 (0, 0)) := by rw [hW, ← hN]; exact heap_alloc_new w1 _
  have hT : Touch NoB w W := by rw [hW]; exact HT1.out.alloc _
  rw [← hW, hN]
  have c0 : W.cell? ⟨N, i * 2, none⟩ = some (.string s1) := by
    rw [cell_of_row _ _ _ _ _ _ hblk]; unfold tsA; rw [List.getElem?_toArray]; exact HP.out.1
  have HC1 : Hid (∀ W2, Touch NoB W W2 → W2.cell? ⟨N, i * 2 + 1, none⟩ = some (.string s2)) := Lib.hid (fun W2 t => by
    rw [t.cell (p := ⟨N, i * 2 + 1, none⟩) (blk_lt hblk) (fun x => x), cell_of_row _ _ _ _ _ _ hblk]; unfold tsA; rw [List.getElem?_toArray]; exact HP.out.2)
  have hlW : N < W.heap.size := blk_lt hblk
  have HTW := Lib.hid hT
  obtain ⟨cap, W3, hcv, hc1, hc2, hT3, hB3⟩ := conv_any s1 (by have := HSZ.out.1; omega) W
  rw [HSZ.out.2.2.1] at hB3
  have HD := Lib.hid (HR1.out W3 cap _ hc1 hc2 hB3 (HE.out.touch (hT.same hT3)))
  have HT3 := Lib.hid hT3
  clear hW hN hblk hT hB3 hc1 hc2 hT3
  go_wp2_with fail
  refine HD.out.mono ?_
  rintro e w2 ⟨hT2, A1, n1, q1, A2, n2, q2, A3, n3, q3, rfl, hpg1⟩
  obtain ⟨W2, hW2⟩ : ∃ W, w2.alloc (.cells #[.slice A1 n1 q1, .slice A2 n2 q2, .slice A3 n3 q3] 29) = W := ⟨_, rfl⟩
  have t2 : Touch NoB w2 W2 := by rw [← hW2]; exact (Touch.refl _ _).alloc _
  have hx5 : B3 W2 29 w2.heap.size (.slice A1 n1 q1) (.slice A2 n2 q2) (.slice A3 n3 q3) := by rw [← hW2]; exact B3.new _ _ _ _ _ rfl
  have hT02 : Touch NoB W W2 := HT3.out.same (hT2.same t2)
  have d1 := HC1.out W2 hT02
  have hlW2 : N < W2.heap.size := Nat.lt_of_lt_of_le hlW hT02.size
  obtain ⟨cap2, W4, hcv2, hc1, hc2, hT4, hB4⟩ := conv_any s2 (by have := HSZ.out.2.1; omega) W2
  rw [HSZ.out.2.2.2] at hB4
  have HD2 := Lib.hid (HR2.out W4 cap2 _ hc1 hc2 hB4 (HE.out.touch (HTW.out.same (hT02.same hT4))))
  have HX := Lib.hid (And.intro (hpg1.touch t2 (fun _ _ x => x)) (And.intro hx5 (And.intro hT02 hT4)))
  clear hpg1 hT2 t2 hx5 hT02 c0 hB4 hc1 hc2 hT4
  go_wp2_with fail
  refine HD2.out.mono ?_
  rintro e w3 ⟨hT3, B1, m1, r1, B2, m2, r2, B3', m3, r3, rfl, hpg2⟩
  obtain ⟨W5, hW5⟩ : ∃ W, w3.alloc (.cells #[.slice B1 m1 r1, .slice B2 m2 r2, .slice B3' m3 r3] 29) = W := ⟨_, rfl⟩
  have t3 : Touch NoB w3 W5 := by rw [← hW5]; exact (Touch.refl _ _).alloc _
  have hx7 : B3 W5 29 w3.heap.size (.slice B1 m1 r1) (.slice B2 m2 r2) (.slice B3' m3 r3) := by rw [← hW5]; exact B3.new _ _ _ _ _ rfl
  have t25 : Touch NoB W2 W5 := HX.out.2.2.2.same (hT3.same t3)
  have hx5 : B3 W5 29 w2.heap.size (.slice A1 n1 q1) (.slice A2 n2 q2) (.slice A3 n3 q3) := (t25.block _ (blk_lt HX.out.2.1) (fun x => x)).trans HX.out.2.1
  obtain ⟨p50, p51, p52, p53⟩ := hx5.cells
  obtain ⟨p70, p71, p72, p73⟩ := hx7.cells
  have HSM := Lib.hid (fun (V : World) (t : Touch NoB W5 V) => sameprog_any HF.out (w := V) ((HX.out.1.touch (t25.same t) (fun _ _ x => x))) (((hpg2.touch t3 (fun _ _ x => x))).touch t (fun _ _ x => x)))
  have HT5 := Lib.hid (HTW.out.same (HX.out.2.2.1.same t25))
  clear hpg2 hT3 t3 hx7 hx5 d1 t25
  go_wp2_with (first
    | (go_at_call 8; refine (HN.out _ _).mono ?_; rintro e w' ⟨rfl, rfl⟩)
    | (go_at_call 9; refine (HSM.out _ (Touch.refl _ _)).mono ?_; rintro e w4 ⟨rfl, hT4⟩))
  go_ret
  exact ⟨rfl, HT5.out.same hT4⟩
theorem treesame_any (k : Int) (w : World) (hev : E2 w) : Calls Tryz.prog 3 #[.int .i64 k] w fun e w' => e = .returned (.bool true) ∧ Touch NoB w w' := by
  by_cases h : k < 0 ∨ 8 ≤ k
  · exact tsame_out k w h hev
  · obtain ⟨i, rfl⟩ : ∃ i : Nat, k = (i : Int) := ⟨k.toNat, by omega⟩
    exact tsame_in i w (by omega) hev
end Go.Proofs.YtkmbobfjoaldgaaGreatDoor
