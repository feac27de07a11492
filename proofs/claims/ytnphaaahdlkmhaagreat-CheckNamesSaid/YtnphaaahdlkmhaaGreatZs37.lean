/-
  Package check's node and its first over a node's Kids. Conditions: those that each theorem names.
-/
import Derived.Test.YtnphaaahdlkmhaaGreatZs36
section
namespace Go.Proofs.YtnphaaahdlkmhaaGreat
open Go.ChangeShapes Go.WideShapes Go.ChangeAt Go.RowKit Go.Maps
set_option maxRecDepth 100000
set_option maxHeartbeats 4000000

/-- What stands in memory while nodes are checked. -/
structure CN (w : World) (cb kb rb db : Nat) (ks : List KyG) (vs : List Value) (rs : List (ByteArray × Value)) (dn : List ByteArray) (Q : Nat → Prop) : Prop where
  km : ∃ mk, KM w kb mk ks
  rm : ∃ mr, RM w vs rb mr rs
  dm : ∃ md, NM w db md dn
  hv : ∀ v ∈ vs, ∃ kd a b s e0 e1 e2 A m c A1 n1 c1 A2 n2 c2, v = .agg (ndV kd a b s e0 e1 e2 A m c A1 n1 c1 A2 n2 c2)
  nk : kb ≠ cb
  nr : rb ≠ cb
  nd : db ≠ cb
  hQ : ∀ b, Q b → b ≠ cb
theorem CN.touch {w w' : World} {cb kb rb db : Nat} {ks : List KyG} {vs : List Value} {rs : List (ByteArray × Value)} {dn : List ByteArray} {Q : Nat → Prop} (h : CN w cb kb rb db ks vs rs dn Q) (t : Touch (fun b => b = cb) w w') : CN w' cb kb rb db ks vs rs dn Q := by
  obtain ⟨⟨mk, h1⟩, ⟨mr, h2⟩, ⟨md, h3⟩, h4, h5, h6, h7, h8⟩ := h
  exact ⟨⟨mk, h1.touch t h5⟩, ⟨mr, h2.touch t h6⟩, ⟨md, h3.touch t h7⟩, h4, h5, h6, h7, h8⟩
def NodePost (w : World) (cb kb rb db : Nat) (k : Int) (r : Int) (cnt : Nat) (e : Ending) (w' : World) : Prop :=
  e = .returned (.int .i64 r) ∧ (∃ k' : Int, k ≤ k' ∧ k' ≤ k + cnt ∧ CkB w' cb kb rb db k') ∧ Touch (fun b => b = cb) w w'
/-- What node promises of nodes less than f deep. -/
def NodeOk (cb kb rb db : Nat) (ks : List KyG) (vs : List Value) (rs : List (ByteArray × Value)) (dn : List ByteArray) (Q : Nat → Prop) (f : Nat) : Prop :=
  ∀ (n : Nd), ndFit f n = true → ∀ (w : World) (D : Nat) (e0 e1 : Int) (e2 : ByteArray) (A : Option Addr) (m c : Nat) (A1 : Option Addr) (c1 : Nat) (A2 : Option Addr) (c2 : Nat) (xs ys : List Value) (k : Int),
    CN w cb kb rb db ks vs rs dn Q → CkB w cb kb rb db k → 0 ≤ k → k + ndC f n ≤ 65536 → NdC w Q D n e0 e1 e2 A m c A1 c1 A2 c2 xs ys →
    Calls Tryz.prog 47 #[.pointer (some ⟨cb, 0, none⟩), .agg (ndA n e0 e1 e2 A m c A1 c1 A2 c2)] w (NodePost w cb kb rb db k (nodE ks (rs.map (·.1)) dn f n) (ndC f n))
theorem sumC_take {g : Nd → Nat} : ∀ (l : List Nd) (i : Nat) (y : Nd), l[i]? = some y → sumC ((l.take (i + 1)).map g) = sumC ((l.take i).map g) + g y
  | [], i, y, h => by simp at h
  | x :: l, 0, y, h => by simp at h; subst h; simp [sumC]
  | x :: l, i + 1, y, h => by
    have := sumC_take (g := g) l i y (by simpa using h)
    simp only [List.take_succ_cons, List.map_cons, sumC]
    omega
theorem sumC_le {g : Nd → Nat} : ∀ (l : List Nd) (i : Nat), sumC ((l.take i).map g) ≤ sumC (l.map g)
  | [], i => by simp [sumC]
  | x :: l, 0 => by simp [sumC]
  | x :: l, i + 1 => by
    have := sumC_le (g := g) l i
    simp only [List.take_succ_cons, List.map_cons, sumC]
    omega
def FnRel (cb kb rb db : Nat) (g : Nd → Int) (cn : Nd → Nat) (l : List Nd) (k : Int) (w : World) (v : Value) (wr : World) : Prop :=
  ∃ (i : Nat) (k' : Int), i ≤ l.length ∧ v = .int .i64 i ∧ (∀ (j : Nat) (c : Nd), j < i → l[j]? = some c → g c = 0) ∧ k ≤ k' ∧ k' ≤ k + sumC ((l.take i).map cn) ∧ CkB wr cb kb rb db k' ∧ Touch (fun b => b = cb) w wr
theorem first_node {cb kb rb db : Nat} {ks : List KyG} {vs : List Value} {rs : List (ByteArray × Value)} {dn : List ByteArray} {Q : Nat → Prop} {f : Nat} (ih : NodeOk cb kb rb db ks vs rs dn Q f)
    (l : List Nd) (hl : ∀ y ∈ l, ndFit f y = true) (w : World) (D : Nat) (A : Option Addr) (n cap : Nat) (xs : List Value) (k : Int) (hn : l.length = n) (hn2 : n ≤ 1000) (hC : CN w cb kb rb db ks vs rs dn Q) (hc : CkB w cb kb rb db k) (h0 : 0 ≤ k) (hk : k + sumC (l.map (ndC f)) ≤ 65536) (hS : SlAt w Q (.slice A n cap) n xs) (hL : LsAt (NT w Q D) l xs) :
    Calls Tryz.prog 73 #[.slice A n cap, .func (.func 47) #[.pointer (some ⟨cb, 0, none⟩)] #[]] w (NodePost w cb kb rb db k (firstE (l.map (nodE ks (rs.map (·.1)) dn f))) (sumC (l.map (ndC f)))) := by
  have e0 : ∀ (args : Array Value) (w : World), (callFunc 47 args).run Tryz.prog w = .ok (.enter 47 args) w := enters_of Tryz.func47 (by kernel_rfl) rfl
  have HX := Lib.hid (And.intro hS (And.intro hL (And.intro hl (And.intro hC (And.intro hc (And.intro hn ih))))))
  have hK := Lib.hid hk
  clear hS hL hl hC hc hn ih hk
  obtain ⟨g, hg⟩ : ∃ g, nodE ks (rs.map (·.1)) dn f = g := ⟨_, rfl⟩
  have HG := Lib.hid hg
  rw [hg]
  clear hg
  go_enter Tryz.func73, Tryz.ntmps73
  go_wp2
  go_loopw [10] (fun v10 wr => FnRel cb kb rb db g (ndC f) l k w v10 wr) (fun v10 _ => n - (intOf v10).toNat)
  case atStart => exact ⟨0, k, Nat.zero_le _, rfl, fun j c hj => by omega, Int.le_refl _, by simp [sumC], HX.out.2.2.2.2.1, Touch.refl _ _⟩
  case round =>
    obtain ⟨i, k', hi, rfl, hno, hk1, hk2, hcb, hT⟩ := hrel
    by_cases hlt : i < n
    · obtain ⟨y, hy⟩ : ∃ y, l[i]? = some y := ⟨l[i]'(by have := HX.out.2.2.2.2.2.1; omega), List.getElem?_eq_getElem _⟩
      have hq := HX.out.2.2.2.1.hQ
      obtain ⟨b, e0', e1, e2, B, m, c', A1, c1, A2, c2, rfl, hKid⟩ := kids_atC (HX.out.1.touch hT hq) (HX.out.2.1.mono (NT.touch hT hq D)) i y hy
      have hrg := hKid.rg
      have d0 : wr.cell? ⟨b, i * 10, none⟩ = some (.int .i64 (y.kd : Int)) := hrg 0 _ rfl
      have d1 : wr.cell? ⟨b, i * 10 + 1, none⟩ = some (.int .i64 (y.a : Int)) := hrg 1 _ rfl
      have d2 : wr.cell? ⟨b, i * 10 + 2, none⟩ = some (.int .i64 (y.b : Int)) := hrg 2 _ rfl
      have d3 : wr.cell? ⟨b, i * 10 + 3, none⟩ = some (.string (bs y.nm)) := hrg 3 _ rfl
      have d4 : wr.cell? ⟨b, i * 10 + 4, none⟩ = some (.int .i64 e0') := hrg 4 _ rfl
      have d5 : wr.cell? ⟨b, i * 10 + 5, none⟩ = some (.int .i64 e1) := hrg 5 _ rfl
      have d6 : wr.cell? ⟨b, i * 10 + 6, none⟩ = some (.string e2) := hrg 6 _ rfl
      have d7 : wr.cell? ⟨b, i * 10 + 7, none⟩ = some (.slice B m c') := hrg 7 _ rfl
      have d8 : wr.cell? ⟨b, i * 10 + 8, none⟩ = some (.slice A1 y.ks.length c1) := hrg 8 _ rfl
      have d9 : wr.cell? ⟨b, i * 10 + 9, none⟩ = some (.slice A2 y.ws.length c2) := hrg 9 _ rfl
      have dlt := hKid.lt
      have hnt := hKid.nt
      have hst := sumC_take (g := ndC f) l i y hy
      have hsl := sumC_le (g := ndC f) l (i + 1)
      have hK' := hK.out
      have hfy := HX.out.2.2.1 y (List.mem_of_getElem? hy)
      have hcn := HX.out.2.2.2.1.touch hT
      have HC : Hid (∀ W, Touch NoB wr W → Calls Tryz.prog 47 #[.pointer (some ⟨cb, 0, none⟩), .agg (ndA y e0' e1 e2 B m c' A1 c1 A2 c2)] W (NodePost W cb kb rb db k' (g y) (ndC f y))) := Lib.hid (fun W t => by
        cases D with
        | zero => exact hnt.elim
        | succ D =>
          obtain ⟨f0, f1, f2, B', m', cc', B1, d1', B2, d2', us, zs, he, hC⟩ := nt_open hnt
          have h := HX.out.2.2.2.2.2.2 y hfy W D f0 f1 f2 B' m' cc' B1 d1' B2 d2' us zs k' (hcn.touch (t.mono (fun b f => f.elim))) (hcb.touch t (fun f => f)) (by omega) (by omega) (hC.touch t (fun b _ f => f))
          have he2 : ndA y e0' e1 e2 B m c' A1 c1 A2 c2 = ndA y f0 f1 f2 B' m' cc' B1 d1' B2 d2' := he
          rw [he2, ← HG.out]
          exact h)
      have HR := Lib.hid (And.intro hy (And.intro hno (And.intro hk1 (And.intro hk2 (And.intro hT (And.intro hst hsl))))))
      obtain ⟨r, hr⟩ : ∃ r, g y = r := ⟨_, rfl⟩
      rw [hr] at HC
      have HRR := Lib.hid hr
      unfold ndA ndV at HC
      obtain ⟨z0, hz0⟩ : ∃ z, (y.kd : Int) = z := ⟨_, rfl⟩
      obtain ⟨z1, hz1⟩ : ∃ z, (y.a : Int) = z := ⟨_, rfl⟩
      obtain ⟨z2, hz2⟩ : ∃ z, (y.b : Int) = z := ⟨_, rfl⟩
      obtain ⟨z3, hz3⟩ : ∃ z, bs y.nm = z := ⟨_, rfl⟩
      obtain ⟨z8, hz8⟩ : ∃ z, y.ks.length = z := ⟨_, rfl⟩
      obtain ⟨z9, hz9⟩ : ∃ z, y.ws.length = z := ⟨_, rfl⟩
      rw [hz0] at d0 HC
      rw [hz1] at d1 HC
      rw [hz2] at d2 HC
      rw [hz3] at d3 HC
      rw [hz8] at d8 HC
      rw [hz9] at d9 HC
      clear hy hno hk1 hk2 hcb hT hrg hKid hnt hst hsl hK' hfy hcn hr hq hz0 hz1 hz2 hz3 hz8 hz9
      by_cases hr0 : r = 0
      · subst hr0
        go_wp2_with (go_at_fn 47; refine (HC.out _ (by repeat (first | with_reducible exact Touch.refl NoB _ | with_reducible refine Touch.drew ?_ | with_reducible refine Touch.alloc ?_ _))).mono ?_; rintro r w2 ⟨rfl, ⟨k2, hk3, hk4, hc2⟩, hT2⟩; have HT2 := Lib.hid (And.intro hk3 (And.intro hk4 (And.intro hc2 (Touch.same (F := fun b => b = cb) (a := wr) (by repeat (first | with_reducible exact Touch.refl _ _ | with_reducible refine Touch.drew ?_ | with_reducible refine Touch.alloc ?_ _)) hT2)))); clear hk3 hk4 hc2 hT2)
        go_roundw
        case rel => exact ⟨i + 1, k2, by have := HX.out.2.2.2.2.2.1; omega, by go_num, fun j y' hj hy => by
          by_cases e : j = i
          · subst e; rw [HR.out.1] at hy; injection hy with hy; subst hy; exact HRR.out
          · exact HR.out.2.1 j y' (by omega) hy, by have := HR.out.2.2.1; have := HT2.out.1; omega, by have := HR.out.2.2.2.1; have := HT2.out.2.1; have := HR.out.2.2.2.2.2.1; omega, HT2.out.2.2.1, HR.out.2.2.2.2.1.same HT2.out.2.2.2⟩
        case measure => simp [intOf]; omega
      · have hne : (r != 0) = true := by simpa using hr0
        go_wp2_with (go_at_fn 47; refine (HC.out _ (by repeat (first | with_reducible exact Touch.refl NoB _ | with_reducible refine Touch.drew ?_ | with_reducible refine Touch.alloc ?_ _))).mono ?_; rintro r w2 ⟨rfl, ⟨k2, hk3, hk4, hc2⟩, hT2⟩; have HT2 := Lib.hid (And.intro hk3 (And.intro hk4 (And.intro hc2 (Touch.same (F := fun b => b = cb) (a := wr) (by repeat (first | with_reducible exact Touch.refl _ _ | with_reducible refine Touch.drew ?_ | with_reducible refine Touch.alloc ?_ _)) hT2)))); clear hk3 hk4 hc2 hT2)
        go_ret
        exact ⟨by rw [firstE_at HR.out.1 (by rw [HRR.out]; exact hr0) HR.out.2.1, HRR.out]; rfl, ⟨k2, by have := HR.out.2.2.1; have := HT2.out.1; omega, by have := HR.out.2.2.2.1; have := HT2.out.2.1; have := HR.out.2.2.2.2.2.1; have := HR.out.2.2.2.2.2.2; omega, HT2.out.2.2.1⟩, HR.out.2.2.2.2.1.same HT2.out.2.2.2⟩
    · have hin : i = n := by have := HX.out.2.2.2.2.2.1; omega
      subst hin
      have hsl := sumC_le (g := ndC f) l i
      have HR := Lib.hid (And.intro hno (And.intro hk1 (And.intro hk2 (And.intro hcb (And.intro hT hsl)))))
      clear hno hT hk1 hk2 hcb hsl
      go_wp2
      go_ret
      exact ⟨by rw [firstE_zero (fun j c hc => HR.out.1 j c (by have := (List.getElem?_eq_some_iff.1 hc).1; have := HX.out.2.2.2.2.2.1; omega) hc)]; rfl, ⟨k', HR.out.2.1, by have := HR.out.2.2.1; have := HR.out.2.2.2.2.2; omega, HR.out.2.2.2.1⟩, HR.out.2.2.2.2.1⟩
end Go.Proofs.YtnphaaahdlkmhaaGreat
end
/-
  Package check's node over any well-formed node. Conditions: those that each theorem names.
-/
section
namespace Go.Proofs.YtnphaaahdlkmhaaGreat
open Go.ChangeShapes Go.WideShapes Go.ChangeAt Go.RowKit Go.Maps
set_option maxRecDepth 100000
set_option maxHeartbeats 4000000

theorem node_all {cb kb rb db : Nat} {ks : List KyG} {vs : List Value} {rs : List (ByteArray × Value)} {dn : List ByteArray} {Q : Nat → Prop} : ∀ f : Nat, NodeOk cb kb rb db ks vs rs dn Q f
  | 0, n, hf => by simp [ndFit] at hf
  | f + 1, n, hf => by
    intro w D e0 e1 e2 A m c A1 c1 A2 c2 xs ys k hC hc h0 hk hn
    have ih : Hid (NodeOk cb kb rb db ks vs rs dn Q f) := Lib.hid (node_all f)
    have hf' := hf
    simp only [ndFit, Bool.and_eq_true, decide_eq_true_eq, Bool.or_eq_true, List.all_eq_true] at hf
    obtain ⟨⟨⟨⟨⟨⟨⟨⟨⟨f1, f2⟩, f3⟩, f4⟩, f5⟩, f6⟩, f7⟩, f8⟩, f9⟩, f10⟩ := hf
    have hm16 : mostL n.kd ≤ 16 := by unfold mostL; split <;> (try split) <;> omega
    have hk' : k + (1 + sumC (n.ks.map (ndC f)) : Nat) ≤ 65536 := hk
    have hFO := Lib.hid (fun (w : World) => mayhave_ok n.kd n.ks.length n.ws.length w f1 f2 f3 f4)
    obtain ⟨r1, hr1⟩ : ∃ r, aloneE ks (rs.map (·.1)) dn n = r := ⟨_, rfl⟩
    obtain ⟨r2, hr2⟩ : ∃ r, firstE (n.ks.map (nodE ks (rs.map (·.1)) dn f)) = r := ⟨_, rfl⟩
    have hV : nodE ks (rs.map (·.1)) dn (f + 1) n = if r1 = 0 then r2 else r1 := by rw [← hr1, ← hr2]; rfl
    have hcn : ndC (f + 1) n = 1 + sumC (n.ks.map (ndC f)) := rfl
    rw [hV, hcn]
    clear hV hcn
    obtain ⟨R, hR⟩ : ∃ R, (if r1 = 0 then r2 else r1) = R := ⟨_, rfl⟩
    rw [hR]
    have HRR := Lib.hid hR
    clear hR
    obtain ⟨⟨mk, hkm⟩, ⟨mr, hrm⟩, ⟨md, hdm⟩, hvs, -, -, -, hQ⟩ := id hC
    have HA := Lib.hid (fun W k' (t : Touch (fun b => b = cb) w W) (hcw : CkB W cb kb rb db k') => hr1 ▸ alone_all f n hcw (hkm.touch t hC.nk) (hrm.touch t hC.nr) hvs (hdm.touch t hC.nd) (hn.touch t hQ) hf')
    have HF := Lib.hid (fun W k' (t : Touch (fun b => b = cb) w W) (hcw : CkB W cb kb rb db k') (h0 : 0 ≤ k') (hk2 : k' + sumC (n.ks.map (ndC f)) ≤ 65536) => hr2 ▸ first_node ih.out n.ks f10 W D A1 n.ks.length c1 xs k' rfl (by omega) (hC.touch t) hcw h0 hk2 (hn.ks.touch t hQ) (hn.kl.mono (NT.touch t hQ D)))
    have hcl := blk_lt hc
    have hc3 := cell_blk hc 3
    have hfz := free_blk hc 3
    have hwr : IntKind.i64.wrap (k + 1) = k + 1 := IntWalk.i64_in _ (by omega)
    have hgt : decide (65536 < k + 1) = false := by simp; omega
    obtain ⟨z0, hz0⟩ : ∃ z, (n.kd : Int) = z := ⟨_, rfl⟩
    obtain ⟨z1, hz1⟩ : ∃ z, (n.a : Int) = z := ⟨_, rfl⟩
    obtain ⟨z2, hz2⟩ : ∃ z, (n.b : Int) = z := ⟨_, rfl⟩
    obtain ⟨z3, hz3⟩ : ∃ z, bs n.nm = z := ⟨_, rfl⟩
    obtain ⟨z8, hz8⟩ : ∃ z, n.ks.length = z := ⟨_, rfl⟩
    obtain ⟨z9, hz9⟩ : ∃ z, n.ws.length = z := ⟨_, rfl⟩
    obtain ⟨S, hS⟩ : ∃ z, sumC (n.ks.map (ndC f)) = z := ⟨_, rfl⟩
    unfold ndA ndV at HA ⊢
    rw [hz0, hz8, hz9] at hFO
    rw [hz0, hz1, hz2, hz3, hz8, hz9] at HA ⊢
    rw [hz8, hS] at HF
    rw [hS] at hk' ⊢
    obtain ⟨W2, hW2⟩ : ∃ W, (w.alloc (.cells #[.int .i64 z0, .int .i64 z1, .int .i64 z2, .string z3, .int .i64 e0, .int .i64 e1, .string e2, .slice A m c, .slice A1 z8 c1, .slice A2 z9 c2] 62)).setCell ⟨cb, 3, none⟩ (.int .i64 (k + 1)) = W := ⟨_, rfl⟩
    have tA : Touch NoB w (w.alloc (.cells #[.int .i64 z0, .int .i64 z1, .int .i64 z2, .string z3, .int .i64 e0, .int .i64 e1, .string e2, .slice A m c, .slice A1 z8 c1, .slice A2 z9 c2] 62)) := (Touch.refl _ _).alloc _
    have tS : Touch (fun b => b = cb) (w.alloc (.cells #[.int .i64 z0, .int .i64 z1, .int .i64 z2, .string z3, .int .i64 e0, .int .i64 e1, .string e2, .slice A m c, .slice A1 z8 c1, .slice A2 z9 c2] 62)) W2 := by rw [← hW2]; exact (Touch.refl (fun b => b = cb) _).setCell (p := ⟨cb, 3, none⟩) (.inl rfl) _
    have t2 : Touch (fun b => b = cb) w W2 := (tA.mono (fun b f => f.elim)).same tS
    have hcA := hc.touch tA (fun f => f)
    have hc2 : CkB W2 cb kb rb db (k + 1) := by
      rw [← hW2]
      exact set_blk hcA 3 (.int .i64 (k + 1))
    have hnb : W2.heap[w.heap.size]? = some (.cells #[.int .i64 z0, .int .i64 z1, .int .i64 z2, .string z3, .int .i64 e0, .int .i64 e1, .string e2, .slice A m c, .slice A1 z8 c1, .slice A2 z9 c2] 62 (0, 0)) := (tS.block _ (by rw [World.size_alloc]; omega) (by omega)).trans (alloc_blk _ _ _ rfl)
    have HB := Lib.hid (And.intro t2 (And.intro hc2 hnb))
    obtain ⟨p0, p1, p2, p3, p4, p5, p6, p7, p8, p9, p10⟩ := nd_cells hnb
    have q3 := cell_blk hc2 3
    have q9 := blk_lt hc2
    clear hC hc hn hf' hkm hrm hdm hvs hQ tA tS t2 hcA hc2 hnb hr1 hr2 hz0 hz1 hz2 hz3 hz8 hz9 hS f1 f2 f3 f4 f5 f6 f7 f8 f9 f10 hm16 ih hk
    go_enter Tryz.func47, Tryz.ntmps47
    go_wp2_with fail
    refine (hFO.out _).mono ?_
    rintro r w3 ⟨rfl, hT3⟩
    have HT3 := Lib.hid hT3
    obtain ⟨p0, p1, p2, p3, p4, p5, p6, p7, p8, p9, p10⟩ := nd_cells ((hT3.block _ (blk_lt HB.out.2.2) (fun f => f)).trans HB.out.2.2)
    clear hT3 q3 q9
    go_wp2_with fail
    refine (HA.out _ _ (HB.out.1.same (HT3.out.mono (fun b f => f.elim))) (HB.out.2.1.touch HT3.out (fun f => f))).mono ?_
    rintro r w4 ⟨rfl, hT4⟩
    have HT4 := Lib.hid (HT3.out.same hT4)
    obtain ⟨-, -, -, -, -, -, -, -, p8, -, p10⟩ := nd_cells ((HT4.out.block _ (blk_lt HB.out.2.2) (fun f => f)).trans HB.out.2.2)
    clear hT4 p0 p1 p2 p3 p4 p5 p6 p7 p9
    by_cases hr0 : r1 = 0
    · subst hr0
      go_wp2_with fail
      refine (HF.out _ (k + 1) (HB.out.1.same (HT4.out.mono (fun b f => f.elim))) (HB.out.2.1.touch HT4.out (fun f => f)) (by omega) (by omega)).mono ?_
      rintro r w5 ⟨rfl, ⟨k2, hk3, hk4, hc5⟩, hT5⟩
      have HT5 := Lib.hid (And.intro hk3 (And.intro hk4 (And.intro hc5 ((HB.out.1.same (HT4.out.mono (fun b f => f.elim))).same hT5))))
      clear hk3 hk4 hc5 hT5
      go_wp2
      go_ret
      have hR2 : R = r2 := by rw [← HRR.out]; simp
      exact ⟨by rw [hR2]; rfl, ⟨k2, by have := HT5.out.1; omega, by have := HT5.out.2.1; omega, HT5.out.2.2.1⟩, HT5.out.2.2.2⟩
    · have hne : (r1 != 0) = true := by simpa using hr0
      have HR := Lib.hid hr0
      clear hr0
      go_wp2
      go_ret
      have hR2 : R = r1 := by rw [← HRR.out, if_neg HR.out]
      exact ⟨by rw [hR2]; rfl, ⟨k + 1, by omega, by omega, HB.out.2.1.touch HT4.out (fun f => f)⟩, HB.out.1.same (HT4.out.mono (fun b f => f.elim))⟩
end Go.Proofs.YtnphaaahdlkmhaaGreat
end
/-
  Package check's firstTree with the steps over nodes. Conditions: those that each theorem names.
-/
section
namespace Go.Proofs.YtnphaaahdlkmhaaGreat
open Go.ChangeShapes Go.WideShapes Go.ChangeAt Go.RowKit Go.Maps
set_option maxRecDepth 100000
set_option maxHeartbeats 4000000

/-- A tree in a program's row: its eleven cells. -/
theorem tr_cells13 {w : World} {Q : Nat → Prop} {A : Option Addr} {n c : Nat} {ts : List Tr} {xs : List Value} (hS : SlAt w Q (.slice A n c) n xs) (hL : LsAt (TrAt w Q) ts xs) (i : Nat) (t : Tr) (hi : ts[i]? = some t) :
    ∃ g D e0 e1 e2 B m c' A1 c1 A2 c2 us zs, A = some ⟨g, 0, none⟩ ∧ Q g ∧ g < w.heap.size ∧ w.cell? ⟨g, i * 11, none⟩ = some (.string (bs t.nm)) ∧ w.rangeAt g (i * 11 + 1) (ndA t.root e0 e1 e2 B m c' A1 c1 A2 c2).toList ∧ NdC w Q D t.root e0 e1 e2 B m c' A1 c1 A2 c2 us zs ∧ ∀ j, j < 10 → xs[i * 11 + 1 + j]? = (ndA t.root e0 e1 e2 B m c' A1 c1 A2 c2).toList[j]? := by
  obtain ⟨ys, ⟨D, l, rfl, hnt⟩, hc⟩ := hL.at_ (s := 11) (fun a ys h => by obtain ⟨D, zs, rfl, h⟩ := h; rw [List.length_cons, h.len]) i t hi
  cases D with
  | zero => exact hnt.elim
  | succ D =>
    obtain ⟨e0, e1, e2, B, m, c', A1, c1, A2, c2, us, zs, he, hC⟩ := nt_open hnt
    have hl : l = (ndA t.root e0 e1 e2 B m c' A1 c1 A2 c2).toList := by rw [← he]
    obtain ⟨A', c'', hA', hA⟩ := hS
    cases hA'
    obtain ⟨g, hg, hq, hlt, h0⟩ := hA (i * 11 + 0) _ ((hc 0 (by omega)).trans rfl)
    refine ⟨g, D, e0, e1, e2, B, m, c', A1, c1, A2, c2, us, zs, hg, hq, hlt, h0, fun j v hj => ?_, hC, fun j hj => by
      have h := hc (1 + j) (by omega)
      rw [← Nat.add_assoc] at h
      rw [h, ← hl, Nat.add_comm 1 j]
      simp⟩
    rw [← hl] at hj
    have hj10 : j < 10 := by
      have h1 := (List.getElem?_eq_some_iff.1 hj).1
      rw [hnt.len] at h1
      exact h1
    obtain ⟨g', hg', -, -, hcc⟩ := hA (i * 11 + (1 + j)) v ((hc (1 + j) (by omega)).trans (by rw [Nat.add_comm 1 j]; simpa using hj))
    rw [hg] at hg'
    cases hg'
    rw [← Nat.add_assoc] at hcc
    exact hcc
/-- A tree's value. -/
def trA (t : Tr) (e0 e1 : Int) (e2 : ByteArray) (A : Option Addr) (m c : Nat) (A1 : Option Addr) (c1 : Nat) (A2 : Option Addr) (c2 : Nat) : Array Value :=
  #[.string (bs t.nm), .int .i64 (t.root.kd : Int), .int .i64 (t.root.a : Int), .int .i64 (t.root.b : Int), .string (bs t.root.nm), .int .i64 e0, .int .i64 e1, .string e2, .slice A m c, .slice A1 t.root.ks.length c1, .slice A2 t.root.ws.length c2]
theorem tnodes_any {cb kb rb db eb : Nat} {ks : List KyG} {vs : List Value} {rs : List (ByteArray × Value)} {dn : List ByteArray} {Q : Nat → Prop} (f : Nat) (t : Tr) (w : World) {D : Nat} {e0 e1 : Int} {e2 : ByteArray} {A : Option Addr} {m c : Nat} {A1 : Option Addr} {c1 : Nat} {A2 : Option Addr} {c2 : Nat} {xs ys : List Value} (k : Int)
    (hf : ndFit f t.root = true) (hC : CN w cb kb rb db ks vs rs dn Q) (hc : CkB w cb kb rb db k) (h0 : 0 ≤ k) (hk : k + ndC f t.root ≤ 65536) (hn : NdC w Q D t.root e0 e1 e2 A m c A1 c1 A2 c2 xs ys) (hE : w.heap[eb]? = some (.cells #[.pointer (some ⟨cb, 0, none⟩)] 105 (0, 0))) :
    Calls Tryz.prog 46 #[.agg (trA t e0 e1 e2 A m c A1 c1 A2 c2), .pointer (some ⟨eb, 0, none⟩)] w (NodePost w cb kb rb db k (nodE ks (rs.map (·.1)) dn f t.root) (ndC f t.root)) := by
  have HN := Lib.hid (fun W (t' : Touch NoB w W) => node_all f t.root hf W D e0 e1 e2 A m c A1 c1 A2 c2 xs ys k (hC.touch (t'.mono (fun b f => f.elim))) (hc.touch t' (fun f => f)) h0 hk (hn.touch t' (fun b _ f => f)))
  have a0 := cell_blk hE 0
  have a9 := blk_lt hE
  obtain ⟨r, hr⟩ : ∃ r, nodE ks (rs.map (·.1)) dn f t.root = r := ⟨_, rfl⟩
  rw [hr] at HN ⊢
  obtain ⟨cn, hcn⟩ : ∃ r, ndC f t.root = r := ⟨_, rfl⟩
  rw [hcn] at HN ⊢
  unfold ndA ndV at HN
  unfold trA
  obtain ⟨z0, hz0⟩ : ∃ z, (t.root.kd : Int) = z := ⟨_, rfl⟩
  obtain ⟨z1, hz1⟩ : ∃ z, (t.root.a : Int) = z := ⟨_, rfl⟩
  obtain ⟨z2, hz2⟩ : ∃ z, (t.root.b : Int) = z := ⟨_, rfl⟩
  obtain ⟨z3, hz3⟩ : ∃ z, bs t.root.nm = z := ⟨_, rfl⟩
  obtain ⟨z8, hz8⟩ : ∃ z, t.root.ks.length = z := ⟨_, rfl⟩
  obtain ⟨z9, hz9⟩ : ∃ z, t.root.ws.length = z := ⟨_, rfl⟩
  rw [hz0, hz1, hz2, hz3, hz8, hz9] at HN ⊢
  clear hf hC hc h0 hk hn hE hr hcn hz0 hz1 hz2 hz3 hz8 hz9
  go_enter Tryz.func46, Tryz.ntmps46
  go_wp2_with fail
  refine (HN.out _ (by repeat (first | with_reducible exact Touch.refl NoB _ | with_reducible refine Touch.drew ?_ | with_reducible refine Touch.alloc ?_ _))).mono ?_
  rintro r' w2 ⟨rfl, hk2, hT⟩
  have HT := Lib.hid (And.intro hk2 (Touch.same (F := fun b => b = cb) (a := w) (by repeat (first | with_reducible exact Touch.refl _ _ | with_reducible refine Touch.drew ?_ | with_reducible refine Touch.alloc ?_ _)) hT))
  clear hk2 hT
  go_wp2
  go_ret
  exact ⟨rfl, HT.out.1, HT.out.2⟩
end Go.Proofs.YtnphaaahdlkmhaaGreat
end
/-
  Package check's firstTree, with any function; its first over nodes, with any function. Conditions: those that each theorem names.
-/
section
namespace Go.Proofs.YtnphaaahdlkmhaaGreat
open Go.ChangeShapes Go.WideShapes Go.ChangeAt Go.RowKit Go.Maps
set_option maxRecDepth 100000
set_option maxHeartbeats 4000000

/-- What the loop carries. -/
def TgRel {σ : Type} (P : Nat → σ → World → Prop) (F : Nat → Prop) (n : Nat) (w : World) (v : Value) (wr : World) : Prop := ∃ (i : Nat) (s : σ), i ≤ n ∧ v = .int .i64 i ∧ P i s wr ∧ Touch F w wr
theorem firsttree_gen {σ : Type} {Q F : Nat → Prop} {P : Nat → σ → World → Prop} {Fin : ByteArray → Int → World → Prop} {fn eb : Nat} (l : List Tr) (A : Option Addr) (n cap : Nat) (xs : List Value) (w : World)
    (hfn : ∀ (args : Array Value) (w : World), (callFunc fn args).run Tryz.prog w = .ok (.enter fn args) w)
    (hn : l.length = n) (hn2 : n ≤ 1000000) (hS : SlAt w Q (.slice A n cap) n xs) (hL : LsAt (TrAt w Q) l xs) (hQF : ∀ b, Q b → ¬ F b) (hF : ∀ b, F b → b < w.heap.size)
    (hP : ∀ i s W W', P i s W → Touch NoB W W' → P i s W') (hFin : ∀ x e W W', Fin x e W → Touch NoB W W' → Fin x e W')
    (hstep : ∀ (i : Nat) (t : Tr) (s : σ) (W : World) (D : Nat) (e0 e1 : Int) (e2 : ByteArray) (B : Option Addr) (m c : Nat) (A1 : Option Addr) (c1 : Nat) (A2 : Option Addr) (c2 : Nat) (us zs : List Value), l[i]? = some t → Touch F w W → P i s W → NdC W Q D t.root e0 e1 e2 B m c A1 c1 A2 c2 us zs → (∀ j, j < 10 → xs[i * 11 + 1 + j]? = (ndA t.root e0 e1 e2 B m c A1 c1 A2 c2).toList[j]?) →
      Calls Tryz.prog fn #[.agg (trA t e0 e1 e2 B m c A1 c1 A2 c2), .pointer (some ⟨eb, 0, none⟩)] W fun e w' => ∃ r : Int, e = .returned (.int .i64 r) ∧ Touch F W w' ∧ (r = 0 → ∃ s', P (i + 1) s' w') ∧ (r ≠ 0 → Fin (bs t.nm) r w'))
    (hend : ∀ s W, P n s W → Fin ⟨#[]⟩ 0 W) (s0 : σ) (h0 : P 0 s0 w) :
    Calls Tryz.prog 42 #[.slice A n cap, .func (.func fn) #[] #[.pointer (some ⟨eb, 0, none⟩)]] w fun e w' => ∃ (x : ByteArray) (r : Int), e = .returned (.tuple #[.string x, .int .i64 r]) ∧ Fin x r w' ∧ Touch F w w' := by
  have HX := Lib.hid (And.intro hS (And.intro hL (And.intro hQF (And.intro hF (And.intro hP (And.intro hFin (And.intro hend (And.intro h0 hn))))))))
  have HS := Lib.hid hstep
  clear hS hL hQF hF hP hFin hend h0 hn hstep
  go_enter Tryz.func42, Tryz.ntmps42
  go_wp2
  go_loopw [11] (fun v11 wr => TgRel P F n w v11 wr) (fun v11 _ => n - (intOf v11).toNat)
  case atStart => exact ⟨0, s0, Nat.zero_le _, rfl, HX.out.2.2.2.2.2.2.2.1, Touch.refl _ _⟩
  case round =>
    obtain ⟨i, s, hi, rfl, hPi, hT⟩ := hrel
    by_cases hlt : i < n
    · obtain ⟨t, ht⟩ : ∃ t, l[i]? = some t := ⟨l[i]'(by have := HX.out.2.2.2.2.2.2.2.2; omega), List.getElem?_eq_getElem _⟩
      have hq := HX.out.2.2.1
      obtain ⟨g, D, e0, e1, e2, B, m, c', A1, c1, A2, c2, us, zs, rfl, hQg, dlt, dn, hrg, hC, hxs⟩ := tr_cells13 (HX.out.1.touch hT hq) (HX.out.2.1.mono (fun x ys h => h.touch hT hq)) i t ht
      unfold ndA ndV at hrg
      have d0 : wr.cell? ⟨g, i * 11 + 1, none⟩ = some (.int .i64 (t.root.kd : Int)) := hrg 0 _ rfl
      have d1 : wr.cell? ⟨g, i * 11 + 2, none⟩ = some (.int .i64 (t.root.a : Int)) := hrg 1 _ rfl
      have d2 : wr.cell? ⟨g, i * 11 + 3, none⟩ = some (.int .i64 (t.root.b : Int)) := hrg 2 _ rfl
      have d3 : wr.cell? ⟨g, i * 11 + 4, none⟩ = some (.string (bs t.root.nm)) := hrg 3 _ rfl
      have d4 : wr.cell? ⟨g, i * 11 + 5, none⟩ = some (.int .i64 e0) := hrg 4 _ rfl
      have d5 : wr.cell? ⟨g, i * 11 + 6, none⟩ = some (.int .i64 e1) := hrg 5 _ rfl
      have d6 : wr.cell? ⟨g, i * 11 + 7, none⟩ = some (.string e2) := hrg 6 _ rfl
      have d7 : wr.cell? ⟨g, i * 11 + 8, none⟩ = some (.slice B m c') := hrg 7 _ rfl
      have d8 : wr.cell? ⟨g, i * 11 + 9, none⟩ = some (.slice A1 t.root.ks.length c1) := hrg 8 _ rfl
      have d9 : wr.cell? ⟨g, i * 11 + 10, none⟩ = some (.slice A2 t.root.ws.length c2) := hrg 9 _ rfl
      have HC := Lib.hid (fun W (t' : Touch NoB wr W) => HS.out i t s W D e0 e1 e2 B m c' A1 c1 A2 c2 us zs ht (hT.same (t'.mono (fun b f => f.elim))) (HX.out.2.2.2.2.1 i s wr W hPi t') (hC.touch t' (fun b _ f => f)) hxs)
      have HR := Lib.hid (And.intro ht (And.intro hPi hT))
      unfold trA at HC
      obtain ⟨nm, hnm⟩ : ∃ z, bs t.nm = z := ⟨_, rfl⟩
      obtain ⟨z0, hz0⟩ : ∃ z, (t.root.kd : Int) = z := ⟨_, rfl⟩
      obtain ⟨z1, hz1⟩ : ∃ z, (t.root.a : Int) = z := ⟨_, rfl⟩
      obtain ⟨z2, hz2⟩ : ∃ z, (t.root.b : Int) = z := ⟨_, rfl⟩
      obtain ⟨z3, hz3⟩ : ∃ z, bs t.root.nm = z := ⟨_, rfl⟩
      obtain ⟨z8, hz8⟩ : ∃ z, t.root.ks.length = z := ⟨_, rfl⟩
      obtain ⟨z9, hz9⟩ : ∃ z, t.root.ws.length = z := ⟨_, rfl⟩
      rw [hnm] at dn HC
      rw [hz0] at d0 HC
      rw [hz1] at d1 HC
      rw [hz2] at d2 HC
      rw [hz3] at d3 HC
      rw [hz8] at d8 HC
      rw [hz9] at d9 HC
      clear ht hPi hT hrg hC hxs hq hQg hnm hz0 hz1 hz2 hz3 hz8 hz9
      go_wp2_with (go_at_fn fn; refine (HC.out _ (by repeat (first | with_reducible exact Touch.refl NoB _ | with_reducible refine Touch.drew ?_ | with_reducible refine Touch.alloc ?_ _))).mono ?_; rintro r' w2 ⟨r, rfl, hT2, hr0, hr1⟩; have p0 := cell_blk ((hT2.block wr.heap.size (by rw [World.size_alloc]; omega) (fun f => by have := HX.out.2.2.2.1 _ f; have := HR.out.2.2.size; omega)).trans (alloc_blk wr _ _ rfl)) 0; have p1 : wr.heap.size < w2.heap.size := by { have := hT2.size; rw [World.size_alloc] at this; omega }; have HT2 := Lib.hid (And.intro hr0 (And.intro hr1 (Touch.same (F := F) (a := wr) (by repeat (first | with_reducible exact Touch.refl _ _ | with_reducible refine Touch.drew ?_ | with_reducible refine Touch.alloc ?_ _)) hT2))); clear hT2 hr0 hr1; by_cases hrz : r = 0)
      · have HZ := Lib.hid hrz
        subst hrz
        go_wp2
        go_roundw
        case rel =>
          obtain ⟨s', hs'⟩ := HT2.out.1 rfl
          exact ⟨i + 1, s', by omega, by go_num, hs', HR.out.2.2.same HT2.out.2.2⟩
        case measure => simp [intOf]; omega
      · have hne : (r != 0) = true := by simpa using hrz
        have HZ := Lib.hid hrz
        clear hrz
        go_wp2
        go_ret2
        exact ⟨_, _, rfl, HT2.out.2.1 HZ.out, HR.out.2.2.same HT2.out.2.2⟩
    · have hin : i = n := by omega
      subst hin
      have HR := Lib.hid (And.intro hPi hT)
      clear hPi hT
      go_wp2
      go_ret2
      exact ⟨_, _, rfl, HX.out.2.2.2.2.2.2.1 s wr HR.out.1, HR.out.2⟩
end Go.Proofs.YtnphaaahdlkmhaaGreat
end
