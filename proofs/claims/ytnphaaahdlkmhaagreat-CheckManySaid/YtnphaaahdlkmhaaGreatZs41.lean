/-
  Package check's checkTrees. Conditions: those that each theorem names.
-/
import Derived.Test.YtnphaaahdlkmhaaGreatZs40
section
namespace Go.Proofs.YtnphaaahdlkmhaaGreat
open Go.ChangeShapes Go.WideShapes Go.ChangeAt Go.RowKit Go.Maps
set_option maxRecDepth 100000
set_option maxHeartbeats 4000000

section
variable {cb kb rb db eb mr : Nat} {k : Int} {vs : List Value} {rs : List (ByteArray × Value)} {w : World}
  (s : ByteArray) (z0 z1 z2 : Int) (z3 : ByteArray) (e0 e1 : Int) (e2 : ByteArray) (A : Option Addr) (m c : Nat) (A1 : Option Addr) (z8 c1 : Nat) (A2 : Option Addr) (z9 c2 : Nat)
/-- A tree's value, told by its fields. -/
def trV : Array Value := #[.string s, .int .i64 z0, .int .i64 z1, .int .i64 z2, .string z3, .int .i64 e0, .int .i64 e1, .string e2, .slice A m c, .slice A1 z8 c1, .slice A2 z9 c2]
theorem ttrees_any (hck : CkB w cb kb rb db k) (hrm : RM w vs rb mr rs) (hmr : mr ≤ 1000) (hvs : ∀ v ∈ vs, ∃ kd a b s e0 e1 e2 A m c A1 n1 c1 A2 n2 c2, v = .agg (ndV kd a b s e0 e1 e2 A m c A1 n1 c1 A2 n2 c2)) (hs : s.size ≤ 9223372036854775807)
    (hv : .agg (ndV z0 z1 z2 z3 e0 e1 e2 A m c A1 z8 c1 A2 z9 c2) ∈ vs) (hE : w.heap[eb]? = some (.cells #[.pointer (some ⟨cb, 0, none⟩)] 105 (0, 0))) :
    Calls Tryz.prog 43 #[.agg (trV s z0 z1 z2 z3 e0 e1 e2 A m c A1 z8 c1 A2 z9 c2), .pointer (some ⟨eb, 0, none⟩)] w fun e w' =>
      (inN (rs.map (·.1)) s = true ∧ e = .returned (.int .i64 6) ∧ Touch NoB w w') ∨ (inN (rs.map (·.1)) s = false ∧ e = .returned (.int .i64 0) ∧ RM w' vs rb (mr + 1) (rs ++ [(s, .agg (ndV z0 z1 z2 z3 e0 e1 e2 A m c A1 z8 c1 A2 z9 c2))]) ∧ Touch (fun b => b = rb) w w') := by
  obtain ⟨kd', a', b', s', e0', e1', e2', A', m', c', A1', n1', c1', A2', n2', c2', hv2⟩ := hvs _ (hrm.val s)
  have hin := fnd_in rs s
  obtain ⟨W0, hW0⟩ : ∃ W, w.alloc (.cells #[.string s, .int .i64 z0, .int .i64 z1, .int .i64 z2, .string z3, .int .i64 e0, .int .i64 e1, .string e2, .slice A m c, .slice A1 z8 c1, .slice A2 z9 c2] 64) = W := ⟨_, rfl⟩
  have t0 : Touch NoB w W0 := by rw [← hW0]; exact (Touch.refl _ _).alloc _
  have b1 : W0.heap[w.heap.size]? = some (.cells #[.string s, .int .i64 z0, .int .i64 z1, .int .i64 z2, .string z3, .int .i64 e0, .int .i64 e1, .string e2, .slice A m c, .slice A1 z8 c1, .slice A2 z9 c2] 64 (0, 0)) := by rw [← hW0]; exact alloc_blk _ _ _ rfl
  have hE0 := (t0.block _ (blk_lt hE) (fun f => f)).trans hE
  have hc0 := hck.touch t0 (fun f => f)
  have hr0 := hrm.touch t0 (fun f => f)
  have hr1 := (hr0.touch (w' := W0.drew) (F := NoB) (by repeat (first | with_reducible exact Touch.refl NoB _ | with_reducible refine Touch.drew ?_ | with_reducible refine Touch.alloc ?_ _)) (fun f => f)).look2 hs
  have hr2 := (hr0.touch (w' := (W0.alloc (.cells nodeZc 62)).drew) (F := NoB) (by repeat (first | with_reducible exact Touch.refl NoB _ | with_reducible refine Touch.drew ?_ | with_reducible refine Touch.alloc ?_ _)) (fun f => f)).look2 hs
  obtain ⟨q, hq⟩ : ∃ q, (fnd rs s).isSome = q := ⟨_, rfl⟩
  rw [hv2, hq] at hr1 hr2
  rw [hq] at hin
  unfold nodeZc at hr2
  unfold ndV at hr1 hr2
  unfold trV
  have k0 := cell_blk b1 0
  have k1 := cell_blk b1 1
  have k2 := cell_blk b1 2
  have k3 := cell_blk b1 3
  have k4 := cell_blk b1 4
  have k5 := cell_blk b1 5
  have k6 := cell_blk b1 6
  have k7 := cell_blk b1 7
  have k8 := cell_blk b1 8
  have k9 := cell_blk b1 9
  have k10 := cell_blk b1 10
  have kl := blk_lt b1
  have p0 := cell_blk hE0 0
  have pl := blk_lt hE0
  have q1 := cell_blk hc0 1
  have ql := blk_lt hc0
  cases q
  · -- the name is new
    have hfn : fnd rs s = none := by cases h : fnd rs s with | none => rfl | some v => rw [h] at hq; cases hq
    have hst : ∀ W, Touch NoB W0 W → ∃ w', (Instr.mapUpdate 76 (.map (some rb)) (.string s) (.agg (ndV z0 z1 z2 z3 e0 e1 e2 A m c A1 z8 c1 A2 z9 c2))).run Tryz.prog W = .ok () w' ∧ RM w' vs rb (mr + 1) (rs ++ [(s, .agg (ndV z0 z1 z2 z3 e0 e1 e2 A m c A1 z8 c1 A2 z9 c2))]) ∧ Touch (fun b => b = rb) W w' := fun W t => (hr0.touch t (fun f => f)).store (by omega) hs hv hfn
    obtain ⟨w9, hrun, hRM, ht9⟩ := hst ((W0.alloc (.cells #[.int .i64 kd', .int .i64 a', .int .i64 b', .string s', .int .i64 e0', .int .i64 e1', .string e2', .slice A' m' c', .slice A1' n1' c1', .slice A2' n2' c2'] 62)).drew.drew) (by repeat (first | with_reducible exact Touch.refl NoB _ | with_reducible refine Touch.drew ?_ | with_reducible refine Touch.alloc ?_ _))
    have t9 : Touch (fun b => b = rb) W0 w9 := Touch.same (F := fun b => b = rb) (a := W0) (by repeat (first | with_reducible exact Touch.refl _ _ | with_reducible refine Touch.drew ?_ | with_reducible refine Touch.alloc ?_ _)) ht9
    have HH := Lib.hid (And.intro hin (And.intro ((t0.mono (fun b f => f.elim)).same t9) hRM))
    unfold ndV at hrun
    clear hst hRM ht9 t9 hv2 hq hin hck hrm hvs hE hE0 hc0 hr0 t0 b1 hfn hv
    go_enter Tryz.func43, Tryz.ntmps43
    go_wp2_with fail
    go_region
    all_goals go_wp2_with fail
    all_goals go_region
    all_goals go_wp2
    all_goals go_ret
    all_goals exact .inr ⟨HH.out.1.symm, rfl, HH.out.2.2, HH.out.2.1⟩
  · have HH := Lib.hid (And.intro hin t0)
    clear hv2 hq hin hck hrm hvs hE hE0 hc0 hr0 t0 b1 hv
    go_enter Tryz.func43, Tryz.ntmps43
    go_wp2_with fail
    go_region
    all_goals go_wp2
    all_goals go_ret
    all_goals exact .inl ⟨HH.out.1.symm, rfl, HH.out.2.same (by repeat (first | with_reducible exact Touch.refl NoB _ | with_reducible refine Touch.drew ?_ | with_reducible refine Touch.alloc ?_ _))⟩
end
end Go.Proofs.YtnphaaahdlkmhaaGreat
end
/-
  Package check's steps over trees, as methods of its checker. Conditions: those that each theorem names.
-/
section
namespace Go.Proofs.YtnphaaahdlkmhaaGreat
open Go.ChangeShapes Go.WideShapes Go.ChangeAt Go.RowKit Go.Maps
set_option maxRecDepth 100000
set_option maxHeartbeats 4000000

/-- Where the cells of the rows stand. -/
def RsX (rs : List (ByteArray × Value)) (xs : List Value) : Prop := ∀ (i : Nat) (p : ByteArray × Value), rs[i]? = some p → ∃ ys : List Value, p.2 = .agg ys.toArray ∧ ys.length = 10 ∧ xs[i * 11]? = some (.string p.1) ∧ ∀ j, j < 10 → xs[i * 11 + 1 + j]? = ys[j]?
theorem ndA_len (n : Nd) (e0 e1 : Int) (e2 : ByteArray) (A : Option Addr) (m c : Nat) (A1 : Option Addr) (c1 : Nat) (A2 : Option Addr) (c2 : Nat) : (ndA n e0 e1 e2 A m c A1 c1 A2 c2).toList.length = 10 := rfl
theorem rs_cell {w : World} {Q : Nat → Prop} {l : List Tr} {rs : List (ByteArray × Value)} {xs : List Value} (h : RsAt w Q l rs) (hx : RsX rs xs) {i : Nat} {t : Tr} (ht : l[i]? = some t) {e0 e1 : Int} {e2 : ByteArray} {A : Option Addr} {m c : Nat} {A1 : Option Addr} {c1 : Nat} {A2 : Option Addr} {c2 : Nat}
    (hc : ∀ j, j < 10 → xs[i * 11 + 1 + j]? = (ndA t.root e0 e1 e2 A m c A1 c1 A2 c2).toList[j]?) : rs[i]? = some (bs t.nm, .agg (ndA t.root e0 e1 e2 A m c A1 c1 A2 c2)) := by
  obtain ⟨D, ys, h1, h2⟩ := h.2 i t ht
  obtain ⟨zs, h3, h4, -, h5⟩ := hx i _ h1
  simp only at h3
  rw [h1, h3]
  have e : zs = (ndA t.root e0 e1 e2 A m c A1 c1 A2 c2).toList := by
    apply List.ext_getElem?
    intro j
    by_cases hj : j < 10
    · rw [← h5 j hj, hc j hj]
    · rw [List.getElem?_eq_none (by omega), List.getElem?_eq_none (by rw [ndA_len]; omega)]
  rw [e]
def vsOf (rs : List (ByteArray × Value)) : List Value := nodeZ :: rs.map (·.2)
theorem vs_form {w : World} {Q : Nat → Prop} {l : List Tr} {rs : List (ByteArray × Value)} (h : RsAt w Q l rs) : ∀ v ∈ vsOf rs, ∃ kd a b s e0 e1 e2 A m c A1 n1 c1 A2 n2 c2, v = .agg (ndV kd a b s e0 e1 e2 A m c A1 n1 c1 A2 n2 c2) := by
  intro v hv
  rcases List.mem_cons.1 hv with rfl | hv
  · exact ⟨0, 0, 0, ⟨#[]⟩, 0, 0, ⟨#[]⟩, none, 0, 0, none, 0, 0, none, 0, 0, rfl⟩
  · obtain ⟨p, hp, rfl⟩ := List.mem_map.1 hv
    obtain ⟨i, hi⟩ := List.mem_iff_getElem?.1 hp
    have hlt : i < l.length := by rw [← h.1]; exact (List.getElem?_eq_some_iff.1 hi).1
    obtain ⟨D, ys, h1, h2⟩ := h.2 i _ (List.getElem?_eq_getElem hlt)
    rw [hi] at h1
    injection h1 with h1
    subst h1
    cases D with
    | zero => exact h2.elim
    | succ D =>
      obtain ⟨f0, f1, f2, B, m', c', B1, d1, B2, d2, us, zs, he, -⟩ := nt_open h2
      exact ⟨_, _, _, _, _, _, _, _, _, _, _, _, _, _, _, _, by simp only; rw [he]; rfl⟩
theorem fttrees_any {cb kb rb db eb : Nat} {k : Int} {rs : List (ByteArray × Value)} {Q : Nat → Prop} (l : List Tr) (hnm : ∀ t ∈ l, t.nm.length ≤ 100000)
    (A : Option Addr) (n cap : Nat) (xs : List Value) (w : World) (hn : l.length = n) (hn2 : n ≤ 1000) (hS : SlAt w Q (.slice A n cap) n xs) (hL : LsAt (TrAt w Q) l xs) (hrs : RsAt w Q l rs) (hx : RsX rs xs) (hc : CkB w cb kb rb db k) (hrm : RM w (vsOf rs) rb 0 []) (hQ : ∀ b, Q b → b ≠ rb)
    (hE : w.heap[eb]? = some (.cells #[.pointer (some ⟨cb, 0, none⟩)] 105 (0, 0))) (hne : eb ≠ rb) (hnc : cb ≠ rb) :
    Calls Tryz.prog 42 #[.slice A n cap, .func (.func 43) #[] #[.pointer (some ⟨eb, 0, none⟩)]] w fun e w' => e = .returned (.tuple #[.string (trsE [] l).1, .int .i64 (trsE [] l).2]) ∧ ((trsE [] l).2 = 0 → ∃ m, RM w' (vsOf rs) rb m rs) ∧ Touch (fun b => b = rb) w w' := by
  have e0 : ∀ (args : Array Value) (w : World), (callFunc 43 args).run Tryz.prog w = .ok (.enter 43 args) w := enters_of Tryz.func43 (by kernel_rfl) rfl
  obtain ⟨x, hxx⟩ : ∃ x, trsE [] l = x := ⟨_, rfl⟩
  rw [hxx]
  have hrl := hrm.lt
  have hnames := rs_names hrs
  have hvs := vs_form hrs
  refine (firsttree_gen (σ := Nat) (Q := Q) (F := fun b => b = rb) (P := fun i m W => trsE ((l.take i).map fun t => bs t.nm) (l.drop i) = x ∧ RM W (vsOf rs) rb m (rs.take i) ∧ m ≤ i ∧ CkB W cb kb rb db k ∧ W.heap[eb]? = some (.cells #[.pointer (some ⟨cb, 0, none⟩)] 105 (0, 0))) (Fin := fun s r W => x = (s, r) ∧ (r = 0 → ∃ m, RM W (vsOf rs) rb m rs)) l A n cap xs w e0 hn (by omega) hS hL hQ (fun b hb => by subst hb; exact hrl) ?_ (fun _ _ _ _ h t => ⟨h.1, fun h0 => by obtain ⟨m, hm⟩ := h.2 h0; exact ⟨m, hm.touch t (fun f => f)⟩⟩) ?_ ?_ 0 ⟨hxx, hrm, Nat.le_refl _, hc, hE⟩).mono ?_
  · rintro i s W W' ⟨a1, a2, a3, a4, a5⟩ t
    exact ⟨a1, a2.touch t (fun f => f), a3, a4.touch t (fun f => f), (t.block _ (blk_lt a5) (fun f => f)).trans a5⟩
  · rintro i t m W D e0 e1 e2 B m' c A1 c1 A2 c2 us zs hy hT ⟨a1, a2, a3, a4, a5⟩ hC hcell
    have hi := (List.getElem?_eq_some_iff.1 hy).1
    have hri := rs_cell hrs hx hy hcell
    have hmem : Value.agg (ndA t.root e0 e1 e2 B m' c A1 c1 A2 c2) ∈ vsOf rs := List.mem_cons_of_mem _ (List.mem_map.2 ⟨_, List.mem_of_getElem? hri, rfl⟩)
    have hnt := hnm t (List.mem_of_getElem? hy)
    have hpre : (rs.take i).map (·.1) = (l.take i).map fun t => bs t.nm := by rw [List.map_take, hnames, List.map_take]
    rw [drop13_at hy] at a1
    simp only [trsE] at a1
    refine (ttrees_any (bs t.nm) _ _ _ _ _ _ _ _ _ _ _ _ _ _ _ _ a4 a2 (by omega) hvs (by rw [bs_size]; omega) hmem a5).mono ?_
    rintro e w' (⟨h1, rfl, hT'⟩ | ⟨h1, rfl, hRM, hT'⟩)
    · rw [hpre] at h1
      rw [if_pos h1] at a1
      exact ⟨6, rfl, hT'.mono (fun b f => f.elim), fun h0 => absurd h0 (by decide), fun _ => ⟨a1.symm, fun h0 => absurd h0 (by decide)⟩⟩
    · rw [hpre] at h1
      rw [if_neg (by rw [h1]; decide)] at a1
      refine ⟨0, rfl, hT', fun _ => ⟨m + 1, ?_, ?_, by omega, a4.touch hT' hnc, (hT'.block _ (blk_lt a5) hne).trans a5⟩, fun h0 => absurd rfl h0⟩
      · rw [List.take_add_one, hy, List.map_append]
        exact a1
      · rw [List.take_add_one, hri]
        exact hRM
  · rintro s W ⟨a1, a2, -⟩
    rw [List.drop_of_length_le (by omega)] at a1
    have hlr := hrs.1
    rw [List.take_of_length_le (by omega)] at a2
    exact ⟨a1.symm, fun _ => ⟨s, a2⟩⟩
  · rintro e w' ⟨s, r, rfl, ⟨hx, hk⟩, hT⟩
    rw [hx]
    exact ⟨rfl, hk, hT⟩
theorem st_boxes (w : World) (v0 : Value) (pg : Array Value) {W : World} (hW : (w.alloc (.cells #[v0] 105)).alloc (.cells pg 29) = W) :
    Touch NoB w W ∧ W.heap[w.heap.size]? = some (.cells #[v0] 105 (0, 0)) ∧ W.heap[w.heap.size + 1]? = some (.cells pg 29 (0, 0)) := by
  subst hW
  have e1 : (w.alloc (.cells #[v0] 105)).heap.size = w.heap.size + 1 := by simp only [World.size_alloc]
  refine ⟨((Touch.refl _ _).alloc _).alloc _, ?_, alloc_blk _ _ _ e1⟩
  exact (((Touch.refl NoB _).alloc _).block _ (by rw [e1]; omega) (fun f => f)).trans (alloc_blk _ _ _ rfl)
section
variable {cb kb rb db : Nat} {rs : List (ByteArray × Value)} {Q : Nat → Prop}
theorem ctrees_any {k : Int} (l : List Tr) (hnm : ∀ t ∈ l, t.nm.length ≤ 100000)
    (A1 : Option Addr) (n1 c1 : Nat) (A : Option Addr) (n cap : Nat) (A3 : Option Addr) (n3 c3 : Nat) (xs : List Value) (w : World) (hn : l.length = n) (hn2 : n ≤ 100) (hS : SlAt w Q (.slice A n cap) n xs) (hL : LsAt (TrAt w Q) l xs) (hrs : RsAt w Q l rs) (hx : RsX rs xs) (hc : CkB w cb kb rb db k) (hrm : RM w (vsOf rs) rb 0 []) (hQ : ∀ b, Q b → b ≠ rb) (hnc : cb ≠ rb) :
    Calls Tryz.prog 24 #[.pointer (some ⟨cb, 0, none⟩), .agg #[.slice A1 n1 c1, .slice A n cap, .slice A3 n3 c3]] w fun e w' => e = .returned (.tuple #[.string (trsE [] l).1, .int .i64 (trsE [] l).2]) ∧ ((trsE [] l).2 = 0 → ∃ m, RM w' (vsOf rs) rb m rs) ∧ Touch (fun b => b = rb) w w' := by
  obtain ⟨W0, hW0⟩ : ∃ W, (w.alloc (.cells #[.pointer (some ⟨cb, 0, none⟩)] 105)).alloc (.cells #[.slice A1 n1 c1, .slice A n cap, .slice A3 n3 c3] 29) = W := ⟨_, rfl⟩
  obtain ⟨t0, b0, b1⟩ := st_boxes _ _ _ hW0
  have hrl := hrm.lt
  have HF := Lib.hid (fttrees_any l hnm A n cap xs W0 hn (by omega) (hS.touch t0 (fun b _ f => f)) (hL.mono (fun x ys h => h.touch t0 (fun b _ f => f))) (hrs.touch t0 (fun b _ f => f)) hx (hc.touch t0 (fun f => f)) (hrm.touch t0 (fun f => f)) hQ b0 (by omega) hnc)
  have HT := Lib.hid t0
  obtain ⟨y, hy⟩ : ∃ y, trsE [] l = y := ⟨_, rfl⟩
  rw [hy] at HF ⊢
  obtain ⟨y1, y2⟩ := y
  simp only at HF ⊢
  have p1 := cell_blk b1 1
  have pl := blk_lt b1
  clear hnm hS hL hrs hx hc hrm hQ t0 b0 b1 hy hn hrl
  go_enter Tryz.func24, Tryz.ntmps24
  go_wp2_with fail
  refine HF.out.mono ?_
  rintro r w2 ⟨rfl, h1, hT⟩
  have HT2 := Lib.hid (And.intro h1 ((HT.out.mono (fun b f => f.elim)).same hT))
  clear h1 hT
  go_wp2
  go_ret2
  exact ⟨rfl, HT2.out.1, HT2.out.2⟩
theorem cnodes_any {ks : List KyG} {vs : List Value} {dn : List ByteArray} (l : List Tr) (f : Nat) (hts : ∀ t ∈ l, ndFit f t.root = true)
    (A1 : Option Addr) (n1 c1 : Nat) (A : Option Addr) (n cap : Nat) (A3 : Option Addr) (n3 c3 : Nat) (xs : List Value) (w : World) (hn : l.length = n) (hn2 : n ≤ 1000000) (hS : SlAt w Q (.slice A n cap) n xs) (hL : LsAt (TrAt w Q) l xs) (hC : CN w cb kb rb db ks vs rs dn Q) (hc : CkB w cb kb rb db 0) (hk : sumC (l.map fun t => ndC f t.root) ≤ 65536) :
    Calls Tryz.prog 26 #[.pointer (some ⟨cb, 0, none⟩), .agg #[.slice A1 n1 c1, .slice A n cap, .slice A3 n3 c3]] w fun e w' => e = .returned (.tuple #[.string (fstT (fun t => nodE ks (rs.map (·.1)) dn f t.root) l).1, .int .i64 (fstT (fun t => nodE ks (rs.map (·.1)) dn f t.root) l).2]) ∧ (∃ k, CkB w' cb kb rb db k) ∧ Touch (fun b => b = cb) w w' := by
  obtain ⟨W0, hW0⟩ : ∃ W, (w.alloc (.cells #[.pointer (some ⟨cb, 0, none⟩)] 105)).alloc (.cells #[.slice A1 n1 c1, .slice A n cap, .slice A3 n3 c3] 29) = W := ⟨_, rfl⟩
  obtain ⟨t0, b0, b1⟩ := st_boxes _ _ _ hW0
  have hcl := blk_lt hc
  have HF := Lib.hid (ftnodes_any l f hts A n cap xs W0 hn hn2 (hS.touch t0 (fun b _ f => f)) (hL.mono (fun x ys h => h.touch t0 (fun b _ f => f))) (hC.touch (t0.mono (fun b f => f.elim))) (hc.touch t0 (fun f => f)) hk b0 (by omega))
  have HT := Lib.hid t0
  obtain ⟨y, hy⟩ : ∃ y, fstT (fun t => nodE ks (rs.map (·.1)) dn f t.root) l = y := ⟨_, rfl⟩
  rw [hy] at HF ⊢
  obtain ⟨y1, y2⟩ := y
  simp only at HF ⊢
  have p1 := cell_blk b1 1
  have pl := blk_lt b1
  clear hts hS hL hC hc hk t0 b0 b1 hy hn hcl
  go_enter Tryz.func26, Tryz.ntmps26
  go_wp2_with fail
  refine HF.out.mono ?_
  rintro r w2 ⟨rfl, h1, hT⟩
  have HT2 := Lib.hid (And.intro h1 ((HT.out.mono (fun b f => f.elim)).same hT))
  clear h1 hT
  go_wp2
  go_ret2
  exact ⟨rfl, HT2.out.1, HT2.out.2⟩
theorem crings_any {k : Int} {mr : Nat} {vs : List Value} (l : List Tr) (x : ByteArray × Int) (hx : rngT (findR l) l = some x) (hts : ∀ t ∈ l, ∃ g, ndFit g t.root = true) (hnm : ∀ t ∈ l, t.nm.length ≤ 100000)
    (A1 : Option Addr) (n1 c1 : Nat) (A : Option Addr) (n cap : Nat) (A3 : Option Addr) (n3 c3 : Nat) (xs : List Value) (w : World) (hn : l.length = n) (hn2 : n ≤ 1000000) (hS : SlAt w Q (.slice A n cap) n xs) (hL : LsAt (TrAt w Q) l xs) (hck : CkB w cb kb rb db k) (hrm : RM w vs rb mr rs) (hrs : RsAt w Q l rs) (hQ : ∀ b, Q b → b < w.heap.size) :
    Calls Tryz.prog 27 #[.pointer (some ⟨cb, 0, none⟩), .agg #[.slice A1 n1 c1, .slice A n cap, .slice A3 n3 c3]] w fun e w' => e = .returned (.tuple #[.string x.1, .int .i64 x.2]) ∧ Touch NoB w w' := by
  obtain ⟨W0, hW0⟩ : ∃ W, (w.alloc (.cells #[.pointer (some ⟨cb, 0, none⟩)] 105)).alloc (.cells #[.slice A1 n1 c1, .slice A n cap, .slice A3 n3 c3] 29) = W := ⟨_, rfl⟩
  obtain ⟨t0, b0, b1⟩ := st_boxes _ _ _ hW0
  have HF := Lib.hid (ftrings_any l x hx hts hnm A n cap xs W0 hn hn2 (hS.touch t0 (fun b _ f => f)) (hL.mono (fun x ys h => h.touch t0 (fun b _ f => f))) ⟨⟨k, hck.touch t0 (fun f => f)⟩, ⟨mr, hrm.touch t0 (fun f => f)⟩, hrs.touch t0 (fun b _ f => f), b0, hQ, t0.size⟩)
  have HT := Lib.hid t0
  obtain ⟨y1, y2⟩ := x
  simp only at HF ⊢
  have p1 := cell_blk b1 1
  have pl := blk_lt b1
  clear hts hS hL hck hrm hrs hQ t0 b0 b1 hx hn hnm
  go_enter Tryz.func27, Tryz.ntmps27
  go_wp2_with fail
  refine HF.out.mono ?_
  rintro r w2 ⟨rfl, hT⟩
  have HT2 := Lib.hid (HT.out.same hT)
  clear hT
  go_wp2
  go_ret2
  exact ⟨rfl, HT2.out⟩
theorem csizes_any {k : Int} {mr : Nat} {vs : List Value} (l : List Tr) (x : ByteArray × Int) (hx : szT (findR l) l = some x) (hts : ∀ t ∈ l, ∃ g, ndFit g t.root = true)
    (A1 : Option Addr) (n1 c1 : Nat) (A : Option Addr) (n cap : Nat) (A3 : Option Addr) (n3 c3 : Nat) (xs : List Value) (w : World) (hn : l.length = n) (hn2 : n ≤ 1000000) (hS : SlAt w Q (.slice A n cap) n xs) (hL : LsAt (TrAt w Q) l xs) (hck : CkB w cb kb rb db k) (hrm : RM w vs rb mr rs) (hrs : RsAt w Q l rs) (hQ : ∀ b, Q b → b < w.heap.size) :
    Calls Tryz.prog 28 #[.pointer (some ⟨cb, 0, none⟩), .agg #[.slice A1 n1 c1, .slice A n cap, .slice A3 n3 c3]] w fun e w' => e = .returned (.tuple #[.string x.1, .int .i64 x.2]) ∧ Touch NoB w w' := by
  obtain ⟨W0, hW0⟩ : ∃ W, (w.alloc (.cells #[.pointer (some ⟨cb, 0, none⟩)] 105)).alloc (.cells #[.slice A1 n1 c1, .slice A n cap, .slice A3 n3 c3] 29) = W := ⟨_, rfl⟩
  obtain ⟨t0, b0, b1⟩ := st_boxes _ _ _ hW0
  have HF := Lib.hid (ftsizes_any l x hx hts A n cap xs W0 hn hn2 (hS.touch t0 (fun b _ f => f)) (hL.mono (fun x ys h => h.touch t0 (fun b _ f => f))) ⟨⟨k, hck.touch t0 (fun f => f)⟩, ⟨mr, hrm.touch t0 (fun f => f)⟩, hrs.touch t0 (fun b _ f => f), b0, hQ, t0.size⟩)
  have HT := Lib.hid t0
  obtain ⟨y1, y2⟩ := x
  simp only at HF ⊢
  have p1 := cell_blk b1 1
  have pl := blk_lt b1
  clear hts hS hL hck hrm hrs hQ t0 b0 b1 hx hn
  go_enter Tryz.func28, Tryz.ntmps28
  go_wp2_with fail
  refine HF.out.mono ?_
  rintro r w2 ⟨rfl, hT⟩
  have HT2 := Lib.hid (HT.out.same hT)
  clear hT
  go_wp2
  go_ret2
  exact ⟨rfl, HT2.out⟩
end
end Go.Proofs.YtnphaaahdlkmhaaGreat
end
