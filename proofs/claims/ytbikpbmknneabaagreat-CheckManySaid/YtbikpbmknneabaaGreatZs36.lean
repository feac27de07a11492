/-
  Package check's alone: a node without its Kids, kind by kind. Conditions: those that each theorem names.
-/
import Derived.Test.YtbikpbmknneabaaGreatZs35
import Derived.Test.YtbikpbmknneabaaGreatZs18
section
namespace Go.Proofs.YtbikpbmknneabaaGreat
open Go.ChangeShapes Go.WideShapes Go.ChangeAt Go.RowKit Go.Maps
set_option maxRecDepth 100000
set_option maxHeartbeats 4000000

/-- A node's ten cells as one value. -/
def ndV (kd a b : Int) (s : ByteArray) (e0 e1 : Int) (e2 : ByteArray) (A : Option Addr) (m c : Nat) (A1 : Option Addr) (n1 c1 : Nat) (A2 : Option Addr) (n2 c2 : Nat) : Array Value :=
  #[.int .i64 kd, .int .i64 a, .int .i64 b, .string s, .int .i64 e0, .int .i64 e1, .string e2, .slice A m c, .slice A1 n1 c1, .slice A2 n2 c2]
section
variable {cb kb rb db mk md mr : Nat} {k : Int} {ks : List KyG} {dn : List ByteArray} {vs : List Value} {rs : List (ByteArray × Value)} {Q : Nat → Prop} {w : World}
  (a b : Int) (s : ByteArray) (e0 e1 : Int) (e2 : ByteArray) (A : Option Addr) (m c : Nat) (A1 : Option Addr) (n1 c1 : Nat) (A2 : Option Addr) (n2 c2 : Nat)
theorem alone_if (x : Ex) (hc : CkB w cb kb rb db k) (hk : KM w kb mk ks) (hx : ET w Q x e0 e1 e2 A m c) (hf : exFit x = true) :
    Calls Tryz.prog 72 #[.pointer (some ⟨cb, 0, none⟩), .agg (ndV 7 a b s e0 e1 e2 A m c A1 n1 c1 A2 n2 c2)] w fun e w' => e = .returned (.int .i64 (exprE ks 1 x)) ∧ Touch NoB w w' := by
  have HO := Lib.hid (fun W (t : Touch NoB w W) => cexpr_any (want := 1) x e0 e1 e2 A m c W (hc.touch t (fun f => f)) (hk.touch t (fun f => f)) (hx.touch0 t) hf)
  clear hc hk hx
  unfold ndV
  go_enter Tryz.func72, Tryz.ntmps72
  go_wp2_with fail
  refine (HO.out _ (by repeat (first | with_reducible exact Touch.refl NoB _ | with_reducible refine Touch.drew ?_ | with_reducible refine Touch.alloc ?_ _))).mono ?_
  rintro r w2 ⟨rfl, hT⟩
  have HT := Lib.hid (Touch.same (F := NoB) (a := w) (by repeat (first | with_reducible exact Touch.refl NoB _ | with_reducible refine Touch.drew ?_ | with_reducible refine Touch.alloc ?_ _)) hT)
  clear hT
  go_wp2
  go_ret
  exact ⟨rfl, HT.out⟩
theorem alone_set (x : Ex) (hc : CkB w cb kb rb db k) (hk : KM w kb mk ks) (hx : ET w Q x e0 e1 e2 A m c) (hf : exFit x = true) (hs : s.size ≤ 9223372036854775807) :
    Calls Tryz.prog 72 #[.pointer (some ⟨cb, 0, none⟩), .agg (ndV 8 a b s e0 e1 e2 A m c A1 n1 c1 A2 n2 c2)] w fun e w' => e = .returned (.int .i64 (match kdG ks s with | none => 5 | some k => exprE ks k x)) ∧ Touch NoB w w' := by
  have HO := Lib.hid (fun W want (t : Touch NoB w W) => cexpr_any (want := want) x e0 e1 e2 A m c W (hc.touch t (fun f => f)) (hk.touch t (fun f => f)) (hx.touch0 t) hf)
  have a0 := cell_blk hc 0
  have a3 := blk_lt hc
  obtain ⟨z, hrun, hz⟩ := (KM.touch (w' := ((w.alloc (.cells #[.pointer (some ⟨cb, 0, none⟩)] 105)).alloc (.cells #[.int .i64 8, .int .i64 a, .int .i64 b, .string s, .int .i64 e0, .int .i64 e1, .string e2, .slice A m c, .slice A1 n1 c1, .slice A2 n2 c2] 62)).drew) (F := NoB) hk (by repeat (first | with_reducible exact Touch.refl NoB _ | with_reducible refine Touch.drew ?_ | with_reducible refine Touch.alloc ?_ _)) (fun f => f)).look hs
  clear hc hk hx
  unfold ndV
  cases hq : kdG ks s with
  | none =>
    rw [hq] at hrun
    clear hz hq
    go_enter Tryz.func72, Tryz.ntmps72
    go_wp2_with fail
    go_region
    go_wp2
    go_ret
    exact ⟨rfl, by repeat (first | with_reducible exact Touch.refl NoB _ | with_reducible refine Touch.drew ?_ | with_reducible refine Touch.alloc ?_ _)⟩
  | some v =>
    rw [hq] at hrun
    have hzv := hz v hq
    subst hzv
    clear hz hq
    go_enter Tryz.func72, Tryz.ntmps72
    go_wp2_with fail
    go_region
    go_wp2_with fail
    refine (HO.out _ _ (by repeat (first | with_reducible exact Touch.refl NoB _ | with_reducible refine Touch.drew ?_ | with_reducible refine Touch.alloc ?_ _))).mono ?_
    rintro r w2 ⟨rfl, hT⟩
    have HT := Lib.hid (Touch.same (F := NoB) (a := w) (by repeat (first | with_reducible exact Touch.refl NoB _ | with_reducible refine Touch.drew ?_ | with_reducible refine Touch.alloc ?_ _)) hT)
    clear hT
    go_wp2
    go_ret
    exact ⟨rfl, HT.out⟩
theorem alone_pick (l : List Ex) (ys : List Value) (hc : CkB w cb kb rb db k) (hk : KM w kb mk ks) (hn : l.length = n2) (hS : SlAt w Q (.slice A2 n2 c2) n2 ys) (hL : LsAt (XAt w Q) l ys) (hf : ∀ x ∈ l, exFit x = true) (hl : n2 ≤ 1000000) :
    Calls Tryz.prog 72 #[.pointer (some ⟨cb, 0, none⟩), .agg (ndV 11 a b s e0 e1 e2 A m c A1 n1 c1 A2 n2 c2)] w fun e w' => e = .returned (.int .i64 (firstE (l.map (exprE ks 0)))) ∧ Touch NoB w w' := by
  have HO := Lib.hid (fun W eb (t : Touch NoB w W) hE => first_expr (eb := eb) l A2 n2 c2 ys W hn (hS.touch t (fun _ _ f => f)) (hL.mono (fun x ys h => h.touch t (fun _ _ f => f))) (hc.touch t (fun f => f)) (hk.touch t (fun f => f)) hE hf hl)
  clear hc hk hS hL hf hn hl
  unfold ndV
  go_enter Tryz.func72, Tryz.ntmps72
  go_wp2_with fail
  refine (HO.out _ _ (by repeat (first | with_reducible exact Touch.refl NoB _ | with_reducible refine Touch.drew ?_ | with_reducible refine Touch.alloc ?_ _)) ((Touch.block (F := NoB) (w := w.alloc (.cells #[.pointer (some ⟨cb, 0, none⟩)] 105)) (by repeat (first | with_reducible exact Touch.refl NoB _ | with_reducible refine Touch.drew ?_ | with_reducible refine Touch.alloc ?_ _)) _ (by rw [World.size_alloc]; omega) (fun f => f)).trans (alloc_blk _ _ _ rfl))).mono ?_
  rintro r w2 ⟨rfl, hT⟩
  have HT := Lib.hid (Touch.same (F := NoB) (a := w) (by repeat (first | with_reducible exact Touch.refl NoB _ | with_reducible refine Touch.drew ?_ | with_reducible refine Touch.alloc ?_ _)) hT)
  clear hT
  go_wp2
  go_ret
  exact ⟨rfl, HT.out⟩
theorem alone_plan (hc : CkB w cb kb rb db k) (hd : NM w db md dn) (hs : s.size ≤ 9223372036854775807) :
    Calls Tryz.prog 72 #[.pointer (some ⟨cb, 0, none⟩), .agg (ndV 12 a b s e0 e1 e2 A m c A1 n1 c1 A2 n2 c2)] w fun e w' => e = .returned (.int .i64 (if inN dn s = true then 0 else 5)) ∧ Touch NoB w w' := by
  have HO := Lib.hid (fun W (t : Touch NoB w W) => has13_any (s := s) W (hd.touch t (fun f => f)) hs)
  have HE := Lib.hid (fun b x w => eu_any b x w)
  have a0 := cell_blk hc 2
  have a3 := blk_lt hc
  have hR : (if inN dn s = true then (0 : Int) else 5) = euE (inN dn s) 5 := rfl
  rw [hR]
  clear hR
  obtain ⟨q, hq⟩ : ∃ q, inN dn s = q := ⟨_, rfl⟩
  rw [hq] at HO ⊢
  clear hc hd hq
  unfold ndV
  go_enter Tryz.func72, Tryz.ntmps72
  go_wp2_with fail
  go_region_law (first | (go_simp; go_at_call 64; refine (HO.out _ (by repeat (first | with_reducible exact Touch.refl NoB _ | with_reducible refine Touch.drew ?_ | with_reducible refine Touch.alloc ?_ _))).mono ?_; rintro r w2 ⟨rfl, hT⟩; have HT := Lib.hid (Touch.same (F := NoB) (a := w) (by repeat (first | with_reducible exact Touch.refl NoB _ | with_reducible refine Touch.drew ?_ | with_reducible refine Touch.alloc ?_ _)) hT); clear hT) | (go_simp; go_at_call 49; refine (HE.out _ _ _).mono ?_; rintro r w3 ⟨rfl, rfl⟩))
  all_goals
    go_wp2
    go_ret
    exact ⟨rfl, HT.out⟩
def nodeZc : Array Value := #[.int .i64 0, .int .i64 0, .int .i64 0, .string ⟨#[]⟩, .int .i64 0, .int .i64 0, .string ⟨#[]⟩, .slice none 0 0, .slice none 0 0, .slice none 0 0]
theorem alone_use (hc : CkB w cb kb rb db k) (hr : RM w vs rb mr rs) (hvs : ∀ v ∈ vs, ∃ kd a b s e0 e1 e2 A m c A1 n1 c1 A2 n2 c2, v = .agg (ndV kd a b s e0 e1 e2 A m c A1 n1 c1 A2 n2 c2)) (hs : s.size ≤ 9223372036854775807) :
    Calls Tryz.prog 72 #[.pointer (some ⟨cb, 0, none⟩), .agg (ndV 10 a b s e0 e1 e2 A m c A1 n1 c1 A2 n2 c2)] w fun e w' => e = .returned (.int .i64 (if inN (rs.map (·.1)) s = true then 0 else 5)) ∧ Touch NoB w w' := by
  have HE := Lib.hid (fun b x w => eu_any b x w)
  obtain ⟨kd', a', b', s', e0', e1', e2', A', m', c', A1', n1', c1', A2', n2', c2', hv⟩ := hvs _ (hr.val s)
  have hR : (if inN (rs.map (·.1)) s = true then (0 : Int) else 5) = euE (fnd rs s).isSome 5 := by rw [fnd_in]; rfl
  rw [hR]
  obtain ⟨q, hq⟩ : ∃ q, (fnd rs s).isSome = q := ⟨_, rfl⟩
  obtain ⟨W0, hW0⟩ : ∃ W, (w.alloc (.cells #[.pointer (some ⟨cb, 0, none⟩)] 105)).alloc (.cells #[.int .i64 10, .int .i64 a, .int .i64 b, .string s, .int .i64 e0, .int .i64 e1, .string e2, .slice A m c, .slice A1 n1 c1, .slice A2 n2 c2] 62) = W := ⟨_, rfl⟩
  have t0 : Touch NoB w W0 := by rw [← hW0]; exact ((Touch.refl _ _).alloc _).alloc _
  have b0 : W0.heap[w.heap.size]? = some (.cells #[.pointer (some ⟨cb, 0, none⟩)] 105 (0, 0)) := by
    rw [← hW0]
    exact (((Touch.refl NoB _).alloc _).block _ (by rw [World.size_alloc]; omega) (fun f => f)).trans (alloc_blk _ _ _ rfl)
  have b1 : W0.heap[w.heap.size + 1]? = some (.cells #[.int .i64 10, .int .i64 a, .int .i64 b, .string s, .int .i64 e0, .int .i64 e1, .string e2, .slice A m c, .slice A1 n1 c1, .slice A2 n2 c2] 62 (0, 0)) := by rw [← hW0]; exact alloc_blk _ _ _ (by rw [World.size_alloc])
  have hc0 := hc.touch t0 (fun f => f)
  have hr0 := hr.touch t0 (fun f => f)
  have c0 := cell_blk hc0 1
  have c9 := blk_lt hc0
  have d0 := cell_blk b0 0
  have d9 := blk_lt b0
  have e3 := cell_blk b1 3
  have e9 := blk_lt b1
  have k0 := cell_blk b1 0
  have hr1 := (hr0.touch (w' := W0.drew) (F := NoB) (by repeat (first | with_reducible exact Touch.refl NoB _ | with_reducible refine Touch.drew ?_ | with_reducible refine Touch.alloc ?_ _)) (fun f => f)).look2 hs
  have hr2 := (hr0.touch (w' := (W0.alloc (.cells nodeZc 62)).drew) (F := NoB) (by repeat (first | with_reducible exact Touch.refl NoB _ | with_reducible refine Touch.drew ?_ | with_reducible refine Touch.alloc ?_ _)) (fun f => f)).look2 hs
  rw [hv, hq] at hr1 hr2
  rw [hq]
  have HT := Lib.hid t0
  unfold nodeZc at hr2
  clear hR hq hv hc hr hvs b0 b1 hc0 hr0 t0
  unfold ndV at hr1 hr2 ⊢
  go_enter Tryz.func72, Tryz.ntmps72
  go_wp2_with fail
  go_region
  all_goals go_wp2_with (first | (go_at_call 49; refine (HE.out _ _ _).mono ?_; rintro r w3 ⟨rfl, rfl⟩))
  all_goals go_ret
  all_goals exact ⟨rfl, HT.out.same (by repeat (first | with_reducible exact Touch.refl NoB _ | with_reducible refine Touch.drew ?_ | with_reducible refine Touch.alloc ?_ _))⟩
theorem alone_par :
    Calls Tryz.prog 72 #[.pointer (some ⟨cb, 0, none⟩), .agg (ndV 4 a b s e0 e1 e2 A m c A1 n1 c1 A2 n2 c2)] w fun e w' => e = .returned (.int .i64 (euE ((decide (1 ≤ a) && decide (a ≤ (n1 : Int))) && (decide (1 ≤ b) && decide (b ≤ (n1 : Int)))) 1)) ∧ Touch NoB w w' := by
  have HW := Lib.hid (fun n lo hi w => within13_any n lo hi w)
  have HE := Lib.hid (fun b x w => eu_any b x w)
  obtain ⟨p, hp⟩ : ∃ p, (decide (1 ≤ a) && decide (a ≤ (n1 : Int))) = p := ⟨_, rfl⟩
  obtain ⟨q, hq⟩ : ∃ q, (decide (1 ≤ b) && decide (b ≤ (n1 : Int))) = q := ⟨_, rfl⟩
  rw [hp, hq]
  have HP := Lib.hid hp
  have HQ := Lib.hid hq
  clear hp hq
  unfold ndV
  cases p <;> cases q
  all_goals
    go_enter Tryz.func72, Tryz.ntmps72
    go_wp2_with (first | (go_at_call 85; refine (HW.out _ _ _ _).mono ?_; rintro r w2 ⟨rfl, rfl⟩; first | rw [HP.out] | rw [HQ.out]) | (go_at_call 49; refine (HE.out _ _ _).mono ?_; rintro r w3 ⟨rfl, rfl⟩))
    go_ret
    exact ⟨rfl, by repeat (first | with_reducible exact Touch.refl NoB _ | with_reducible refine Touch.drew ?_ | with_reducible refine Touch.alloc ?_ _)⟩
theorem alone_rep :
    Calls Tryz.prog 72 #[.pointer (some ⟨cb, 0, none⟩), .agg (ndV 6 a b s e0 e1 e2 A m c A1 n1 c1 A2 n2 c2)] w fun e w' => e = .returned (.int .i64 (euE (decide (1 ≤ a) && decide (a ≤ 1000)) 1)) ∧ Touch NoB w w' := by
  have HE := Lib.hid (fun b x w => eu_any b x w)
  have HW := Lib.hid (fun n lo hi w => within13_any n lo hi w)
  obtain ⟨p, hp⟩ : ∃ p, (decide (1 ≤ a) && decide (a ≤ 1000)) = p := ⟨_, rfl⟩
  rw [hp]
  have HP := Lib.hid hp
  clear hp
  unfold ndV
  go_enter Tryz.func72, Tryz.ntmps72
  go_wp2_with (first | (go_at_call 85; refine (HW.out _ _ _ _).mono ?_; rintro r w2 ⟨rfl, rfl⟩; rw [HP.out]) | (go_at_call 49; refine (HE.out _ _ _).mono ?_; rintro r w3 ⟨rfl, rfl⟩))
  go_ret
  exact ⟨rfl, by repeat (first | with_reducible exact Touch.refl NoB _ | with_reducible refine Touch.drew ?_ | with_reducible refine Touch.alloc ?_ _)⟩
theorem alone_else (kd : Nat) (hk : kd = 0 ∨ kd = 1 ∨ kd = 2 ∨ kd = 3 ∨ kd = 5 ∨ kd = 9 ∨ kd = 13 ∨ kd = 14 ∨ kd = 15) :
    Calls Tryz.prog 72 #[.pointer (some ⟨cb, 0, none⟩), .agg (ndV (kd : Int) a b s e0 e1 e2 A m c A1 n1 c1 A2 n2 c2)] w fun e w' => e = .returned (.int .i64 0) ∧ Touch NoB w w' := by
  have f7 : ((kd : Int) == 7) = false := by simp; omega
  have f8 : ((kd : Int) == 8) = false := by simp; omega
  have f11 : ((kd : Int) == 11) = false := by simp; omega
  have f12 : ((kd : Int) == 12) = false := by simp; omega
  have f10 : ((kd : Int) == 10) = false := by simp; omega
  have f4 : ((kd : Int) == 4) = false := by simp; omega
  have f6 : ((kd : Int) == 6) = false := by simp; omega
  obtain ⟨z, hz⟩ : ∃ z, (kd : Int) = z := ⟨_, rfl⟩
  rw [hz] at f7 f8 f11 f12 f10 f4 f6 ⊢
  clear hz hk
  unfold ndV
  go_enter Tryz.func72, Tryz.ntmps72
  go_wp2
  go_ret
  exact ⟨rfl, by repeat (first | with_reducible exact Touch.refl NoB _ | with_reducible refine Touch.drew ?_ | with_reducible refine Touch.alloc ?_ _)⟩
end
end Go.Proofs.YtbikpbmknneabaaGreat
end
/-
  Package check's alone over any well-formed node. Conditions: those that the theorem names.
-/
section
namespace Go.Proofs.YtbikpbmknneabaaGreat
open Go.ChangeShapes Go.WideShapes Go.ChangeAt Go.RowKit Go.Maps
set_option maxRecDepth 100000
set_option maxHeartbeats 4000000

/-- A node's cells. -/
structure NdC (w : World) (Q : Nat → Prop) (D : Nat) (n : Nd) (e0 e1 : Int) (e2 : ByteArray) (A : Option Addr) (m c : Nat) (A1 : Option Addr) (c1 : Nat) (A2 : Option Addr) (c2 : Nat) (xs ys : List Value) : Prop where
  ex : ET w Q n.ex e0 e1 e2 A m c
  ks : SlAt w Q (.slice A1 n.ks.length c1) n.ks.length xs
  kl : LsAt (NT w Q D) n.ks xs
  ws : SlAt w Q (.slice A2 n.ws.length c2) n.ws.length ys
  wl : LsAt (XAt w Q) n.ws ys
/-- The cells' value. -/
def ndA (n : Nd) (e0 e1 : Int) (e2 : ByteArray) (A : Option Addr) (m c : Nat) (A1 : Option Addr) (c1 : Nat) (A2 : Option Addr) (c2 : Nat) : Array Value := ndV (n.kd : Int) (n.a : Int) (n.b : Int) (bs n.nm) e0 e1 e2 A m c A1 n.ks.length c1 A2 n.ws.length c2
theorem nt_open {w : World} {Q : Nat → Prop} {D : Nat} {n : Nd} {l : List Value} (h : NT w Q (D + 1) n l) : ∃ e0 e1 e2 A m c A1 c1 A2 c2 xs ys, l.toArray = ndA n e0 e1 e2 A m c A1 c1 A2 c2 ∧ NdC w Q D n e0 e1 e2 A m c A1 c1 A2 c2 xs ys := by
  obtain ⟨a, b, s, A, m, c, kv, wv, xs, ys, rfl, h1, h2, h3, h4, h5⟩ := h
  have h2' := h2
  have h4' := h4
  obtain ⟨A1, c1, rfl, -⟩ := h2'
  obtain ⟨A2, c2, rfl, -⟩ := h4'
  exact ⟨a, b, s, A, m, c, A1, c1, A2, c2, xs, ys, rfl, h1, h2, h3, h4, h5⟩
theorem NdC.touch {w w' : World} {Q F : Nat → Prop} {D : Nat} {n : Nd} {e0 e1 : Int} {e2 : ByteArray} {A : Option Addr} {m c : Nat} {A1 : Option Addr} {c1 : Nat} {A2 : Option Addr} {c2 : Nat} {xs ys : List Value} (h : NdC w Q D n e0 e1 e2 A m c A1 c1 A2 c2 xs ys) (t : Touch F w w') (hq : ∀ b, Q b → ¬ F b) : NdC w' Q D n e0 e1 e2 A m c A1 c1 A2 c2 xs ys :=
  ⟨h.ex.far t hq, h.ks.touch t hq, h.kl.mono (NT.touch t hq D), h.ws.touch t hq, h.wl.mono (fun _ _ h => h.touch t hq)⟩
theorem alone_all {cb kb rb db mk md mr : Nat} {k : Int} {ks : List KyG} {dn : List ByteArray} {vs : List Value} {rs : List (ByteArray × Value)} {Q : Nat → Prop} {w : World} {D : Nat} (f : Nat) (n : Nd) {e0 e1 : Int} {e2 : ByteArray} {A : Option Addr} {m c : Nat} {A1 : Option Addr} {c1 : Nat} {A2 : Option Addr} {c2 : Nat} {xs ys : List Value}
    (hc : CkB w cb kb rb db k) (hk : KM w kb mk ks) (hr : RM w vs rb mr rs) (hs : ∀ v ∈ vs, ∃ kd a b s e0 e1 e2 A m c A1 n1 c1 A2 n2 c2, v = .agg (ndV kd a b s e0 e1 e2 A m c A1 n1 c1 A2 n2 c2)) (hd : NM w db md dn) (hn : NdC w Q D n e0 e1 e2 A m c A1 c1 A2 c2 xs ys) (hf : ndFit (f + 1) n = true) :
    Calls Tryz.prog 72 #[.pointer (some ⟨cb, 0, none⟩), .agg (ndA n e0 e1 e2 A m c A1 c1 A2 c2)] w fun e w' => e = .returned (.int .i64 (aloneE ks (rs.map (·.1)) dn n)) ∧ Touch NoB w w' := by
  simp only [ndFit, Bool.and_eq_true, decide_eq_true_eq, Bool.or_eq_true, List.all_eq_true] at hf
  obtain ⟨⟨⟨⟨⟨⟨⟨⟨⟨f1, f2⟩, f3⟩, f4⟩, f5⟩, f6⟩, f7⟩, f8⟩, f9⟩, f10⟩ := hf
  have hnm : (bs n.nm).size ≤ 9223372036854775807 := by rw [bs_size]; omega
  have hm16 : mostL n.kd ≤ 16 := by unfold mostL; split <;> (try split) <;> omega
  unfold ndA aloneE
  by_cases h7 : n.kd = 7
  · rw [if_pos h7, h7]
    exact alone_if _ _ _ _ _ _ _ _ _ _ _ _ _ _ _ n.ex hc hk hn.ex f5
  rw [if_neg h7]
  by_cases h8 : n.kd = 8
  · rw [if_pos h8, h8]
    exact alone_set _ _ _ _ _ _ _ _ _ _ _ _ _ _ _ n.ex hc hk hn.ex f5 hnm
  rw [if_neg h8]
  by_cases h11 : n.kd = 11
  · rw [if_pos h11, h11]
    exact alone_pick _ _ _ _ _ _ _ _ _ _ _ _ _ _ _ n.ws ys hc hk rfl hn.ws hn.wl f6 (by rw [if_pos h11] at f4; omega)
  rw [if_neg h11]
  by_cases h12 : n.kd = 12
  · rw [if_pos h12, h12]
    exact alone_plan _ _ _ _ _ _ _ _ _ _ _ _ _ _ _ hc hd hnm
  rw [if_neg h12]
  by_cases h10 : n.kd = 10
  · rw [if_pos h10, h10]
    exact alone_use _ _ _ _ _ _ _ _ _ _ _ _ _ _ _ hc hr hs hnm
  rw [if_neg h10]
  by_cases h4 : n.kd = 4
  · rw [if_pos h4, h4]
    have h := alone_par (n.a : Int) (n.b : Int) (bs n.nm) e0 e1 e2 A m c A1 n.ks.length c1 A2 n.ws.length c2 (cb := cb) (w := w)
    have e : euE ((decide ((1 : Int) ≤ (n.a : Int)) && decide ((n.a : Int) ≤ (n.ks.length : Int))) && (decide ((1 : Int) ≤ (n.b : Int)) && decide ((n.b : Int) ≤ (n.ks.length : Int)))) 1 = if (decide (1 ≤ n.a ∧ n.a ≤ n.ks.length) && decide (1 ≤ n.b ∧ n.b ≤ n.ks.length)) = true then 0 else 1 := by
      unfold euE
      have e1 : (decide ((1 : Int) ≤ (n.a : Int)) && decide ((n.a : Int) ≤ (n.ks.length : Int))) = decide (1 ≤ n.a ∧ n.a ≤ n.ks.length) := by
        by_cases a1 : 1 ≤ n.a <;> by_cases a2 : n.a ≤ n.ks.length <;> simp [a1, a2] <;> omega
      have e2 : (decide ((1 : Int) ≤ (n.b : Int)) && decide ((n.b : Int) ≤ (n.ks.length : Int))) = decide (1 ≤ n.b ∧ n.b ≤ n.ks.length) := by
        by_cases a1 : 1 ≤ n.b <;> by_cases a2 : n.b ≤ n.ks.length <;> simp [a1, a2] <;> omega
      rw [e1, e2]
    rw [e] at h
    exact h
  rw [if_neg h4]
  by_cases h6 : n.kd = 6
  · rw [if_pos h6, h6]
    have h := alone_rep (n.a : Int) (n.b : Int) (bs n.nm) e0 e1 e2 A m c A1 n.ks.length c1 A2 n.ws.length c2 (cb := cb) (w := w)
    have e : euE (decide ((1 : Int) ≤ (n.a : Int)) && decide ((n.a : Int) ≤ 1000)) 1 = if decide (1 ≤ n.a ∧ n.a ≤ 1000) = true then 0 else 1 := by
      unfold euE
      have e1 : (decide ((1 : Int) ≤ (n.a : Int)) && decide ((n.a : Int) ≤ 1000)) = decide (1 ≤ n.a ∧ n.a ≤ 1000) := by
        by_cases a1 : 1 ≤ n.a <;> by_cases a2 : n.a ≤ 1000 <;> simp [a1, a2] <;> omega
      rw [e1]
    rw [e] at h
    exact h
  rw [if_neg h6]
  exact alone_else _ _ _ _ _ _ _ _ _ _ _ _ _ _ _ n.kd (by omega)
end Go.Proofs.YtbikpbmknneabaaGreat
end
/-
  Package check's node and its first over a node's Kids. Conditions: those that each theorem names.
-/
section
namespace Go.Proofs.YtbikpbmknneabaaGreat
open Go.ChangeShapes Go.WideShapes Go.ChangeAt Go.RowKit Go.Maps
set_option maxRecDepth 100000
set_option maxHeartbeats 4000000

/-- What stands in memory while nodes are checked. -/
structure CN (w : World) (cb kb rb db : Nat) (ks : List KyG) (vs : List Value) (rs : List (ByteArray × Value)) (dn : List ByteArray) (Q : Nat → Prop) : Prop where
  km : ∃ mk, KM w kb mk ks
  rm : ∃ mr, RM w vs rb mr rs
  dm : ∃ md, NM w db md dn
  hv : ∀ v ∈ vs, ∃ kd a b s e0 e1 e2 A m c A1 n1 c1 A2 n2 c2, v = .agg (ndV kd a b s e0 e1 e2 A m c A1 n1 c1 A2 n2 c2)
  nk : kb ≠ cb
  nr : rb ≠ cb
  nd : db ≠ cb
  hQ : ∀ b, Q b → b ≠ cb
theorem CN.touch {w w' : World} {cb kb rb db : Nat} {ks : List KyG} {vs : List Value} {rs : List (ByteArray × Value)} {dn : List ByteArray} {Q : Nat → Prop} (h : CN w cb kb rb db ks vs rs dn Q) (t : Touch (fun b => b = cb) w w') : CN w' cb kb rb db ks vs rs dn Q := by
  obtain ⟨⟨mk, h1⟩, ⟨mr, h2⟩, ⟨md, h3⟩, h4, h5, h6, h7, h8⟩ := h
  exact ⟨⟨mk, h1.touch t h5⟩, ⟨mr, h2.touch t h6⟩, ⟨md, h3.touch t h7⟩, h4, h5, h6, h7, h8⟩
def NodePost (w : World) (cb kb rb db : Nat) (k : Int) (r : Int) (cnt : Nat) (e : Ending) (w' : World) : Prop :=
  e = .returned (.int .i64 r) ∧ (∃ k' : Int, k ≤ k' ∧ k' ≤ k + cnt ∧ CkB w' cb kb rb db k') ∧ Touch (fun b => b = cb) w w'
/-- What node promises of nodes less than f deep. -/
def NodeOk (cb kb rb db : Nat) (ks : List KyG) (vs : List Value) (rs : List (ByteArray × Value)) (dn : List ByteArray) (Q : Nat → Prop) (f : Nat) : Prop :=
  ∀ (n : Nd), ndFit f n = true → ∀ (w : World) (D : Nat) (e0 e1 : Int) (e2 : ByteArray) (A : Option Addr) (m c : Nat) (A1 : Option Addr) (c1 : Nat) (A2 : Option Addr) (c2 : Nat) (xs ys : List Value) (k : Int),
    CN w cb kb rb db ks vs rs dn Q → CkB w cb kb rb db k → 0 ≤ k → k + ndC f n ≤ 65536 → NdC w Q D n e0 e1 e2 A m c A1 c1 A2 c2 xs ys →
    Calls Tryz.prog 47 #[.pointer (some ⟨cb, 0, none⟩), .agg (ndA n e0 e1 e2 A m c A1 c1 A2 c2)] w (NodePost w cb kb rb db k (nodE ks (rs.map (·.1)) dn f n) (ndC f n))
theorem sumC_take {g : Nd → Nat} : ∀ (l : List Nd) (i : Nat) (y : Nd), l[i]? = some y → sumC ((l.take (i + 1)).map g) = sumC ((l.take i).map g) + g y
  | [], i, y, h => by simp at h
  | x :: l, 0, y, h => by simp at h; subst h; simp [sumC]
  | x :: l, i + 1, y, h => by
    have := sumC_take (g := g) l i y (by simpa using h)
    simp only [List.take_succ_cons, List.map_cons, sumC]
    omega
theorem sumC_le {g : Nd → Nat} : ∀ (l : List Nd) (i : Nat), sumC ((l.take i).map g) ≤ sumC (l.map g)
  | [], i => by simp [sumC]
  | x :: l, 0 => by simp [sumC]
  | x :: l, i + 1 => by
    have := sumC_le (g := g) l i
    simp only [List.take_succ_cons, List.map_cons, sumC]
    omega
def FnRel (cb kb rb db : Nat) (g : Nd → Int) (cn : Nd → Nat) (l : List Nd) (k : Int) (w : World) (v : Value) (wr : World) : Prop :=
  ∃ (i : Nat) (k' : Int), i ≤ l.length ∧ v = .int .i64 i ∧ (∀ (j : Nat) (c : Nd), j < i → l[j]? = some c → g c = 0) ∧ k ≤ k' ∧ k' ≤ k + sumC ((l.take i).map cn) ∧ CkB wr cb kb rb db k' ∧ Touch (fun b => b = cb) w wr
theorem first_node {cb kb rb db : Nat} {ks : List KyG} {vs : List Value} {rs : List (ByteArray × Value)} {dn : List ByteArray} {Q : Nat → Prop} {f : Nat} (ih : NodeOk cb kb rb db ks vs rs dn Q f)
    (l : List Nd) (hl : ∀ y ∈ l, ndFit f y = true) (w : World) (D : Nat) (A : Option Addr) (n cap : Nat) (xs : List Value) (k : Int) (hn : l.length = n) (hn2 : n ≤ 1000) (hC : CN w cb kb rb db ks vs rs dn Q) (hc : CkB w cb kb rb db k) (h0 : 0 ≤ k) (hk : k + sumC (l.map (ndC f)) ≤ 65536) (hS : SlAt w Q (.slice A n cap) n xs) (hL : LsAt (NT w Q D) l xs) :
    Calls Tryz.prog 73 #[.slice A n cap, .func (.func 47) #[.pointer (some ⟨cb, 0, none⟩)] #[]] w (NodePost w cb kb rb db k (firstE (l.map (nodE ks (rs.map (·.1)) dn f))) (sumC (l.map (ndC f)))) := by
  have e0 : ∀ (args : Array Value) (w : World), (callFunc 47 args).run Tryz.prog w = .ok (.enter 47 args) w := enters_of Tryz.func47 (by kernel_rfl) rfl
  have HX := Lib.hid (And.intro hS (And.intro hL (And.intro hl (And.intro hC (And.intro hc (And.intro hn ih))))))
  have hK := Lib.hid hk
  clear hS hL hl hC hc hn ih hk
  obtain ⟨g, hg⟩ : ∃ g, nodE ks (rs.map (·.1)) dn f = g := ⟨_, rfl⟩
  have HG := Lib.hid hg
  rw [hg]
  clear hg
  go_enter Tryz.func73, Tryz.ntmps73
  go_wp2
  go_loopw [10] (fun v10 wr => FnRel cb kb rb db g (ndC f) l k w v10 wr) (fun v10 _ => n - (intOf v10).toNat)
  case atStart => exact ⟨0, k, Nat.zero_le _, rfl, fun j c hj => by omega, Int.le_refl _, by simp [sumC], HX.out.2.2.2.2.1, Touch.refl _ _⟩
  case round =>
    obtain ⟨i, k', hi, rfl, hno, hk1, hk2, hcb, hT⟩ := hrel
    by_cases hlt : i < n
    · obtain ⟨y, hy⟩ : ∃ y, l[i]? = some y := ⟨l[i]'(by have := HX.out.2.2.2.2.2.1; omega), List.getElem?_eq_getElem _⟩
      have hq := HX.out.2.2.2.1.hQ
      obtain ⟨b, e0', e1, e2, B, m, c', A1, c1, A2, c2, rfl, hKid⟩ := kids_atC (HX.out.1.touch hT hq) (HX.out.2.1.mono (NT.touch hT hq D)) i y hy
      have hrg := hKid.rg
      have d0 : wr.cell? ⟨b, i * 10, none⟩ = some (.int .i64 (y.kd : Int)) := hrg 0 _ rfl
      have d1 : wr.cell? ⟨b, i * 10 + 1, none⟩ = some (.int .i64 (y.a : Int)) := hrg 1 _ rfl
      have d2 : wr.cell? ⟨b, i * 10 + 2, none⟩ = some (.int .i64 (y.b : Int)) := hrg 2 _ rfl
      have d3 : wr.cell? ⟨b, i * 10 + 3, none⟩ = some (.string (bs y.nm)) := hrg 3 _ rfl
      have d4 : wr.cell? ⟨b, i * 10 + 4, none⟩ = some (.int .i64 e0') := hrg 4 _ rfl
      have d5 : wr.cell? ⟨b, i * 10 + 5, none⟩ = some (.int .i64 e1) := hrg 5 _ rfl
      have d6 : wr.cell? ⟨b, i * 10 + 6, none⟩ = some (.string e2) := hrg 6 _ rfl
      have d7 : wr.cell? ⟨b, i * 10 + 7, none⟩ = some (.slice B m c') := hrg 7 _ rfl
      have d8 : wr.cell? ⟨b, i * 10 + 8, none⟩ = some (.slice A1 y.ks.length c1) := hrg 8 _ rfl
      have d9 : wr.cell? ⟨b, i * 10 + 9, none⟩ = some (.slice A2 y.ws.length c2) := hrg 9 _ rfl
      have dlt := hKid.lt
      have hnt := hKid.nt
      have hst := sumC_take (g := ndC f) l i y hy
      have hsl := sumC_le (g := ndC f) l (i + 1)
      have hK' := hK.out
      have hfy := HX.out.2.2.1 y (List.mem_of_getElem? hy)
      have hcn := HX.out.2.2.2.1.touch hT
      have HC : Hid (∀ W, Touch NoB wr W → Calls Tryz.prog 47 #[.pointer (some ⟨cb, 0, none⟩), .agg (ndA y e0' e1 e2 B m c' A1 c1 A2 c2)] W (NodePost W cb kb rb db k' (g y) (ndC f y))) := Lib.hid (fun W t => by
        cases D with
        | zero => exact hnt.elim
        | succ D =>
          obtain ⟨f0, f1, f2, B', m', cc', B1, d1', B2, d2', us, zs, he, hC⟩ := nt_open hnt
          have h := HX.out.2.2.2.2.2.2 y hfy W D f0 f1 f2 B' m' cc' B1 d1' B2 d2' us zs k' (hcn.touch (t.mono (fun b f => f.elim))) (hcb.touch t (fun f => f)) (by omega) (by omega) (hC.touch t (fun b _ f => f))
          have he2 : ndA y e0' e1 e2 B m c' A1 c1 A2 c2 = ndA y f0 f1 f2 B' m' cc' B1 d1' B2 d2' := he
          rw [he2, ← HG.out]
          exact h)
      have HR := Lib.hid (And.intro hy (And.intro hno (And.intro hk1 (And.intro hk2 (And.intro hT (And.intro hst hsl))))))
      obtain ⟨r, hr⟩ : ∃ r, g y = r := ⟨_, rfl⟩
      rw [hr] at HC
      have HRR := Lib.hid hr
      unfold ndA ndV at HC
      obtain ⟨z0, hz0⟩ : ∃ z, (y.kd : Int) = z := ⟨_, rfl⟩
      obtain ⟨z1, hz1⟩ : ∃ z, (y.a : Int) = z := ⟨_, rfl⟩
      obtain ⟨z2, hz2⟩ : ∃ z, (y.b : Int) = z := ⟨_, rfl⟩
      obtain ⟨z3, hz3⟩ : ∃ z, bs y.nm = z := ⟨_, rfl⟩
      obtain ⟨z8, hz8⟩ : ∃ z, y.ks.length = z := ⟨_, rfl⟩
      obtain ⟨z9, hz9⟩ : ∃ z, y.ws.length = z := ⟨_, rfl⟩
      rw [hz0] at d0 HC
      rw [hz1] at d1 HC
      rw [hz2] at d2 HC
      rw [hz3] at d3 HC
      rw [hz8] at d8 HC
      rw [hz9] at d9 HC
      clear hy hno hk1 hk2 hcb hT hrg hKid hnt hst hsl hK' hfy hcn hr hq hz0 hz1 hz2 hz3 hz8 hz9
      by_cases hr0 : r = 0
      · subst hr0
        go_wp2_with (go_at_fn 47; refine (HC.out _ (by repeat (first | with_reducible exact Touch.refl NoB _ | with_reducible refine Touch.drew ?_ | with_reducible refine Touch.alloc ?_ _))).mono ?_; rintro r w2 ⟨rfl, ⟨k2, hk3, hk4, hc2⟩, hT2⟩; have HT2 := Lib.hid (And.intro hk3 (And.intro hk4 (And.intro hc2 (Touch.same (F := fun b => b = cb) (a := wr) (by repeat (first | with_reducible exact Touch.refl _ _ | with_reducible refine Touch.drew ?_ | with_reducible refine Touch.alloc ?_ _)) hT2)))); clear hk3 hk4 hc2 hT2)
        go_roundw
        case rel => exact ⟨i + 1, k2, by have := HX.out.2.2.2.2.2.1; omega, by go_num, fun j y' hj hy => by
          by_cases e : j = i
          · subst e; rw [HR.out.1] at hy; injection hy with hy; subst hy; exact HRR.out
          · exact HR.out.2.1 j y' (by omega) hy, by have := HR.out.2.2.1; have := HT2.out.1; omega, by have := HR.out.2.2.2.1; have := HT2.out.2.1; have := HR.out.2.2.2.2.2.1; omega, HT2.out.2.2.1, HR.out.2.2.2.2.1.same HT2.out.2.2.2⟩
        case measure => simp [intOf]; omega
      · have hne : (r != 0) = true := by simpa using hr0
        go_wp2_with (go_at_fn 47; refine (HC.out _ (by repeat (first | with_reducible exact Touch.refl NoB _ | with_reducible refine Touch.drew ?_ | with_reducible refine Touch.alloc ?_ _))).mono ?_; rintro r w2 ⟨rfl, ⟨k2, hk3, hk4, hc2⟩, hT2⟩; have HT2 := Lib.hid (And.intro hk3 (And.intro hk4 (And.intro hc2 (Touch.same (F := fun b => b = cb) (a := wr) (by repeat (first | with_reducible exact Touch.refl _ _ | with_reducible refine Touch.drew ?_ | with_reducible refine Touch.alloc ?_ _)) hT2)))); clear hk3 hk4 hc2 hT2)
        go_ret
        exact ⟨by rw [firstE_at HR.out.1 (by rw [HRR.out]; exact hr0) HR.out.2.1, HRR.out]; rfl, ⟨k2, by have := HR.out.2.2.1; have := HT2.out.1; omega, by have := HR.out.2.2.2.1; have := HT2.out.2.1; have := HR.out.2.2.2.2.2.1; have := HR.out.2.2.2.2.2.2; omega, HT2.out.2.2.1⟩, HR.out.2.2.2.2.1.same HT2.out.2.2.2⟩
    · have hin : i = n := by have := HX.out.2.2.2.2.2.1; omega
      subst hin
      have hsl := sumC_le (g := ndC f) l i
      have HR := Lib.hid (And.intro hno (And.intro hk1 (And.intro hk2 (And.intro hcb (And.intro hT hsl)))))
      clear hno hT hk1 hk2 hcb hsl
      go_wp2
      go_ret
      exact ⟨by rw [firstE_zero (fun j c hc => HR.out.1 j c (by have := (List.getElem?_eq_some_iff.1 hc).1; have := HX.out.2.2.2.2.2.1; omega) hc)]; rfl, ⟨k', HR.out.2.1, by have := HR.out.2.2.1; have := HR.out.2.2.2.2.2; omega, HR.out.2.2.2.1⟩, HR.out.2.2.2.2.1⟩
end Go.Proofs.YtbikpbmknneabaaGreat
end
/-
  Package check's node over any well-formed node. Conditions: those that each theorem names.
-/
section
namespace Go.Proofs.YtbikpbmknneabaaGreat
open Go.ChangeShapes Go.WideShapes Go.ChangeAt Go.RowKit Go.Maps
set_option maxRecDepth 100000
set_option maxHeartbeats 4000000

theorem node_all {cb kb rb db : Nat} {ks : List KyG} {vs : List Value} {rs : List (ByteArray × Value)} {dn : List ByteArray} {Q : Nat → Prop} : ∀ f : Nat, NodeOk cb kb rb db ks vs rs dn Q f
  | 0, n, hf => by simp [ndFit] at hf
  | f + 1, n, hf => by
    intro w D e0 e1 e2 A m c A1 c1 A2 c2 xs ys k hC hc h0 hk hn
    have ih : Hid (NodeOk cb kb rb db ks vs rs dn Q f) := Lib.hid (node_all f)
    have hf' := hf
    simp only [ndFit, Bool.and_eq_true, decide_eq_true_eq, Bool.or_eq_true, List.all_eq_true] at hf
    obtain ⟨⟨⟨⟨⟨⟨⟨⟨⟨f1, f2⟩, f3⟩, f4⟩, f5⟩, f6⟩, f7⟩, f8⟩, f9⟩, f10⟩ := hf
    have hm16 : mostL n.kd ≤ 16 := by unfold mostL; split <;> (try split) <;> omega
    have hk' : k + (1 + sumC (n.ks.map (ndC f)) : Nat) ≤ 65536 := hk
    have hFO := Lib.hid (fun (a b : Int) (s : ByteArray) w => formed_ok n.kd n.ks.length n.ws.length a b e0 e1 s e2 A A1 A2 m c c1 c2 w f1 f2 f3 f4)
    obtain ⟨r1, hr1⟩ : ∃ r, aloneE ks (rs.map (·.1)) dn n = r := ⟨_, rfl⟩
    obtain ⟨r2, hr2⟩ : ∃ r, firstE (n.ks.map (nodE ks (rs.map (·.1)) dn f)) = r := ⟨_, rfl⟩
    have hV : nodE ks (rs.map (·.1)) dn (f + 1) n = if r1 = 0 then r2 else r1 := by rw [← hr1, ← hr2]; rfl
    have hcn : ndC (f + 1) n = 1 + sumC (n.ks.map (ndC f)) := rfl
    rw [hV, hcn]
    clear hV hcn
    obtain ⟨R, hR⟩ : ∃ R, (if r1 = 0 then r2 else r1) = R := ⟨_, rfl⟩
    rw [hR]
    have HRR := Lib.hid hR
    clear hR
    obtain ⟨⟨mk, hkm⟩, ⟨mr, hrm⟩, ⟨md, hdm⟩, hvs, -, -, -, hQ⟩ := id hC
    have HA := Lib.hid (fun W k' (t : Touch (fun b => b = cb) w W) (hcw : CkB W cb kb rb db k') => hr1 ▸ alone_all f n hcw (hkm.touch t hC.nk) (hrm.touch t hC.nr) hvs (hdm.touch t hC.nd) (hn.touch t hQ) hf')
    have HF := Lib.hid (fun W k' (t : Touch (fun b => b = cb) w W) (hcw : CkB W cb kb rb db k') (h0 : 0 ≤ k') (hk2 : k' + sumC (n.ks.map (ndC f)) ≤ 65536) => hr2 ▸ first_node ih.out n.ks f10 W D A1 n.ks.length c1 xs k' rfl (by omega) (hC.touch t) hcw h0 hk2 (hn.ks.touch t hQ) (hn.kl.mono (NT.touch t hQ D)))
    have hcl := blk_lt hc
    have hc3 := cell_blk hc 3
    have hfz := free_blk hc 3
    have hwr : IntKind.i64.wrap (k + 1) = k + 1 := IntWalk.i64_in _ (by omega)
    have hgt : decide (65536 < k + 1) = false := by simp; omega
    obtain ⟨z0, hz0⟩ : ∃ z, (n.kd : Int) = z := ⟨_, rfl⟩
    obtain ⟨z1, hz1⟩ : ∃ z, (n.a : Int) = z := ⟨_, rfl⟩
    obtain ⟨z2, hz2⟩ : ∃ z, (n.b : Int) = z := ⟨_, rfl⟩
    obtain ⟨z3, hz3⟩ : ∃ z, bs n.nm = z := ⟨_, rfl⟩
    obtain ⟨z8, hz8⟩ : ∃ z, n.ks.length = z := ⟨_, rfl⟩
    obtain ⟨z9, hz9⟩ : ∃ z, n.ws.length = z := ⟨_, rfl⟩
    obtain ⟨S, hS⟩ : ∃ z, sumC (n.ks.map (ndC f)) = z := ⟨_, rfl⟩
    unfold ndA ndV at HA ⊢
    rw [hz0, hz8, hz9] at hFO
    rw [hz0, hz1, hz2, hz3, hz8, hz9] at HA ⊢
    rw [hz8, hS] at HF
    rw [hS] at hk' ⊢
    obtain ⟨W2, hW2⟩ : ∃ W, (w.alloc (.cells #[.int .i64 z0, .int .i64 z1, .int .i64 z2, .string z3, .int .i64 e0, .int .i64 e1, .string e2, .slice A m c, .slice A1 z8 c1, .slice A2 z9 c2] 62)).setCell ⟨cb, 3, none⟩ (.int .i64 (k + 1)) = W := ⟨_, rfl⟩
    have tA : Touch NoB w (w.alloc (.cells #[.int .i64 z0, .int .i64 z1, .int .i64 z2, .string z3, .int .i64 e0, .int .i64 e1, .string e2, .slice A m c, .slice A1 z8 c1, .slice A2 z9 c2] 62)) := (Touch.refl _ _).alloc _
    have tS : Touch (fun b => b = cb) (w.alloc (.cells #[.int .i64 z0, .int .i64 z1, .int .i64 z2, .string z3, .int .i64 e0, .int .i64 e1, .string e2, .slice A m c, .slice A1 z8 c1, .slice A2 z9 c2] 62)) W2 := by rw [← hW2]; exact (Touch.refl (fun b => b = cb) _).setCell (p := ⟨cb, 3, none⟩) (.inl rfl) _
    have t2 : Touch (fun b => b = cb) w W2 := (tA.mono (fun b f => f.elim)).same tS
    have hcA := hc.touch tA (fun f => f)
    have hc2 : CkB W2 cb kb rb db (k + 1) := by
      rw [← hW2]
      exact set_blk hcA 3 (.int .i64 (k + 1))
    have hnb : W2.heap[w.heap.size]? = some (.cells #[.int .i64 z0, .int .i64 z1, .int .i64 z2, .string z3, .int .i64 e0, .int .i64 e1, .string e2, .slice A m c, .slice A1 z8 c1, .slice A2 z9 c2] 62 (0, 0)) := (tS.block _ (by rw [World.size_alloc]; omega) (by omega)).trans (alloc_blk _ _ _ rfl)
    have HB := Lib.hid (And.intro t2 (And.intro hc2 hnb))
    obtain ⟨p0, p1, p2, p3, p4, p5, p6, p7, p8, p9, p10⟩ := nd_cells hnb
    have q3 := cell_blk hc2 3
    have q9 := blk_lt hc2
    clear hC hc hn hf' hkm hrm hdm hvs hQ tA tS t2 hcA hc2 hnb hr1 hr2 hz0 hz1 hz2 hz3 hz8 hz9 hS f1 f2 f3 f4 f5 f6 f7 f8 f9 f10 hm16 ih hk
    go_enter Tryz.func47, Tryz.ntmps47
    go_wp2_with fail
    refine (hFO.out _ _ _ _).mono ?_
    rintro r w3 ⟨rfl, hT3⟩
    have HT3 := Lib.hid hT3
    obtain ⟨p0, p1, p2, p3, p4, p5, p6, p7, p8, p9, p10⟩ := nd_cells ((hT3.block _ (blk_lt HB.out.2.2) (fun f => f)).trans HB.out.2.2)
    clear hT3 q3 q9
    go_wp2_with fail
    refine (HA.out _ _ (HB.out.1.same (HT3.out.mono (fun b f => f.elim))) (HB.out.2.1.touch HT3.out (fun f => f))).mono ?_
    rintro r w4 ⟨rfl, hT4⟩
    have HT4 := Lib.hid (HT3.out.same hT4)
    obtain ⟨-, -, -, -, -, -, -, -, p8, -, p10⟩ := nd_cells ((HT4.out.block _ (blk_lt HB.out.2.2) (fun f => f)).trans HB.out.2.2)
    clear hT4 p0 p1 p2 p3 p4 p5 p6 p7 p9
    by_cases hr0 : r1 = 0
    · subst hr0
      go_wp2_with fail
      refine (HF.out _ (k + 1) (HB.out.1.same (HT4.out.mono (fun b f => f.elim))) (HB.out.2.1.touch HT4.out (fun f => f)) (by omega) (by omega)).mono ?_
      rintro r w5 ⟨rfl, ⟨k2, hk3, hk4, hc5⟩, hT5⟩
      have HT5 := Lib.hid (And.intro hk3 (And.intro hk4 (And.intro hc5 ((HB.out.1.same (HT4.out.mono (fun b f => f.elim))).same hT5))))
      clear hk3 hk4 hc5 hT5
      go_wp2
      go_ret
      have hR2 : R = r2 := by rw [← HRR.out]; simp
      exact ⟨by rw [hR2]; rfl, ⟨k2, by have := HT5.out.1; omega, by have := HT5.out.2.1; omega, HT5.out.2.2.1⟩, HT5.out.2.2.2⟩
    · have hne : (r1 != 0) = true := by simpa using hr0
      have HR := Lib.hid hr0
      clear hr0
      go_wp2
      go_ret
      have hR2 : R = r1 := by rw [← HRR.out, if_neg HR.out]
      exact ⟨by rw [hR2]; rfl, ⟨k + 1, by omega, by omega, HB.out.2.1.touch HT4.out (fun f => f)⟩, HB.out.1.same (HT4.out.mono (fun b f => f.elim))⟩
end Go.Proofs.YtbikpbmknneabaaGreat
end
/-
  Package check's firstTree with the steps over nodes. Conditions: those that each theorem names.
-/
section
namespace Go.Proofs.YtbikpbmknneabaaGreat
open Go.ChangeShapes Go.WideShapes Go.ChangeAt Go.RowKit Go.Maps
set_option maxRecDepth 100000
set_option maxHeartbeats 4000000

/-- A tree in a program's row: its eleven cells. -/
theorem tr_cells13 {w : World} {Q : Nat → Prop} {A : Option Addr} {n c : Nat} {ts : List Tr} {xs : List Value} (hS : SlAt w Q (.slice A n c) n xs) (hL : LsAt (TrAt w Q) ts xs) (i : Nat) (t : Tr) (hi : ts[i]? = some t) :
    ∃ g D e0 e1 e2 B m c' A1 c1 A2 c2 us zs, A = some ⟨g, 0, none⟩ ∧ Q g ∧ g < w.heap.size ∧ w.cell? ⟨g, i * 11, none⟩ = some (.string (bs t.nm)) ∧ w.rangeAt g (i * 11 + 1) (ndA t.root e0 e1 e2 B m c' A1 c1 A2 c2).toList ∧ NdC w Q D t.root e0 e1 e2 B m c' A1 c1 A2 c2 us zs ∧ ∀ j, j < 10 → xs[i * 11 + 1 + j]? = (ndA t.root e0 e1 e2 B m c' A1 c1 A2 c2).toList[j]? := by
  obtain ⟨ys, ⟨D, l, rfl, hnt⟩, hc⟩ := hL.at_ (s := 11) (fun a ys h => by obtain ⟨D, zs, rfl, h⟩ := h; rw [List.length_cons, h.len]) i t hi
  cases D with
  | zero => exact hnt.elim
  | succ D =>
    obtain ⟨e0, e1, e2, B, m, c', A1, c1, A2, c2, us, zs, he, hC⟩ := nt_open hnt
    have hl : l = (ndA t.root e0 e1 e2 B m c' A1 c1 A2 c2).toList := by rw [← he]
    obtain ⟨A', c'', hA', hA⟩ := hS
    cases hA'
    obtain ⟨g, hg, hq, hlt, h0⟩ := hA (i * 11 + 0) _ ((hc 0 (by omega)).trans rfl)
    refine ⟨g, D, e0, e1, e2, B, m, c', A1, c1, A2, c2, us, zs, hg, hq, hlt, h0, fun j v hj => ?_, hC, fun j hj => by
      have h := hc (1 + j) (by omega)
      rw [← Nat.add_assoc] at h
      rw [h, ← hl, Nat.add_comm 1 j]
      simp⟩
    rw [← hl] at hj
    have hj10 : j < 10 := by
      have h1 := (List.getElem?_eq_some_iff.1 hj).1
      rw [hnt.len] at h1
      exact h1
    obtain ⟨g', hg', -, -, hcc⟩ := hA (i * 11 + (1 + j)) v ((hc (1 + j) (by omega)).trans (by rw [Nat.add_comm 1 j]; simpa using hj))
    rw [hg] at hg'
    cases hg'
    rw [← Nat.add_assoc] at hcc
    exact hcc
/-- A tree's value. -/
def trA (t : Tr) (e0 e1 : Int) (e2 : ByteArray) (A : Option Addr) (m c : Nat) (A1 : Option Addr) (c1 : Nat) (A2 : Option Addr) (c2 : Nat) : Array Value :=
  #[.string (bs t.nm), .int .i64 (t.root.kd : Int), .int .i64 (t.root.a : Int), .int .i64 (t.root.b : Int), .string (bs t.root.nm), .int .i64 e0, .int .i64 e1, .string e2, .slice A m c, .slice A1 t.root.ks.length c1, .slice A2 t.root.ws.length c2]
theorem tnodes_any {cb kb rb db eb : Nat} {ks : List KyG} {vs : List Value} {rs : List (ByteArray × Value)} {dn : List ByteArray} {Q : Nat → Prop} (f : Nat) (t : Tr) (w : World) {D : Nat} {e0 e1 : Int} {e2 : ByteArray} {A : Option Addr} {m c : Nat} {A1 : Option Addr} {c1 : Nat} {A2 : Option Addr} {c2 : Nat} {xs ys : List Value} (k : Int)
    (hf : ndFit f t.root = true) (hC : CN w cb kb rb db ks vs rs dn Q) (hc : CkB w cb kb rb db k) (h0 : 0 ≤ k) (hk : k + ndC f t.root ≤ 65536) (hn : NdC w Q D t.root e0 e1 e2 A m c A1 c1 A2 c2 xs ys) (hE : w.heap[eb]? = some (.cells #[.pointer (some ⟨cb, 0, none⟩)] 105 (0, 0))) :
    Calls Tryz.prog 46 #[.agg (trA t e0 e1 e2 A m c A1 c1 A2 c2), .pointer (some ⟨eb, 0, none⟩)] w (NodePost w cb kb rb db k (nodE ks (rs.map (·.1)) dn f t.root) (ndC f t.root)) := by
  have HN := Lib.hid (fun W (t' : Touch NoB w W) => node_all f t.root hf W D e0 e1 e2 A m c A1 c1 A2 c2 xs ys k (hC.touch (t'.mono (fun b f => f.elim))) (hc.touch t' (fun f => f)) h0 hk (hn.touch t' (fun b _ f => f)))
  have a0 := cell_blk hE 0
  have a9 := blk_lt hE
  obtain ⟨r, hr⟩ : ∃ r, nodE ks (rs.map (·.1)) dn f t.root = r := ⟨_, rfl⟩
  rw [hr] at HN ⊢
  obtain ⟨cn, hcn⟩ : ∃ r, ndC f t.root = r := ⟨_, rfl⟩
  rw [hcn] at HN ⊢
  unfold ndA ndV at HN
  unfold trA
  obtain ⟨z0, hz0⟩ : ∃ z, (t.root.kd : Int) = z := ⟨_, rfl⟩
  obtain ⟨z1, hz1⟩ : ∃ z, (t.root.a : Int) = z := ⟨_, rfl⟩
  obtain ⟨z2, hz2⟩ : ∃ z, (t.root.b : Int) = z := ⟨_, rfl⟩
  obtain ⟨z3, hz3⟩ : ∃ z, bs t.root.nm = z := ⟨_, rfl⟩
  obtain ⟨z8, hz8⟩ : ∃ z, t.root.ks.length = z := ⟨_, rfl⟩
  obtain ⟨z9, hz9⟩ : ∃ z, t.root.ws.length = z := ⟨_, rfl⟩
  rw [hz0, hz1, hz2, hz3, hz8, hz9] at HN ⊢
  clear hf hC hc h0 hk hn hE hr hcn hz0 hz1 hz2 hz3 hz8 hz9
  go_enter Tryz.func46, Tryz.ntmps46
  go_wp2_with fail
  refine (HN.out _ (by repeat (first | with_reducible exact Touch.refl NoB _ | with_reducible refine Touch.drew ?_ | with_reducible refine Touch.alloc ?_ _))).mono ?_
  rintro r' w2 ⟨rfl, hk2, hT⟩
  have HT := Lib.hid (And.intro hk2 (Touch.same (F := fun b => b = cb) (a := w) (by repeat (first | with_reducible exact Touch.refl _ _ | with_reducible refine Touch.drew ?_ | with_reducible refine Touch.alloc ?_ _)) hT))
  clear hk2 hT
  go_wp2
  go_ret
  exact ⟨rfl, HT.out.1, HT.out.2⟩
end Go.Proofs.YtbikpbmknneabaaGreat
end
