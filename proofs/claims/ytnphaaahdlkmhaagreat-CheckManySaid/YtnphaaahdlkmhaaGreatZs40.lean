/-
  Package check's uses over any node. Conditions: those that each theorem names.
-/
import Derived.Test.YtnphaaahdlkmhaaGreatZs39
import Derived.Deep.RegionHeld3
import Derived.Lib.QuietBelow
import Derived.BigQuiet
import Derived.Test.YtnphaaahdlkmhaaGreatZs19
section
namespace Go.Proofs.YtnphaaahdlkmhaaGreat
open Go.ChangeShapes Go.WideShapes Go.ChangeAt Go.RowKit Go.Maps
set_option maxRecDepth 100000
set_option maxHeartbeats 4000000

section
variable {cb sb : Nat} {w : World} (a b : Int) (s x : ByteArray) (e0 e1 : Int) (e2 : ByteArray) (A : Option Addr) (m c : Nat) (A1 : Option Addr) (n1 c1 : Nat) (A2 : Option Addr) (n2 c2 : Nat)
theorem uses_same (he : (s.toList == x.toList) = true) :
    Calls Tryz.prog 50 #[.pointer (some ⟨cb, 0, none⟩), .agg (ndV 10 a b s e0 e1 e2 A m c A1 n1 c1 A2 n2 c2), .string x, .map (some sb)] w fun e w' => e = .returned (.bool true) ∧ Touch NoB w w' := by
  unfold ndV
  obtain ⟨W0, hW0⟩ : ∃ W, (((w.alloc (.cells #[.pointer (some ⟨cb, 0, none⟩)] 105)).alloc (.cells #[.int .i64 10, .int .i64 a, .int .i64 b, .string s, .int .i64 e0, .int .i64 e1, .string e2, .slice A m c, .slice A1 n1 c1, .slice A2 n2 c2] 62)).alloc (.cells #[.string x] 9)).alloc (.cells #[.map (some sb)] 78) = W := ⟨_, rfl⟩
  obtain ⟨t0, b0, b1, b2, b3⟩ := us_boxes _ _ _ _ _ hW0
  have HT := Lib.hid t0
  have k0 := cell_blk b1 0
  have k3 := cell_blk b1 3
  have k9 := blk_lt b1
  have x0 := cell_blk b2 0
  have x9 := blk_lt b2
  clear t0 b0 b1 b2 b3
  go_enter Tryz.func50, Tryz.ntmps50
  go_wp2_with fail
  go_region
  all_goals go_wp2
  all_goals go_ret
  all_goals exact ⟨rfl, HT.out.same (by repeat (first | with_reducible exact Touch.refl NoB _ | with_reducible refine Touch.drew ?_ | with_reducible refine Touch.alloc ?_ _))⟩
end
end Go.Proofs.YtnphaaahdlkmhaaGreat
end
/-
  Package check's uses, of a use of another tree. Conditions: those that the theorem names.
-/
section
namespace Go.Proofs.YtnphaaahdlkmhaaGreat
open Go.ChangeShapes Go.WideShapes Go.ChangeAt Go.RowKit Go.Maps
set_option maxRecDepth 100000
set_option maxHeartbeats 4000000

theorem uses_go {cb kb rb db sb : Nat} {vs : List Value} {ts : List Tr} {rs : List (ByteArray × Value)} {Q : Nat → Prop} {w : World} {seen : List ByteArray} {X : Bool × List ByteArray} (a b : Int) (s x : ByteArray) (e0 e1 : Int) (e2 : ByteArray) (A : Option Addr) (m c : Nat) (A1 : Option Addr) (n1 c1 : Nat) (A2 : Option Addr) (n2 c2 : Nat)
    (z0 z1 z2 : Int) (z3 : ByteArray) (f0 f1 : Int) (f2 : ByteArray) (B : Option Addr) (m' c' : Nat) (B1 : Option Addr) (z8 d1 : Nat) (B2 : Option Addr) (z9 d2 : Nat)
    (he : (s.toList == x.toList) = false) (hS : NMs w sb seen) (hs : s.size ≤ 9223372036854775807) (hq : inN seen s = false) (hl : seen.length ≤ 1000) (hU : US w cb kb rb db sb vs ts rs Q)
    (hv : (fnd rs s).getD nodeZ = .agg (ndV z0 z1 z2 z3 f0 f1 f2 B m' c' B1 z8 d1 B2 z9 d2))
    (hR : ∀ W, Touch (fun b => b = sb) w W → NMs W sb (seen ++ [s]) → Calls Tryz.prog 50 #[.pointer (some ⟨cb, 0, none⟩), .agg (ndV z0 z1 z2 z3 f0 f1 f2 B m' c' B1 z8 d1 B2 z9 d2), .string x, .map (some sb)] W fun e w' => e = .returned (.bool X.1) ∧ NMs w' sb X.2 ∧ Touch (fun b => b = sb) W w') :
    Calls Tryz.prog 50 #[.pointer (some ⟨cb, 0, none⟩), .agg (ndV 10 a b s e0 e1 e2 A m c A1 n1 c1 A2 n2 c2), .string x, .map (some sb)] w fun e w' => e = .returned (.bool X.1) ∧ NMs w' sb X.2 ∧ Touch (fun b => b = sb) w w' := by
  unfold ndV at hv hR ⊢
  obtain ⟨x1, x2⟩ := X
  simp only at hR ⊢
  obtain ⟨W0, hW0⟩ : ∃ W, (((w.alloc (.cells #[.pointer (some ⟨cb, 0, none⟩)] 105)).alloc (.cells #[.int .i64 10, .int .i64 a, .int .i64 b, .string s, .int .i64 e0, .int .i64 e1, .string e2, .slice A m c, .slice A1 n1 c1, .slice A2 n2 c2] 62)).alloc (.cells #[.string x] 9)).alloc (.cells #[.map (some sb)] 78) = W := ⟨_, rfl⟩
  obtain ⟨t0, b0, b1, b2, b3⟩ := us_boxes _ _ _ _ _ hW0
  have hsb := hS.lt
  have tF : Touch (fun b => b = sb) w W0 := t0.mono (fun b f => f.elim)
  have HA := Lib.hid (fun W (t : Touch NoB W0 W) => add_new W (hS.touch (t0.same t) (fun f => f)) hs hq hl)
  have HU := Lib.hid (fun W (t : Touch (fun b => b = sb) W0 W) => hU.touch (tF.same t))
  have HR := Lib.hid (fun W (t : Touch (fun b => b = sb) W0 W) => hR W (tF.same t))
  have HB := Lib.hid (And.intro tF (And.intro b0 (And.intro b1 (And.intro b2 (And.intro b3 (And.intro hv (And.intro hs hsb)))))))
  have p00 := cell_blk b0 0
  have p9 := blk_lt b0
  obtain ⟨kk, hck⟩ := (HU.out W0 (Touch.refl _ _)).ck
  have q10 := cell_blk hck 1
  have q9 := blk_lt hck
  have k0 := cell_blk b1 0
  have k3 := cell_blk b1 3
  have k9 := blk_lt b1
  have x0 := cell_blk b2 0
  have x9 := blk_lt b2
  have y0 := cell_blk b3 0
  have y9 := blk_lt b3
  clear t0 tF b0 b1 b2 b3 hS hq hs hl hU hR hv hck
  go_enter Tryz.func50, Tryz.ntmps50
  go_wp2_with fail
  have q1 := q10
  have p0 := p00
  first | (go_region_held3 (fun w' => w'.cell? ⟨w.heap.size, 0, none⟩ = some (.pointer (some ⟨cb, 0, none⟩)) ∧ w'.cell? ⟨w.heap.size + 1, 3, none⟩ = some (.string s) ∧ w'.cell? ⟨w.heap.size + 1 + 1, 0, none⟩ = some (.string x) ∧ w'.cell? ⟨w.heap.size + 1 + 1 + 1, 0, none⟩ = some (.map (some sb)) ∧ w'.cell? ⟨cb, 1, none⟩ = some (.map (some rb))) (first | go_keep | exact ⟨p0, k3, x0, y0, q1⟩)
    (first
    | (go_at_call 44; refine (HA.out _ (by repeat (first | with_reducible exact Touch.refl NoB _ | with_reducible refine Touch.drew ?_ | with_reducible refine Touch.alloc ?_ _))).mono ?_; rintro r w2 ⟨rfl, hN2, hT2⟩
       have t2 : Touch (fun b => b = sb) W0 w2 := Touch.same (F := fun b => b = sb) (a := W0) (by repeat (first | with_reducible exact Touch.refl _ _ | with_reducible refine Touch.drew ?_ | with_reducible refine Touch.alloc ?_ _)) hT2
       have hu := HU.out w2 t2
       obtain ⟨kk, hck⟩ := hu.ck
       obtain ⟨mr, hrm⟩ := hu.rm
       have hlk := hrm.look HB.out.2.2.2.2.2.2.1
       rw [HB.out.2.2.2.2.2.1] at hlk
       have p0 := cell_blk ((t2.block _ (blk_lt HB.out.2.1) (by have := HB.out.2.2.2.2.2.2.2; omega)).trans HB.out.2.1) 0
       have p9 := Nat.lt_of_lt_of_le (blk_lt HB.out.2.1) t2.size
       have k3 := cell_blk ((t2.block _ (blk_lt HB.out.2.2.1) (by have := HB.out.2.2.2.2.2.2.2; omega)).trans HB.out.2.2.1) 3
       have k9 := Nat.lt_of_lt_of_le (blk_lt HB.out.2.2.1) t2.size
       have x0 := cell_blk ((t2.block _ (blk_lt HB.out.2.2.2.1) (by have := HB.out.2.2.2.2.2.2.2; omega)).trans HB.out.2.2.2.1) 0
       have x9 := Nat.lt_of_lt_of_le (blk_lt HB.out.2.2.2.1) t2.size
       have y0 := cell_blk ((t2.block _ (blk_lt HB.out.2.2.2.2.1) (by have := HB.out.2.2.2.2.2.2.2; omega)).trans HB.out.2.2.2.2.1) 0
       have y9 := Nat.lt_of_lt_of_le (blk_lt HB.out.2.2.2.2.1) t2.size
       have q1 := cell_blk hck 1
       have q9 := blk_lt hck
       have HT2 := Lib.hid (And.intro t2 hN2)
       clear hT2 hN2 t2 hu hck hrm)
    | (go_at_call 50; refine (HR.out _ (HT2.out.1.same (by repeat (first | with_reducible exact Touch.refl _ _ | with_reducible refine Touch.drew ?_ | with_reducible refine Touch.alloc ?_ _))) (HT2.out.2.touch (F := NoB) (by repeat (first | with_reducible exact Touch.refl NoB _ | with_reducible refine Touch.drew ?_ | with_reducible refine Touch.alloc ?_ _)) (fun f => f))).mono ?_; rintro r w3 ⟨rfl, hN3, hT3⟩
       have hu := HU.out w3 ((HT2.out.1.same (by repeat (first | with_reducible exact Touch.refl _ _ | with_reducible refine Touch.drew ?_ | with_reducible refine Touch.alloc ?_ _))).same hT3)
       obtain ⟨kk, hck⟩ := hu.ck
       have t3 := (HT2.out.1.same (by repeat (first | with_reducible exact Touch.refl _ _ | with_reducible refine Touch.drew ?_ | with_reducible refine Touch.alloc ?_ _))).same hT3
       have p0 := cell_blk ((t3.block _ (blk_lt HB.out.2.1) (by have := HB.out.2.2.2.2.2.2.2; omega)).trans HB.out.2.1) 0
       have k3 := cell_blk ((t3.block _ (blk_lt HB.out.2.2.1) (by have := HB.out.2.2.2.2.2.2.2; omega)).trans HB.out.2.2.1) 3
       have x0 := cell_blk ((t3.block _ (blk_lt HB.out.2.2.2.1) (by have := HB.out.2.2.2.2.2.2.2; omega)).trans HB.out.2.2.2.1) 0
       have y0 := cell_blk ((t3.block _ (blk_lt HB.out.2.2.2.2.1) (by have := HB.out.2.2.2.2.2.2.2; omega)).trans HB.out.2.2.2.2.1) 0
       have q1 := cell_blk hck 1
       have HT3 := Lib.hid (And.intro hN3 t3)
       clear hN3 hT3 hu hck t3))) | fail
  all_goals
    go_wp2
    go_ret
    exact ⟨rfl, HT3.out.1, HB.out.1.same HT3.out.2⟩
end Go.Proofs.YtnphaaahdlkmhaaGreat
end
/-
  Package check's uses, of a use of a tree that has been seen; uses over any node. Conditions: those that each theorem names.
-/
section
namespace Go.Proofs.YtnphaaahdlkmhaaGreat
open Go.ChangeShapes Go.WideShapes Go.ChangeAt Go.RowKit Go.Maps
set_option maxRecDepth 100000
set_option maxHeartbeats 4000000

open Go.Sort
theorem touch_below {w w' : World} (h : Below w.heap.size w w') : Touch NoB w w' := ⟨h.os, h.tape, h.output, h.size, fun k hk _ => h.block k hk⟩
theorem uses_had {cb sb : Nat} {w : World} (a b : Int) (s x : ByteArray) (e0 e1 : Int) (e2 : ByteArray) (A : Option Addr) (m c : Nat) (A1 : Option Addr) (n1 c1 : Nat) (A2 : Option Addr) (n2 c2 : Nat) {seen : List ByteArray} (he : (s.toList == x.toList) = false) (hS : NMs w sb seen) (hs : s.size ≤ 9223372036854775807) (hq : inN seen s = true) :
    Calls Tryz.prog 50 #[.pointer (some ⟨cb, 0, none⟩), .agg (ndV 10 a b s e0 e1 e2 A m c A1 n1 c1 A2 n2 c2), .string x, .map (some sb)] w fun e w' => e = .returned (.bool false) ∧ Touch NoB w w' := by
  unfold ndV
  have hmix : Tryz.prog.follows .mixedOrders = true := by kernel_rfl
  obtain ⟨W0, hW0⟩ : ∃ W, (((w.alloc (.cells #[.pointer (some ⟨cb, 0, none⟩)] 105)).alloc (.cells #[.int .i64 10, .int .i64 a, .int .i64 b, .string s, .int .i64 e0, .int .i64 e1, .string e2, .slice A m c, .slice A1 n1 c1, .slice A2 n2 c2] 62)).alloc (.cells #[.string x] 9)).alloc (.cells #[.map (some sb)] 78) = W := ⟨_, rfl⟩
  obtain ⟨t0, b0, b1, b2, b3⟩ := us_boxes _ _ _ _ _ hW0
  obtain ⟨mm, -, hN⟩ := hS
  have HT := Lib.hid t0
  have k0 := cell_blk b1 0
  have k9 := blk_lt b1
  have k3 := cell_regrown (cell_blk b1 3)
  have x0 := cell_regrown (cell_blk b2 0)
  have y0 := cell_regrown (cell_blk b3 0)
  have cA : ∀ d os, Calls Tryz.prog 44 #[.map (some sb), .string s] (grow (redrawn W0 d) os) fun e w'' => e = .returned (.bool false) ∧ ∃ p : Regrown, w'' = grow (redrawn W0 p.d) p.os := fun d os =>
    Calls.regrown_of ((add_had (s := s) (grow (redrawn W0 d) os) (hN.touch (t0.same (touch_below (below_regrown W0 d os))) (fun f => f)) hs hq).mono (fun e w' h => ⟨h.1, h.2.below (fun b f => f.elim)⟩))
  clear t0 b0 b1 b2 b3 hN hq hs
  go_enter Tryz.func50, Tryz.ntmps50
  go_wp2_with fail
  refine wp_region_quiet_below (by assumption) (by kernel_rfl) ?_
  iterate 9 (quiet_step (first | exact cA _ _))
  go_big_quiet_want
  go_big_quiet_op
  go_big_quiet_on
  iterate 11 go_big_quiet_skip
  iterate 3 (go_big_quiet_want; go_big_quiet_op; go_big_quiet_on)
  refine wpQuiet_nil ?_
  intro _ hw'
  obtain ⟨⟨dq, osq⟩, hw''⟩ := hw'
  subst hw''
  go_wp2
  go_ret
  exact ⟨rfl, HT.out.same (touch_below (below_regrown W0 dq osq))⟩
/-- What the look along the Kids carries. -/
def UkSt (cb kb rb db sb : Nat) (vs : List Value) (ts : List Tr) (rs : List (ByteArray × Value)) (Q : Nat → Prop) (g : Nd → List ByteArray → Option (Bool × List ByteArray)) (l : List Nd) (X : Bool × List ByteArray) (nm : Bs) (q1 q2 q3 : Nat) (i : Nat) (seen : List ByteArray) (W : World) : Prop :=
  usK g (l.drop i) seen = some X ∧ NMs W sb seen ∧ US W cb kb rb db sb vs ts rs Q ∧
  W.heap[q1]? = some (.cells #[.pointer (some ⟨cb, 0, none⟩)] 105 (0, 0)) ∧ W.heap[q2]? = some (.cells #[.string (bs nm)] 9 (0, 0)) ∧ W.heap[q3]? = some (.cells #[.map (some sb)] 78 (0, 0))
theorem uses_kids {cb kb rb db sb : Nat} {vs : List Value} {ts : List Tr} {rs : List (ByteArray × Value)} {Q : Nat → Prop} {f : Nat} (ih : UsesOk cb kb rb db sb vs ts rs Q f)
    (l : List Nd) (nm : Bs) (seen : List ByteArray) (X : Bool × List ByteArray) (hX : usK (fun y s => usF (findR ts) f y nm s) l seen = some X) (hf : ∀ y ∈ l, ∃ g, ndFit g y = true) (hts : ∀ t ∈ ts, ∃ g, ndFit g t.root = true) (hnm : nm.length ≤ 100000)
    (w : World) (D : Nat) (A : Option Addr) (n cap : Nat) (xs : List Value) (q1 q2 q3 : Nat) (hn : l.length = n) (hn2 : n ≤ 1000) (hS : SlAt w Q (.slice A n cap) n xs) (hL : LsAt (NT w Q D) l xs)
    (hU : US w cb kb rb db sb vs ts rs Q) (hN : NMs w sb seen)
    (h1 : w.heap[q1]? = some (.cells #[.pointer (some ⟨cb, 0, none⟩)] 105 (0, 0))) (h2 : w.heap[q2]? = some (.cells #[.string (bs nm)] 9 (0, 0))) (h3 : w.heap[q3]? = some (.cells #[.map (some sb)] 78 (0, 0))) (n1 : q1 ≠ sb) (n2 : q2 ≠ sb) (n3 : q3 ≠ sb) :
    Calls Tryz.prog 93 #[.slice A n cap, .func (.func 75) #[] #[.pointer (some ⟨q1, 0, none⟩), .pointer (some ⟨q2, 0, none⟩), .pointer (some ⟨q3, 0, none⟩)]] w fun e w' => ∃ i : Int, e = .returned (.int .i64 i) ∧ (X.1 = decide (0 ≤ i) ∧ NMs w' sb X.2) ∧ Touch (fun b => b = sb) w w' := by
  have e0 : ∀ (args : Array Value) (w : World), (callFunc 75 args).run Tryz.prog w = .ok (.enter 75 args) w := enters_of Tryz.func75 (by kernel_rfl) rfl
  refine indexnode_gen (σ := List ByteArray) (Q := Q) (F := fun b => b = sb) (P := fun i k W => UkSt cb kb rb db sb vs ts rs Q (fun y s => usF (findR ts) f y nm s) l X nm q1 q2 q3 i k W) (Fin := fun r W => X.1 = r ∧ NMs W sb X.2) l A n cap D xs w e0 hn (by omega) hS hL hU.hQ ?_ ?_ ?_ seen ⟨hX, hN, hU, h1, h2, h3⟩
  · rintro i s W W' ⟨a2, a3, a4, a5, a6, a7⟩ t
    exact ⟨a2, a3.touch t (fun f => f), a4.touch (t.mono (fun b f => f.elim)), (t.block _ (blk_lt a5) (fun f => f)).trans a5, (t.block _ (blk_lt a6) (fun f => f)).trans a6, (t.block _ (blk_lt a7) (fun f => f)).trans a7⟩
  · rintro i y s W D e0 e1 e2 B m c A1 c1 A2 c2 us zs hy hT ⟨a2, a3, a4, a5, a6, a7⟩ hC
    rw [drop13_at hy] at a2
    simp only [usK] at a2
    cases hg : usF (findR ts) f y nm s with
    | none => rw [hg] at a2; cases a2
    | some p =>
      obtain ⟨r, k2⟩ := p
      rw [hg] at a2
      refine (uses1_any ih y nm s (r, k2) hg (hf y (List.mem_of_getElem? hy)) hts hnm W D e0 e1 e2 B m c A1 c1 A2 c2 us zs q1 q2 q3 a4 a3 hC a5 a6 a7).mono ?_
      rintro e' w' ⟨rfl, hN', hT'⟩
      refine ⟨r, rfl, hT', fun h0 => ⟨k2, ?_⟩, fun hne => ?_⟩
      · subst h0
        exact ⟨a2, hN', a4.touch hT', (hT'.block _ (blk_lt a5) n1).trans a5, (hT'.block _ (blk_lt a6) n2).trans a6, (hT'.block _ (blk_lt a7) n3).trans a7⟩
      · subst hne
        simp only [Option.some.injEq] at a2
        subst a2
        exact ⟨rfl, hN'⟩
  · rintro s W ⟨a2, a3, -⟩
    rw [List.drop_of_length_le (by omega)] at a2
    simp only [usK, Option.some.injEq] at a2
    subst a2
    exact ⟨rfl, a3⟩
theorem uses_else {cb kb rb db sb : Nat} {vs : List Value} {ts : List Tr} {rs : List (ByteArray × Value)} {Q : Nat → Prop} {f : Nat} (ih : UsesOk cb kb rb db sb vs ts rs Q f)
    (n : Nd) (nm : Bs) (seen : List ByteArray) (X : Bool × List ByteArray) (h10 : n.kd ≠ 10) (hX : usK (fun y s => usF (findR ts) f y nm s) n.ks seen = some X) (hf : ∃ g, ndFit g n = true) (hts : ∀ t ∈ ts, ∃ g, ndFit g t.root = true) (hnm : nm.length ≤ 100000)
    (w : World) (D : Nat) (e0 e1 : Int) (e2 : ByteArray) (A : Option Addr) (m c : Nat) (A1 : Option Addr) (c1 : Nat) (A2 : Option Addr) (c2 : Nat) (xs ys : List Value)
    (hU : US w cb kb rb db sb vs ts rs Q) (hS : NMs w sb seen) (hC : NdC w Q D n e0 e1 e2 A m c A1 c1 A2 c2 xs ys) :
    Calls Tryz.prog 50 #[.pointer (some ⟨cb, 0, none⟩), .agg (ndA n e0 e1 e2 A m c A1 c1 A2 c2), .string (bs nm), .map (some sb)] w fun e w' => e = .returned (.bool X.1) ∧ NMs w' sb X.2 ∧ Touch (fun b => b = sb) w w' := by
  have hne : ((n.kd : Int) != 10) = true := by simp; omega
  have hnl : n.ks.length ≤ 16 ∧ ∀ y ∈ n.ks, ∃ g, ndFit g y = true := by
    obtain ⟨g, hg⟩ := hf
    cases g with
    | zero => simp [ndFit] at hg
    | succ g =>
      simp only [ndFit, Bool.and_eq_true, decide_eq_true_eq, Bool.or_eq_true, List.all_eq_true] at hg
      obtain ⟨⟨⟨⟨⟨⟨⟨⟨⟨f1, f2⟩, f3⟩, f4⟩, f5⟩, f6⟩, f7⟩, f8⟩, f9⟩, f10⟩ := hg
      have hm16 : mostL n.kd ≤ 16 := by unfold mostL; split <;> (try split) <;> omega
      exact ⟨by omega, fun y hy => ⟨g, f10 y hy⟩⟩
  unfold ndA ndV
  obtain ⟨W0, hW0⟩ : ∃ W, (((w.alloc (.cells #[.pointer (some ⟨cb, 0, none⟩)] 105)).alloc (.cells #[.int .i64 (n.kd : Int), .int .i64 (n.a : Int), .int .i64 (n.b : Int), .string (bs n.nm), .int .i64 e0, .int .i64 e1, .string e2, .slice A m c, .slice A1 n.ks.length c1, .slice A2 n.ws.length c2] 62)).alloc (.cells #[.string (bs nm)] 9)).alloc (.cells #[.map (some sb)] 78) = W := ⟨_, rfl⟩
  obtain ⟨t0, b0, b1, b2, b3⟩ := us_boxes _ _ _ _ _ hW0
  have hsb := hS.lt
  have HF := Lib.hid (uses_kids ih n.ks nm seen X hX hnl.2 hts hnm W0 D A1 n.ks.length c1 xs w.heap.size (w.heap.size + 1 + 1) (w.heap.size + 1 + 1 + 1) rfl (by omega) (hC.ks.touch t0 (fun b _ f => f)) (hC.kl.mono (NT.touch t0 (fun b _ f => f) D)) (hU.touch (t0.mono (fun b f => f.elim))) (hS.touch t0 (fun f => f)) b0 b2 b3 (by omega) (by omega) (by omega))
  have HT := Lib.hid t0
  have k0 := cell_blk b1 0
  have k8 := cell_blk b1 8
  have k9 := blk_lt b1
  obtain ⟨x1, x2⟩ := X
  obtain ⟨z0, hz0⟩ : ∃ z, (n.kd : Int) = z := ⟨_, rfl⟩
  obtain ⟨z8, hz8⟩ : ∃ z, n.ks.length = z := ⟨_, rfl⟩
  rw [hz0] at hne k0 hW0 ⊢
  rw [hz8] at HF k8 hW0 ⊢
  clear t0 b0 b1 b2 b3 hU hC hX ih hf hts h10 hz0 hz8 hnl hS hsb
  have HCF : Hid (Calls Tryz.prog 74 #[.slice A1 z8 c1, .func (.func 75) #[] #[.pointer (some ⟨w.heap.size, 0, none⟩), .pointer (some ⟨w.heap.size + 1 + 1, 0, none⟩), .pointer (some ⟨w.heap.size + 1 + 1 + 1, 0, none⟩)]] W0 fun e w' => e = .returned (.bool x1) ∧ NMs w' sb x2 ∧ Touch (fun b => b = sb) W0 w') := Lib.hid (by
    clear hne k0 k8 k9 hW0
    go_enter Tryz.func74, Tryz.ntmps74
    go_wp2_with fail
    refine HF.out.mono ?_
    rintro r w3 ⟨i, rfl, ⟨h1, hN3⟩, hT3⟩

    have HT3 := Lib.hid (And.intro h1 (And.intro hN3 hT3))
    clear h1 hN3 hT3
    go_wp2
    go_ret
    exact ⟨by rw [HT3.out.1]; rfl, HT3.out.2.1, HT3.out.2.2⟩)
  clear HF
  go_enter Tryz.func50, Tryz.ntmps50
  go_wp2_with fail
  refine HCF.out.mono ?_
  rintro r w3 ⟨rfl, hN3, hT3⟩
  have HT3 := Lib.hid (And.intro hN3 ((HT.out.mono (fun b f => f.elim)).same hT3))
  clear hN3 hT3
  go_wp2
  go_ret
  exact ⟨rfl, HT3.out.1, HT3.out.2⟩
theorem findR_in : ∀ (ts : List Tr) (s : Bs) (r : Nd), findR ts s = some r → ∃ t ∈ ts, t.root = r
  | [], s, r, h => by cases h
  | t :: l, s, r, h => by
    have hr2 : (if eqG (bs t.nm) (bs s) = true then some t.root else findR l s) = some r := h
    split at hr2
    · injection hr2 with hr2; exact ⟨t, by simp, hr2⟩
    · obtain ⟨t', h1, h2⟩ := findR_in l s r hr2; exact ⟨t', List.mem_cons_of_mem _ h1, h2⟩
theorem fit_nm {n : Nd} (hf : ∃ g, ndFit g n = true) : (bs n.nm).size ≤ 9223372036854775807 := by
  obtain ⟨g, hg⟩ := hf
  cases g with
  | zero => simp [ndFit] at hg
  | succ g =>
    simp only [ndFit, Bool.and_eq_true, decide_eq_true_eq, Bool.or_eq_true, List.all_eq_true] at hg
    rw [bs_size]
    have := hg.1.1.1.2
    omega
theorem uses_all {cb kb rb db sb : Nat} {vs : List Value} {ts : List Tr} {rs : List (ByteArray × Value)} {Q : Nat → Prop} : ∀ f : Nat, UsesOk cb kb rb db sb vs ts rs Q f
  | 0, n, nm, seen, X, hX => by simp [usF] at hX
  | f + 1, n, nm, seen, X, hX => by
    intro hf hts hnm w D e0 e1 e2 A m c A1 c1 A2 c2 xs ys hU hS hC
    unfold usF at hX
    by_cases h10 : n.kd = 10
    · rw [if_pos h10] at hX
      have hsz := fit_nm hf
      have hel := eqG_list (bs n.nm) (bs nm)
      by_cases he : eqG (bs n.nm) (bs nm) = true
      · rw [if_pos he] at hX
        injection hX with hX
        subst hX
        unfold ndA
        rw [h10]
        exact (uses_same _ _ _ _ _ _ _ _ _ _ _ _ _ _ _ _ (hel.trans he)).mono (fun e w' h => ⟨h.1, hS.touch h.2 (fun f => f), h.2.mono (fun b f => f.elim)⟩)
      · rw [if_neg he] at hX
        have hef : eqG (bs n.nm) (bs nm) = false := by simpa using he
        by_cases hi : inN seen (bs n.nm) = true
        · rw [if_pos hi] at hX
          injection hX with hX
          subst hX
          unfold ndA
          rw [h10]
          exact (uses_had _ _ _ _ _ _ _ _ _ _ _ _ _ _ _ _ (hel.trans hef) hS hsz hi).mono (fun e w' h => ⟨h.1, hS.touch h.2 (fun f => f), h.2.mono (fun b f => f.elim)⟩)
        · rw [if_neg hi] at hX
          by_cases hl : 1000 < seen.length
          · rw [if_pos hl] at hX; cases hX
          · rw [if_neg hl] at hX
            have hif : inN seen (bs n.nm) = false := by simpa using hi
            cases hr : findR ts n.nm with
            | none => rw [hr] at hX; cases hX
            | some r =>
              rw [hr] at hX
              simp only at hX
              have had : addNm seen (bs n.nm) = seen ++ [bs n.nm] := by unfold addNm; rw [if_neg hi]
              rw [had] at hX
              obtain ⟨D2, zs, hfn, hnt⟩ := hU.rs.find n.nm r hr
              have hfr : ∃ g, ndFit g r = true := by
                obtain ⟨t, ht, rfl⟩ := findR_in ts n.nm r hr
                exact hts t ht
              cases D2 with
              | zero => exact hnt.elim
              | succ D2 =>
                obtain ⟨f0, f1, f2, B, m', c', B1, d1, B2, d2, us, vs', hee, hCr⟩ := nt_open hnt
                rw [hee] at hfn
                unfold ndA at hfn ⊢
                rw [h10]
                refine uses_go (X := X) _ _ _ _ _ _ _ _ _ _ _ _ _ _ _ _ _ _ _ _ _ _ _ _ _ _ _ _ _ _ _ _ (hel.trans hef) hS hsz hif (by omega) hU (by rw [hfn]; rfl) (fun W t hN => ?_)
                exact uses_all f r nm (seen ++ [bs n.nm]) X hX hfr hts hnm W D2 f0 f1 f2 B m' c' B1 d1 B2 d2 us vs' (hU.touch t) hN (hCr.touch t hU.hQ)
    · rw [if_neg h10] at hX
      exact uses_else (uses_all f) n nm seen X h10 hX hf hts hnm w D e0 e1 e2 A m c A1 c1 A2 c2 xs ys hU hS hC
end Go.Proofs.YtnphaaahdlkmhaaGreat
end
/-
  Package check's checkNodes, checkRings and checkSizes. Conditions: those that each theorem names.
-/
section
namespace Go.Proofs.YtnphaaahdlkmhaaGreat
open Go.ChangeShapes Go.WideShapes Go.ChangeAt Go.RowKit Go.Maps
set_option maxRecDepth 100000
set_option maxHeartbeats 4000000

section
variable {cb kb rb db eb mr : Nat} {k : Int} {vs : List Value} {ts : List Tr} {rs : List (ByteArray × Value)} {Q : Nat → Prop}
theorem trings_any (t : Tr) (X : Bool × List ByteArray) (hX : usF (findR ts) 100 t.root t.nm [] = some X) (hf : ∃ g, ndFit g t.root = true) (hts : ∀ t ∈ ts, ∃ g, ndFit g t.root = true) (hnm : t.nm.length ≤ 100000)
    (w : World) (D : Nat) (e0 e1 : Int) (e2 : ByteArray) (A : Option Addr) (m c : Nat) (A1 : Option Addr) (c1 : Nat) (A2 : Option Addr) (c2 : Nat) (xs ys : List Value)
    (hck : CkB w cb kb rb db k) (hrm : RM w vs rb mr rs) (hrs : RsAt w Q ts rs) (hQ : ∀ b, Q b → b < w.heap.size) (hn : NdC w Q D t.root e0 e1 e2 A m c A1 c1 A2 c2 xs ys) (hE : w.heap[eb]? = some (.cells #[.pointer (some ⟨cb, 0, none⟩)] 105 (0, 0))) :
    Calls Tryz.prog 48 #[.agg (trA t e0 e1 e2 A m c A1 c1 A2 c2), .pointer (some ⟨eb, 0, none⟩)] w fun e w' => e = .returned (.int .i64 (euE (!X.1) 8)) ∧ Touch NoB w w' := by
  have hmm := @run_makeMap Tryz.prog
  have hcl := blk_lt hck
  have hrl := hrm.lt
  have HEU := Lib.hid (fun b x w => eu_any b x w)
  have HO : Hid (∀ W sb, Touch NoB w W → W.heap.size = sb → w.heap.size < sb → Calls Tryz.prog 50 #[.pointer (some ⟨cb, 0, none⟩), .agg (ndA t.root e0 e1 e2 A m c A1 c1 A2 c2), .string (bs t.nm), .map (some sb)] (W.alloc (.map #[] 0)) fun e w' => e = .returned (.bool X.1) ∧ Touch NoB w w') := Lib.hid (fun W sb tt hsb hlt => by
    subst hsb
    have t1 : Touch NoB w (W.alloc (.map #[] 0)) := tt.alloc _
    refine (uses_all 100 t.root t.nm [] X hX hf hts hnm (W.alloc (.map #[] 0)) D e0 e1 e2 A m c A1 c1 A2 c2 xs ys (sb := W.heap.size) ⟨⟨k, hck.touch t1 (fun f => f)⟩, ⟨mr, hrm.touch t1 (fun f => f)⟩, hrs.touch t1 (fun b _ f => f), by omega, by omega, fun b hb => by have := hQ b hb; omega⟩ ⟨0, Nat.zero_le _, NM.made W⟩ (hn.touch t1 (fun b _ f => f))).mono ?_
    rintro e w' ⟨rfl, -, hT⟩
    exact ⟨rfl, t1.trans hT (fun b hb => .inr (by subst hb; omega))⟩)
  have a0 := cell_blk hE 0
  have a9 := blk_lt hE
  obtain ⟨x1, x2⟩ := X
  simp only at HO ⊢
  unfold ndA ndV at HO
  unfold trA
  obtain ⟨z0, hz0⟩ : ∃ z, (t.root.kd : Int) = z := ⟨_, rfl⟩
  obtain ⟨z1, hz1⟩ : ∃ z, (t.root.a : Int) = z := ⟨_, rfl⟩
  obtain ⟨z2, hz2⟩ : ∃ z, (t.root.b : Int) = z := ⟨_, rfl⟩
  obtain ⟨z3, hz3⟩ : ∃ z, bs t.root.nm = z := ⟨_, rfl⟩
  obtain ⟨z8, hz8⟩ : ∃ z, t.root.ks.length = z := ⟨_, rfl⟩
  obtain ⟨z9, hz9⟩ : ∃ z, t.root.ws.length = z := ⟨_, rfl⟩
  obtain ⟨zn, hzn⟩ : ∃ z, bs t.nm = z := ⟨_, rfl⟩
  rw [hz0, hz1, hz2, hz3, hz8, hz9, hzn] at HO ⊢
  clear hX hf hts hnm hck hrm hrs hQ hn hE hcl hrl hz0 hz1 hz2 hz3 hz8 hz9 hzn
  go_enter Tryz.func48, Tryz.ntmps48
  go_wp2_with fail
  refine (HO.out _ _ (by repeat (first | with_reducible exact Touch.refl NoB _ | with_reducible refine Touch.drew ?_ | with_reducible refine Touch.alloc ?_ _)) (by simp only [World.size_alloc]) (by omega)).mono ?_
  rintro r w2 ⟨rfl, hT⟩
  have HT := Lib.hid hT
  clear hT
  go_wp2_with (first | (go_at_call 49; refine (HEU.out _ _ _).mono ?_; rintro r w3 ⟨rfl, rfl⟩))
  go_ret
  exact ⟨rfl, HT.out⟩
theorem tsizes_any (t : Tr) (X : Int × Nat) (hX : epF (findR ts) 100 t.root 1 0 = some X) (hf : ∃ g, ndFit g t.root = true) (hts : ∀ t ∈ ts, ∃ g, ndFit g t.root = true)
    (w : World) (D : Nat) (e0 e1 : Int) (e2 : ByteArray) (A : Option Addr) (m c : Nat) (A1 : Option Addr) (c1 : Nat) (A2 : Option Addr) (c2 : Nat) (xs ys : List Value)
    (hck : CkB w cb kb rb db k) (hrm : RM w vs rb mr rs) (hrs : RsAt w Q ts rs) (hQ : ∀ b, Q b → b < w.heap.size) (hn : NdC w Q D t.root e0 e1 e2 A m c A1 c1 A2 c2 xs ys) (hE : w.heap[eb]? = some (.cells #[.pointer (some ⟨cb, 0, none⟩)] 105 (0, 0))) :
    Calls Tryz.prog 51 #[.agg (trA t e0 e1 e2 A m c A1 c1 A2 c2), .pointer (some ⟨eb, 0, none⟩)] w fun e w' => e = .returned (.int .i64 X.1) ∧ Touch NoB w w' := by
  have hcl := blk_lt hck
  have hrl := hrm.lt
  have HO : Hid (∀ W sb, Touch NoB w W → W.heap.size = sb → w.heap.size < sb → Calls Tryz.prog 52 #[.pointer (some ⟨cb, 0, none⟩), .agg (ndA t.root e0 e1 e2 A m c A1 c1 A2 c2), .int .i64 1, .pointer (some ⟨sb, 0, none⟩)] (W.alloc (.cells #[.int .i64 0] 3)) fun e w' => e = .returned (.int .i64 X.1) ∧ Touch NoB w w') := Lib.hid (fun W sb tt hsb hlt => by
    subst hsb
    have t1 : Touch NoB w (W.alloc (.cells #[.int .i64 0] 3)) := tt.alloc _
    have h := exp_all 100 t.root 1 0 X hX hf hts (by omega) (by omega) (W.alloc (.cells #[.int .i64 0] 3)) D e0 e1 e2 A m c A1 c1 A2 c2 xs ys (cb := cb) (kb := kb) (rb := rb) (db := db) (vs := vs) (rs := rs) (nb := W.heap.size) ⟨⟨k, hck.touch t1 (fun f => f)⟩, ⟨mr, hrm.touch t1 (fun f => f)⟩, hrs.touch t1 (fun b _ f => f), by omega, by omega, fun b hb => by have := hQ b hb; omega⟩ (alloc_blk _ _ _ rfl) (hn.touch t1 (fun b _ f => f))
    refine h.mono ?_
    rintro e w' ⟨rfl, -, hT⟩
    exact ⟨rfl, t1.trans hT (fun b hb => .inr (by subst hb; omega))⟩)
  have a0 := cell_blk hE 0
  have a9 := blk_lt hE
  obtain ⟨x1, x2⟩ := X
  simp only at HO ⊢
  unfold ndA ndV at HO
  unfold trA
  obtain ⟨z0, hz0⟩ : ∃ z, (t.root.kd : Int) = z := ⟨_, rfl⟩
  obtain ⟨z1, hz1⟩ : ∃ z, (t.root.a : Int) = z := ⟨_, rfl⟩
  obtain ⟨z2, hz2⟩ : ∃ z, (t.root.b : Int) = z := ⟨_, rfl⟩
  obtain ⟨z3, hz3⟩ : ∃ z, bs t.root.nm = z := ⟨_, rfl⟩
  obtain ⟨z8, hz8⟩ : ∃ z, t.root.ks.length = z := ⟨_, rfl⟩
  obtain ⟨z9, hz9⟩ : ∃ z, t.root.ws.length = z := ⟨_, rfl⟩
  rw [hz0, hz1, hz2, hz3, hz8, hz9] at HO ⊢
  clear hX hf hts hck hrm hrs hQ hn hE hcl hrl hz0 hz1 hz2 hz3 hz8 hz9
  go_enter Tryz.func51, Tryz.ntmps51
  go_wp2_with fail
  refine (HO.out _ _ (by repeat (first | with_reducible exact Touch.refl NoB _ | with_reducible refine Touch.drew ?_ | with_reducible refine Touch.alloc ?_ _)) (by simp only [World.size_alloc]) (by omega)).mono ?_
  rintro r w2 ⟨rfl, hT⟩
  have HT := Lib.hid hT
  clear hT
  go_wp2
  go_ret
  exact ⟨rfl, HT.out⟩
end
/-- What stands in memory for the steps behind checkTrees. -/
structure CT (w : World) (cb kb rb db eb : Nat) (vs : List Value) (ts : List Tr) (rs : List (ByteArray × Value)) (Q : Nat → Prop) (N : Nat) : Prop where
  ck : ∃ k, CkB w cb kb rb db k
  rm : ∃ mr, RM w vs rb mr rs
  rs : RsAt w Q ts rs
  eb : w.heap[eb]? = some (.cells #[.pointer (some ⟨cb, 0, none⟩)] 105 (0, 0))
  hQ : ∀ b, Q b → b < N
  hN : N ≤ w.heap.size
theorem CT.touch {w w' : World} {cb kb rb db eb N : Nat} {vs : List Value} {ts : List Tr} {rs : List (ByteArray × Value)} {Q : Nat → Prop} (h : CT w cb kb rb db eb vs ts rs Q N) (t : Touch NoB w w') : CT w' cb kb rb db eb vs ts rs Q N := by
  obtain ⟨⟨k, h1⟩, ⟨mr, h2⟩, h3, h4, h5, h6⟩ := h
  exact ⟨⟨k, h1.touch t (fun f => f)⟩, ⟨mr, h2.touch t (fun f => f)⟩, h3.touch t (fun b _ f => f), (t.block _ (blk_lt h4) (fun f => f)).trans h4, h5, Nat.le_trans h6 t.size⟩
theorem ftrings_any {cb kb rb db eb N : Nat} {vs : List Value} {rs : List (ByteArray × Value)} {Q : Nat → Prop} (l : List Tr) (x : ByteArray × Int) (hx : rngT (findR l) l = some x) (hts : ∀ t ∈ l, ∃ g, ndFit g t.root = true) (hnm : ∀ t ∈ l, t.nm.length ≤ 100000)
    (A : Option Addr) (n cap : Nat) (xs : List Value) (w : World) (hn : l.length = n) (hn2 : n ≤ 1000000) (hS : SlAt w Q (.slice A n cap) n xs) (hL : LsAt (TrAt w Q) l xs) (hC : CT w cb kb rb db eb vs l rs Q N) :
    Calls Tryz.prog 42 #[.slice A n cap, .func (.func 48) #[] #[.pointer (some ⟨eb, 0, none⟩)]] w fun e w' => e = .returned (.tuple #[.string x.1, .int .i64 x.2]) ∧ Touch NoB w w' := by
  have e0 : ∀ (args : Array Value) (w : World), (callFunc 48 args).run Tryz.prog w = .ok (.enter 48 args) w := enters_of Tryz.func48 (by kernel_rfl) rfl
  refine (firsttree_gen (σ := Unit) (Q := Q) (F := NoB) (P := fun i _ W => rngT (findR l) (l.drop i) = some x ∧ CT W cb kb rb db eb vs l rs Q N) (Fin := fun s r _ => x = (s, r)) l A n cap xs w e0 hn hn2 hS hL (fun _ _ f => f) (fun _ f => f.elim) ?_ (fun _ _ _ _ h _ => h) ?_ ?_ () ⟨hx, hC⟩).mono ?_
  · rintro i s W W' ⟨a1, a2⟩ t
    exact ⟨a1, a2.touch t⟩
  · rintro i t s W D e0 e1 e2 B m c A1 c1 A2 c2 us zs hy hT ⟨a1, a2⟩ hC -
    rw [drop13_at hy] at a1
    simp only [rngT] at a1
    have hm := List.mem_of_getElem? hy
    obtain ⟨kk, hck⟩ := a2.ck
    obtain ⟨mr, hrm⟩ := a2.rm
    cases hg : usF (findR l) 100 t.root t.nm [] with
    | none => rw [hg] at a1; cases a1
    | some X =>
      rw [hg] at a1
      refine (trings_any t X hg (hts t hm) hts (hnm t hm) W D e0 e1 e2 B m c A1 c1 A2 c2 us zs hck hrm a2.rs (fun b hb => by have := a2.hQ b hb; have := a2.hN; omega) hC a2.eb).mono ?_
      rintro e w' ⟨rfl, hT'⟩
      obtain ⟨x1, x2⟩ := X
      refine ⟨_, rfl, hT', fun h0 => ⟨(), ?_, a2.touch hT'⟩, fun h0 => ?_⟩
      · cases x1 with
        | true => cases h0
        | false => exact a1
      · cases x1 with
        | true => injection a1 with a1; rw [← a1]; rfl
        | false => exact absurd rfl h0
  · rintro s W ⟨a1, -⟩
    rw [List.drop_of_length_le (by omega)] at a1
    injection a1 with a1
    exact a1.symm
  · rintro e w' ⟨s, r, rfl, hx, hT⟩
    rw [hx]
    exact ⟨rfl, hT⟩
theorem ftsizes_any {cb kb rb db eb N : Nat} {vs : List Value} {rs : List (ByteArray × Value)} {Q : Nat → Prop} (l : List Tr) (x : ByteArray × Int) (hx : szT (findR l) l = some x) (hts : ∀ t ∈ l, ∃ g, ndFit g t.root = true)
    (A : Option Addr) (n cap : Nat) (xs : List Value) (w : World) (hn : l.length = n) (hn2 : n ≤ 1000000) (hS : SlAt w Q (.slice A n cap) n xs) (hL : LsAt (TrAt w Q) l xs) (hC : CT w cb kb rb db eb vs l rs Q N) :
    Calls Tryz.prog 42 #[.slice A n cap, .func (.func 51) #[] #[.pointer (some ⟨eb, 0, none⟩)]] w fun e w' => e = .returned (.tuple #[.string x.1, .int .i64 x.2]) ∧ Touch NoB w w' := by
  have e0 : ∀ (args : Array Value) (w : World), (callFunc 51 args).run Tryz.prog w = .ok (.enter 51 args) w := enters_of Tryz.func51 (by kernel_rfl) rfl
  refine (firsttree_gen (σ := Unit) (Q := Q) (F := NoB) (P := fun i _ W => szT (findR l) (l.drop i) = some x ∧ CT W cb kb rb db eb vs l rs Q N) (Fin := fun s r _ => x = (s, r)) l A n cap xs w e0 hn hn2 hS hL (fun _ _ f => f) (fun _ f => f.elim) ?_ (fun _ _ _ _ h _ => h) ?_ ?_ () ⟨hx, hC⟩).mono ?_
  · rintro i s W W' ⟨a1, a2⟩ t
    exact ⟨a1, a2.touch t⟩
  · rintro i t s W D e0 e1 e2 B m c A1 c1 A2 c2 us zs hy hT ⟨a1, a2⟩ hC -
    rw [drop13_at hy] at a1
    simp only [szT] at a1
    have hm := List.mem_of_getElem? hy
    obtain ⟨kk, hck⟩ := a2.ck
    obtain ⟨mr, hrm⟩ := a2.rm
    cases hg : epF (findR l) 100 t.root 1 0 with
    | none => rw [hg] at a1; cases a1
    | some X =>
      obtain ⟨x1, x2⟩ := X
      rw [hg] at a1
      simp only at a1
      refine (tsizes_any t (x1, x2) hg (hts t hm) hts W D e0 e1 e2 B m c A1 c1 A2 c2 us zs hck hrm a2.rs (fun b hb => by have := a2.hQ b hb; have := a2.hN; omega) hC a2.eb).mono ?_
      rintro e w' ⟨rfl, hT'⟩
      refine ⟨_, rfl, hT', fun h0 => ⟨(), ?_, a2.touch hT'⟩, fun h0 => ?_⟩
      · simp only at h0
        rw [if_pos h0] at a1
        exact a1
      · simp only at h0
        rw [if_neg h0] at a1
        injection a1 with a1
        rw [← a1]
  · rintro s W ⟨a1, -⟩
    rw [List.drop_of_length_le (by omega)] at a1
    injection a1 with a1
    exact a1.symm
  · rintro e w' ⟨s, r, rfl, hx, hT⟩
    rw [hx]
    exact ⟨rfl, hT⟩
theorem ftnodes_any {cb kb rb db eb : Nat} {ks : List KyG} {vs : List Value} {rs : List (ByteArray × Value)} {dn : List ByteArray} {Q : Nat → Prop} (l : List Tr) (f : Nat) (hts : ∀ t ∈ l, ndFit f t.root = true)
    (A : Option Addr) (n cap : Nat) (xs : List Value) (w : World) (hn : l.length = n) (hn2 : n ≤ 1000000) (hS : SlAt w Q (.slice A n cap) n xs) (hL : LsAt (TrAt w Q) l xs) (hC : CN w cb kb rb db ks vs rs dn Q) (hc : CkB w cb kb rb db 0) (hk : sumC (l.map fun t => ndC f t.root) ≤ 65536)
    (hE : w.heap[eb]? = some (.cells #[.pointer (some ⟨cb, 0, none⟩)] 105 (0, 0))) (hne : eb ≠ cb) :
    Calls Tryz.prog 42 #[.slice A n cap, .func (.func 46) #[] #[.pointer (some ⟨eb, 0, none⟩)]] w fun e w' => e = .returned (.tuple #[.string (fstT (fun t => nodE ks (rs.map (·.1)) dn f t.root) l).1, .int .i64 (fstT (fun t => nodE ks (rs.map (·.1)) dn f t.root) l).2]) ∧ (∃ k, CkB w' cb kb rb db k) ∧ Touch (fun b => b = cb) w w' := by
  have e0 : ∀ (args : Array Value) (w : World), (callFunc 46 args).run Tryz.prog w = .ok (.enter 46 args) w := enters_of Tryz.func46 (by kernel_rfl) rfl
  obtain ⟨x, hx⟩ : ∃ x, fstT (fun t => nodE ks (rs.map (·.1)) dn f t.root) l = x := ⟨_, rfl⟩
  rw [hx]
  have hcl := blk_lt hc
  refine (firsttree_gen (σ := Int) (Q := Q) (F := fun b => b = cb) (P := fun i k' W => fstT (fun t => nodE ks (rs.map (·.1)) dn f t.root) (l.drop i) = x ∧ CN W cb kb rb db ks vs rs dn Q ∧ CkB W cb kb rb db k' ∧ 0 ≤ k' ∧ k' + sumC ((l.drop i).map fun t => ndC f t.root) ≤ 65536 ∧ W.heap[eb]? = some (.cells #[.pointer (some ⟨cb, 0, none⟩)] 105 (0, 0))) (Fin := fun s r W => x = (s, r) ∧ ∃ k, CkB W cb kb rb db k) l A n cap xs w e0 hn hn2 hS hL hC.hQ (fun b hb => by subst hb; exact hcl) ?_ (fun _ _ _ _ h t => ⟨h.1, by obtain ⟨-, k, hk⟩ := h; exact ⟨k, hk.touch t (fun f => f)⟩⟩) ?_ ?_ 0 ⟨hx, hC, hc, Int.le_refl _, by rw [List.drop_zero]; omega, hE⟩).mono ?_
  · rintro i s W W' ⟨a1, a2, a3, a4, a5, a6⟩ t
    exact ⟨a1, a2.touch (t.mono (fun b f => f.elim)), a3.touch t (fun f => f), a4, a5, (t.block _ (blk_lt a6) (fun f => f)).trans a6⟩
  · rintro i t k' W D e0 e1 e2 B m c A1 c1 A2 c2 us zs hy hT ⟨a1, a2, a3, a4, a5, a6⟩ hC -
    rw [drop13_at hy] at a1 a5
    simp only [fstT] at a1
    simp only [List.map_cons, sumC] at a5
    have hm := List.mem_of_getElem? hy
    refine (tnodes_any f t W k' (hts t hm) a2 a3 a4 (by omega) hC a6).mono ?_
    rintro e w' ⟨rfl, ⟨k2, h1, h2, h3⟩, hT'⟩
    refine ⟨_, rfl, hT', fun h0 => ⟨k2, ?_, a2.touch hT', h3, by omega, by omega, (hT'.block _ (blk_lt a6) hne).trans a6⟩, fun h0 => ⟨?_, k2, h3⟩⟩
    · rw [if_pos h0] at a1
      exact a1
    · rw [if_neg h0] at a1
      exact a1.symm
  · rintro s W ⟨a1, -, a3, -⟩
    rw [List.drop_of_length_le (by omega)] at a1
    exact ⟨a1.symm, s, a3⟩
  · rintro e w' ⟨s, r, rfl, ⟨hx, hk⟩, hT⟩
    rw [hx]
    exact ⟨rfl, hk, hT⟩
end Go.Proofs.YtnphaaahdlkmhaaGreat
end
