/-
  The document's example, as the statements of chapter 2 ask it first; the walks of PointFar and PointNear.
-/
import Derived.Test.YtaampnccgkcbdaaPc
import Derived.Deep.QuietTactic
import Derived.BigQuiet
namespace Go.Proofs.Ytaampnccgkcbdaa
open Go.ChangeShapes Go.WideShapes Go.ChangeAt Go.RowKit

theorem quiet_same {P : Program} {f : FuncId} {args : Array Value} {w : World} {n : Nat} {v : Value}
    (h : Calls P f args (w.drewN n) fun e w' => e = .returned v ∧ w.drewN n = w') : Calls P f args (w.drewN n) fun e w'' => e = .returned v ∧ ∃ m, w'' = w.drewN m :=
  h.mono fun _ _ ⟨he, hm⟩ => ⟨he, n, hm.symm⟩

theorem inP_small {n : Int} (h1 : -1000 ≤ n) (h2 : n ≤ 1000) : InP n := by unfold InP; omega

theorem alive_any (w : World) :
    Calls Try.prog 9 #[] w fun e w' => e = .returned (.bool true) ∧ w = w' := by
  have h1 := turn_at 1 0 1 w (inP_small (by decide) (by decide)) (inP_small (by decide) (by decide))
  have h2 := far_at 3 4 0 0 w (inP_small (by decide) (by decide)) (inP_small (by decide) (by decide)) (inP_small (by decide) (by decide)) (inP_small (by decide) (by decide))
  have k1 : fi (rx (1 % 4 : Int).toNat 1 0) = 0 := by decide
  have k2 : fi (ry (1 % 4 : Int).toNat 1 0) = 4607182418800017408 := by decide
  have k3 : fi 3 = 4613937818241073152 := by decide
  have k4 : fi 4 = 4616189618054758400 := by decide
  have k5 : (((0 : Int) - 3).natAbs + ((0 : Int) - 4).natAbs : Int) = 7 := by decide
  rw [k1, k2, fi0, fi1] at h1
  rw [k3, k4, k5, fi0] at h2
  have o1 : FloatKind.f64.format.order 0 0 = some .eq := by decide
  have o2 : FloatKind.f64.format.order 4607182418800017408 4607182418800017408 = some .eq := by decide
  have H1 := Lib.hid h1
  have H2 := Lib.hid h2
  clear h1 h2 k1 k2 k3 k4 k5
  go_enter Try.func9, Try.ntmps9
  go_wp2_with fail
  refine H1.out.mono ?_
  rintro e w' ⟨rfl, rfl⟩
  go_wp2_with fail
  refine H2.out.mono ?_
  rintro e w' ⟨rfl, rfl⟩
  go_wp2
  go_ret
  exact ⟨rfl, rfl⟩

theorem ord_eq (a : Int) (h : InP a) : FloatKind.f64.format.order (fi a) (fi a) = some .eq := by
  have := (rep_in h).order (rep_in h)
  simpa [compare, compareOfLessAndEq] using this
theorem ord_cmp (a b : Int) (ha : InP a) (hb : InP b) : (FloatKind.f64.format.order (fi a) (fi b) == some .eq) = decide (a = b) := (rep_in ha).eq (rep_in hb)

set_option maxHeartbeats 1000000 in
theorem pointFar_any (a b c d e f : Int) (w : World) :
    Calls Try.prog 5 #[.int .i64 a, .int .i64 b, .int .i64 c, .int .i64 d, .int .i64 e, .int .i64 f] w fun e w' => e = .returned (.bool true) ∧ w = w' := by
  have h0 := alive_any w
  have h1 := of_any a b w
  have h2 := of_any c d w
  have h3 := of_any e f w
  have ia := inP_cl a
  have ib := inP_cl b
  have ic := inP_cl c
  have id := inP_cl d
  have ie := inP_cl e
  have jf := inP_cl f
  generalize cl a = A at h1 ia
  generalize cl b = B at h1 ib
  generalize cl c = C at h2 ic
  generalize cl d = D at h2 id
  generalize cl e = E at h3 ie
  generalize cl f = F at h3 jf
  have g1 := far_at A B C D w ia ib ic id
  have g2 := far_at C D A B w ic id ia ib
  have g3 := far_at A B E F w ia ib ie jf
  have g4 := far_at C D E F w ic id ie jf
  have q1 := ord_cmp A C ia ic
  have q2 := ord_cmp B D ib id
  have s2 : ((A - C).natAbs + (B - D).natAbs : Int) = (C - A).natAbs + (D - B).natAbs := by omega
  rw [s2] at g2
  have t1 : ((E - A).natAbs + (F - B).natAbs : Int) ≤ ((C - A).natAbs + (D - B).natAbs) + ((E - C).natAbs + (F - D).natAbs) := by omega
  have t2 : (((C - A).natAbs + (D - B).natAbs : Int) = 0) ↔ (A = C ∧ B = D) := by omega
  have b1 : (0 : Int) ≤ (C - A).natAbs + (D - B).natAbs ∧ ((C - A).natAbs + (D - B).natAbs : Int) ≤ 4398046511104 := by unfold InP at *; omega
  have b2 : (0 : Int) ≤ (E - C).natAbs + (F - D).natAbs ∧ ((E - C).natAbs + (F - D).natAbs : Int) ≤ 4398046511104 := by unfold InP at *; omega
  clear s2 ia ib ic id ie jf
  generalize ((C - A).natAbs + (D - B).natAbs : Int) = X at *
  generalize ((E - C).natAbs + (F - D).natAbs : Int) = Y at *
  generalize ((E - A).natAbs + (F - B).natAbs : Int) = Z at *
  have w1 : IntKind.i64.wrap (X + Y) = X + Y := IntWalk.i64_in _ (by omega)
  have z1 : 0 ≤ X := b1.1
  have h0' := Lib.hid h0
  have H1 := Lib.hid h1
  have H2 := Lib.hid h2
  have H3 := Lib.hid h3
  have G1 := Lib.hid g1
  have G2 := Lib.hid g2
  have G3 := Lib.hid g3
  have G4 := Lib.hid g4
  clear h0 h1 h2 h3 g1 g2 g3 g4 b1 b2
  by_cases hx : X = 0
  · obtain ⟨hA, hB⟩ := t2.1 hx
    have e0 : (X == 0) = true := by simpa using hx
    have HX := Lib.hid hx
    clear hx t2
    rw [decide_eq_true hA] at q1
    rw [decide_eq_true hB] at q2
    clear hA hB
    go_enter Try.func5, Try.ntmps5
    go_wp2_with fail
    refine h0'.out.mono ?_
    rintro e w' ⟨rfl, rfl⟩
    go_wp2_with fail
    refine H1.out.mono ?_
    rintro e w' ⟨rfl, rfl⟩
    go_wp2_with fail
    refine H2.out.mono ?_
    rintro e w' ⟨rfl, rfl⟩
    go_wp2_with fail
    refine H3.out.mono ?_
    rintro e w' ⟨rfl, rfl⟩
    go_wp2_with fail
    refine G1.out.mono ?_
    rintro e w' ⟨rfl, rfl⟩
    go_wp2_with fail
    refine G2.out.mono ?_
    rintro e w' ⟨rfl, rfl⟩
    go_wp2_with fail
    refine G1.out.mono ?_
    rintro e w' ⟨rfl, rfl⟩
    go_wp2_with fail
    refine G3.out.mono ?_
    rintro e w' ⟨rfl, rfl⟩
    go_wp2_with fail
    refine G1.out.mono ?_
    rintro e w' ⟨rfl, rfl⟩
    go_wp2_with fail
    refine G4.out.mono ?_
    rintro e w' ⟨rfl, rfl⟩
    go_wp2_with fail
    refine G1.out.mono ?_
    rintro e w' ⟨rfl, rfl⟩
    go_wp2
    go_ret
    exact ⟨rfl, rfl⟩
  · have e0 : (X == 0) = false := by simpa using hx
    have q3 : ((FloatKind.f64.format.order (fi A) (fi C) == some .eq) && (FloatKind.f64.format.order (fi B) (fi D) == some .eq)) = false := by
      rw [q1, q2, ← Bool.decide_and]; exact decide_eq_false (fun g => hx (t2.2 g))
    have HX := Lib.hid hx
    clear hx t2 q1 q2
    go_enter Try.func5, Try.ntmps5
    go_wp2_with fail
    refine h0'.out.mono ?_
    rintro e w' ⟨rfl, rfl⟩
    go_wp2_with fail
    refine H1.out.mono ?_
    rintro e w' ⟨rfl, rfl⟩
    go_wp2_with fail
    refine H2.out.mono ?_
    rintro e w' ⟨rfl, rfl⟩
    go_wp2_with fail
    refine H3.out.mono ?_
    rintro e w' ⟨rfl, rfl⟩
    go_wp2_with fail
    refine G1.out.mono ?_
    rintro e w' ⟨rfl, rfl⟩
    go_wp2_with fail
    refine G2.out.mono ?_
    rintro e w' ⟨rfl, rfl⟩
    go_wp2_with fail
    refine G1.out.mono ?_
    rintro e w' ⟨rfl, rfl⟩
    go_wp2_with fail
    refine G3.out.mono ?_
    rintro e w' ⟨rfl, rfl⟩
    go_wp2_with fail
    refine G1.out.mono ?_
    rintro e w' ⟨rfl, rfl⟩
    go_wp2_with fail
    refine G4.out.mono ?_
    rintro e w' ⟨rfl, rfl⟩
    go_wp2_with fail
    refine G1.out.mono ?_
    rintro e w' ⟨rfl, rfl⟩
    go_wp2
    go_ret
    exact ⟨rfl, rfl⟩

end Go.Proofs.Ytaampnccgkcbdaa
