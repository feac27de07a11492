/-
  What point.isPart, Parts, orZero, limitedPart, Of and limited return at numbers that are points, in whatever world, which they leave as it was.
-/
import Derived.Test.YtnphaaahdlkmhaaGreatRows
import Derived.Test.YtnphaaahdlkmhaaGreatZs1
import Derived.Test.YtnphaaahdlkmhaaGreatZs18
import Derived.WalkKit
import Derived.ProofKit
import Derived.OpenShut
import Derived.OwnWalk
import Derived.WalkLawsBesides
import Derived.KernelRfl
import Derived.Lib.Hide
import Derived.Deep.AppendLies
import Derived.Deep.QuietTactic
import Derived.BigQuiet
import Derived.RegionTactic
import Derived.Test.YtnphaaahdlkmhaaGreatZs8
section
namespace Go.Proofs.YtnphaaahdlkmhaaGreat.K7
open Go.ChangeShapes Go.WideShapes Go.ChangeAt Go.RowKit

theorem ret_int {k : IntKind} {a b : Int} (h : a = b) : Ending.returned (.int k a) = .returned (.int k b) := by rw [h]

/-- A number limited to the range of a point's part. -/
def cl (n : Int) : Int := withinI n (-1099511627776) 1099511627776
theorem rep_lo : Rep 14010698440749613056 (-1099511627776) := rep_bits (by decide) (by decide)
theorem rep_hi : Rep 4787326403894837248 1099511627776 := rep_bits (by decide) (by decide)

theorem to_int {x : Nat} {n : Int} (hx : Rep x n) (w : World) : (convert 168 3 (.float .f64 x)).run Tryz.prog w = .ok (.int .i64 n) w :=
  run_convert_float_int w 168 3 .f64 .i64 x n (by rw [Tryz.underlying168]; rfl) Tryz.underlying3 hx.toInt

theorem isPart_at (x : Nat) (n : Int) (w : World) (hx : Rep x n) (h1 : -1099511627776 ≤ n) (h2 : n ≤ 1099511627776) :
    Calls Tryz.prog 109 #[.float .f64 x] w fun e w' => e = .returned (.bool true) ∧ w = w' := by
  have hc := to_int hx
  have e1 : FloatKind.f64.format.order x (floatOfInt .f64 n) = some .eq := by
    have := hx.order (rep_fi n (by omega))
    simpa [compare, compareOfLessAndEq, fi] using this
  have o1 := rep_lo.order hx
  have o2 := hx.order rep_hi
  simp only [compare, compareOfLessAndEq] at o1 o2
  clear hx
  by_cases g1 : (-1099511627776 : Int) < n <;> by_cases g2 : n < 1099511627776
  all_goals
    try rw [if_pos g1] at o1
    try rw [if_neg g1, if_pos (by omega)] at o1
    try rw [if_pos g2] at o2
    try rw [if_neg g2, if_pos (by omega)] at o2
    go_enter Tryz.func109, Tryz.ntmps109
    go_wp2_with (simp only [hc])
    go_ret
    exact ⟨rfl, rfl⟩

theorem parts_at (x y : Nat) (a b : Int) (w : World) (hx : Rep x a) (hy : Rep y b) (ha1 : -1099511627776 ≤ a) (ha2 : a ≤ 1099511627776) (hb1 : -1099511627776 ≤ b) (hb2 : b ≤ 1099511627776) :
    Calls Tryz.prog 107 #[.complex .f64 x y] w fun e w' => e = .returned (.tuple #[.int .i64 a, .int .i64 b, .bool true]) ∧ w = w' := by
  have hc := to_int hx
  have hd := to_int hy
  have H1 := Lib.hid (isPart_at x a w hx ha1 ha2)
  have H2 := Lib.hid (isPart_at y b w hy hb1 hb2)
  clear hx hy
  go_enter Tryz.func107, Tryz.ntmps107
  go_wp2_with fail
  refine H1.out.mono ?_
  rintro e w' ⟨rfl, rfl⟩
  go_wp2_with fail
  refine H2.out.mono ?_
  rintro e w' ⟨rfl, rfl⟩
  go_wp2
  go_ret3
  exact ⟨rfl, rfl⟩

end Go.Proofs.YtnphaaahdlkmhaaGreat.K7
end
/-
  What Same, isNegativeZero, isPlainPoint, Right, Zero return, as ValueZero asks them; the example of the document.
-/
section
namespace Go.Proofs.YtnphaaahdlkmhaaGreat.K7
open Go.ChangeShapes Go.WideShapes Go.ChangeAt Go.RowKit
set_option maxRecDepth 100000
set_option maxHeartbeats 1000000

theorem run_equalIn_complex {P : Program} (w : World) (d : Nat) (t : TypeId) (k k' : FloatKind) (a b a' b' : Nat) (h : P.underlying t = some (.complex k')) : (Op.equalIn (d + 1) t (.complex k a b) (.complex k a' b')).run P w = .ok (Op.floatEq k a a' && Op.floatEq k b b') w := by
  simp [Op.equalIn, run_underlying h]
theorem run_store_complex (P : Program) (w : World) (a : Addr) (k : FloatKind) (x y : Nat) (m : Mode) : (store a (.complex k x y) m).run P w = stored P w a (.complex k x y) m := run_store P w a _ m rfl
attribute [local go_sem] run_equalIn_complex run_store_complex

theorem alloc_blk (W : World) (cs : Array Value) (t : TypeId) {N : Nat} (hN : W.heap.size = N) : (W.alloc (.cells cs t)).heap[N]? = some (.cells cs t (0, 0)) := by
  subst hN; exact heap_alloc_new W _
/-- A value with these fields and no others. -/
def val (k n m : Int) (s : ByteArray) : Value := .agg #[.int .i64 k, .int .i64 n, .int .i64 m, .string s, .complex .f64 0 0]
/-- The value of a kind whose other fields are zero. -/
def zv (k : Int) : Value := val k 0 0 ⟨#[]⟩

theorem same_val (k n m : Int) (s : ByteArray) (w : World) :
    Calls Tryz.prog 105 #[val k n m s, val k n m s] w fun e w' => e = .returned (.bool true) ∧ Touch NoB w w' := by
  have hk : (k == k) = true := by simp
  have hn : (n == n) = true := by simp
  have hm : (m == m) = true := by simp
  have hs : (s.toList == s.toList) = true := by simp
  have h0 : Op.floatEq .f64 0 0 = true := by kernel_rfl
  unfold val
  go_enter Tryz.func105, Tryz.ntmps105
  go_wp2
  go_ret
  exact ⟨rfl, ((Touch.refl _ w).alloc _).alloc _⟩

theorem bits_run (w : World) : (callFunc 111 #[.float .f64 0]).run Tryz.prog w = .ok (.value (.int .u64 0)) w := by
  rw [run_callFunc_extern (P := Tryz.prog) (e := Extern.MathFloatBits.float64bits) Tryz.func111 (by kernel_rfl) (by kernel_rfl) (by kernel_rfl) (by kernel_rfl)]
  rfl
theorem sign_zero (w : World) :
    Calls Tryz.prog 110 #[.float .f64 0] w fun e w' => e = .returned (.bool false) ∧ Touch NoB w w' := by
  have hd := bits_run
  go_enter Tryz.func110, Tryz.ntmps110
  go_wp2
  go_ret
  exact ⟨rfl, Touch.refl _ w⟩
theorem neg_zero (w : World) :
    Calls Tryz.prog 108 #[.float .f64 0] w fun e w' => e = .returned (.bool false) ∧ Touch NoB w w' := by
  have h0 : Op.floatEq .f64 0 0 = true := by kernel_rfl
  go_enter Tryz.func108, Tryz.ntmps108
  go_wp2_with fail
  refine (sign_zero w).mono ?_
  rintro e w1 ⟨rfl, hT⟩
  have HT := Lib.hid hT
  clear hT
  go_wp2
  go_ret
  exact ⟨rfl, HT.out⟩
theorem rep_zero : Rep 0 0 := rep_bits (by decide) (by decide)
theorem plain_zero (w : World) :
    Calls Tryz.prog 106 #[.complex .f64 0 0] w fun e w' => e = .returned (.bool true) ∧ Touch NoB w w' := by
  have H1 := Lib.hid (parts_at 0 0 0 0 w rep_zero rep_zero (by decide) (by decide) (by decide) (by decide))
  go_enter Tryz.func106, Tryz.ntmps106
  go_wp2_with fail
  refine H1.out.mono ?_
  rintro e w' ⟨rfl, rfl⟩
  go_wp2_with fail
  refine (neg_zero _).mono ?_
  rintro e w1 ⟨rfl, hT1⟩
  have HT1 := Lib.hid hT1
  clear hT1
  go_wp2_with fail
  refine (neg_zero _).mono ?_
  rintro e w2 ⟨rfl, hT2⟩
  have HT2 := Lib.hid (HT1.out.same hT2)
  clear hT2
  go_wp2
  go_ret
  exact ⟨rfl, HT2.out⟩

/-- Right of a value of a kind whose other fields are zero. -/
theorem right_kind (k : Nat) (hk : k < 5) (w : World) :
    Calls Tryz.prog 103 #[zv k] w fun e w' => e = .returned (.bool true) ∧ Touch NoB w w' := by
  rcases k with _ | _ | _ | _ | _ | k
  case succ.succ.succ.succ.succ => exfalso; omega
  case succ.succ.succ.succ.zero =>
    have HS := Lib.hid (fun w => same_val 4 0 0 ⟨#[]⟩ w)
    have HP := Lib.hid plain_zero
    unfold zv val
    go_enter Tryz.func103, Tryz.ntmps103
    go_wp2_with fail
    refine (HP.out _).mono ?_
    rintro e w1 ⟨rfl, hT1⟩
    have hc : ∀ j : Nat, w1.cell? ⟨w.heap.size, j, none⟩ = (#[Value.int .i64 4, .int .i64 0, .int .i64 0, .string ⟨#[]⟩, .complex .f64 0 0])[j]? := fun j => (hT1.cell (p := ⟨w.heap.size, j, none⟩) (by simp) (fun e => e)).trans (cell_blk (alloc_blk w _ 158 rfl) j)
    have c0 := hc 0
    have c1 := hc 1
    have c2 := hc 2
    have c3 := hc 3
    have c4 := hc 4
    have hl : w.heap.size < w1.heap.size := by have := hT1.size; simp at this; omega
    have HT1 := Lib.hid (((Touch.refl NoB w).alloc _).same hT1)
    clear hT1 hc
    simp at c0 c1 c2 c3 c4
    go_wp2_with fail
    refine (HS.out _).mono ?_
    rintro e w2 ⟨rfl, hT2⟩
    have HT2 := Lib.hid (HT1.out.same hT2)
    clear hT2
    go_wp2
    go_ret
    exact ⟨rfl, HT2.out⟩
  case zero => 
    have HS := Lib.hid (fun w => same_val 0 0 0 ⟨#[]⟩ w)
    unfold zv val
    go_enter Tryz.func103, Tryz.ntmps103
    go_wp2_with fail
    refine (HS.out _).mono ?_
    rintro e w2 ⟨rfl, hT2⟩
    have HT2 := Lib.hid (((Touch.refl NoB w).alloc _).same hT2)
    clear hT2
    go_wp2
    go_ret
    exact ⟨rfl, HT2.out⟩
  case succ.zero => 
    have HS := Lib.hid (fun w => same_val 1 0 0 ⟨#[]⟩ w)
    unfold zv val
    go_enter Tryz.func103, Tryz.ntmps103
    go_wp2_with fail
    refine (HS.out _).mono ?_
    rintro e w2 ⟨rfl, hT2⟩
    have HT2 := Lib.hid (((Touch.refl NoB w).alloc _).same hT2)
    clear hT2
    go_wp2
    go_ret
    exact ⟨rfl, HT2.out⟩
  case succ.succ.zero => 
    have HS := Lib.hid (fun w => same_val 2 0 0 ⟨#[]⟩ w)
    unfold zv val
    go_enter Tryz.func103, Tryz.ntmps103
    go_wp2_with fail
    refine (HS.out _).mono ?_
    rintro e w2 ⟨rfl, hT2⟩
    have HT2 := Lib.hid (((Touch.refl NoB w).alloc _).same hT2)
    clear hT2
    go_wp2
    go_ret
    exact ⟨rfl, HT2.out⟩
  case succ.succ.succ.zero => 
    have HS := Lib.hid (fun w => same_val 3 0 0 ⟨#[]⟩ w)
    unfold zv val
    go_enter Tryz.func103, Tryz.ntmps103
    go_wp2_with fail
    refine (HS.out _).mono ?_
    rintro e w2 ⟨rfl, hT2⟩
    have HT2 := Lib.hid (((Touch.refl NoB w).alloc _).same hT2)
    clear hT2
    go_wp2
    go_ret
    exact ⟨rfl, HT2.out⟩
/-- .. and of no kind. -/
theorem right_none (k : Int) (hk : k < 0 ∨ 4 < k) (w : World) :
    Calls Tryz.prog 103 #[zv k] w fun e w' => e = .returned (.bool false) ∧ Touch NoB w w' := by
  have k0 : (k == 0) = false := by simp; omega
  have k1 : (k == 1) = false := by simp; omega
  have k2 : (k == 2) = false := by simp; omega
  have k3 : (k == 3) = false := by simp; omega
  have k4 : (k == 4) = false := by simp; omega
  unfold zv val
  go_enter Tryz.func103, Tryz.ntmps103
  go_wp2
  go_ret
  exact ⟨rfl, (Touch.refl NoB w).alloc _⟩

/-- The kind of Zero. -/
def kindV (k : Int) : Int := if 0 ≤ k ∧ k ≤ 4 then k else 0
theorem zero_any (k : Int) (w : World) :
    Calls Tryz.prog 98 #[.int .i64 k] w fun e w' => e = .returned (zv (kindV k)) ∧ Touch NoB w w' := by
  have hcells : ∀ (w1 : World), Touch NoB ((w.alloc (.cells #[.int .i64 0, .int .i64 0, .int .i64 0, .string ⟨#[]⟩, .complex .f64 0 0] 158)).alloc (.cells #[.int .i64 k, .int .i64 0, .int .i64 0, .string ⟨#[]⟩, .complex .f64 0 0] 158)) w1 → ∀ j : Nat, w1.cell? ⟨w.heap.size + 1, j, none⟩ = (#[Value.int .i64 k, .int .i64 0, .int .i64 0, .string ⟨#[]⟩, .complex .f64 0 0])[j]? := fun w1 hT j =>
    (hT.cell (p := ⟨w.heap.size + 1, j, none⟩) (by simp) (fun e => e)).trans (cell_blk (alloc_blk (w.alloc (.cells #[.int .i64 0, .int .i64 0, .int .i64 0, .string ⟨#[]⟩, .complex .f64 0 0] 158)) _ 158 (by simp)) j)
  have HC := Lib.hid hcells
  clear hcells
  by_cases hk : 0 ≤ k ∧ k ≤ 4
  · obtain ⟨n, rfl⟩ := Int.eq_ofNat_of_zero_le hk.1
    have HR := Lib.hid (fun w => right_kind n (by omega) w)
    unfold zv val at HR
    unfold kindV
    rw [if_pos hk]
    unfold zv val
    go_enter Tryz.func98, Tryz.ntmps98
    go_wp2_with fail
    refine (HR.out _).mono ?_
    rintro e w1 ⟨rfl, hT1⟩
    have hc := HC.out w1 hT1
    have c0 := hc 0
    have c1 := hc 1
    have c2 := hc 2
    have c3 := hc 3
    have c4 := hc 4
    have hs := hT1.size
    simp only [World.size_alloc] at hs
    have hl0 : w.heap.size < w1.heap.size := by omega
    have hl1 : w.heap.size + 1 < w1.heap.size := by omega
    have hg0 : w1.heap[w.heap.size]? = some (.cells #[.int .i64 0, .int .i64 0, .int .i64 0, .string ⟨#[]⟩, .complex .f64 0 0] 158 (0, 0)) := by
      rw [hT1.block w.heap.size (by simp only [World.size_alloc]; omega) (fun e => e), heap_alloc_old _ _ (by simp only [World.size_alloc]; omega)]
      exact alloc_blk w _ _ rfl
    have d0 : w1.cell? ⟨w.heap.size, 0, none⟩ = some (.int .i64 0) := cell_blk hg0 0
    have d1 : w1.cell? ⟨w.heap.size, 1, none⟩ = some (.int .i64 0) := cell_blk hg0 1
    have d2 : w1.cell? ⟨w.heap.size, 2, none⟩ = some (.int .i64 0) := cell_blk hg0 2
    have d3 : w1.cell? ⟨w.heap.size, 3, none⟩ = some (.string ⟨#[]⟩) := cell_blk hg0 3
    have d4 : w1.cell? ⟨w.heap.size, 4, none⟩ = some (.complex .f64 0 0) := cell_blk hg0 4
    have f0 : w1.frozen? ⟨w.heap.size, 0, none⟩ = false := free_blk hg0 0
    have f1 : w1.frozen? ⟨w.heap.size, 1, none⟩ = false := free_blk hg0 1
    have f2 : w1.frozen? ⟨w.heap.size, 2, none⟩ = false := free_blk hg0 2
    have f3 : w1.frozen? ⟨w.heap.size, 3, none⟩ = false := free_blk hg0 3
    have f4 : w1.frozen? ⟨w.heap.size, 4, none⟩ = false := free_blk hg0 4
    clear hg0
    simp at c0 c1 c2 c3 c4
    have HT1 := Lib.hid ((((Touch.refl NoB w).alloc _).alloc _).same hT1)
    clear hT1 hc HC
    go_wp2
    refine bodyPost_ret (v := .agg #[.int .i64 n, .int .i64 0, .int .i64 0, .string ⟨#[]⟩, .complex .f64 0 0]) (by simp [results, Tryz.results98, go_sem, d0, d1, d2, d3, d4]) rfl ⟨rfl, ?_⟩
    have hsz := HT1.out.size
    repeat (first | with_reducible exact HT1.out | with_reducible refine Touch.setCell ?_ (.inr (by simp)) _)
  · have HR := Lib.hid (fun w => right_none k (by omega) w)
    unfold zv val at HR
    unfold kindV
    rw [if_neg hk]
    unfold zv val
    go_enter Tryz.func98, Tryz.ntmps98
    go_wp2_with fail
    refine (HR.out _).mono ?_
    rintro e w1 ⟨rfl, hT1⟩
    have hc := HC.out w1 hT1
    have c0 := hc 0
    have c1 := hc 1
    have c2 := hc 2
    have c3 := hc 3
    have c4 := hc 4
    have hs := hT1.size
    simp only [World.size_alloc] at hs
    have hl0 : w.heap.size < w1.heap.size := by omega
    have hl1 : w.heap.size + 1 < w1.heap.size := by omega
    have hg0 : w1.heap[w.heap.size]? = some (.cells #[.int .i64 0, .int .i64 0, .int .i64 0, .string ⟨#[]⟩, .complex .f64 0 0] 158 (0, 0)) := by
      rw [hT1.block w.heap.size (by simp only [World.size_alloc]; omega) (fun e => e), heap_alloc_old _ _ (by simp only [World.size_alloc]; omega)]
      exact alloc_blk w _ _ rfl
    have d0 : w1.cell? ⟨w.heap.size, 0, none⟩ = some (.int .i64 0) := cell_blk hg0 0
    have d1 : w1.cell? ⟨w.heap.size, 1, none⟩ = some (.int .i64 0) := cell_blk hg0 1
    have d2 : w1.cell? ⟨w.heap.size, 2, none⟩ = some (.int .i64 0) := cell_blk hg0 2
    have d3 : w1.cell? ⟨w.heap.size, 3, none⟩ = some (.string ⟨#[]⟩) := cell_blk hg0 3
    have d4 : w1.cell? ⟨w.heap.size, 4, none⟩ = some (.complex .f64 0 0) := cell_blk hg0 4
    have f0 : w1.frozen? ⟨w.heap.size, 0, none⟩ = false := free_blk hg0 0
    have f1 : w1.frozen? ⟨w.heap.size, 1, none⟩ = false := free_blk hg0 1
    have f2 : w1.frozen? ⟨w.heap.size, 2, none⟩ = false := free_blk hg0 2
    have f3 : w1.frozen? ⟨w.heap.size, 3, none⟩ = false := free_blk hg0 3
    have g0 : w1.frozen? ⟨w.heap.size + 1, 0, none⟩ = false := by
      refine free_blk (cs := #[.int .i64 k, .int .i64 0, .int .i64 0, .string ⟨#[]⟩, .complex .f64 0 0]) (t := 158) ?_ 0
      rw [hT1.block (w.heap.size + 1) (by simp) (fun e => e)]
      exact alloc_blk (w.alloc (.cells #[.int .i64 0, .int .i64 0, .int .i64 0, .string ⟨#[]⟩, .complex .f64 0 0] 158)) _ _ (by simp)
    have f4 : w1.frozen? ⟨w.heap.size, 4, none⟩ = false := free_blk hg0 4
    clear hg0
    simp at c0 c1 c2 c3 c4
    have HT1 := Lib.hid ((((Touch.refl NoB w).alloc _).alloc _).same hT1)
    clear hT1 hc HC
    go_wp2
    refine bodyPost_ret (v := .agg #[.int .i64 0, .int .i64 0, .int .i64 0, .string ⟨#[]⟩, .complex .f64 0 0]) (by simp [results, Tryz.results98, go_sem, d0, d1, d2, d3, d4]) rfl ⟨rfl, ?_⟩
    have hsz := HT1.out.size
    repeat (first | with_reducible exact HT1.out | with_reducible refine Touch.setCell ?_ (.inr (by simp)) _)
end Go.Proofs.YtnphaaahdlkmhaaGreat.K7
end
/-
  What isLetter, isDigit and Name return; Right of a symbol with a name.
-/
section
namespace Go.Proofs.YtnphaaahdlkmhaaGreat.K7
open Go.ChangeShapes Go.WideShapes Go.ChangeAt Go.RowKit
set_option maxRecDepth 100000
set_option maxHeartbeats 1000000
attribute [local go_sem] run_equalIn_complex run_store_complex

def letB (c : Int) : Bool := decide (97 ≤ c ∧ c ≤ 122) || decide (65 ≤ c ∧ c ≤ 90)
def digB (c : Int) : Bool := decide (48 ≤ c ∧ c ≤ 57)
def okB (c : Int) : Bool := letB c || digB c || c == 95
/-- The byte at place i. -/
def bt (s : ByteArray) (i : Nat) : Int := if h : i < s.size then ((s[i]'h).toNat : Int) else 0
def nameB (s : ByteArray) : Bool := decide (1 ≤ s.size ∧ s.size ≤ 24) && letB (bt s 0) && (List.range s.size).all fun i => okB (bt s i)

theorem ret_bool {a b : Bool} (h : a = b) : Ending.returned (.bool a) = .returned (.bool b) := by rw [h]
theorem letter_any (c : Int) (w : World) : Calls Tryz.prog 96 #[.int .u8 c] w fun e w' => e = .returned (.bool (letB c)) ∧ w = w' := by
  by_cases h1 : 97 ≤ c <;> by_cases h2 : c ≤ 122 <;> by_cases h3 : 65 ≤ c <;> by_cases h4 : c ≤ 90
  all_goals
    go_enter Tryz.func96, Tryz.ntmps96
    go_wp2
    all_goals
      go_ret
      exact ⟨ret_bool (by unfold letB; simp [h1, h2, h3, h4]), rfl⟩
theorem digit_any (c : Int) (w : World) : Calls Tryz.prog 97 #[.int .u8 c] w fun e w' => e = .returned (.bool (digB c)) ∧ w = w' := by
  by_cases h1 : 48 ≤ c <;> by_cases h2 : c ≤ 57
  all_goals
    go_enter Tryz.func97, Tryz.ntmps97
    go_wp2
    all_goals
      go_ret
      exact ⟨ret_bool (by unfold digB; simp [h1, h2]), rfl⟩

theorem toList_empty {s : ByteArray} (h : s.size = 0) : s = ⟨#[]⟩ := by
  obtain ⟨a⟩ := s
  have : a = #[] := Array.eq_empty_of_size_eq_zero h
  rw [this]
theorem toList_ne {s : ByteArray} (h : 0 < s.size) : s.toList.isEmpty = false := by
  rw [ByteArray.toList_eq]
  obtain ⟨⟨x⟩⟩ := s
  cases x with
  | nil => exact absurd h (by decide)
  | cons a l => rfl

def NmRel (w : World) (s : ByteArray) (v19 : Value) (wr : World) : Prop := ∃ i : Nat, i ≤ s.size ∧ v19 = .int .i64 i ∧ (∀ j, j < i → okB (bt s j) = true) ∧ wr = w

theorem name_any (s : ByteArray) (hs : s.size ≤ 9223372036854775807) (w : World) : Calls Tryz.prog 81 #[.string s] w fun e w' => e = .returned (.bool (nameB s)) ∧ w = w' := by
  by_cases h0 : s.size = 0
  · obtain rfl := toList_empty h0
    go_enter Tryz.func81, Tryz.ntmps81
    go_wp2
    go_ret
    exact ⟨ret_bool (by unfold nameB; rfl), rfl⟩
  · have e0 := toList_ne (s := s) (by omega)
    by_cases h1 : 24 < s.size
    · have d1 : decide (24 < (s.size : Int)) = true := by simp; omega
      go_enter Tryz.func81, Tryz.ntmps81
      go_wp2
      go_ret
      exact ⟨ret_bool (by unfold nameB; rw [show decide (1 ≤ s.size ∧ s.size ≤ 24) = false from by simp; omega]; rfl), rfl⟩
    · have d1 : decide (24 < (s.size : Int)) = false := by simp; omega
      have h00 : 0 < s.size := by omega
      obtain ⟨c0, hc0⟩ : ∃ c, bt s 0 = c := ⟨_, rfl⟩
      have hb0 : ((s[0]'h00).toNat : Int) = c0 := by rw [← hc0]; unfold bt; rw [dif_pos h00]
      have HL := Lib.hid (fun w => letter_any c0 w)
      cases hl : letB c0
      · rw [hl] at HL
        go_enter Tryz.func81, Tryz.ntmps81
        go_wp2_with fail
        refine (HL.out _).mono ?_
        rintro e w' ⟨rfl, rfl⟩
        go_wp2
        go_ret
        exact ⟨ret_bool (by unfold nameB; rw [hc0, hl]; simp), rfl⟩
      · rw [hl] at HL
        have H0 := Lib.hid (And.intro hc0 hl)
        clear hc0 hl
        go_enter Tryz.func81, Tryz.ntmps81
        go_wp2_with fail
        refine (HL.out _).mono ?_
        rintro e w' ⟨rfl, rfl⟩
        clear hb0 e0 d1 HL
        go_wp2
        go_loopw [19] (fun v19 wr => NmRel w s v19 wr) (fun v19 _ => s.size - (intOf v19).toNat)
        case atStart => exact ⟨0, Nat.zero_le _, rfl, fun j hj => by omega, rfl⟩
        case round =>
          obtain ⟨i, hi, rfl, hok, rfl⟩ := hrel
          have HOK := Lib.hid hok
          clear hok
          by_cases hlt : i < s.size
          · obtain ⟨c, hc⟩ : ∃ c, bt s i = c := ⟨_, rfl⟩
            have hbi : ((s[i]'hlt).toNat : Int) = c := by rw [← hc]; unfold bt; rw [dif_pos hlt]
            have HLi := Lib.hid (fun w => letter_any c w)
            have HDi := Lib.hid (fun w => digit_any c w)
            have HC := Lib.hid hc
            clear hc
            have hfalse : okB c = false → nameB s = false := fun h => by
              unfold nameB
              rw [show (List.range s.size).all (fun i => okB (bt s i)) = false from by
                rw [List.all_eq_false]
                exact ⟨i, List.mem_range.2 hlt, by rw [HC.out, h]; decide⟩, Bool.and_false]
            have HFalse := Lib.hid hfalse
            clear hfalse
            cases hl : letB c
            · rw [hl] at HLi
              cases hd : digB c
              · rw [hd] at HDi
                by_cases h95 : c = 95
                · have k95 : (c != 95) = false := by simp [h95]
                  have hnext : okB c = true := by unfold okB; rw [hl, hd, h95]; rfl
                  have HNext := Lib.hid hnext
                  clear hl hd h95 hnext
                  go_wp2_with fail
                  refine (HLi.out _).mono ?_
                  rintro e w' ⟨rfl, rfl⟩
                  go_wp2_with fail
                  refine (HDi.out _).mono ?_
                  rintro e w' ⟨rfl, rfl⟩
                  go_wp2
                  go_roundw
                  case rel => exact ⟨i + 1, by omega, by go_num, fun j hj => by
                    by_cases e : j = i
                    · rw [e, HC.out]; exact HNext.out
                    · exact HOK.out j (by omega), rfl⟩
                  case measure => simp [intOf]; omega
                · have k95 : (c != 95) = true := by simpa using h95
                  have hno := HFalse.out (by unfold okB; rw [hl, hd]; simpa using h95)
                  have HNo := Lib.hid hno
                  clear hl hd h95 hno
                  go_wp2_with fail
                  refine (HLi.out _).mono ?_
                  rintro e w' ⟨rfl, rfl⟩
                  go_wp2_with fail
                  refine (HDi.out _).mono ?_
                  rintro e w' ⟨rfl, rfl⟩
                  go_wp2
                  go_ret
                  exact ⟨ret_bool HNo.out.symm, rfl⟩
              · rw [hd] at HDi
                have hnext : okB c = true := by unfold okB; rw [hl, hd]; rfl
                have HNext := Lib.hid hnext
                clear hl hd hnext
                go_wp2_with fail
                refine (HLi.out _).mono ?_
                rintro e w' ⟨rfl, rfl⟩
                go_wp2_with fail
                refine (HDi.out _).mono ?_
                rintro e w' ⟨rfl, rfl⟩
                go_wp2
                go_roundw
                case rel => exact ⟨i + 1, by omega, by go_num, fun j hj => by
                  by_cases e : j = i
                  · rw [e, HC.out]; exact HNext.out
                  · exact HOK.out j (by omega), rfl⟩
                case measure => simp [intOf]; omega
            · rw [hl] at HLi
              have hnext : okB c = true := by unfold okB; rw [hl]; rfl
              have HNext := Lib.hid hnext
              clear hl hnext
              go_wp2_with fail
              refine (HLi.out _).mono ?_
              rintro e w' ⟨rfl, rfl⟩
              go_wp2
              go_roundw
              case rel => exact ⟨i + 1, by omega, by go_num, fun j hj => by
                by_cases e : j = i
                · rw [e, HC.out]; exact HNext.out
                · exact HOK.out j (by omega), rfl⟩
              case measure => simp [intOf]; omega
          · obtain rfl : i = s.size := by omega
            have hyes : nameB s = true := by
              unfold nameB
              rw [show decide (1 ≤ s.size ∧ s.size ≤ 24) = true from by simp; omega, H0.out.1, H0.out.2]
              simp only [Bool.true_and, List.all_eq_true]
              exact fun j hj => HOK.out j (List.mem_range.1 hj)
            have HYes := Lib.hid hyes
            clear hyes
            go_wp2
            go_ret
            exact ⟨ret_bool HYes.out.symm, rfl⟩
end Go.Proofs.YtnphaaahdlkmhaaGreat.K7
end
/-
  Keys of a schema: plain lists of them, and how such a list lies in memory; what the document's own FindKey, Named and CheckKeys return.
-/
section
namespace Go.Proofs.YtnphaaahdlkmhaaGreat.K7
open Go.ChangeShapes Go.WideShapes Go.ChangeAt Go.RowKit
set_option maxRecDepth 100000
set_option maxHeartbeats 1000000

/-- A key: its name, its kind, is it shared? -/
structure Ky where
  nm : ByteArray
  kd : Int
  sh : Bool
/-- The cells of a row of keys. -/
def kc (l : List Ky) : List Value := l.flatMap fun k => [.string k.nm, .int .i64 k.kd, .bool k.sh]
theorem kc_snoc (l : List Ky) (k : Ky) : kc (l ++ [k]) = kc l ++ [.string k.nm, .int .i64 k.kd, .bool k.sh] := by simp [kc]
theorem kc_at (l : List Ky) (i j : Nat) (hj : j < 3) : (kc l)[i * 3 + j]? = (l[i]?).bind fun k => [Value.string k.nm, .int .i64 k.kd, .bool k.sh][j]? := by
  induction l generalizing i with
  | nil => simp [kc]
  | cons p l ih =>
    cases i with
    | zero =>
      rcases j with _ | _ | _ | j
      · simp [kc]
      · simp [kc]
      · simp [kc]
      · omega
    | succ i =>
      have := ih i
      simp only [kc, List.flatMap_cons, List.getElem?_cons_succ] at this ⊢
      rw [show (i + 1) * 3 + j = i * 3 + j + 1 + 1 + 1 from by omega]
      simpa using this

/-- Are two strings one? -/
def eqS (a b : ByteArray) : Bool := a.data.toList == b.data.toList
theorem eqS_list (a b : ByteArray) : (a.toList == b.toList) = eqS a b := by unfold eqS; rw [ByteArray.toList_eq, ByteArray.toList_eq]
/-- The place of the first key of a name. -/
def findK : List Ky → ByteArray → Option Nat
  | [], _ => none
  | k :: l, s => if eqS k.nm s = true then some 0 else (findK l s).map (· + 1)
def posV : Option Nat → Int
  | none => -1
  | some i => i
theorem findK_none {s : ByteArray} : ∀ {l : List Ky}, (∀ (j : Nat) (k : Ky), l[j]? = some k → eqS k.nm s = false) → findK l s = none
  | [], _ => rfl
  | k :: l, h => by
    have h0 := h 0 k rfl
    have h1 := findK_none (l := l) (fun j x hx => h (j + 1) x (by simpa using hx))
    unfold findK
    rw [if_neg (by simp [h0]), h1]
    rfl
theorem findK_some {s : ByteArray} : ∀ {l : List Ky} {i : Nat} {k : Ky}, l[i]? = some k → eqS k.nm s = true → (∀ (j : Nat) (x : Ky), j < i → l[j]? = some x → eqS x.nm s = false) → findK l s = some i
  | [], i, k, hk, _, _ => by simp at hk
  | x :: l, 0, k, hk, he, _ => by
    simp at hk; subst hk
    unfold findK
    rw [if_pos he]
  | x :: l, i + 1, k, hk, he, hn => by
    have h0 := hn 0 x (by omega) rfl
    have h1 := findK_some (l := l) (i := i) (by simpa using hk) he (fun j y hj hy => hn (j + 1) y (by omega) (by simpa using hy))
    unfold findK
    rw [if_neg (by simp [h0]), h1]
    rfl
def kindB (n : Int) : Bool := decide (0 ≤ n ∧ n ≤ 4)
/-- The error of a key behind others. -/
def errAt (pre : List Ky) (k : Ky) : Int := if nameB k.nm = true then (if kindB k.kd = true then (if (findK pre k.nm).isSome = true then 6 else 0) else 7) else 5
def errFrom (pre : List Ky) : List Ky → Int
  | [] => 0
  | k :: l => if errAt pre k = 0 then errFrom (pre ++ [k]) l else errAt pre k
theorem errFrom_cons (pre : List Ky) (k : Ky) (l : List Ky) : errFrom pre (k :: l) = if errAt pre k = 0 then errFrom (pre ++ [k]) l else errAt pre k := rfl
/-- The error of a list of keys. -/
def errK (l : List Ky) : Int := if 100 < l.length then 9 else errFrom [] l
/-- .. what is left of it at place i. -/
def errI (l : List Ky) (i : Nat) : Int := errFrom (l.take i) (l.drop i)
theorem errI_zero (l : List Ky) : errI l 0 = errFrom [] l := by simp [errI]
theorem errI_end (l : List Ky) (i : Nat) (h : l.length ≤ i) : errI l i = 0 := by unfold errI; rw [List.drop_of_length_le h]; rfl
theorem errI_step (l : List Ky) (i : Nat) (k : Ky) (h : l[i]? = some k) : errI l i = if errAt (l.take i) k = 0 then errI l (i + 1) else errAt (l.take i) k := by
  have hi := (List.getElem?_eq_some_iff.1 h).1
  have hk : l[i] = k := (List.getElem?_eq_some_iff.1 h).2
  unfold errI
  rw [List.drop_eq_getElem_cons hi, hk, errFrom_cons, List.take_succ_eq_append_getElem hi, hk]

/-- A list of keys lies at A, in no block of F; each name is of a string's length. -/
def KAt (w : World) (F : Nat → Prop) (A : Option Addr) (l : List Ky) : Prop :=
  ∀ (j : Nat) (k : Ky), l[j]? = some k → k.nm.size ≤ 9223372036854775807 ∧ ∃ b off, A = some ⟨b, off, none⟩ ∧ b < w.heap.size ∧ ¬ F b ∧ w.cell? ⟨b, off + j * 3, none⟩ = some (.string k.nm) ∧ w.cell? ⟨b, off + j * 3 + 1, none⟩ = some (.int .i64 k.kd) ∧ w.cell? ⟨b, off + j * 3 + 2, none⟩ = some (.bool k.sh)
theorem KAt.touch {w w' : World} {F : Nat → Prop} {A : Option Addr} {l : List Ky} (h : KAt w F A l) (t : Touch F w w') : KAt w' F A l := by
  intro j k hj
  obtain ⟨hs, b, off, rfl, hb, hf, h1, h2, h3⟩ := h j k hj
  exact ⟨hs, b, off, rfl, Nat.lt_of_lt_of_le hb t.size, hf, (t.cell (p := ⟨b, off + j * 3, none⟩) hb hf).trans h1, (t.cell (p := ⟨b, off + j * 3 + 1, none⟩) hb hf).trans h2, (t.cell (p := ⟨b, off + j * 3 + 2, none⟩) hb hf).trans h3⟩
theorem KAt.more {w : World} {F G : Nat → Prop} {A : Option Addr} {l : List Ky} (h : KAt w F A l) (d : ∀ b, G b → F b) : KAt w G A l := by
  intro j k hj
  obtain ⟨hs, b, off, e, hb, hf, h1, h2, h3⟩ := h j k hj
  exact ⟨hs, b, off, e, hb, fun x => hf (d b x), h1, h2, h3⟩
theorem KAt.take {w : World} {F : Nat → Prop} {A : Option Addr} {l : List Ky} (h : KAt w F A l) (n : Nat) : KAt w F A (l.take n) := by
  intro j k hj
  rw [List.getElem?_take] at hj
  split at hj
  · exact h j k hj
  · cases hj

end Go.Proofs.YtnphaaahdlkmhaaGreat.K7
end
/-
  The document's own parser of nodes and programs over lists of tokens, told by plain recursion. No program is named here.
-/
section
namespace Go.Proofs.YtnphaaahdlkmhaaGreat
set_option maxRecDepth 100000

def x0 : Ex := .leaf 0 0 []
/-- Nodes within braces, behind the opening one; sub reads one. -/
def braR (ts : List Tk) (sub : St → Nd × St) : Nat → List Nd → St → List Nd × St
  | 0, l, σ => (l, σ)
  | f + 1, l, σ =>
    if σ.2 = 0 ∧ (l.length = 0 ∨ isS ts [125] σ = false) then
      if 16 ≤ l.length then (l, failS 9 σ) else braR ts sub f (l ++ [(sub σ).1]) (sub σ).2
    else (l, σ)
def braV (ts : List Tk) (sub : St → Nd × St) (σ : St) : List Nd := (braR ts sub 17 [] (exS ts [123] σ)).1
def braS (ts : List Tk) (sub : St → Nd × St) (σ : St) : St := exS ts [125] (braR ts sub 17 [] (exS ts [123] σ)).2
/-- Weights and nodes. -/
def picR (ts : List Tk) (sub : St → Nd × St) : Nat → List Ex → List Nd → St → (List Ex × List Nd) × St
  | 0, x, l, σ => ((x, l), σ)
  | f + 1, x, l, σ =>
    if σ.2 = 0 ∧ (l.length = 0 ∨ isS ts [125] σ = false) then
      if 16 ≤ l.length then ((x, l), failS 9 σ) else picR ts sub f (x ++ [eqV ts σ]) (l ++ [(sub (exS ts [58] (eqS ts σ))).1]) (sub (exS ts [58] (eqS ts σ))).2
    else ((x, l), σ)
def picV (ts : List Tk) (sub : St → Nd × St) (σ : St) : List Ex × List Nd := (picR ts sub 17 [] [] (exS ts [123] σ)).1
def picS (ts : List Tk) (sub : St → Nd × St) (σ : St) : St := exS ts [125] (picR ts sub 17 [] [] (exS ts [123] σ)).2
/-- Behind a node's word. -/
def rndK (ts : List Tk) (sub : St → Nd × St) (k : Nat) (σ : St) : Nd × St :=
  if k ≤ 3 then (.mk k 0 0 [] x0 (braV ts sub σ) [], braS ts sub σ)
  else if k = 4 then (.mk 4 (nuV ts σ) (nuV ts (nuS ts σ)) [] x0 (braV ts sub (nuS ts (nuS ts σ))) [], braS ts sub (nuS ts (nuS ts σ)))
  else if k = 5 then (.mk 5 0 0 [] x0 [(sub σ).1] [], (sub σ).2)
  else if k = 6 then (.mk 6 (nuV ts σ) 0 [] x0 [(sub (nuS ts σ)).1] [], (sub (nuS ts σ)).2)
  else if k = 11 then (.mk 11 0 0 [] x0 (picV ts sub σ).2 (picV ts sub σ).1, picS ts sub σ)
  else if k = 7 then (.mk 7 0 0 [] (eqV ts σ) [] [], exS ts [59] (eqS ts σ))
  else if k = 8 then (.mk 8 0 0 (naV ts σ) (eqV ts (exS ts [58, 61] (naS ts σ))) [] [], exS ts [59] (eqS ts (exS ts [58, 61] (naS ts σ))))
  else if k = 9 ∨ k = 10 ∨ k = 12 then (.mk k 0 0 (naV ts σ) x0 [] [], exS ts [59] (naS ts σ))
  else (.mk k 0 0 [] x0 [] [], exS ts [59] σ)
/-- A node that may be nested m deep. -/
def rnd (ts : List Tk) : Nat → St → Nd × St
  | 0, σ => (nd0, failS 4 σ)
  | m + 1, σ =>
    if σ.2 ≠ 0 then (nd0, σ)
    else match choF ts σ nodeW 0 with
      | none => (nd0, failS 2 σ)
      | some k => rndK ts (rnd ts m) k (σ.1 + 1, σ.2)
def rtrV (ts : List Tk) (σ : St) : Tr := ⟨naV ts σ, (rnd ts 40 (exS ts [123] (naS ts σ))).1⟩
def rtrS (ts : List Tk) (σ : St) : St := exS ts [125] (rnd ts 40 (exS ts [123] (naS ts σ))).2
/-- A condition, a make, an act: where one reads on, behind the word. -/
def rcnV (ts : List Tk) (σ : St) : Cn :=
  let s := naS ts σ
  if isS ts [62, 61] s = true then ⟨naV ts σ, 0, siV ts (acS ts [62, 61] s)⟩
  else if isS ts [60, 61] s = true then ⟨naV ts σ, 1, siV ts (acS ts [60, 61] s)⟩
  else ⟨naV ts σ, 2, siV ts (exS ts [61, 61] s)⟩
def rcnS (ts : List Tk) (σ : St) : St :=
  let s := naS ts σ
  exS ts [59] (siS ts (if isS ts [62, 61] s = true then acS ts [62, 61] s else if isS ts [60, 61] s = true then acS ts [60, 61] s else exS ts [61, 61] s))
def rmkV (ts : List Tk) (σ : St) : Mk :=
  let s := naS ts σ
  if isS ts [43] s = true then ⟨naV ts σ, true, nuV ts (acS ts [43] s)⟩
  else if isS ts [45] s = true then ⟨naV ts σ, true, -(nuV ts (acS ts [45] s) : Int)⟩
  else ⟨naV ts σ, false, siV ts (exS ts [61] s)⟩
def rmkS (ts : List Tk) (σ : St) : St :=
  let s := naS ts σ
  exS ts [59] (if isS ts [43] s = true then nuS ts (acS ts [43] s)
  else if isS ts [45] s = true then nuS ts (acS ts [45] s)
  else siS ts (exS ts [61] s))
def racR (ts : List Tk) : Nat → List Cn → List Mk → St → (List Cn × List Mk) × St
  | 0, a, b, σ => ((a, b), σ)
  | f + 1, a, b, σ =>
    if σ.2 = 0 ∧ isS ts [125] σ = false then
      if (isS ts needB σ = true ∧ 8 ≤ a.length) ∨ (isS ts makeB σ = true ∧ 8 ≤ b.length) then racR ts f a b (failS 9 σ)
      else if isS ts needB σ = true then racR ts f (a ++ [rcnV ts (acS ts needB σ)]) b (rcnS ts (acS ts needB σ))
      else racR ts f a (b ++ [rmkV ts (exS ts makeB σ)]) (rmkS ts (exS ts makeB σ))
    else ((a, b), σ)
def racV (ts : List Tk) (σ : St) : Ac := let r := racR ts (ts.length + 5) [] [] (actH ts σ); ⟨naV ts σ, nuV ts (exS ts [99, 111, 115, 116] (naS ts σ)), r.1.1, r.1.2⟩
def racS (ts : List Tk) (σ : St) : St := exS ts [125] (racR ts (ts.length + 5) [] [] (actH ts σ)).2
def rdoR (ts : List Tk) : Nat → List Va → List Ac → List Cn → St → (List Va × List Ac × List Cn) × St
  | 0, a, b, c, σ => ((a, b, c), σ)
  | f + 1, a, b, c, σ =>
    if σ.2 = 0 ∧ isS ts [125] σ = false then
      if (isS ts varB σ = true ∧ 8 ≤ a.length) ∨ (isS ts actB σ = true ∧ 20 ≤ b.length) ∨ (isS ts goalB σ = true ∧ 8 ≤ c.length) then rdoR ts f a b c (failS 9 σ)
      else if isS ts varB σ = true then rdoR ts f (a ++ [varV ts (acS ts varB σ)]) b c (varS ts (acS ts varB σ))
      else if isS ts actB σ = true then rdoR ts f a (b ++ [racV ts (acS ts actB σ)]) c (racS ts (acS ts actB σ))
      else rdoR ts f a b (c ++ [rcnV ts (exS ts goalB σ)]) (rcnS ts (exS ts goalB σ))
    else ((a, b, c), σ)
def rdoV (ts : List Tk) (σ : St) : Dm := let r := rdoR ts (ts.length + 5) [] [] [] (exS ts [123] (naS ts σ)); ⟨naV ts σ, r.1.1, r.1.2.1, r.1.2.2⟩
def rdoS (ts : List Tk) (σ : St) : St := exS ts [125] (rdoR ts (ts.length + 5) [] [] [] (exS ts [123] (naS ts σ))).2
def rkeV (ts : List Tk) (σ : St) : Ky :=
  let s := if isS ts [115, 104, 97, 114, 101, 100] σ = true then acS ts [115, 104, 97, 114, 101, 100] σ else exS ts [111, 119, 110] σ
  ⟨naV ts s, choV ts kindW (naS ts s), isS ts [115, 104, 97, 114, 101, 100] σ⟩
def rkeS (ts : List Tk) (σ : St) : St :=
  let s := if isS ts [115, 104, 97, 114, 101, 100] σ = true then acS ts [115, 104, 97, 114, 101, 100] σ else exS ts [111, 119, 110] σ
  exS ts [59] (choS ts kindW (naS ts s))
def rprR (ts : List Tk) : Nat → List Ky → List Tr → List Dm → St → (List Ky × List Tr × List Dm) × St
  | 0, a, b, c, σ => ((a, b, c), σ)
  | f + 1, a, b, c, σ =>
    if σ.2 = 0 ∧ (nxS ts σ).kd ≠ 0 then
      if (isS ts keyB σ = true ∧ 100 ≤ a.length) ∨ (isS ts treeB σ = true ∧ 100 ≤ b.length) ∨ (isS ts domB σ = true ∧ 100 ≤ c.length) then rprR ts f a b c (failS 9 σ)
      else if isS ts keyB σ = true then rprR ts f (a ++ [rkeV ts (acS ts keyB σ)]) b c (rkeS ts (acS ts keyB σ))
      else if isS ts treeB σ = true then rprR ts f a (b ++ [rtrV ts (acS ts treeB σ)]) c (rtrS ts (acS ts treeB σ))
      else rprR ts f a b (c ++ [rdoV ts (exS ts domB σ)]) (rdoS ts (exS ts domB σ))
    else ((a, b, c), σ)
def rprG (ts : List Tk) : Pg × St := let r := rprR ts (ts.length + 5) [] [] [] (0, 0); (⟨r.1.1, r.1.2.1, r.1.2.2⟩, r.2)
/-- What a text comes to. -/
def rparP (b : Bs) : Pr := match lexL b with
  | .bad p => .er 2 p
  | .good ts => if (rprG ts).2.2 = 0 then .ok (rprG ts).1 else .er (rprG ts).2.2 (match ts[(rprG ts).2.1]? with | some t => t.pl | none => 0)
end Go.Proofs.YtnphaaahdlkmhaaGreat
end
/-
  Package check over lists: what Check answers of a program, step by step. No condition beyond those that each theorem names.
-/
section
namespace Go.Proofs.YtnphaaahdlkmhaaGreat
open Go.ChangeShapes Go.WideShapes Go.ChangeAt Go.RowKit Go.Maps
set_option maxRecDepth 100000
set_option maxHeartbeats 4000000

def kyG (k : Ky) : KyG := ⟨bs k.nm, (k.kd : Int), k.sh⟩
def ky7 (k : Ky) : K7.Ky := ⟨bs k.nm, (k.kd : Int), k.sh⟩
/-- The first place whose beginning has an error, from i on. -/
def badI (l : List K7.Ky) : Nat → Nat → Nat
  | 0, i => i
  | f + 1, i => if K7.errK (l.take (i + 1)) = 0 then badI l f (i + 1) else i
def keysE (l : List K7.Ky) : ByteArray × Int :=
  if K7.errK l = 0 then (⟨#[]⟩, 0) else if K7.errK l = 9 then (⟨#[]⟩, 9) else (match l[badI l l.length 0]? with | some k => k.nm | none => ⟨#[]⟩, K7.errK l)
def trsE : List ByteArray → List Tr → ByteArray × Int
  | _, [] => (⟨#[]⟩, 0)
  | us, t :: l => if inN us (bs t.nm) = true then (bs t.nm, 6) else trsE (us ++ [bs t.nm]) l
def treesE (l : List Tr) : ByteArray × Int := if 100 < l.length then (⟨#[]⟩, 9) else trsE [] l
def fstT (f : Tr → Int) : List Tr → ByteArray × Int
  | [] => (⟨#[]⟩, 0)
  | t :: l => if f t = 0 then fstT f l else (bs t.nm, f t)
def rngT (rt : Bs → Option Nd) : List Tr → Option (ByteArray × Int)
  | [] => some (⟨#[]⟩, 0)
  | t :: l => match usF rt 100 t.root t.nm [] with
    | none => none
    | some (true, _) => some (bs t.nm, 8)
    | some (false, _) => rngT rt l
def szT (rt : Bs → Option Nd) : List Tr → Option (ByteArray × Int)
  | [] => some (⟨#[]⟩, 0)
  | t :: l => match epF rt 100 t.root 1 0 with
    | none => none
    | some (e, _) => if e = 0 then szT rt l else some (bs t.nm, e)
def nodesE (p : Pg) : ByteArray × Int := fstT (fun t => nodE (p.keys.map kyG) (p.trees.map fun t => bs t.nm) (domsE (p.keys.map kyG) [] p.doms).2 45 t.root) p.trees
def r5E (p : Pg) : Option (ByteArray × Int) := szT (findR p.trees) p.trees
def r4E (p : Pg) : Option (ByteArray × Int) := match rngT (findR p.trees) p.trees with
  | none => none
  | some x => if x.2 = 0 then r5E p else some x
def r3E (p : Pg) : Option (ByteArray × Int) := if (nodesE p).2 = 0 then r4E p else some (nodesE p)
def r2E (p : Pg) : Option (ByteArray × Int) := if (domsE (p.keys.map kyG) [] p.doms).1.2 = 0 then r3E p else some (domsE (p.keys.map kyG) [] p.doms).1
def r1E (p : Pg) : Option (ByteArray × Int) := if (treesE p.trees).2 = 0 then r2E p else some (treesE p.trees)
/-- What Check answers. -/
def checkE (p : Pg) : Option (ByteArray × Int) := if (keysE (p.keys.map ky7)).2 = 0 then r1E p else some (keysE (p.keys.map ky7))
def nmB (s : Bs) : Bool := decide (s.length ≤ 100000)
def acFitB (a : Ac) : Bool := nmB a.nm && decide (a.need.length ≤ 8) && decide (a.make.length ≤ 8) && a.need.all (fun c => nmB c.nm) && a.make.all (fun c => nmB c.nm)
def dmFitB (d : Dm) : Bool := nmB d.nm && decide (d.vars.length ≤ 8) && decide (d.acts.length ≤ 20) && decide (d.goal.length ≤ 8) && d.vars.all (fun c => nmB c.nm) && d.acts.all acFitB && d.goal.all (fun c => nmB c.nm)
/-- Names, numbers and lists of a program fit. -/
def pgFitC (p : Pg) : Bool :=
  decide (p.keys.length ≤ 1000) && p.keys.all (fun k => nmB k.nm && decide (k.kd ≤ 1000000)) && decide (p.trees.length ≤ 100) && p.trees.all (fun t => nmB t.nm && ndFit 45 t.root) &&
    decide (sumC (p.trees.map fun t => ndC 45 t.root) ≤ 65536) && decide (p.doms.length ≤ 100) && p.doms.all dmFitB
theorem bs_le {s : Bs} (h : nmB s = true) : (bs s).size ≤ 9223372036854775807 := by
  unfold nmB at h
  rw [bs_size]
  have := of_decide_eq_true h
  omega
theorem acFit_of {a : Ac} (h : acFitB a = true) : acFit a := by
  simp only [acFitB, Bool.and_eq_true, decide_eq_true_eq, List.all_eq_true] at h
  obtain ⟨⟨⟨⟨h1, h2⟩, h3⟩, h4⟩, h5⟩ := h
  exact ⟨bs_le h1, h2, h3, fun c hc => bs_le (h4 c hc), fun c hc => bs_le (h5 c hc)⟩
theorem dmFit_of {d : Dm} (h : dmFitB d = true) : (bs d.nm).size ≤ 9223372036854775807 ∧ dmFit d := by
  simp only [dmFitB, Bool.and_eq_true, decide_eq_true_eq, List.all_eq_true] at h
  obtain ⟨⟨⟨⟨⟨⟨h0, h1⟩, h2⟩, h3⟩, h4⟩, h5⟩, h6⟩ := h
  exact ⟨bs_le h0, h1, h2, h3, fun c hc => bs_le (h4 c hc), fun a ha => acFit_of (h5 a ha), fun c hc => bs_le (h6 c hc)⟩
/-- A text is a program, which comes to this. -/
def ckOf (b : Bs) (q : ByteArray × Int → Bool) : Bool := match rparP b with
  | .er _ _ => false
  | .ok p => pgFitC p && (match checkE p with | none => false | some x => q x)
theorem ck_of {b : Bs} {q : ByteArray × Int → Bool} (h : ckOf b q = true) : ∃ p x, rparP b = .ok p ∧ pgFitC p = true ∧ checkE p = some x ∧ q x = true := by
  unfold ckOf at h
  cases hp : rparP b with
  | er e k => rw [hp] at h; cases h
  | ok p =>
    rw [hp] at h
    simp only [Bool.and_eq_true] at h
    cases hc : checkE p with
    | none => rw [hc] at h; exact absurd h.2 (by simp)
    | some x => rw [hc] at h; exact ⟨p, x, rfl, h.1, hc, h.2⟩
end Go.Proofs.YtnphaaahdlkmhaaGreat
end
