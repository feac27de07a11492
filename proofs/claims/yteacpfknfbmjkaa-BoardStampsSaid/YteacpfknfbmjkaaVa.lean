/-
  What Same, isNegativeZero, isPlainPoint, Right, Zero return, as ValueZero asks them; the example of the document.
-/
import Derived.Test.YteacpfknfbmjkaaPa
import Derived.Test.YteacpfknfbmjkaaIm
namespace Go.Proofs.Yteacpfknfbmjkaa
open Go.ChangeShapes Go.WideShapes Go.ChangeAt Go.RowKit
set_option maxRecDepth 100000
set_option maxHeartbeats 1000000

theorem run_equalIn_complex {P : Program} (w : World) (d : Nat) (t : TypeId) (k k' : FloatKind) (a b a' b' : Nat) (h : P.underlying t = some (.complex k')) : (Op.equalIn (d + 1) t (.complex k a b) (.complex k a' b')).run P w = .ok (Op.floatEq k a a' && Op.floatEq k b b') w := by
  simp [Op.equalIn, run_underlying h]
theorem run_store_complex (P : Program) (w : World) (a : Addr) (k : FloatKind) (x y : Nat) (m : Mode) : (store a (.complex k x y) m).run P w = stored P w a (.complex k x y) m := run_store P w a _ m rfl
attribute [local go_sem] run_equalIn_complex run_store_complex

theorem alloc_blk (W : World) (cs : Array Value) (t : TypeId) {N : Nat} (hN : W.heap.size = N) : (W.alloc (.cells cs t)).heap[N]? = some (.cells cs t (0, 0)) := by
  subst hN; exact heap_alloc_new W _
/-- A value with these fields and no others. -/
def val (k n m : Int) (s : ByteArray) : Value := .agg #[.int .i64 k, .int .i64 n, .int .i64 m, .string s, .complex .f64 0 0]
/-- The value of a kind whose other fields are zero. -/
def zv (k : Int) : Value := val k 0 0 ⟨#[]⟩

theorem same_val (k n m : Int) (s : ByteArray) (w : World) :
    Calls Try.prog 17 #[val k n m s, val k n m s] w fun e w' => e = .returned (.bool true) ∧ Touch NoB w w' := by
  have hk : (k == k) = true := by simp
  have hn : (n == n) = true := by simp
  have hm : (m == m) = true := by simp
  have hs : (s.toList == s.toList) = true := by simp
  have h0 : Op.floatEq .f64 0 0 = true := by kernel_rfl
  unfold val
  go_enter Try.func17, Try.ntmps17
  go_wp2
  go_ret
  exact ⟨rfl, ((Touch.refl _ w).alloc _).alloc _⟩

theorem bits_run (w : World) : (callFunc 35 #[.float .f64 0]).run Try.prog w = .ok (.value (.int .u64 0)) w := by
  rw [run_callFunc_extern (P := Try.prog) (e := Extern.MathFloatBits.float64bits) Try.func35 (by kernel_rfl) (by kernel_rfl) (by kernel_rfl) (by kernel_rfl)]
  rfl
theorem sign_zero (w : World) :
    Calls Try.prog 34 #[.float .f64 0] w fun e w' => e = .returned (.bool false) ∧ Touch NoB w w' := by
  have hd := bits_run
  go_enter Try.func34, Try.ntmps34
  go_wp2
  go_ret
  exact ⟨rfl, Touch.refl _ w⟩
theorem neg_zero (w : World) :
    Calls Try.prog 32 #[.float .f64 0] w fun e w' => e = .returned (.bool false) ∧ Touch NoB w w' := by
  have h0 : Op.floatEq .f64 0 0 = true := by kernel_rfl
  go_enter Try.func32, Try.ntmps32
  go_wp2_with fail
  refine (sign_zero w).mono ?_
  rintro e w1 ⟨rfl, hT⟩
  have HT := Lib.hid hT
  clear hT
  go_wp2
  go_ret
  exact ⟨rfl, HT.out⟩
theorem rep_zero : Rep 0 0 := rep_bits (by decide) (by decide)
theorem plain_zero (w : World) :
    Calls Try.prog 25 #[.complex .f64 0 0] w fun e w' => e = .returned (.bool true) ∧ Touch NoB w w' := by
  have H1 := Lib.hid (parts_at 0 0 0 0 w rep_zero rep_zero (by decide) (by decide) (by decide) (by decide))
  go_enter Try.func25, Try.ntmps25
  go_wp2_with fail
  refine H1.out.mono ?_
  rintro e w' ⟨rfl, rfl⟩
  go_wp2_with fail
  refine (neg_zero _).mono ?_
  rintro e w1 ⟨rfl, hT1⟩
  have HT1 := Lib.hid hT1
  clear hT1
  go_wp2_with fail
  refine (neg_zero _).mono ?_
  rintro e w2 ⟨rfl, hT2⟩
  have HT2 := Lib.hid (HT1.out.same hT2)
  clear hT2
  go_wp2
  go_ret
  exact ⟨rfl, HT2.out⟩

/-- Right of a value of a kind whose other fields are zero. -/
theorem right_kind (k : Nat) (hk : k < 5) (w : World) :
    Calls Try.prog 16 #[zv k] w fun e w' => e = .returned (.bool true) ∧ Touch NoB w w' := by
  rcases k with _ | _ | _ | _ | _ | k
  case succ.succ.succ.succ.succ => exfalso; omega
  case succ.succ.succ.succ.zero =>
    have HS := Lib.hid (fun w => same_val 4 0 0 ⟨#[]⟩ w)
    have HP := Lib.hid plain_zero
    unfold zv val
    go_enter Try.func16, Try.ntmps16
    go_wp2_with fail
    refine (HP.out _).mono ?_
    rintro e w1 ⟨rfl, hT1⟩
    have hc : ∀ j : Nat, w1.cell? ⟨w.heap.size, j, none⟩ = (#[Value.int .i64 4, .int .i64 0, .int .i64 0, .string ⟨#[]⟩, .complex .f64 0 0])[j]? := fun j => (hT1.cell (p := ⟨w.heap.size, j, none⟩) (by simp) (fun e => e)).trans (cell_blk (alloc_blk w _ 36 rfl) j)
    have c0 := hc 0
    have c1 := hc 1
    have c2 := hc 2
    have c3 := hc 3
    have c4 := hc 4
    have hl : w.heap.size < w1.heap.size := by have := hT1.size; simp at this; omega
    have HT1 := Lib.hid (((Touch.refl NoB w).alloc _).same hT1)
    clear hT1 hc
    simp at c0 c1 c2 c3 c4
    go_wp2_with fail
    refine (HS.out _).mono ?_
    rintro e w2 ⟨rfl, hT2⟩
    have HT2 := Lib.hid (HT1.out.same hT2)
    clear hT2
    go_wp2
    go_ret
    exact ⟨rfl, HT2.out⟩
  case zero => 
    have HS := Lib.hid (fun w => same_val 0 0 0 ⟨#[]⟩ w)
    unfold zv val
    go_enter Try.func16, Try.ntmps16
    go_wp2_with fail
    refine (HS.out _).mono ?_
    rintro e w2 ⟨rfl, hT2⟩
    have HT2 := Lib.hid (((Touch.refl NoB w).alloc _).same hT2)
    clear hT2
    go_wp2
    go_ret
    exact ⟨rfl, HT2.out⟩
  case succ.zero => 
    have HS := Lib.hid (fun w => same_val 1 0 0 ⟨#[]⟩ w)
    unfold zv val
    go_enter Try.func16, Try.ntmps16
    go_wp2_with fail
    refine (HS.out _).mono ?_
    rintro e w2 ⟨rfl, hT2⟩
    have HT2 := Lib.hid (((Touch.refl NoB w).alloc _).same hT2)
    clear hT2
    go_wp2
    go_ret
    exact ⟨rfl, HT2.out⟩
  case succ.succ.zero => 
    have HS := Lib.hid (fun w => same_val 2 0 0 ⟨#[]⟩ w)
    unfold zv val
    go_enter Try.func16, Try.ntmps16
    go_wp2_with fail
    refine (HS.out _).mono ?_
    rintro e w2 ⟨rfl, hT2⟩
    have HT2 := Lib.hid (((Touch.refl NoB w).alloc _).same hT2)
    clear hT2
    go_wp2
    go_ret
    exact ⟨rfl, HT2.out⟩
  case succ.succ.succ.zero => 
    have HS := Lib.hid (fun w => same_val 3 0 0 ⟨#[]⟩ w)
    unfold zv val
    go_enter Try.func16, Try.ntmps16
    go_wp2_with fail
    refine (HS.out _).mono ?_
    rintro e w2 ⟨rfl, hT2⟩
    have HT2 := Lib.hid (((Touch.refl NoB w).alloc _).same hT2)
    clear hT2
    go_wp2
    go_ret
    exact ⟨rfl, HT2.out⟩
/-- .. and of no kind. -/
theorem right_none (k : Int) (hk : k < 0 ∨ 4 < k) (w : World) :
    Calls Try.prog 16 #[zv k] w fun e w' => e = .returned (.bool false) ∧ Touch NoB w w' := by
  have k0 : (k == 0) = false := by simp; omega
  have k1 : (k == 1) = false := by simp; omega
  have k2 : (k == 2) = false := by simp; omega
  have k3 : (k == 3) = false := by simp; omega
  have k4 : (k == 4) = false := by simp; omega
  unfold zv val
  go_enter Try.func16, Try.ntmps16
  go_wp2
  go_ret
  exact ⟨rfl, (Touch.refl NoB w).alloc _⟩

/-- The kind of Zero. -/
def kindV (k : Int) : Int := if 0 ≤ k ∧ k ≤ 4 then k else 0
theorem zero_any (k : Int) (w : World) :
    Calls Try.prog 23 #[.int .i64 k] w fun e w' => e = .returned (zv (kindV k)) ∧ Touch NoB w w' := by
  have hcells : ∀ (w1 : World), Touch NoB ((w.alloc (.cells #[.int .i64 0, .int .i64 0, .int .i64 0, .string ⟨#[]⟩, .complex .f64 0 0] 36)).alloc (.cells #[.int .i64 k, .int .i64 0, .int .i64 0, .string ⟨#[]⟩, .complex .f64 0 0] 36)) w1 → ∀ j : Nat, w1.cell? ⟨w.heap.size + 1, j, none⟩ = (#[Value.int .i64 k, .int .i64 0, .int .i64 0, .string ⟨#[]⟩, .complex .f64 0 0])[j]? := fun w1 hT j =>
    (hT.cell (p := ⟨w.heap.size + 1, j, none⟩) (by simp) (fun e => e)).trans (cell_blk (alloc_blk (w.alloc (.cells #[.int .i64 0, .int .i64 0, .int .i64 0, .string ⟨#[]⟩, .complex .f64 0 0] 36)) _ 36 (by simp)) j)
  have HC := Lib.hid hcells
  clear hcells
  by_cases hk : 0 ≤ k ∧ k ≤ 4
  · obtain ⟨n, rfl⟩ := Int.eq_ofNat_of_zero_le hk.1
    have HR := Lib.hid (fun w => right_kind n (by omega) w)
    unfold zv val at HR
    unfold kindV
    rw [if_pos hk]
    unfold zv val
    go_enter Try.func23, Try.ntmps23
    go_wp2_with fail
    refine (HR.out _).mono ?_
    rintro e w1 ⟨rfl, hT1⟩
    have hc := HC.out w1 hT1
    have c0 := hc 0
    have c1 := hc 1
    have c2 := hc 2
    have c3 := hc 3
    have c4 := hc 4
    have hs := hT1.size
    simp only [World.size_alloc] at hs
    have hl0 : w.heap.size < w1.heap.size := by omega
    have hl1 : w.heap.size + 1 < w1.heap.size := by omega
    have hg0 : w1.heap[w.heap.size]? = some (.cells #[.int .i64 0, .int .i64 0, .int .i64 0, .string ⟨#[]⟩, .complex .f64 0 0] 36 (0, 0)) := by
      rw [hT1.block w.heap.size (by simp only [World.size_alloc]; omega) (fun e => e), heap_alloc_old _ _ (by simp only [World.size_alloc]; omega)]
      exact alloc_blk w _ _ rfl
    have d0 : w1.cell? ⟨w.heap.size, 0, none⟩ = some (.int .i64 0) := cell_blk hg0 0
    have d1 : w1.cell? ⟨w.heap.size, 1, none⟩ = some (.int .i64 0) := cell_blk hg0 1
    have d2 : w1.cell? ⟨w.heap.size, 2, none⟩ = some (.int .i64 0) := cell_blk hg0 2
    have d3 : w1.cell? ⟨w.heap.size, 3, none⟩ = some (.string ⟨#[]⟩) := cell_blk hg0 3
    have d4 : w1.cell? ⟨w.heap.size, 4, none⟩ = some (.complex .f64 0 0) := cell_blk hg0 4
    have f0 : w1.frozen? ⟨w.heap.size, 0, none⟩ = false := free_blk hg0 0
    have f1 : w1.frozen? ⟨w.heap.size, 1, none⟩ = false := free_blk hg0 1
    have f2 : w1.frozen? ⟨w.heap.size, 2, none⟩ = false := free_blk hg0 2
    have f3 : w1.frozen? ⟨w.heap.size, 3, none⟩ = false := free_blk hg0 3
    have f4 : w1.frozen? ⟨w.heap.size, 4, none⟩ = false := free_blk hg0 4
    clear hg0
    simp at c0 c1 c2 c3 c4
    have HT1 := Lib.hid ((((Touch.refl NoB w).alloc _).alloc _).same hT1)
    clear hT1 hc HC
    go_wp2
    refine bodyPost_ret (v := .agg #[.int .i64 n, .int .i64 0, .int .i64 0, .string ⟨#[]⟩, .complex .f64 0 0]) (by simp [results, Try.results23, go_sem, d0, d1, d2, d3, d4]) rfl ⟨rfl, ?_⟩
    have hsz := HT1.out.size
    repeat (first | with_reducible exact HT1.out | with_reducible refine Touch.setCell ?_ (.inr (by simp)) _)
  · have HR := Lib.hid (fun w => right_none k (by omega) w)
    unfold zv val at HR
    unfold kindV
    rw [if_neg hk]
    unfold zv val
    go_enter Try.func23, Try.ntmps23
    go_wp2_with fail
    refine (HR.out _).mono ?_
    rintro e w1 ⟨rfl, hT1⟩
    have hc := HC.out w1 hT1
    have c0 := hc 0
    have c1 := hc 1
    have c2 := hc 2
    have c3 := hc 3
    have c4 := hc 4
    have hs := hT1.size
    simp only [World.size_alloc] at hs
    have hl0 : w.heap.size < w1.heap.size := by omega
    have hl1 : w.heap.size + 1 < w1.heap.size := by omega
    have hg0 : w1.heap[w.heap.size]? = some (.cells #[.int .i64 0, .int .i64 0, .int .i64 0, .string ⟨#[]⟩, .complex .f64 0 0] 36 (0, 0)) := by
      rw [hT1.block w.heap.size (by simp only [World.size_alloc]; omega) (fun e => e), heap_alloc_old _ _ (by simp only [World.size_alloc]; omega)]
      exact alloc_blk w _ _ rfl
    have d0 : w1.cell? ⟨w.heap.size, 0, none⟩ = some (.int .i64 0) := cell_blk hg0 0
    have d1 : w1.cell? ⟨w.heap.size, 1, none⟩ = some (.int .i64 0) := cell_blk hg0 1
    have d2 : w1.cell? ⟨w.heap.size, 2, none⟩ = some (.int .i64 0) := cell_blk hg0 2
    have d3 : w1.cell? ⟨w.heap.size, 3, none⟩ = some (.string ⟨#[]⟩) := cell_blk hg0 3
    have d4 : w1.cell? ⟨w.heap.size, 4, none⟩ = some (.complex .f64 0 0) := cell_blk hg0 4
    have f0 : w1.frozen? ⟨w.heap.size, 0, none⟩ = false := free_blk hg0 0
    have f1 : w1.frozen? ⟨w.heap.size, 1, none⟩ = false := free_blk hg0 1
    have f2 : w1.frozen? ⟨w.heap.size, 2, none⟩ = false := free_blk hg0 2
    have f3 : w1.frozen? ⟨w.heap.size, 3, none⟩ = false := free_blk hg0 3
    have g0 : w1.frozen? ⟨w.heap.size + 1, 0, none⟩ = false := by
      refine free_blk (cs := #[.int .i64 k, .int .i64 0, .int .i64 0, .string ⟨#[]⟩, .complex .f64 0 0]) (t := 36) ?_ 0
      rw [hT1.block (w.heap.size + 1) (by simp) (fun e => e)]
      exact alloc_blk (w.alloc (.cells #[.int .i64 0, .int .i64 0, .int .i64 0, .string ⟨#[]⟩, .complex .f64 0 0] 36)) _ _ (by simp)
    have f4 : w1.frozen? ⟨w.heap.size, 4, none⟩ = false := free_blk hg0 4
    clear hg0
    simp at c0 c1 c2 c3 c4
    have HT1 := Lib.hid ((((Touch.refl NoB w).alloc _).alloc _).same hT1)
    clear hT1 hc HC
    go_wp2
    refine bodyPost_ret (v := .agg #[.int .i64 0, .int .i64 0, .int .i64 0, .string ⟨#[]⟩, .complex .f64 0 0]) (by simp [results, Try.results23, go_sem, d0, d1, d2, d3, d4]) rfl ⟨rfl, ?_⟩
    have hsz := HT1.out.size
    repeat (first | with_reducible exact HT1.out | with_reducible refine Touch.setCell ?_ (.inr (by simp)) _)
end Go.Proofs.Yteacpfknfbmjkaa
