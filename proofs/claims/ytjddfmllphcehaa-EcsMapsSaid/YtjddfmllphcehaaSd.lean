/-
  Lists of identifiers as cells; an Ids within a Store's block.
-/
import Derived.Test.YtjddfmllphcehaaSc
import Derived.Laws.MakeOwn
namespace Go.Proofs.Ytjddfmllphcehaa
open Go.ChangeShapes Go.WideShapes Go.ChangeAt Go.RowKit

theorem InW.zero {w : World} {B : Nat} {F : Nat → Prop} (h : InW w B F) : InW w 0 F := fun b hb => ⟨Nat.zero_le _, (h b hb).2⟩
theorem inw_new (w : World) (o : Obj) : InW (w.alloc o) w.heap.size (fun b => b = w.heap.size) := by
  rintro b rfl; simp

/-- The identifiers of the places in use, from place i on. -/
def allI : Nat → List (Int × Bool) → List (Int × Int)
  | _, [] => []
  | i, p :: ps => if p.2 = true then ((i : Int), p.1) :: allI (i + 1) ps else allI (i + 1) ps
/-- The cells of a row of identifiers. -/
def idc (l : List (Int × Int)) : List Value := l.flatMap fun x => [.int .i64 x.1, .int .i64 x.2]

theorem all_snoc (i : Nat) (l : List (Int × Bool)) (p : Int × Bool) : allI i (l ++ [p]) = allI i l ++ (if p.2 = true then [(((i + l.length : Nat) : Int), p.1)] else []) := by
  induction l generalizing i with
  | nil => simp [allI]
  | cons q l ih =>
    simp only [List.cons_append, allI, ih (i + 1), List.length_cons]
    rw [show i + 1 + l.length = i + (l.length + 1) from by omega]
    by_cases h : q.2 = true
    · rw [if_pos h, if_pos h]; rfl
    · rw [if_neg h, if_neg h]
theorem all_length (i : Nat) (l : List (Int × Bool)) : (allI i l).length ≤ l.length := by
  induction l generalizing i with
  | nil => simp [allI]
  | cons q l ih =>
    have := ih (i + 1)
    simp only [allI, List.length_cons]
    split
    · simp only [List.length_cons]; omega
    · omega
theorem idc_length (l : List (Int × Int)) : (idc l).length = l.length * 2 := by
  induction l with
  | nil => rfl
  | cons p l ih => simp only [idc, List.flatMap_cons, List.length_append, List.length_cons, List.length_nil] at ih ⊢; omega
theorem idc_snoc (l : List (Int × Int)) (x : Int × Int) : idc (l ++ [x]) = idc l ++ [.int .i64 x.1, .int .i64 x.2] := by simp [idc]
theorem idc_at0 (l : List (Int × Int)) (i : Nat) : (idc l)[i * 2]? = (l[i]?).map fun p => .int .i64 p.1 := by
  induction l generalizing i with
  | nil => simp [idc]
  | cons p l ih =>
    cases i with
    | zero => simp [idc]
    | succ i =>
      have := ih i
      simp only [idc, List.flatMap_cons, List.getElem?_cons_succ] at this ⊢
      rw [show (i + 1) * 2 = i * 2 + 1 + 1 from by omega]
      simpa using this
theorem idc_at1 (l : List (Int × Int)) (i : Nat) : (idc l)[i * 2 + 1]? = (l[i]?).map fun p => .int .i64 p.2 := by
  induction l generalizing i with
  | nil => simp [idc]
  | cons p l ih =>
    cases i with
    | zero => simp [idc]
    | succ i =>
      have := ih i
      simp only [idc, List.flatMap_cons, List.getElem?_cons_succ] at this ⊢
      rw [show (i + 1) * 2 + 1 = i * 2 + 1 + 1 + 1 from by omega]
      simpa using this

theorem info_id : (Try.prog.info? 30).map (fun i => (i.zero, i.size, i.bytes)) = some (some (.agg #[.int .i64 0, .int .i64 0]), 2, 16) := by kernel_rfl

end Go.Proofs.Ytjddfmllphcehaa
