/-
  Make, Drop and Has, as IdsOnce meets them: beside the row of what was made and the row of bools.
-/
import Derived.Test.YtjddfmllphcehaaIg
namespace Go.Proofs.Ytjddfmllphcehaa
open Go.ChangeShapes Go.WideShapes Go.ChangeAt Go.RowKit

/-- The cells of a row of bools. -/
def bc (th : List Bool) : List Value := th.map Value.bool
theorem bc_length (th : List Bool) : (bc th).length = th.length * 1 := by simp [bc]
theorem bc_at (th : List Bool) (j : Nat) : (bc th)[j]? = (th[j]?).map Value.bool := by simp [bc]
theorem bc_set (th : List Bool) (j : Nat) (b : Bool) : bc (th.set j b) = (bc th).set j (.bool b) := by simp [bc, List.map_set]
theorem bc_snoc (th : List Bool) (b : Bool) : bc (th ++ [b]) = bc th ++ [.bool b] := by simp [bc]

section
variable {B : Nat} {w w' : World} {g : Nat} {room : Int} {ps : List (Int × Bool)} {ds : List Int} {md : List (Int × Int)} {th : List Bool} {v7 v8 : Value}

end

theorem info_bool : (Try.prog.info? 4).map (fun i => (i.zero, i.size, i.bytes)) = some (some (.bool false), 1, 1) := by kernel_rfl

section
variable {B : Nat} {w w' : World} {g : Nat} {room : Int} {ps : List (Int × Bool)} {ds : List Int} {md : List (Int × Int)} {th : List Bool} {v7 v8 : Value}
end

/-- The world of a loop that only draws. -/
def DrawRel (W : World) (L : Nat) (j : Value) (wq : World) : Prop := ∃ q c : Nat, c ≤ L ∧ j = .int .i64 c ∧ wq = W.drewN q

theorem and_low (z : Int) : 0 ≤ bits .and .i64 z 1023 ∧ bits .and .i64 z 1023 ≤ 1023 := by
  have h : bits .and .i64 z 1023 = IntKind.i64.wrap ((BitVec.ofInt 64 z &&& BitVec.ofInt 64 1023).toNat : Int) := rfl
  have h2 : (BitVec.ofInt 64 z).toNat &&& (BitVec.ofInt 64 1023).toNat ≤ (BitVec.ofInt 64 1023).toNat := Nat.and_le_right
  have h3 : (BitVec.ofInt 64 1023).toNat = 1023 := by decide
  rw [h, BitVec.toNat_and, IntKind.wrap_i64]
  omega
theorem mod_low (z : Int) (L : Nat) : ∃ kk : Nat, (bits .and .i64 z 1023).tmod ((L : Int) + 1) = kk ∧ kk ≤ L := by
  obtain ⟨h1, _⟩ := and_low z
  obtain ⟨a, ha⟩ := Int.eq_ofNat_of_zero_le h1
  refine ⟨a % (L + 1), ?_, by have := Nat.mod_lt a (show 0 < L + 1 by omega); omega⟩
  rw [ha, show ((L : Int) + 1) = ((L + 1 : Nat) : Int) from rfl, Int.ofNat_tmod]

theorem quiet_num {P : Program} {f : FuncId} {args : Array Value} {w : World} {n : Nat} {v : Value}
    (h : Calls P f args (w.drewN n) fun e w' => e = .returned v ∧ w.drewN n = w') : Calls P f args (w.drewN n) fun e w'' => e = .returned v ∧ ∃ m, w'' = w.drewN m :=
  h.mono fun _ _ ⟨he, hm⟩ => ⟨he, n, hm.symm⟩

end Go.Proofs.Ytjddfmllphcehaa
