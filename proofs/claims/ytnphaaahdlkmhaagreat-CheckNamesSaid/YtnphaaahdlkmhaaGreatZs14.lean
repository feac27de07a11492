/-
  Which expressions of any shape are valid: what the document's own RightExpr returns. Conditions: those that each theorem names.
-/
import Derived.Test.YtnphaaahdlkmhaaGreatZs13
namespace Go.Proofs.YtnphaaahdlkmhaaGreat
open Go.ChangeShapes Go.WideShapes Go.ChangeAt Go.RowKit
set_option maxRecDepth 100000
set_option maxHeartbeats 4000000

def okS (s : ByteArray) : Bool := nameB s && !wrd s
/-- How many Kids a kind has. -/
def kidsI (k : Int) : Int := if (6 ≤ k ∧ k ≤ 13) ∨ k = 15 ∨ k = 19 then 2 else if k = 14 ∨ (16 ≤ k ∧ k ≤ 18) then 1 else 0
/-- Is an expression valid if its m Kids are? -/
def aloneG (k n : Int) (s : ByteArray) (m : Nat) : Bool :=
  decide (0 ≤ k ∧ k ≤ 19) && decide ((m : Int) = kidsI k) && (if k = 2 ∨ k = 3 then okS s else decide (s.size = 0)) && (if k = 0 then decide (n ≠ -9223372036854775808) else if k = 1 then decide (n = 0 ∨ n = 1) else decide (n = 0))
def rightG : Nat → GE → Bool
  | 0, _ => false
  | f + 1, .mk k n s l => aloneG k n s l.length && l.all (rightG f)
theorem okS_empty {s : ByteArray} (h : s.size = 0) : okS s = false := by
  unfold okS
  rw [named_yes (fun j hj => by omega)]
  simp [h]
theorem empty_yes {s : ByteArray} (h : s.size = 0) : s.toList.isEmpty = true := by rw [toList_empty h, ByteArray.toList_eq]; rfl
theorem empty_no {s : ByteArray} (h : ¬ s.size = 0) : s.toList.isEmpty = false := toList_ne (by omega)

/- Leaves of the document's own rightExpr. -/
end Go.Proofs.YtnphaaahdlkmhaaGreat
