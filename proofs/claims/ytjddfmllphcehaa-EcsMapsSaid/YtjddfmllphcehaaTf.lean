/-
  The document's example of chapter 4, as its statements ask it first; the walk of TableCells.
-/
import Derived.Test.YtjddfmllphcehaaTe
namespace Go.Proofs.Ytjddfmllphcehaa
open Go.ChangeShapes Go.WideShapes Go.ChangeAt Go.RowKit Go.Maps

theorem mapis_nil : MapIs (.map []) [] := ⟨fun r i x h => by simp at h, fun i x _ _ _ => rfl⟩
theorem i64_zero : I64 0 := i64_mk (by decide) (by decide)
theorem i64_one : I64 1 := i64_mk (by decide) (by decide)

end Go.Proofs.Ytjddfmllphcehaa
