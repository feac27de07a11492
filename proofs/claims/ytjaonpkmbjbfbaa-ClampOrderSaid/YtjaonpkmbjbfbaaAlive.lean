/-
  The document's example, as the statements of chapter 1 ask it first: the call returns true and leaves the world as it was.
-/
import Derived.Test.YtjaonpkmbjbfbaaMul
import Derived.Test.YtjaonpkmbjbfbaaDiv
namespace Go.Proofs.Ytjaonpkmbjbfbaa
open Go.ChangeShapes Go.WideShapes Go.ChangeAt Go.RowKit

theorem alive_any (w : World) :
    Calls Try.prog 8 #[] w fun e w' => e = .returned (.bool true) ∧ w = w' := by
  have h1 := add_any 9223372036854775807 1 w (by decide) (by decide) (by decide) (by decide)
  rw [lim_hi (by decide)] at h1
  have h2 := mul_any 3 4 w (by decide) (by decide) (by decide) (by decide)
  rw [lim_in (by decide) (by decide)] at h2
  have H1 := Lib.hid h1
  have H2 := Lib.hid h2
  clear h1 h2
  go_enter Try.func8, Try.ntmps8
  go_wp2_with (first | (go_at_call 9; refine H1.out.mono ?_; rintro e w' ⟨rfl, rfl⟩) | (go_at_call 13; refine H2.out.mono ?_; rintro e w' ⟨rfl, rfl⟩))
  go_ret
  exact ⟨rfl, rfl⟩

end Go.Proofs.Ytjaonpkmbjbfbaa
