/-
  What clamp.Add, clamp.Sub and the document's own Add, Sub return: the sum and the difference limited to 64 bits, for any two ints, in whatever world, which they leave as it was.
-/
import Derived.Test.YtfpeennegmlcpaaRows
import Derived.Test.YtfpeennegmlcpaaNum
import Derived.WalkKit
import Derived.ProofKit
import Derived.OpenShut
namespace Go.Proofs.Ytfpeennegmlcpaa
open Go.ChangeShapes Go.WideShapes Go.ChangeAt Go.RowKit

theorem ret_int {k : IntKind} {a b : Int} (h : a = b) : Ending.returned (.int k a) = .returned (.int k b) := by rw [h]

theorem add_any (a b : Int) (w : World) (ha1 : -9223372036854775808 ≤ a) (ha2 : a ≤ 9223372036854775807) (hb1 : -9223372036854775808 ≤ b) (hb2 : b ≤ 9223372036854775807) :
    Calls Try.prog 106 #[.int .i64 a, .int .i64 b] w fun e w' => e = .returned (.int .i64 (lim (a + b))) ∧ w = w' := by
  rcases Int.lt_trichotomy b 0 with hb | hb | hb
  · by_cases h : a < -9223372036854775808 - b
    · go_enter Try.func106, Try.ntmps106
      go_wp2
      go_ret
      exact ⟨ret_int (lim_lo (by omega)).symm, rfl⟩
    · go_enter Try.func106, Try.ntmps106
      go_wp2
      go_ret
      exact ⟨ret_int (lim_in (by omega) (by omega)).symm, rfl⟩
  · subst hb
    go_enter Try.func106, Try.ntmps106
    go_wp2
    go_ret
    exact ⟨ret_int (by rw [lim_in (by omega) (by omega)]; omega), rfl⟩
  · by_cases h : 9223372036854775807 - b < a
    · go_enter Try.func106, Try.ntmps106
      go_wp2
      go_ret
      exact ⟨ret_int (lim_hi (by omega)).symm, rfl⟩
    · go_enter Try.func106, Try.ntmps106
      go_wp2
      go_ret
      exact ⟨ret_int (lim_in (by omega) (by omega)).symm, rfl⟩

end Go.Proofs.Ytfpeennegmlcpaa
