/-
  EcsQueries beyond its bounds.
-/
import Derived.Test.YtbefpbcfgjlcgaaEt
import Derived.Test.YtbefpbcfgjlcgaaEs
namespace Go.Proofs.Ytbefpbcfgjlcgaa
open Go.ChangeShapes Go.WideShapes Go.ChangeAt Go.RowKit Go.Deep
set_option maxRecDepth 100000
set_option maxHeartbeats 1000000

theorem queries_out (all nn : Int) (A : Option Addr) (N cap : Nat) (w : World) (hN : N ≤ 9223372036854775807) (h : 40 < N) :
    Calls Try.prog 5 #[.slice A N cap, .int .u16 all, .int .u16 nn] w fun e w' => e = .returned (.bool true) ∧ Touch NoB w w' := by
  go_enter Try.func5, Try.ntmps5
  go_wp2_with fail
  refine (ealive_any w).mono ?_
  rintro e w1 ⟨rfl, hT⟩
  have HT := Lib.hid hT
  clear hT
  go_wp2
  go_ret
  exact ⟨rfl, HT.out⟩
end Go.Proofs.Ytbefpbcfgjlcgaa
