/-
  ExprGroups beyond the eight operators: true. Conditions: the listed variables read as they are laid.
-/
import Derived.Test.YtadpihipnffiaaaDoorOf
import Derived.Test.YtadpihipnffiaaaDoorQt
import Derived.Deep.RegionLaw
import Derived.Deep.CutRange
import Derived.Deep.DeepCutAuto
namespace Go.Proofs.YtadpihipnffiaaaDoor
open Go.ChangeShapes Go.WideShapes Go.ChangeAt Go.RowKit
set_option maxRecDepth 100000
set_option maxHeartbeats 8000000

theorem groups_out (x y : Int) (w : World) (h : x < 0 ∨ 8 ≤ x ∨ y < 0 ∨ 8 ≤ y) (hev : EN w) : Calls Tryd.prog 5 #[.int .i64 x, .int .i64 y] w fun e w' => e = .returned (.bool true) ∧ Touch NoB w w' := by
  have HA := Lib.hid (alive_any w hev)
  clear hev
  have h' : x < 0 ∨ (¬ x < 0 ∧ 8 ≤ x) ∨ (¬ x < 0 ∧ ¬ 8 ≤ x ∧ y < 0) ∨ (¬ x < 0 ∧ ¬ 8 ≤ x ∧ ¬ y < 0 ∧ 8 ≤ y) := by omega
  rcases h' with h1 | ⟨h1, h2⟩ | ⟨h1, h2, h3⟩ | ⟨h1, h2, h3, h4⟩
  all_goals
    clear h
    go_enter Tryd.func5, Tryd.ntmps5
    go_wp2_with fail
    refine HA.out.mono ?_
    rintro e w1 ⟨rfl, hT1⟩
    have HT := Lib.hid hT1
    clear hT1
    go_wp2
    go_ret
    exact ⟨rfl, (HT.out.alloc _).alloc _⟩
end Go.Proofs.YtadpihipnffiaaaDoor
