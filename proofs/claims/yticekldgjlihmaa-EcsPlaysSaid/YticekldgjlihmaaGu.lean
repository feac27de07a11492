/-
  EcsPlays: the way out; every list of calls.
-/
import Derived.Test.YticekldgjlihmaaGt
namespace Go.Proofs.Yticekldgjlihmaa
open Go.ChangeShapes Go.WideShapes Go.ChangeAt Go.RowKit Go.Deep
set_option maxRecDepth 100000
set_option maxHeartbeats 1000000

theorem plays_out (room tables : Int) (A : Option Addr) (N cap : Nat) (w : World) (hN : N ≤ 9223372036854775807) (h : 60 < N) :
    Calls Try.prog 3 #[.int .i64 room, .int .i64 tables, .slice A N cap] w fun e w' => e = .returned (.bool true) ∧ Touch NoB w w' := by
  go_enter Try.func3, Try.ntmps3
  go_wp2_with fail
  refine (ealive_any w).mono ?_
  rintro e w1 ⟨rfl, hT⟩
  have HT := Lib.hid hT
  clear hT
  go_wp2
  go_ret
  exact ⟨rfl, HT.out⟩
theorem plays_any {H : Type} (room tables : Int) (a : Option Addr) (len cap : Nat) (d : DataW H) (p : List MemPlace) (w : World) (enc : TypeId × Value → H) (h : DataW.Trod enc Try.prog w 0 (fun _ => true) true 22 (.slice a len cap) d p) :
    Calls Try.prog 3 #[.int .i64 room, .int .i64 tables, .slice a len cap] w fun e w' => e = .returned (.bool true) ∧ Touch NoB w w' := by
  obtain ⟨fuel, hf⟩ := h
  obtain ⟨A, N, C, hcs, hN, hz⟩ := open_acts hf
  simp [Value.cells] at hcs
  obtain ⟨rfl, rfl, rfl⟩ := hcs
  by_cases h : 60 < len
  · exact plays_out room tables _ len _ w hN h
  · exact plays_in room tables _ len _ w (by omega) hz
end Go.Proofs.Yticekldgjlihmaa
