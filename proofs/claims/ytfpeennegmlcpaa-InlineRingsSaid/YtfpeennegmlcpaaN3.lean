/-
  Package nest's small functions over expressions and nodes: a list's place, what is below an element. Conditions: those that each theorem names.
-/
import Derived.Test.YtfpeennegmlcpaaN2
namespace Go.Proofs.Ytfpeennegmlcpaa
open Go.ChangeShapes Go.WideShapes Go.ChangeAt Go.RowKit
set_option maxRecDepth 100000
set_option maxHeartbeats 1000000

theorem plk_expr : PlK Try.prog 192 198 135 :=
  plk_mk (pt := 187) (el := 27) (it := 3) (n := 3) Try.underlying192 Try.underlying198 (by decide) (by decide) rfl rfl rfl rfl (by kernel_rfl) Try.underlying187 Try.underlying3 (fun W => by kernel_rfl) (fun W => by kernel_rfl)
theorem plk_node : PlK Try.prog 133 142 135 :=
  plk_mk (pt := 140) (el := 30) (it := 3) (n := 9) Try.underlying133 Try.underlying142 (by decide) (by decide) rfl rfl rfl rfl (by kernel_rfl) Try.underlying140 Try.underlying3 (fun W => by kernel_rfl) (fun W => by kernel_rfl)
theorem placex_any (b o n c : Nat) (h0 : 0 < n) (w : World) : Calls Try.prog 125 #[.slice (some ⟨b, o, none⟩) n c] w fun e w' => e = .returned (plV (⟨b, o, none⟩, n)) ∧ Touch NoB w w' := by
  have hn : (0 : Int) < (n : Int) := by omega
  unfold plV
  go_enter Try.func125, Try.ntmps125
  go_wp2
  exact bodyPost_ret (v := .agg #[.pointer (some ⟨b, o, none⟩), .int .i64 (n : Int)]) (by simp [results, Try.results125, go_sem]) rfl ⟨rfl, by repeat (first | with_reducible exact Touch.refl _ _ | with_reducible refine Touch.drew ?_ | with_reducible refine Touch.alloc ?_ _)⟩
theorem placen_any (b o n c : Nat) (h0 : 0 < n) (w : World) : Calls Try.prog 78 #[.slice (some ⟨b, o, none⟩) n c] w fun e w' => e = .returned (plV (⟨b, o, none⟩, n)) ∧ Touch NoB w w' := by
  have hn : (0 : Int) < (n : Int) := by omega
  unfold plV
  go_enter Try.func78, Try.ntmps78
  go_wp2
  exact bodyPost_ret (v := .agg #[.pointer (some ⟨b, o, none⟩), .int .i64 (n : Int)]) (by simp [results, Try.results78, go_sem]) rfl ⟨rfl, by repeat (first | with_reducible exact Touch.refl _ _ | with_reducible refine Touch.drew ?_ | with_reducible refine Touch.alloc ?_ _)⟩
theorem parts_any (b o : Nat) (v : Value) (w : World) (h : w.cell? ⟨b, o + 3, none⟩ = some v) (hv : ∃ x n c, v = .slice x n c) : Calls Try.prog 116 #[.pointer (some ⟨b, o, none⟩)] w fun e w' => e = .returned v ∧ w = w' := by
  obtain ⟨x, n, c, rfl⟩ := hv
  go_enter Try.func116, Try.ntmps116
  go_wp2
  go_ret
  exact ⟨rfl, rfl⟩
theorem kidsof_any (b o : Nat) (v : Value) (w : World) (h : w.cell? ⟨b, o + 8, none⟩ = some v) (hv : ∃ x n c, v = .slice x n c) : Calls Try.prog 48 #[.pointer (some ⟨b, o, none⟩)] w fun e w' => e = .returned v ∧ w = w' := by
  obtain ⟨x, n, c, rfl⟩ := hv
  go_enter Try.func48, Try.ntmps48
  go_wp2
  go_ret
  exact ⟨rfl, rfl⟩
end Go.Proofs.Ytfpeennegmlcpaa
