/-
  ExprDeep: how deep texts are, in lists; the longest of the texts that the statement builds. No program is named here.
-/
import Derived.Test.YtadpihipnffiaaaDoorOh
namespace Go.Proofs.YtadpihipnffiaaaDoor
set_option maxRecDepth 100000

theorem dp_3_0 : (List.range 16).all (fun n => dpF 3 (0 + n)) = true := by decide +kernel
theorem dp_3_1 : (List.range 16).all (fun n => dpF 3 (16 + n)) = true := by decide +kernel
theorem dp_3_2 : (List.range 16).all (fun n => dpF 3 (32 + n)) = true := by decide +kernel
theorem dp_3_3 : (List.range 16).all (fun n => dpF 3 (48 + n)) = true := by decide +kernel
theorem dp_3_4 : (List.range 16).all (fun n => dpF 3 (64 + n)) = true := by decide +kernel
theorem dp_3_5 : (List.range 16).all (fun n => dpF 3 (80 + n)) = true := by decide +kernel
theorem dp_3_6 : (List.range 16).all (fun n => dpF 3 (96 + n)) = true := by decide +kernel
theorem dp_3_7 : (List.range 16).all (fun n => dpF 3 (112 + n)) = true := by decide +kernel
theorem dp_3 {n : Nat} (hn : n ≤ 120) : dpF 3 n = true := dp_join (fun k hk => by
  have h8 : k = 0 ∨ k = 1 ∨ k = 2 ∨ k = 3 ∨ k = 4 ∨ k = 5 ∨ k = 6 ∨ k = 7 := by omega
  rcases h8 with rfl | rfl | rfl | rfl | rfl | rfl | rfl | rfl
  · exact dp_3_0
  · exact dp_3_1
  · exact dp_3_2
  · exact dp_3_3
  · exact dp_3_4
  · exact dp_3_5
  · exact dp_3_6
  · exact dp_3_7) hn
theorem dp_at {c n : Nat} (hc : c < 4) (hn : n ≤ 120) : dpF c n = true := by
  have h4 : c = 0 ∨ c = 1 ∨ c = 2 ∨ c = 3 := by omega
  rcases h4 with rfl | rfl | rfl | rfl
  · exact dp_0 hn
  · exact dp_1 hn
  · exact dp_2 hn
  · exact dp_3 hn
end Go.Proofs.YtadpihipnffiaaaDoor
