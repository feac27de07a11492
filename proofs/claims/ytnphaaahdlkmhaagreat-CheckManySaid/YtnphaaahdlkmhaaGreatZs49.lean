/-
  What the families of CheckMany of 5 trees come to over lists. Lists alone.
-/
import Derived.Test.YtnphaaahdlkmhaaGreatZs44
namespace Go.Proofs.YtnphaaahdlkmhaaGreat
set_option maxRecDepth 100000

theorem cm5_1 : cmB 1 5 = true := by decide +kernel
theorem cm5_2 : cmB 2 5 = true := by decide +kernel
theorem cm5_3 : cmB 3 5 = true := by decide +kernel
theorem cm5_4 : cmB 4 5 = true := by decide +kernel
theorem cm5_5 : cmB 5 5 = true := by decide +kernel
theorem cm5_6 : cmB 6 5 = true := by decide +kernel
theorem cm5_7 : cmB 7 5 = true := by decide +kernel
theorem cm5_8 : cmB 8 5 = true := by decide +kernel
theorem cm5_9 : cmB 9 5 = true := by decide +kernel
theorem cm5_10 : cmB 10 5 = true := by decide +kernel
theorem cm5_11 : cmB 11 5 = true := by decide +kernel
theorem cm5_12 : cmB 12 5 = true := by decide +kernel
theorem cm5_13 : cmB 13 5 = true := by decide +kernel
theorem cm5_14 : cmB 14 5 = true := by decide +kernel
theorem cm5_15 : cmB 15 5 = true := by decide +kernel
theorem cm5_16 : cmB 16 5 = true := by decide +kernel
theorem cm5 {n : Nat} (h1 : 1 ≤ n) (h2 : n ≤ 16) : cmB n 5 = true := by
  have hc : n = 1 ∨ n = 2 ∨ n = 3 ∨ n = 4 ∨ n = 5 ∨ n = 6 ∨ n = 7 ∨ n = 8 ∨ n = 9 ∨ n = 10 ∨ n = 11 ∨ n = 12 ∨ n = 13 ∨ n = 14 ∨ n = 15 ∨ n = 16 := by omega
  rcases hc with rfl | rfl | rfl | rfl | rfl | rfl | rfl | rfl | rfl | rfl | rfl | rfl | rfl | rfl | rfl | rfl
  · exact cm5_1
  · exact cm5_2
  · exact cm5_3
  · exact cm5_4
  · exact cm5_5
  · exact cm5_6
  · exact cm5_7
  · exact cm5_8
  · exact cm5_9
  · exact cm5_10
  · exact cm5_11
  · exact cm5_12
  · exact cm5_13
  · exact cm5_14
  · exact cm5_15
  · exact cm5_16
end Go.Proofs.YtnphaaahdlkmhaaGreat
