/-
  What the families of CheckMany of 2 trees come to over lists. Lists alone.
-/
import Derived.Test.YtnphaaahdlkmhaaGreatZs44
namespace Go.Proofs.YtnphaaahdlkmhaaGreat
set_option maxRecDepth 100000

theorem cm2_1 : cmB 1 2 = true := by decide +kernel
theorem cm2_2 : cmB 2 2 = true := by decide +kernel
theorem cm2_3 : cmB 3 2 = true := by decide +kernel
theorem cm2_4 : cmB 4 2 = true := by decide +kernel
theorem cm2_5 : cmB 5 2 = true := by decide +kernel
theorem cm2_6 : cmB 6 2 = true := by decide +kernel
theorem cm2_7 : cmB 7 2 = true := by decide +kernel
theorem cm2_8 : cmB 8 2 = true := by decide +kernel
theorem cm2_9 : cmB 9 2 = true := by decide +kernel
theorem cm2_10 : cmB 10 2 = true := by decide +kernel
theorem cm2_11 : cmB 11 2 = true := by decide +kernel
theorem cm2_12 : cmB 12 2 = true := by decide +kernel
theorem cm2_13 : cmB 13 2 = true := by decide +kernel
theorem cm2_14 : cmB 14 2 = true := by decide +kernel
theorem cm2_15 : cmB 15 2 = true := by decide +kernel
theorem cm2_16 : cmB 16 2 = true := by decide +kernel
theorem cm2 {n : Nat} (h1 : 1 ≤ n) (h2 : n ≤ 16) : cmB n 2 = true := by
  have hc : n = 1 ∨ n = 2 ∨ n = 3 ∨ n = 4 ∨ n = 5 ∨ n = 6 ∨ n = 7 ∨ n = 8 ∨ n = 9 ∨ n = 10 ∨ n = 11 ∨ n = 12 ∨ n = 13 ∨ n = 14 ∨ n = 15 ∨ n = 16 := by omega
  rcases hc with rfl | rfl | rfl | rfl | rfl | rfl | rfl | rfl | rfl | rfl | rfl | rfl | rfl | rfl | rfl | rfl
  · exact cm2_1
  · exact cm2_2
  · exact cm2_3
  · exact cm2_4
  · exact cm2_5
  · exact cm2_6
  · exact cm2_7
  · exact cm2_8
  · exact cm2_9
  · exact cm2_10
  · exact cm2_11
  · exact cm2_12
  · exact cm2_13
  · exact cm2_14
  · exact cm2_15
  · exact cm2_16
end Go.Proofs.YtnphaaahdlkmhaaGreat
