/-
  What the families of CheckMany of 1 trees come to over lists. Lists alone.
-/
import Derived.Test.YtnphaaahdlkmhaaGreatZs44
namespace Go.Proofs.YtnphaaahdlkmhaaGreat
set_option maxRecDepth 100000

theorem cm1_1 : cmB 1 1 = true := by decide +kernel
theorem cm1_2 : cmB 2 1 = true := by decide +kernel
theorem cm1_3 : cmB 3 1 = true := by decide +kernel
theorem cm1_4 : cmB 4 1 = true := by decide +kernel
theorem cm1_5 : cmB 5 1 = true := by decide +kernel
theorem cm1_6 : cmB 6 1 = true := by decide +kernel
theorem cm1_7 : cmB 7 1 = true := by decide +kernel
theorem cm1_8 : cmB 8 1 = true := by decide +kernel
theorem cm1_9 : cmB 9 1 = true := by decide +kernel
theorem cm1_10 : cmB 10 1 = true := by decide +kernel
theorem cm1_11 : cmB 11 1 = true := by decide +kernel
theorem cm1_12 : cmB 12 1 = true := by decide +kernel
theorem cm1_13 : cmB 13 1 = true := by decide +kernel
theorem cm1_14 : cmB 14 1 = true := by decide +kernel
theorem cm1_15 : cmB 15 1 = true := by decide +kernel
theorem cm1_16 : cmB 16 1 = true := by decide +kernel
theorem cm1 {n : Nat} (h1 : 1 ≤ n) (h2 : n ≤ 16) : cmB n 1 = true := by
  have hc : n = 1 ∨ n = 2 ∨ n = 3 ∨ n = 4 ∨ n = 5 ∨ n = 6 ∨ n = 7 ∨ n = 8 ∨ n = 9 ∨ n = 10 ∨ n = 11 ∨ n = 12 ∨ n = 13 ∨ n = 14 ∨ n = 15 ∨ n = 16 := by omega
  rcases hc with rfl | rfl | rfl | rfl | rfl | rfl | rfl | rfl | rfl | rfl | rfl | rfl | rfl | rfl | rfl | rfl
  · exact cm1_1
  · exact cm1_2
  · exact cm1_3
  · exact cm1_4
  · exact cm1_5
  · exact cm1_6
  · exact cm1_7
  · exact cm1_8
  · exact cm1_9
  · exact cm1_10
  · exact cm1_11
  · exact cm1_12
  · exact cm1_13
  · exact cm1_14
  · exact cm1_15
  · exact cm1_16
end Go.Proofs.YtnphaaahdlkmhaaGreat
