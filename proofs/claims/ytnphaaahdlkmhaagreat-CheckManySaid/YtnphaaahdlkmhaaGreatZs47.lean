/-
  What the families of CheckMany of 3 trees come to over lists. Lists alone.
-/
import Derived.Test.YtnphaaahdlkmhaaGreatZs44
namespace Go.Proofs.YtnphaaahdlkmhaaGreat
set_option maxRecDepth 100000

theorem cm3_1 : cmB 1 3 = true := by decide +kernel
theorem cm3_2 : cmB 2 3 = true := by decide +kernel
theorem cm3_3 : cmB 3 3 = true := by decide +kernel
theorem cm3_4 : cmB 4 3 = true := by decide +kernel
theorem cm3_5 : cmB 5 3 = true := by decide +kernel
theorem cm3_6 : cmB 6 3 = true := by decide +kernel
theorem cm3_7 : cmB 7 3 = true := by decide +kernel
theorem cm3_8 : cmB 8 3 = true := by decide +kernel
theorem cm3_9 : cmB 9 3 = true := by decide +kernel
theorem cm3_10 : cmB 10 3 = true := by decide +kernel
theorem cm3_11 : cmB 11 3 = true := by decide +kernel
theorem cm3_12 : cmB 12 3 = true := by decide +kernel
theorem cm3_13 : cmB 13 3 = true := by decide +kernel
theorem cm3_14 : cmB 14 3 = true := by decide +kernel
theorem cm3_15 : cmB 15 3 = true := by decide +kernel
theorem cm3_16 : cmB 16 3 = true := by decide +kernel
theorem cm3 {n : Nat} (h1 : 1 ≤ n) (h2 : n ≤ 16) : cmB n 3 = true := by
  have hc : n = 1 ∨ n = 2 ∨ n = 3 ∨ n = 4 ∨ n = 5 ∨ n = 6 ∨ n = 7 ∨ n = 8 ∨ n = 9 ∨ n = 10 ∨ n = 11 ∨ n = 12 ∨ n = 13 ∨ n = 14 ∨ n = 15 ∨ n = 16 := by omega
  rcases hc with rfl | rfl | rfl | rfl | rfl | rfl | rfl | rfl | rfl | rfl | rfl | rfl | rfl | rfl | rfl | rfl
  · exact cm3_1
  · exact cm3_2
  · exact cm3_3
  · exact cm3_4
  · exact cm3_5
  · exact cm3_6
  · exact cm3_7
  · exact cm3_8
  · exact cm3_9
  · exact cm3_10
  · exact cm3_11
  · exact cm3_12
  · exact cm3_13
  · exact cm3_14
  · exact cm3_15
  · exact cm3_16
end Go.Proofs.YtnphaaahdlkmhaaGreat
