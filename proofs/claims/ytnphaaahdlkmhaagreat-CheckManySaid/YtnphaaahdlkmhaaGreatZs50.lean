/-
  What the families of CheckMany of 6 trees come to over lists. Lists alone.
-/
import Derived.Test.YtnphaaahdlkmhaaGreatZs44
namespace Go.Proofs.YtnphaaahdlkmhaaGreat
set_option maxRecDepth 100000

theorem cm6_1 : cmB 1 6 = true := by decide +kernel
theorem cm6_2 : cmB 2 6 = true := by decide +kernel
theorem cm6_3 : cmB 3 6 = true := by decide +kernel
theorem cm6_4 : cmB 4 6 = true := by decide +kernel
theorem cm6_5 : cmB 5 6 = true := by decide +kernel
theorem cm6_6 : cmB 6 6 = true := by decide +kernel
theorem cm6_7 : cmB 7 6 = true := by decide +kernel
theorem cm6_8 : cmB 8 6 = true := by decide +kernel
theorem cm6_9 : cmB 9 6 = true := by decide +kernel
theorem cm6_10 : cmB 10 6 = true := by decide +kernel
theorem cm6_11 : cmB 11 6 = true := by decide +kernel
theorem cm6_12 : cmB 12 6 = true := by decide +kernel
theorem cm6_13 : cmB 13 6 = true := by decide +kernel
theorem cm6_14 : cmB 14 6 = true := by decide +kernel
theorem cm6_15 : cmB 15 6 = true := by decide +kernel
theorem cm6_16 : cmB 16 6 = true := by decide +kernel
theorem cm6 {n : Nat} (h1 : 1 ≤ n) (h2 : n ≤ 16) : cmB n 6 = true := by
  have hc : n = 1 ∨ n = 2 ∨ n = 3 ∨ n = 4 ∨ n = 5 ∨ n = 6 ∨ n = 7 ∨ n = 8 ∨ n = 9 ∨ n = 10 ∨ n = 11 ∨ n = 12 ∨ n = 13 ∨ n = 14 ∨ n = 15 ∨ n = 16 := by omega
  rcases hc with rfl | rfl | rfl | rfl | rfl | rfl | rfl | rfl | rfl | rfl | rfl | rfl | rfl | rfl | rfl | rfl
  · exact cm6_1
  · exact cm6_2
  · exact cm6_3
  · exact cm6_4
  · exact cm6_5
  · exact cm6_6
  · exact cm6_7
  · exact cm6_8
  · exact cm6_9
  · exact cm6_10
  · exact cm6_11
  · exact cm6_12
  · exact cm6_13
  · exact cm6_14
  · exact cm6_15
  · exact cm6_16
end Go.Proofs.YtnphaaahdlkmhaaGreat
