/-
  What the families of CheckMany of 4 trees come to over lists. Lists alone.
-/
import Derived.Test.YtnphaaahdlkmhaaGreatZs44
namespace Go.Proofs.YtnphaaahdlkmhaaGreat
set_option maxRecDepth 100000

theorem cm4_1 : cmB 1 4 = true := by decide +kernel
theorem cm4_2 : cmB 2 4 = true := by decide +kernel
theorem cm4_3 : cmB 3 4 = true := by decide +kernel
theorem cm4_4 : cmB 4 4 = true := by decide +kernel
theorem cm4_5 : cmB 5 4 = true := by decide +kernel
theorem cm4_6 : cmB 6 4 = true := by decide +kernel
theorem cm4_7 : cmB 7 4 = true := by decide +kernel
theorem cm4_8 : cmB 8 4 = true := by decide +kernel
theorem cm4_9 : cmB 9 4 = true := by decide +kernel
theorem cm4_10 : cmB 10 4 = true := by decide +kernel
theorem cm4_11 : cmB 11 4 = true := by decide +kernel
theorem cm4_12 : cmB 12 4 = true := by decide +kernel
theorem cm4_13 : cmB 13 4 = true := by decide +kernel
theorem cm4_14 : cmB 14 4 = true := by decide +kernel
theorem cm4_15 : cmB 15 4 = true := by decide +kernel
theorem cm4_16 : cmB 16 4 = true := by decide +kernel
theorem cm4 {n : Nat} (h1 : 1 ≤ n) (h2 : n ≤ 16) : cmB n 4 = true := by
  have hc : n = 1 ∨ n = 2 ∨ n = 3 ∨ n = 4 ∨ n = 5 ∨ n = 6 ∨ n = 7 ∨ n = 8 ∨ n = 9 ∨ n = 10 ∨ n = 11 ∨ n = 12 ∨ n = 13 ∨ n = 14 ∨ n = 15 ∨ n = 16 := by omega
  rcases hc with rfl | rfl | rfl | rfl | rfl | rfl | rfl | rfl | rfl | rfl | rfl | rfl | rfl | rfl | rfl | rfl
  · exact cm4_1
  · exact cm4_2
  · exact cm4_3
  · exact cm4_4
  · exact cm4_5
  · exact cm4_6
  · exact cm4_7
  · exact cm4_8
  · exact cm4_9
  · exact cm4_10
  · exact cm4_11
  · exact cm4_12
  · exact cm4_13
  · exact cm4_14
  · exact cm4_15
  · exact cm4_16
end Go.Proofs.YtnphaaahdlkmhaaGreat
