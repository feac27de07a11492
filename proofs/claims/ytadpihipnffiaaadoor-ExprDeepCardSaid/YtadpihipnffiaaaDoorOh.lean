/-
  ExprDeep: how deep texts are, in lists; every text that the statement builds. No program is named here.
-/
import Derived.Test.YtadpihipnffiaaaDoorQb
namespace Go.Proofs.YtadpihipnffiaaaDoor
set_option maxRecDepth 100000

def rep (p : Bs) : Nat → Bs
  | 0 => []
  | i + 1 => rep p i ++ p
def hdP : List Bs := [[40], [110, 111, 116, 32], [], [40, 49, 32, 42, 32]]
def tlP : List Bs := [[41], [], [32, 43, 32, 49], [41]]
def dpT (c n : Nat) : Bs := rep (hdP.getD c []) n ++ [97] ++ rep (tlP.getD c []) n
def wantD (n : Nat) : Nat := if 39 < n then 4 else 0
def dpF (c n : Nat) : Bool := match lexL (dpT c n) with
  | .bad _ => false
  | .good ts => match parL ts 0 with
    | .ok _ _ => decide (wantD n = 0)
    | .er e _ => decide (wantD n = e)
theorem dp_join {c : Nat} (h : ∀ k, k < 8 → (List.range 16).all (fun n => dpF c (16 * k + n)) = true) {n : Nat} (hn : n ≤ 120) : dpF c n = true := by
  have := List.all_eq_true.1 (h (n / 16) (by omega)) (n % 16) (List.mem_range.2 (by omega))
  simpa only [Nat.div_add_mod] using this
theorem dp_0_0 : (List.range 16).all (fun n => dpF 0 (0 + n)) = true := by decide +kernel
theorem dp_0_1 : (List.range 16).all (fun n => dpF 0 (16 + n)) = true := by decide +kernel
theorem dp_0_2 : (List.range 16).all (fun n => dpF 0 (32 + n)) = true := by decide +kernel
theorem dp_0_3 : (List.range 16).all (fun n => dpF 0 (48 + n)) = true := by decide +kernel
theorem dp_0_4 : (List.range 16).all (fun n => dpF 0 (64 + n)) = true := by decide +kernel
theorem dp_0_5 : (List.range 16).all (fun n => dpF 0 (80 + n)) = true := by decide +kernel
theorem dp_0_6 : (List.range 16).all (fun n => dpF 0 (96 + n)) = true := by decide +kernel
theorem dp_0_7 : (List.range 16).all (fun n => dpF 0 (112 + n)) = true := by decide +kernel
theorem dp_0 {n : Nat} (hn : n ≤ 120) : dpF 0 n = true := dp_join (fun k hk => by
  have h8 : k = 0 ∨ k = 1 ∨ k = 2 ∨ k = 3 ∨ k = 4 ∨ k = 5 ∨ k = 6 ∨ k = 7 := by omega
  rcases h8 with rfl | rfl | rfl | rfl | rfl | rfl | rfl | rfl
  · exact dp_0_0
  · exact dp_0_1
  · exact dp_0_2
  · exact dp_0_3
  · exact dp_0_4
  · exact dp_0_5
  · exact dp_0_6
  · exact dp_0_7) hn
theorem dp_1_0 : (List.range 16).all (fun n => dpF 1 (0 + n)) = true := by decide +kernel
theorem dp_1_1 : (List.range 16).all (fun n => dpF 1 (16 + n)) = true := by decide +kernel
theorem dp_1_2 : (List.range 16).all (fun n => dpF 1 (32 + n)) = true := by decide +kernel
theorem dp_1_3 : (List.range 16).all (fun n => dpF 1 (48 + n)) = true := by decide +kernel
theorem dp_1_4 : (List.range 16).all (fun n => dpF 1 (64 + n)) = true := by decide +kernel
theorem dp_1_5 : (List.range 16).all (fun n => dpF 1 (80 + n)) = true := by decide +kernel
theorem dp_1_6 : (List.range 16).all (fun n => dpF 1 (96 + n)) = true := by decide +kernel
theorem dp_1_7 : (List.range 16).all (fun n => dpF 1 (112 + n)) = true := by decide +kernel
theorem dp_1 {n : Nat} (hn : n ≤ 120) : dpF 1 n = true := dp_join (fun k hk => by
  have h8 : k = 0 ∨ k = 1 ∨ k = 2 ∨ k = 3 ∨ k = 4 ∨ k = 5 ∨ k = 6 ∨ k = 7 := by omega
  rcases h8 with rfl | rfl | rfl | rfl | rfl | rfl | rfl | rfl
  · exact dp_1_0
  · exact dp_1_1
  · exact dp_1_2
  · exact dp_1_3
  · exact dp_1_4
  · exact dp_1_5
  · exact dp_1_6
  · exact dp_1_7) hn
theorem dp_2_0 : (List.range 16).all (fun n => dpF 2 (0 + n)) = true := by decide +kernel
theorem dp_2_1 : (List.range 16).all (fun n => dpF 2 (16 + n)) = true := by decide +kernel
theorem dp_2_2 : (List.range 16).all (fun n => dpF 2 (32 + n)) = true := by decide +kernel
theorem dp_2_3 : (List.range 16).all (fun n => dpF 2 (48 + n)) = true := by decide +kernel
theorem dp_2_4 : (List.range 16).all (fun n => dpF 2 (64 + n)) = true := by decide +kernel
theorem dp_2_5 : (List.range 16).all (fun n => dpF 2 (80 + n)) = true := by decide +kernel
theorem dp_2_6 : (List.range 16).all (fun n => dpF 2 (96 + n)) = true := by decide +kernel
theorem dp_2_7 : (List.range 16).all (fun n => dpF 2 (112 + n)) = true := by decide +kernel
theorem dp_2 {n : Nat} (hn : n ≤ 120) : dpF 2 n = true := dp_join (fun k hk => by
  have h8 : k = 0 ∨ k = 1 ∨ k = 2 ∨ k = 3 ∨ k = 4 ∨ k = 5 ∨ k = 6 ∨ k = 7 := by omega
  rcases h8 with rfl | rfl | rfl | rfl | rfl | rfl | rfl | rfl
  · exact dp_2_0
  · exact dp_2_1
  · exact dp_2_2
  · exact dp_2_3
  · exact dp_2_4
  · exact dp_2_5
  · exact dp_2_6
  · exact dp_2_7) hn
theorem rep_len (p : Bs) (hp : p.length ≤ 5) : ∀ i, (rep p i).length ≤ 5 * i
  | 0 => by simp [rep]
  | i + 1 => by have := rep_len p hp i; simp only [rep, List.length_append]; omega
end Go.Proofs.YtadpihipnffiaaaDoor
