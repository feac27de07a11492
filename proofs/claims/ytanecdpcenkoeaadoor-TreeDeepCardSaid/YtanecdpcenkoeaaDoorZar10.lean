/-
  What the parser of programs over lists comes to at the texts of TreeDeep. Lists alone.
-/
import Derived.Test.YtanecdpcenkoeaaDoorZa7
namespace Go.Proofs.YtanecdpcenkoeaaDoor
set_option maxRecDepth 100000

def dpH (which : Nat) : Bs := match which with
  | 0 => [115, 101, 113, 32, 123, 32]
  | 1 => [110, 111, 116, 32]
  | 2 => [114, 101, 112, 101, 97, 116, 32, 50, 32]
  | _ => [112, 105, 99, 107, 32, 123, 32, 49, 58, 32]
def dpT (which : Nat) : Bs := match which with
  | 1 => []
  | 2 => []
  | _ => [125, 32]
def dpX (which n : Nat) : Bs := [116, 114, 101, 101, 32, 116, 32, 123, 32] ++ (List.replicate n (dpH which)).flatten ++ [111, 107, 59, 32] ++ (List.replicate n (dpT which)).flatten ++ [125]
def Pr.dp (p : Pr) (n : Nat) : Bool := match p with
  | .ok p => decide (n ≤ 39) && decide (p.trees.length = 1)
  | .er e _ => decide (39 < n) && decide (e = 4)
theorem dp_0_0 : (List.range 27).all (fun i => (parP (dpX 0 (0 + i))).dp (0 + i)) = true := by decide +kernel
theorem dp_0_27 : (List.range 27).all (fun i => (parP (dpX 0 (27 + i))).dp (27 + i)) = true := by decide +kernel
theorem dp_0_54 : (List.range 27).all (fun i => (parP (dpX 0 (54 + i))).dp (54 + i)) = true := by decide +kernel
theorem dp_1_0 : (List.range 27).all (fun i => (parP (dpX 1 (0 + i))).dp (0 + i)) = true := by decide +kernel
theorem dp_1_27 : (List.range 27).all (fun i => (parP (dpX 1 (27 + i))).dp (27 + i)) = true := by decide +kernel
theorem dp_1_54 : (List.range 27).all (fun i => (parP (dpX 1 (54 + i))).dp (54 + i)) = true := by decide +kernel
theorem dp_2_0 : (List.range 27).all (fun i => (parP (dpX 2 (0 + i))).dp (0 + i)) = true := by decide +kernel
theorem dp_2_27 : (List.range 27).all (fun i => (parP (dpX 2 (27 + i))).dp (27 + i)) = true := by decide +kernel
theorem dp_2_54 : (List.range 27).all (fun i => (parP (dpX 2 (54 + i))).dp (54 + i)) = true := by decide +kernel
theorem dp_3_0 : (List.range 27).all (fun i => (parP (dpX 3 (0 + i))).dp (0 + i)) = true := by decide +kernel
theorem dp_3_27 : (List.range 27).all (fun i => (parP (dpX 3 (27 + i))).dp (27 + i)) = true := by decide +kernel
theorem dp_3_54 : (List.range 27).all (fun i => (parP (dpX 3 (54 + i))).dp (54 + i)) = true := by decide +kernel
end Go.Proofs.YtanecdpcenkoeaaDoor
