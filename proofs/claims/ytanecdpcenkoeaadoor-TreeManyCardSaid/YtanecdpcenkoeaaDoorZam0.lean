/-
  TreeMany's texts: how many of each thing. Lists alone.
-/
import Derived.Test.YtanecdpcenkoeaaDoorZa7
namespace Go.Proofs.YtanecdpcenkoeaaDoor
set_option maxRecDepth 100000

def mnM (c : Nat) : Nat := [16, 16, 8, 20, 8, 8, 8, 100].getD c 0
def mnI (c : Nat) : Bs := [[111, 107, 59, 32], [49, 58, 32, 111, 107, 59, 32], [118, 97, 114, 32, 118, 32, 48, 32, 49, 59, 32], [97, 99, 116, 32, 97, 32, 99, 111, 115, 116, 32, 49, 32, 123, 32, 125, 32], [103, 111, 97, 108, 32, 118, 32, 62, 61, 32, 49, 59, 32], [110, 101, 101, 100, 32, 118, 32, 62, 61, 32, 49, 59, 32], [109, 97, 107, 101, 32, 118, 32, 61, 32, 49, 59, 32], [107, 101, 121, 32, 111, 119, 110, 32, 107, 32, 105, 110, 116, 59, 32]].getD c []
def mnH (c : Nat) : Bs := [[116, 114, 101, 101, 32, 116, 32, 123, 32, 115, 101, 108, 32, 123, 32], [116, 114, 101, 101, 32, 116, 32, 123, 32, 112, 105, 99, 107, 32, 123, 32], [100, 111, 109, 97, 105, 110, 32, 100, 32, 123, 32], [100, 111, 109, 97, 105, 110, 32, 100, 32, 123, 32], [100, 111, 109, 97, 105, 110, 32, 100, 32, 123, 32], [100, 111, 109, 97, 105, 110, 32, 100, 32, 123, 32, 97, 99, 116, 32, 97, 32, 99, 111, 115, 116, 32, 49, 32, 123, 32], [100, 111, 109, 97, 105, 110, 32, 100, 32, 123, 32, 97, 99, 116, 32, 97, 32, 99, 111, 115, 116, 32, 49, 32, 123, 32], []].getD c []
def mnT (c : Nat) : Bs := [[125, 32, 125], [125, 32, 125], [125], [125], [125], [125, 32, 125], [125, 32, 125], []].getD c []
def mnX (c n : Nat) : Bs := mnH c ++ (List.replicate n (mnI c)).flatten ++ mnT c
/-- Where the first one too many stands. -/
def mnA (c : Nat) : Nat := (mnH c).length + mnM c * (mnI c).length
def Pr.mn (p : Pr) (c n : Nat) : Bool := match p with
  | .ok _ => decide (n ≤ mnM c)
  | .er e a => decide (mnM c < n) && decide (e = 9) && decide (a = mnA c)
end Go.Proofs.YtanecdpcenkoeaaDoor
