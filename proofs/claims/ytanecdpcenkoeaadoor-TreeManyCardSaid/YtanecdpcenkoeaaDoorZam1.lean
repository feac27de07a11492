/-
  What the parser of programs over lists comes to at texts of TreeMany: part 1. Lists alone.
-/
import Derived.Test.YtanecdpcenkoeaaDoorZam0
namespace Go.Proofs.YtanecdpcenkoeaaDoor
set_option maxRecDepth 100000

theorem mn_0_1 : (List.range 50).all (fun i => (parP (mnX 0 (1 + i))).mn 0 (1 + i)) = true := by decide +kernel
theorem mn_0_51 : (List.range 23).all (fun i => (parP (mnX 0 (51 + i))).mn 0 (51 + i)) = true := by decide +kernel
theorem mn_0_74 : (List.range 18).all (fun i => (parP (mnX 0 (74 + i))).mn 0 (74 + i)) = true := by decide +kernel
theorem mn_0_92 : (List.range 15).all (fun i => (parP (mnX 0 (92 + i))).mn 0 (92 + i)) = true := by decide +kernel
theorem mn_0_107 : (List.range 4).all (fun i => (parP (mnX 0 (107 + i))).mn 0 (107 + i)) = true := by decide +kernel
theorem mn_1_1 : (List.range 39).all (fun i => (parP (mnX 1 (1 + i))).mn 1 (1 + i)) = true := by decide +kernel
theorem mn_1_40 : (List.range 17).all (fun i => (parP (mnX 1 (40 + i))).mn 1 (40 + i)) = true := by decide +kernel
theorem mn_1_57 : (List.range 14).all (fun i => (parP (mnX 1 (57 + i))).mn 1 (57 + i)) = true := by decide +kernel
theorem mn_1_71 : (List.range 11).all (fun i => (parP (mnX 1 (71 + i))).mn 1 (71 + i)) = true := by decide +kernel
theorem mn_1_82 : (List.range 10).all (fun i => (parP (mnX 1 (82 + i))).mn 1 (82 + i)) = true := by decide +kernel
theorem mn_1_92 : (List.range 9).all (fun i => (parP (mnX 1 (92 + i))).mn 1 (92 + i)) = true := by decide +kernel
theorem mn_1_101 : (List.range 8).all (fun i => (parP (mnX 1 (101 + i))).mn 1 (101 + i)) = true := by decide +kernel
theorem mn_1_109 : (List.range 2).all (fun i => (parP (mnX 1 (109 + i))).mn 1 (109 + i)) = true := by decide +kernel
theorem mn_2_1 : (List.range 32).all (fun i => (parP (mnX 2 (1 + i))).mn 2 (1 + i)) = true := by decide +kernel
theorem mn_2_33 : (List.range 14).all (fun i => (parP (mnX 2 (33 + i))).mn 2 (33 + i)) = true := by decide +kernel
theorem mn_2_47 : (List.range 11).all (fun i => (parP (mnX 2 (47 + i))).mn 2 (47 + i)) = true := by decide +kernel
theorem mn_2_58 : (List.range 9).all (fun i => (parP (mnX 2 (58 + i))).mn 2 (58 + i)) = true := by decide +kernel
theorem mn_2_67 : (List.range 8).all (fun i => (parP (mnX 2 (67 + i))).mn 2 (67 + i)) = true := by decide +kernel
theorem mn_2_75 : (List.range 7).all (fun i => (parP (mnX 2 (75 + i))).mn 2 (75 + i)) = true := by decide +kernel
theorem mn_2_82 : (List.range 7).all (fun i => (parP (mnX 2 (82 + i))).mn 2 (82 + i)) = true := by decide +kernel
theorem mn_2_89 : (List.range 6).all (fun i => (parP (mnX 2 (89 + i))).mn 2 (89 + i)) = true := by decide +kernel
theorem mn_2_95 : (List.range 6).all (fun i => (parP (mnX 2 (95 + i))).mn 2 (95 + i)) = true := by decide +kernel
theorem mn_2_101 : (List.range 6).all (fun i => (parP (mnX 2 (101 + i))).mn 2 (101 + i)) = true := by decide +kernel
theorem mn_2_107 : (List.range 4).all (fun i => (parP (mnX 2 (107 + i))).mn 2 (107 + i)) = true := by decide +kernel
theorem mn_3_1 : (List.range 26).all (fun i => (parP (mnX 3 (1 + i))).mn 3 (1 + i)) = true := by decide +kernel
end Go.Proofs.YtanecdpcenkoeaaDoor
