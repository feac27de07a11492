/-
  What the parser of programs over lists comes to at texts of TreeMany: part 2. Lists alone.
-/
import Derived.Test.YtanecdpcenkoeaaDoorZam0
namespace Go.Proofs.YtanecdpcenkoeaaDoor
set_option maxRecDepth 100000

theorem mn_3_27 : (List.range 11).all (fun i => (parP (mnX 3 (27 + i))).mn 3 (27 + i)) = true := by decide +kernel
theorem mn_3_38 : (List.range 9).all (fun i => (parP (mnX 3 (38 + i))).mn 3 (38 + i)) = true := by decide +kernel
theorem mn_3_47 : (List.range 7).all (fun i => (parP (mnX 3 (47 + i))).mn 3 (47 + i)) = true := by decide +kernel
theorem mn_3_54 : (List.range 7).all (fun i => (parP (mnX 3 (54 + i))).mn 3 (54 + i)) = true := by decide +kernel
theorem mn_3_61 : (List.range 6).all (fun i => (parP (mnX 3 (61 + i))).mn 3 (61 + i)) = true := by decide +kernel
theorem mn_3_67 : (List.range 6).all (fun i => (parP (mnX 3 (67 + i))).mn 3 (67 + i)) = true := by decide +kernel
theorem mn_3_73 : (List.range 5).all (fun i => (parP (mnX 3 (73 + i))).mn 3 (73 + i)) = true := by decide +kernel
theorem mn_3_78 : (List.range 5).all (fun i => (parP (mnX 3 (78 + i))).mn 3 (78 + i)) = true := by decide +kernel
theorem mn_3_83 : (List.range 5).all (fun i => (parP (mnX 3 (83 + i))).mn 3 (83 + i)) = true := by decide +kernel
theorem mn_3_88 : (List.range 4).all (fun i => (parP (mnX 3 (88 + i))).mn 3 (88 + i)) = true := by decide +kernel
theorem mn_3_92 : (List.range 4).all (fun i => (parP (mnX 3 (92 + i))).mn 3 (92 + i)) = true := by decide +kernel
theorem mn_3_96 : (List.range 4).all (fun i => (parP (mnX 3 (96 + i))).mn 3 (96 + i)) = true := by decide +kernel
theorem mn_3_100 : (List.range 4).all (fun i => (parP (mnX 3 (100 + i))).mn 3 (100 + i)) = true := by decide +kernel
theorem mn_3_104 : (List.range 4).all (fun i => (parP (mnX 3 (104 + i))).mn 3 (104 + i)) = true := by decide +kernel
theorem mn_3_108 : (List.range 3).all (fun i => (parP (mnX 3 (108 + i))).mn 3 (108 + i)) = true := by decide +kernel
theorem mn_4_1 : (List.range 29).all (fun i => (parP (mnX 4 (1 + i))).mn 4 (1 + i)) = true := by decide +kernel
theorem mn_4_30 : (List.range 13).all (fun i => (parP (mnX 4 (30 + i))).mn 4 (30 + i)) = true := by decide +kernel
theorem mn_4_43 : (List.range 10).all (fun i => (parP (mnX 4 (43 + i))).mn 4 (43 + i)) = true := by decide +kernel
theorem mn_4_53 : (List.range 9).all (fun i => (parP (mnX 4 (53 + i))).mn 4 (53 + i)) = true := by decide +kernel
theorem mn_4_62 : (List.range 8).all (fun i => (parP (mnX 4 (62 + i))).mn 4 (62 + i)) = true := by decide +kernel
theorem mn_4_70 : (List.range 7).all (fun i => (parP (mnX 4 (70 + i))).mn 4 (70 + i)) = true := by decide +kernel
theorem mn_4_77 : (List.range 6).all (fun i => (parP (mnX 4 (77 + i))).mn 4 (77 + i)) = true := by decide +kernel
end Go.Proofs.YtanecdpcenkoeaaDoor
