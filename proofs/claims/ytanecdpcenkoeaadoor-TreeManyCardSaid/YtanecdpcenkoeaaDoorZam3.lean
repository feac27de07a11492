/-
  What the parser of programs over lists comes to at texts of TreeMany: part 3. Lists alone.
-/
import Derived.Test.YtanecdpcenkoeaaDoorZam0
namespace Go.Proofs.YtanecdpcenkoeaaDoor
set_option maxRecDepth 100000

theorem mn_4_83 : (List.range 6).all (fun i => (parP (mnX 4 (83 + i))).mn 4 (83 + i)) = true := by decide +kernel
theorem mn_4_89 : (List.range 6).all (fun i => (parP (mnX 4 (89 + i))).mn 4 (89 + i)) = true := by decide +kernel
theorem mn_4_95 : (List.range 5).all (fun i => (parP (mnX 4 (95 + i))).mn 4 (95 + i)) = true := by decide +kernel
theorem mn_4_100 : (List.range 5).all (fun i => (parP (mnX 4 (100 + i))).mn 4 (100 + i)) = true := by decide +kernel
theorem mn_4_105 : (List.range 5).all (fun i => (parP (mnX 4 (105 + i))).mn 4 (105 + i)) = true := by decide +kernel
theorem mn_4_110 : (List.range 1).all (fun i => (parP (mnX 4 (110 + i))).mn 4 (110 + i)) = true := by decide +kernel
theorem mn_5_1 : (List.range 28).all (fun i => (parP (mnX 5 (1 + i))).mn 5 (1 + i)) = true := by decide +kernel
theorem mn_5_29 : (List.range 13).all (fun i => (parP (mnX 5 (29 + i))).mn 5 (29 + i)) = true := by decide +kernel
theorem mn_5_42 : (List.range 10).all (fun i => (parP (mnX 5 (42 + i))).mn 5 (42 + i)) = true := by decide +kernel
theorem mn_5_52 : (List.range 8).all (fun i => (parP (mnX 5 (52 + i))).mn 5 (52 + i)) = true := by decide +kernel
theorem mn_5_60 : (List.range 8).all (fun i => (parP (mnX 5 (60 + i))).mn 5 (60 + i)) = true := by decide +kernel
theorem mn_5_68 : (List.range 7).all (fun i => (parP (mnX 5 (68 + i))).mn 5 (68 + i)) = true := by decide +kernel
theorem mn_5_75 : (List.range 6).all (fun i => (parP (mnX 5 (75 + i))).mn 5 (75 + i)) = true := by decide +kernel
theorem mn_5_81 : (List.range 6).all (fun i => (parP (mnX 5 (81 + i))).mn 5 (81 + i)) = true := by decide +kernel
theorem mn_5_87 : (List.range 6).all (fun i => (parP (mnX 5 (87 + i))).mn 5 (87 + i)) = true := by decide +kernel
theorem mn_5_93 : (List.range 5).all (fun i => (parP (mnX 5 (93 + i))).mn 5 (93 + i)) = true := by decide +kernel
theorem mn_5_98 : (List.range 5).all (fun i => (parP (mnX 5 (98 + i))).mn 5 (98 + i)) = true := by decide +kernel
theorem mn_5_103 : (List.range 5).all (fun i => (parP (mnX 5 (103 + i))).mn 5 (103 + i)) = true := by decide +kernel
theorem mn_5_108 : (List.range 3).all (fun i => (parP (mnX 5 (108 + i))).mn 5 (108 + i)) = true := by decide +kernel
theorem mn_6_1 : (List.range 29).all (fun i => (parP (mnX 6 (1 + i))).mn 6 (1 + i)) = true := by decide +kernel
theorem mn_6_30 : (List.range 14).all (fun i => (parP (mnX 6 (30 + i))).mn 6 (30 + i)) = true := by decide +kernel
theorem mn_6_44 : (List.range 10).all (fun i => (parP (mnX 6 (44 + i))).mn 6 (44 + i)) = true := by decide +kernel
theorem mn_6_54 : (List.range 9).all (fun i => (parP (mnX 6 (54 + i))).mn 6 (54 + i)) = true := by decide +kernel
theorem mn_6_63 : (List.range 8).all (fun i => (parP (mnX 6 (63 + i))).mn 6 (63 + i)) = true := by decide +kernel
end Go.Proofs.YtanecdpcenkoeaaDoor
