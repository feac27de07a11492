/-
  What the parser of programs over lists comes to at texts of TreeMany: part 4. Lists alone.
-/
import Derived.Test.YtanecdpcenkoeaaDoorZam0
namespace Go.Proofs.YtanecdpcenkoeaaDoor
set_option maxRecDepth 100000

theorem mn_6_71 : (List.range 7).all (fun i => (parP (mnX 6 (71 + i))).mn 6 (71 + i)) = true := by decide +kernel
theorem mn_6_78 : (List.range 7).all (fun i => (parP (mnX 6 (78 + i))).mn 6 (78 + i)) = true := by decide +kernel
theorem mn_6_85 : (List.range 6).all (fun i => (parP (mnX 6 (85 + i))).mn 6 (85 + i)) = true := by decide +kernel
theorem mn_6_91 : (List.range 6).all (fun i => (parP (mnX 6 (91 + i))).mn 6 (91 + i)) = true := by decide +kernel
theorem mn_6_97 : (List.range 5).all (fun i => (parP (mnX 6 (97 + i))).mn 6 (97 + i)) = true := by decide +kernel
theorem mn_6_102 : (List.range 5).all (fun i => (parP (mnX 6 (102 + i))).mn 6 (102 + i)) = true := by decide +kernel
theorem mn_6_107 : (List.range 4).all (fun i => (parP (mnX 6 (107 + i))).mn 6 (107 + i)) = true := by decide +kernel
theorem mn_7_1 : (List.range 28).all (fun i => (parP (mnX 7 (1 + i))).mn 7 (1 + i)) = true := by decide +kernel
theorem mn_7_29 : (List.range 12).all (fun i => (parP (mnX 7 (29 + i))).mn 7 (29 + i)) = true := by decide +kernel
theorem mn_7_41 : (List.range 9).all (fun i => (parP (mnX 7 (41 + i))).mn 7 (41 + i)) = true := by decide +kernel
theorem mn_7_50 : (List.range 8).all (fun i => (parP (mnX 7 (50 + i))).mn 7 (50 + i)) = true := by decide +kernel
theorem mn_7_58 : (List.range 7).all (fun i => (parP (mnX 7 (58 + i))).mn 7 (58 + i)) = true := by decide +kernel
theorem mn_7_65 : (List.range 6).all (fun i => (parP (mnX 7 (65 + i))).mn 7 (65 + i)) = true := by decide +kernel
theorem mn_7_71 : (List.range 6).all (fun i => (parP (mnX 7 (71 + i))).mn 7 (71 + i)) = true := by decide +kernel
theorem mn_7_77 : (List.range 6).all (fun i => (parP (mnX 7 (77 + i))).mn 7 (77 + i)) = true := by decide +kernel
theorem mn_7_83 : (List.range 5).all (fun i => (parP (mnX 7 (83 + i))).mn 7 (83 + i)) = true := by decide +kernel
theorem mn_7_88 : (List.range 5).all (fun i => (parP (mnX 7 (88 + i))).mn 7 (88 + i)) = true := by decide +kernel
theorem mn_7_93 : (List.range 5).all (fun i => (parP (mnX 7 (93 + i))).mn 7 (93 + i)) = true := by decide +kernel
theorem mn_7_98 : (List.range 5).all (fun i => (parP (mnX 7 (98 + i))).mn 7 (98 + i)) = true := by decide +kernel
theorem mn_7_103 : (List.range 4).all (fun i => (parP (mnX 7 (103 + i))).mn 7 (103 + i)) = true := by decide +kernel
theorem mn_7_107 : (List.range 4).all (fun i => (parP (mnX 7 (107 + i))).mn 7 (107 + i)) = true := by decide +kernel
end Go.Proofs.YtanecdpcenkoeaaDoor
