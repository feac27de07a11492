/-
  What the parser of programs over lists comes to at all texts of TreeMany. Lists alone.
-/
import Derived.Test.YtanecdpcenkoeaaDoorZam1
import Derived.Test.YtanecdpcenkoeaaDoorZam2
import Derived.Test.YtanecdpcenkoeaaDoorZam3
import Derived.Test.YtanecdpcenkoeaaDoorZam4
namespace Go.Proofs.YtanecdpcenkoeaaDoor
set_option maxRecDepth 100000

theorem mn_part {c k m n : Nat} (h : (List.range m).all (fun i => (parP (mnX c (k + i))).mn c (k + i)) = true) (h1 : k ≤ n) (h2 : n < k + m) : (parP (mnX c n)).mn c n = true := by
  have := List.all_eq_true.1 h (n - k) (List.mem_range.2 (by omega))
  rw [show k + (n - k) = n by omega] at this
  exact this
theorem mn_at {c n : Nat} (hc : c < 8) (h0 : 1 ≤ n) (hn : n ≤ 110) : (parP (mnX c n)).mn c n = true := by
  have hc8 : c = 0 ∨ c = 1 ∨ c = 2 ∨ c = 3 ∨ c = 4 ∨ c = 5 ∨ c = 6 ∨ c = 7 := by omega
  rcases hc8 with rfl | rfl | rfl | rfl | rfl | rfl | rfl | rfl
  · have hk : (1 ≤ n ∧ n < 51) ∨ (51 ≤ n ∧ n < 74) ∨ (74 ≤ n ∧ n < 92) ∨ (92 ≤ n ∧ n < 107) ∨ (107 ≤ n ∧ n < 111) := by omega
    rcases hk with hk | hk | hk | hk | hk
    · exact mn_part mn_0_1 hk.1 (by omega)
    · exact mn_part mn_0_51 hk.1 (by omega)
    · exact mn_part mn_0_74 hk.1 (by omega)
    · exact mn_part mn_0_92 hk.1 (by omega)
    · exact mn_part mn_0_107 hk.1 (by omega)
  · have hk : (1 ≤ n ∧ n < 40) ∨ (40 ≤ n ∧ n < 57) ∨ (57 ≤ n ∧ n < 71) ∨ (71 ≤ n ∧ n < 82) ∨ (82 ≤ n ∧ n < 92) ∨ (92 ≤ n ∧ n < 101) ∨ (101 ≤ n ∧ n < 109) ∨ (109 ≤ n ∧ n < 111) := by omega
    rcases hk with hk | hk | hk | hk | hk | hk | hk | hk
    · exact mn_part mn_1_1 hk.1 (by omega)
    · exact mn_part mn_1_40 hk.1 (by omega)
    · exact mn_part mn_1_57 hk.1 (by omega)
    · exact mn_part mn_1_71 hk.1 (by omega)
    · exact mn_part mn_1_82 hk.1 (by omega)
    · exact mn_part mn_1_92 hk.1 (by omega)
    · exact mn_part mn_1_101 hk.1 (by omega)
    · exact mn_part mn_1_109 hk.1 (by omega)
  · have hk : (1 ≤ n ∧ n < 33) ∨ (33 ≤ n ∧ n < 47) ∨ (47 ≤ n ∧ n < 58) ∨ (58 ≤ n ∧ n < 67) ∨ (67 ≤ n ∧ n < 75) ∨ (75 ≤ n ∧ n < 82) ∨ (82 ≤ n ∧ n < 89) ∨ (89 ≤ n ∧ n < 95) ∨ (95 ≤ n ∧ n < 101) ∨ (101 ≤ n ∧ n < 107) ∨ (107 ≤ n ∧ n < 111) := by omega
    rcases hk with hk | hk | hk | hk | hk | hk | hk | hk | hk | hk | hk
    · exact mn_part mn_2_1 hk.1 (by omega)
    · exact mn_part mn_2_33 hk.1 (by omega)
    · exact mn_part mn_2_47 hk.1 (by omega)
    · exact mn_part mn_2_58 hk.1 (by omega)
    · exact mn_part mn_2_67 hk.1 (by omega)
    · exact mn_part mn_2_75 hk.1 (by omega)
    · exact mn_part mn_2_82 hk.1 (by omega)
    · exact mn_part mn_2_89 hk.1 (by omega)
    · exact mn_part mn_2_95 hk.1 (by omega)
    · exact mn_part mn_2_101 hk.1 (by omega)
    · exact mn_part mn_2_107 hk.1 (by omega)
  · have hk : (1 ≤ n ∧ n < 27) ∨ (27 ≤ n ∧ n < 38) ∨ (38 ≤ n ∧ n < 47) ∨ (47 ≤ n ∧ n < 54) ∨ (54 ≤ n ∧ n < 61) ∨ (61 ≤ n ∧ n < 67) ∨ (67 ≤ n ∧ n < 73) ∨ (73 ≤ n ∧ n < 78) ∨ (78 ≤ n ∧ n < 83) ∨ (83 ≤ n ∧ n < 88) ∨ (88 ≤ n ∧ n < 92) ∨ (92 ≤ n ∧ n < 96) ∨ (96 ≤ n ∧ n < 100) ∨ (100 ≤ n ∧ n < 104) ∨ (104 ≤ n ∧ n < 108) ∨ (108 ≤ n ∧ n < 111) := by omega
    rcases hk with hk | hk | hk | hk | hk | hk | hk | hk | hk | hk | hk | hk | hk | hk | hk | hk
    · exact mn_part mn_3_1 hk.1 (by omega)
    · exact mn_part mn_3_27 hk.1 (by omega)
    · exact mn_part mn_3_38 hk.1 (by omega)
    · exact mn_part mn_3_47 hk.1 (by omega)
    · exact mn_part mn_3_54 hk.1 (by omega)
    · exact mn_part mn_3_61 hk.1 (by omega)
    · exact mn_part mn_3_67 hk.1 (by omega)
    · exact mn_part mn_3_73 hk.1 (by omega)
    · exact mn_part mn_3_78 hk.1 (by omega)
    · exact mn_part mn_3_83 hk.1 (by omega)
    · exact mn_part mn_3_88 hk.1 (by omega)
    · exact mn_part mn_3_92 hk.1 (by omega)
    · exact mn_part mn_3_96 hk.1 (by omega)
    · exact mn_part mn_3_100 hk.1 (by omega)
    · exact mn_part mn_3_104 hk.1 (by omega)
    · exact mn_part mn_3_108 hk.1 (by omega)
  · have hk : (1 ≤ n ∧ n < 30) ∨ (30 ≤ n ∧ n < 43) ∨ (43 ≤ n ∧ n < 53) ∨ (53 ≤ n ∧ n < 62) ∨ (62 ≤ n ∧ n < 70) ∨ (70 ≤ n ∧ n < 77) ∨ (77 ≤ n ∧ n < 83) ∨ (83 ≤ n ∧ n < 89) ∨ (89 ≤ n ∧ n < 95) ∨ (95 ≤ n ∧ n < 100) ∨ (100 ≤ n ∧ n < 105) ∨ (105 ≤ n ∧ n < 110) ∨ (110 ≤ n ∧ n < 111) := by omega
    rcases hk with hk | hk | hk | hk | hk | hk | hk | hk | hk | hk | hk | hk | hk
    · exact mn_part mn_4_1 hk.1 (by omega)
    · exact mn_part mn_4_30 hk.1 (by omega)
    · exact mn_part mn_4_43 hk.1 (by omega)
    · exact mn_part mn_4_53 hk.1 (by omega)
    · exact mn_part mn_4_62 hk.1 (by omega)
    · exact mn_part mn_4_70 hk.1 (by omega)
    · exact mn_part mn_4_77 hk.1 (by omega)
    · exact mn_part mn_4_83 hk.1 (by omega)
    · exact mn_part mn_4_89 hk.1 (by omega)
    · exact mn_part mn_4_95 hk.1 (by omega)
    · exact mn_part mn_4_100 hk.1 (by omega)
    · exact mn_part mn_4_105 hk.1 (by omega)
    · exact mn_part mn_4_110 hk.1 (by omega)
  · have hk : (1 ≤ n ∧ n < 29) ∨ (29 ≤ n ∧ n < 42) ∨ (42 ≤ n ∧ n < 52) ∨ (52 ≤ n ∧ n < 60) ∨ (60 ≤ n ∧ n < 68) ∨ (68 ≤ n ∧ n < 75) ∨ (75 ≤ n ∧ n < 81) ∨ (81 ≤ n ∧ n < 87) ∨ (87 ≤ n ∧ n < 93) ∨ (93 ≤ n ∧ n < 98) ∨ (98 ≤ n ∧ n < 103) ∨ (103 ≤ n ∧ n < 108) ∨ (108 ≤ n ∧ n < 111) := by omega
    rcases hk with hk | hk | hk | hk | hk | hk | hk | hk | hk | hk | hk | hk | hk
    · exact mn_part mn_5_1 hk.1 (by omega)
    · exact mn_part mn_5_29 hk.1 (by omega)
    · exact mn_part mn_5_42 hk.1 (by omega)
    · exact mn_part mn_5_52 hk.1 (by omega)
    · exact mn_part mn_5_60 hk.1 (by omega)
    · exact mn_part mn_5_68 hk.1 (by omega)
    · exact mn_part mn_5_75 hk.1 (by omega)
    · exact mn_part mn_5_81 hk.1 (by omega)
    · exact mn_part mn_5_87 hk.1 (by omega)
    · exact mn_part mn_5_93 hk.1 (by omega)
    · exact mn_part mn_5_98 hk.1 (by omega)
    · exact mn_part mn_5_103 hk.1 (by omega)
    · exact mn_part mn_5_108 hk.1 (by omega)
  · have hk : (1 ≤ n ∧ n < 30) ∨ (30 ≤ n ∧ n < 44) ∨ (44 ≤ n ∧ n < 54) ∨ (54 ≤ n ∧ n < 63) ∨ (63 ≤ n ∧ n < 71) ∨ (71 ≤ n ∧ n < 78) ∨ (78 ≤ n ∧ n < 85) ∨ (85 ≤ n ∧ n < 91) ∨ (91 ≤ n ∧ n < 97) ∨ (97 ≤ n ∧ n < 102) ∨ (102 ≤ n ∧ n < 107) ∨ (107 ≤ n ∧ n < 111) := by omega
    rcases hk with hk | hk | hk | hk | hk | hk | hk | hk | hk | hk | hk | hk
    · exact mn_part mn_6_1 hk.1 (by omega)
    · exact mn_part mn_6_30 hk.1 (by omega)
    · exact mn_part mn_6_44 hk.1 (by omega)
    · exact mn_part mn_6_54 hk.1 (by omega)
    · exact mn_part mn_6_63 hk.1 (by omega)
    · exact mn_part mn_6_71 hk.1 (by omega)
    · exact mn_part mn_6_78 hk.1 (by omega)
    · exact mn_part mn_6_85 hk.1 (by omega)
    · exact mn_part mn_6_91 hk.1 (by omega)
    · exact mn_part mn_6_97 hk.1 (by omega)
    · exact mn_part mn_6_102 hk.1 (by omega)
    · exact mn_part mn_6_107 hk.1 (by omega)
  · have hk : (1 ≤ n ∧ n < 29) ∨ (29 ≤ n ∧ n < 41) ∨ (41 ≤ n ∧ n < 50) ∨ (50 ≤ n ∧ n < 58) ∨ (58 ≤ n ∧ n < 65) ∨ (65 ≤ n ∧ n < 71) ∨ (71 ≤ n ∧ n < 77) ∨ (77 ≤ n ∧ n < 83) ∨ (83 ≤ n ∧ n < 88) ∨ (88 ≤ n ∧ n < 93) ∨ (93 ≤ n ∧ n < 98) ∨ (98 ≤ n ∧ n < 103) ∨ (103 ≤ n ∧ n < 107) ∨ (107 ≤ n ∧ n < 111) := by omega
    rcases hk with hk | hk | hk | hk | hk | hk | hk | hk | hk | hk | hk | hk | hk | hk
    · exact mn_part mn_7_1 hk.1 (by omega)
    · exact mn_part mn_7_29 hk.1 (by omega)
    · exact mn_part mn_7_41 hk.1 (by omega)
    · exact mn_part mn_7_50 hk.1 (by omega)
    · exact mn_part mn_7_58 hk.1 (by omega)
    · exact mn_part mn_7_65 hk.1 (by omega)
    · exact mn_part mn_7_71 hk.1 (by omega)
    · exact mn_part mn_7_77 hk.1 (by omega)
    · exact mn_part mn_7_83 hk.1 (by omega)
    · exact mn_part mn_7_88 hk.1 (by omega)
    · exact mn_part mn_7_93 hk.1 (by omega)
    · exact mn_part mn_7_98 hk.1 (by omega)
    · exact mn_part mn_7_103 hk.1 (by omega)
    · exact mn_part mn_7_107 hk.1 (by omega)
end Go.Proofs.YtanecdpcenkoeaaDoor
