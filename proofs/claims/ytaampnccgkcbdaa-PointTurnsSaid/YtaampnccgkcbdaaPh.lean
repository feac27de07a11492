/-
  The walk of PointTurns.
-/
import Derived.Test.YtaampnccgkcbdaaPd
namespace Go.Proofs.Ytaampnccgkcbdaa
open Go.ChangeShapes Go.WideShapes Go.ChangeAt Go.RowKit

theorem r_add (k l : Nat) (hk : k < 4) (hl : l < 4) (a b : Int) :
    rx k (rx l a b) (ry l a b) = rx ((k + l) % 4) a b ∧ ry k (rx l a b) (ry l a b) = ry ((k + l) % 4) a b := by
  have hk' : k = 0 ∨ k = 1 ∨ k = 2 ∨ k = 3 := by omega
  have hl' : l = 0 ∨ l = 1 ∨ l = 2 ∨ l = 3 := by omega
  rcases hk' with rfl | rfl | rfl | rfl <;> rcases hl' with rfl | rfl | rfl | rfl <;> simp [rx, ry]
theorem r_sum (k : Nat) (hk : k < 4) (a b c d : Int) : rx k (a + c) (b + d) = rx k a b + rx k c d ∧ ry k (a + c) (b + d) = ry k a b + ry k c d := by
  have hk' : k = 0 ∨ k = 1 ∨ k = 2 ∨ k = 3 := by omega
  rcases hk' with rfl | rfl | rfl | rfl <;> simp [rx, ry] <;> omega

set_option maxRecDepth 100000 in
set_option maxHeartbeats 4000000 in
theorem pointTurns_out (a b c d n m : Int) (w : World) (ho : (274877906944 < a) ∨ (a ≤ 274877906944 ∧ a < -274877906944) ∨ (a ≤ 274877906944 ∧ -274877906944 ≤ a ∧ 274877906944 < b) ∨ (a ≤ 274877906944 ∧ -274877906944 ≤ a ∧ b ≤ 274877906944 ∧ b < -274877906944) ∨ (a ≤ 274877906944 ∧ -274877906944 ≤ a ∧ b ≤ 274877906944 ∧ -274877906944 ≤ b ∧ 274877906944 < c) ∨ (a ≤ 274877906944 ∧ -274877906944 ≤ a ∧ b ≤ 274877906944 ∧ -274877906944 ≤ b ∧ c ≤ 274877906944 ∧ c < -274877906944) ∨ (a ≤ 274877906944 ∧ -274877906944 ≤ a ∧ b ≤ 274877906944 ∧ -274877906944 ≤ b ∧ c ≤ 274877906944 ∧ -274877906944 ≤ c ∧ 274877906944 < d) ∨ (a ≤ 274877906944 ∧ -274877906944 ≤ a ∧ b ≤ 274877906944 ∧ -274877906944 ≤ b ∧ c ≤ 274877906944 ∧ -274877906944 ≤ c ∧ d ≤ 274877906944 ∧ d < -274877906944) ∨ (a ≤ 274877906944 ∧ -274877906944 ≤ a ∧ b ≤ 274877906944 ∧ -274877906944 ≤ b ∧ c ≤ 274877906944 ∧ -274877906944 ≤ c ∧ d ≤ 274877906944 ∧ -274877906944 ≤ d ∧ 1099511627776 < n) ∨ (a ≤ 274877906944 ∧ -274877906944 ≤ a ∧ b ≤ 274877906944 ∧ -274877906944 ≤ b ∧ c ≤ 274877906944 ∧ -274877906944 ≤ c ∧ d ≤ 274877906944 ∧ -274877906944 ≤ d ∧ n ≤ 1099511627776 ∧ n < -1099511627776) ∨ (a ≤ 274877906944 ∧ -274877906944 ≤ a ∧ b ≤ 274877906944 ∧ -274877906944 ≤ b ∧ c ≤ 274877906944 ∧ -274877906944 ≤ c ∧ d ≤ 274877906944 ∧ -274877906944 ≤ d ∧ n ≤ 1099511627776 ∧ -1099511627776 ≤ n ∧ 1099511627776 < m) ∨ (a ≤ 274877906944 ∧ -274877906944 ≤ a ∧ b ≤ 274877906944 ∧ -274877906944 ≤ b ∧ c ≤ 274877906944 ∧ -274877906944 ≤ c ∧ d ≤ 274877906944 ∧ -274877906944 ≤ d ∧ n ≤ 1099511627776 ∧ -1099511627776 ≤ n ∧ m ≤ 1099511627776 ∧ m < -1099511627776)) :
    Calls Try.prog 3 #[.int .i64 a, .int .i64 b, .int .i64 c, .int .i64 d, .int .i64 n, .int .i64 m] w fun e w' => e = .returned (.bool true) ∧ w = w' := by
  have H0 := Lib.hid (alive_any w)
  rcases ho with g0 | ⟨g0, g1⟩ | ⟨g0, g1, g2⟩ | ⟨g0, g1, g2, g3⟩ | ⟨g0, g1, g2, g3, g4⟩ | ⟨g0, g1, g2, g3, g4, g5⟩ | ⟨g0, g1, g2, g3, g4, g5, g6⟩ | ⟨g0, g1, g2, g3, g4, g5, g6, g7⟩ | ⟨g0, g1, g2, g3, g4, g5, g6, g7, g8⟩ | ⟨g0, g1, g2, g3, g4, g5, g6, g7, g8, g9⟩ | ⟨g0, g1, g2, g3, g4, g5, g6, g7, g8, g9, g10⟩ | ⟨g0, g1, g2, g3, g4, g5, g6, g7, g8, g9, g10, g11⟩
  all_goals
    go_enter Try.func3, Try.ntmps3
    go_wp2_with fail
    refine H0.out.mono ?_
    rintro e w' ⟨rfl, rfl⟩
    go_wp2
    go_ret
    exact ⟨rfl, rfl⟩

set_option maxRecDepth 100000 in
set_option maxHeartbeats 4000000 in
theorem pointTurns_in (a b c d n m : Int) (w : World) (g0 : a ≤ 274877906944) (g1 : -274877906944 ≤ a) (g2 : b ≤ 274877906944) (g3 : -274877906944 ≤ b) (g4 : c ≤ 274877906944) (g5 : -274877906944 ≤ c) (g6 : d ≤ 274877906944) (g7 : -274877906944 ≤ d) (g8 : n ≤ 1099511627776) (g9 : -1099511627776 ≤ n) (g10 : m ≤ 1099511627776) (g11 : -1099511627776 ≤ m) :
    Calls Try.prog 3 #[.int .i64 a, .int .i64 b, .int .i64 c, .int .i64 d, .int .i64 n, .int .i64 m] w fun e w' => e = .returned (.bool true) ∧ w = w' := by
  have ia : InP a := by unfold InP; omega
  have ib : InP b := by unfold InP; omega
  have ic : InP c := by unfold InP; omega
  have jd : InP d := by unfold InP; omega
  have na : InP (-a) := by unfold InP; omega
  have nb : InP (-b) := by unfold InP; omega
  have iac : InP (a + c) := by unfold InP; omega
  have ibd : InP (b + d) := by unfold InP; omega
  have h1 := of_any a b w
  rw [cl_of ia, cl_of ib] at h1
  have h2 := of_any c d w
  rw [cl_of ic, cl_of jd] at h2
  have h3 := turn_at a b (4 * n.tdiv 4) w ia ib
  have k3 : (4 * n.tdiv 4 % 4).toNat = 0 := by omega
  rw [k3] at h3
  have h3' : Calls Try.prog 11 #[.complex .f64 (fi a) (fi b), .int .i64 (4 * n.tdiv 4)] w fun e w' => e = .returned (.complex .f64 (fi a) (fi b)) ∧ w = w' := h3
  have h4 : Calls Try.prog 11 #[.complex .f64 (fi a) (fi b), .int .i64 2] w fun e w' => e = .returned (.complex .f64 (fi (-a)) (fi (-b))) ∧ w = w' := turn_at a b 2 w ia ib
  have h5 := of_any (-a) (-b) w
  rw [cl_of na, cl_of nb] at h5
  have h6 := turn_at a b n w ia ib
  have hk : (n % 4).toNat < 4 := by omega
  have hl : (m % 4).toNat < 4 := by omega
  have hkl : ((n + m) % 4).toNat = ((m % 4).toNat + (n % 4).toNat) % 4 := by omega
  have i6 := r_in (n % 4).toNat a b ia ib
  have h7 := turn_at (rx (n % 4).toNat a b) (ry (n % 4).toNat a b) m w i6.1 i6.2
  have ra := r_add (m % 4).toNat (n % 4).toNat hl hk a b
  have h8 := turn_at a b (n + m) w ia ib
  rw [hkl] at h8
  rw [ra.1, ra.2] at h7
  have i8 := r_in (((m % 4).toNat + (n % 4).toNat) % 4) a b ia ib
  have h9 := add_at a b c d w ia ib ic jd
  rw [cl_of iac, cl_of ibd] at h9
  have h10 := turn_at (a + c) (b + d) n w iac ibd
  have h11 := turn_at c d n w ic jd
  have i10 := r_in (n % 4).toNat (a + c) (b + d) iac ibd
  have i11 := r_in (n % 4).toNat c d ic jd
  have h12 := add_at (rx (n % 4).toNat a b) (ry (n % 4).toNat a b) (rx (n % 4).toNat c d) (ry (n % 4).toNat c d) w i6.1 i6.2 i11.1 i11.2
  have rs := r_sum (n % 4).toNat hk a b c d
  rw [← rs.1, ← rs.2, cl_of i10.1, cl_of i10.2] at h12
  have h13 : Calls Try.prog 11 #[.complex .f64 (fi a) (fi b), .int .i64 1] w fun e w' => e = .returned (.complex .f64 (fi (-b)) (fi a)) ∧ w = w' := turn_at a b 1 w ia ib
  have h14 := turn_at (-b) a (-1) w nb ia
  have k14 : rx (-1 % 4 : Int).toNat (-b) a = a := by show - -a = a; omega
  have k15 : ry (-1 % 4 : Int).toNat (-b) a = b := by show - -b = b; omega
  rw [k14, k15] at h14
  have o1 := ord_eq a ia
  have o2 := ord_eq b ib
  have o3 := ord_eq (-a) na
  have o4 := ord_eq (-b) nb
  have o5 := ord_eq _ i8.1
  have o6 := ord_eq _ i8.2
  have o7 := ord_eq _ i10.1
  have o8 := ord_eq _ i10.2
  clear h3 k3 k14 k15 ra rs i6 i8 i10 i11 hk hl hkl
  generalize rx (((m % 4).toNat + (n % 4).toNat) % 4) a b = X1 at *
  generalize ry (((m % 4).toNat + (n % 4).toNat) % 4) a b = Y1 at *
  generalize rx (n % 4).toNat (a + c) (b + d) = X2 at *
  generalize ry (n % 4).toNat (a + c) (b + d) = Y2 at *
  generalize rx (n % 4).toNat a b = X3 at *
  generalize ry (n % 4).toNat a b = Y3 at *
  generalize rx (n % 4).toNat c d = X4 at *
  generalize ry (n % 4).toNat c d = Y4 at *
  have tb := tdiv_abs_le n 4
  have w1 : IntKind.i64.wrap (n.tdiv 4) = n.tdiv 4 := IntWalk.i64_in _ (by omega)
  have w2 : IntKind.i64.wrap (4 * n.tdiv 4) = 4 * n.tdiv 4 := IntWalk.i64_in _ (by omega)
  have w3 : IntKind.i64.wrap (n + m) = n + m := IntWalk.i64_in _ (by omega)
  clear tb
  have H0 := Lib.hid (alive_any w)
  have H1 := Lib.hid h1
  have H2 := Lib.hid h2
  have H3 := Lib.hid h3'
  have H4 := Lib.hid h4
  have H5 := Lib.hid h5
  have H6 := Lib.hid h6
  have H7 := Lib.hid h7
  have H8 := Lib.hid h8
  have H9 := Lib.hid h9
  have H10 := Lib.hid h10
  have H11 := Lib.hid h11
  have H12 := Lib.hid h12
  have H13 := Lib.hid h13
  have H14 := Lib.hid h14
  clear h1 h2 h3' h4 h5 h6 h7 h8 h9 h10 h11 h12 h13 h14 ia ib ic jd na nb iac ibd
  go_enter Try.func3, Try.ntmps3
  go_wp2_with fail
  refine H0.out.mono ?_
  rintro e w' ⟨rfl, rfl⟩
  go_wp2_with fail
  refine H1.out.mono ?_
  rintro e w' ⟨rfl, rfl⟩
  go_wp2_with fail
  refine H2.out.mono ?_
  rintro e w' ⟨rfl, rfl⟩
  go_wp2_with fail
  refine H3.out.mono ?_
  rintro e w' ⟨rfl, rfl⟩
  go_wp2_with fail
  refine H4.out.mono ?_
  rintro e w' ⟨rfl, rfl⟩
  go_wp2_with fail
  refine H5.out.mono ?_
  rintro e w' ⟨rfl, rfl⟩
  go_wp2_with fail
  refine H6.out.mono ?_
  rintro e w' ⟨rfl, rfl⟩
  go_wp2_with fail
  refine H7.out.mono ?_
  rintro e w' ⟨rfl, rfl⟩
  go_wp2_with fail
  refine H8.out.mono ?_
  rintro e w' ⟨rfl, rfl⟩
  go_wp2_with fail
  refine H9.out.mono ?_
  rintro e w' ⟨rfl, rfl⟩
  go_wp2_with fail
  refine H10.out.mono ?_
  rintro e w' ⟨rfl, rfl⟩
  go_wp2_with fail
  refine H6.out.mono ?_
  rintro e w' ⟨rfl, rfl⟩
  go_wp2_with fail
  refine H11.out.mono ?_
  rintro e w' ⟨rfl, rfl⟩
  go_wp2_with fail
  refine H12.out.mono ?_
  rintro e w' ⟨rfl, rfl⟩
  go_wp2_with fail
  refine H13.out.mono ?_
  rintro e w' ⟨rfl, rfl⟩
  go_wp2_with fail
  refine H14.out.mono ?_
  rintro e w' ⟨rfl, rfl⟩
  go_wp2
  go_ret
  exact ⟨rfl, rfl⟩

theorem pointTurns_any (a b c d n m : Int) (w : World) :
    Calls Try.prog 3 #[.int .i64 a, .int .i64 b, .int .i64 c, .int .i64 d, .int .i64 n, .int .i64 m] w fun e w' => e = .returned (.bool true) ∧ w = w' := by
  by_cases g0 : a ≤ 274877906944
  case neg => exact pointTurns_out a b c d n m w (Or.inl (Int.not_le.mp g0))
  by_cases g1 : -274877906944 ≤ a
  case neg => exact pointTurns_out a b c d n m w (Or.inr (Or.inl (⟨g0, Int.not_le.mp g1⟩)))
  by_cases g2 : b ≤ 274877906944
  case neg => exact pointTurns_out a b c d n m w (Or.inr (Or.inr (Or.inl (⟨g0, g1, Int.not_le.mp g2⟩))))
  by_cases g3 : -274877906944 ≤ b
  case neg => exact pointTurns_out a b c d n m w (Or.inr (Or.inr (Or.inr (Or.inl (⟨g0, g1, g2, Int.not_le.mp g3⟩)))))
  by_cases g4 : c ≤ 274877906944
  case neg => exact pointTurns_out a b c d n m w (Or.inr (Or.inr (Or.inr (Or.inr (Or.inl (⟨g0, g1, g2, g3, Int.not_le.mp g4⟩))))))
  by_cases g5 : -274877906944 ≤ c
  case neg => exact pointTurns_out a b c d n m w (Or.inr (Or.inr (Or.inr (Or.inr (Or.inr (Or.inl (⟨g0, g1, g2, g3, g4, Int.not_le.mp g5⟩)))))))
  by_cases g6 : d ≤ 274877906944
  case neg => exact pointTurns_out a b c d n m w (Or.inr (Or.inr (Or.inr (Or.inr (Or.inr (Or.inr (Or.inl (⟨g0, g1, g2, g3, g4, g5, Int.not_le.mp g6⟩))))))))
  by_cases g7 : -274877906944 ≤ d
  case neg => exact pointTurns_out a b c d n m w (Or.inr (Or.inr (Or.inr (Or.inr (Or.inr (Or.inr (Or.inr (Or.inl (⟨g0, g1, g2, g3, g4, g5, g6, Int.not_le.mp g7⟩)))))))))
  by_cases g8 : n ≤ 1099511627776
  case neg => exact pointTurns_out a b c d n m w (Or.inr (Or.inr (Or.inr (Or.inr (Or.inr (Or.inr (Or.inr (Or.inr (Or.inl (⟨g0, g1, g2, g3, g4, g5, g6, g7, Int.not_le.mp g8⟩))))))))))
  by_cases g9 : -1099511627776 ≤ n
  case neg => exact pointTurns_out a b c d n m w (Or.inr (Or.inr (Or.inr (Or.inr (Or.inr (Or.inr (Or.inr (Or.inr (Or.inr (Or.inl (⟨g0, g1, g2, g3, g4, g5, g6, g7, g8, Int.not_le.mp g9⟩)))))))))))
  by_cases g10 : m ≤ 1099511627776
  case neg => exact pointTurns_out a b c d n m w (Or.inr (Or.inr (Or.inr (Or.inr (Or.inr (Or.inr (Or.inr (Or.inr (Or.inr (Or.inr (Or.inl (⟨g0, g1, g2, g3, g4, g5, g6, g7, g8, g9, Int.not_le.mp g10⟩))))))))))))
  by_cases g11 : -1099511627776 ≤ m
  case neg => exact pointTurns_out a b c d n m w (Or.inr (Or.inr (Or.inr (Or.inr (Or.inr (Or.inr (Or.inr (Or.inr (Or.inr (Or.inr (Or.inr (⟨g0, g1, g2, g3, g4, g5, g6, g7, g8, g9, g10, Int.not_le.mp g11⟩))))))))))))
  exact pointTurns_in a b c d n m w g0 g1 g2 g3 g4 g5 g6 g7 g8 g9 g10 g11

end Go.Proofs.Ytaampnccgkcbdaa
