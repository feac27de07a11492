/-
  What point.Add, Sub, way, distance, Far, Step and Turn return at points, in whatever world, which they leave as it was.
-/
import Derived.Test.YtaampnccgkcbdaaPa
namespace Go.Proofs.Ytaampnccgkcbdaa
open Go.ChangeShapes Go.WideShapes Go.ChangeAt Go.RowKit

/-- The bounds of a point's part. -/
def InP (n : Int) : Prop := -1099511627776 ≤ n ∧ n ≤ 1099511627776
theorem rep_in {n : Int} (h : InP n) : Rep (fi n) n := rep_fi n (by unfold InP at h; omega)
theorem inP_cl (n : Int) : InP (cl n) := cl_range n
theorem cl_of {n : Int} (h : InP n) : cl n = n := cl_in h.1 h.2

theorem csum_of {op : BinOp} {x y u v re im : Nat} (h1 : floatBits op .f64 x u = some re) (h2 : floatBits op .f64 y v = some im) : cSumBits op .f64 x y u v = some (re, im) := by
  simp [cSumBits, h1, h2]

theorem add_at (a b c d : Int) (w : World) (ha : InP a) (hb : InP b) (hc : InP c) (hd : InP d) :
    Calls Try.prog 12 #[.complex .f64 (fi a) (fi b), .complex .f64 (fi c) (fi d)] w fun e w' => e = .returned (.complex .f64 (fi (cl (a + c))) (fi (cl (b + d)))) ∧ w = w' := by
  have H1 := Lib.hid (orZero_at (fi a) (fi b) a b w (rep_in ha) (rep_in hb) ha.1 ha.2 hb.1 hb.2)
  have H2 := Lib.hid (orZero_at (fi c) (fi d) c d w (rep_in hc) (rep_in hd) hc.1 hc.2 hd.1 hd.2)
  obtain ⟨x, hx, rx⟩ := (rep_in ha).add (rep_in hc) (by unfold InP at ha hc; omega)
  obtain ⟨y, hy, ry⟩ := (rep_in hb).add (rep_in hd) (by unfold InP at hb hd; omega)
  have H3 := Lib.hid (limited_at x y (a + c) (b + d) w rx ry)
  have hop := fun t w => run_complex_sum (P := Try.prog) w .add (Or.inl rfl) t .f64 _ _ _ _ x y (csum_of hx hy)
  clear rx ry hx hy ha hb hc hd
  go_enter Try.func12, Try.ntmps12
  go_wp2_with fail
  refine H1.out.mono ?_
  rintro e w' ⟨rfl, rfl⟩
  go_wp2_with fail
  refine H2.out.mono ?_
  rintro e w' ⟨rfl, rfl⟩
  go_wp2_with fail
  refine H3.out.mono ?_
  rintro e w' ⟨rfl, rfl⟩
  go_wp2
  go_ret
  exact ⟨rfl, rfl⟩

theorem sub_at (a b c d : Int) (w : World) (ha : InP a) (hb : InP b) (hc : InP c) (hd : InP d) :
    Calls Try.prog 15 #[.complex .f64 (fi a) (fi b), .complex .f64 (fi c) (fi d)] w fun e w' => e = .returned (.complex .f64 (fi (cl (a - c))) (fi (cl (b - d)))) ∧ w = w' := by
  have H1 := Lib.hid (orZero_at (fi a) (fi b) a b w (rep_in ha) (rep_in hb) ha.1 ha.2 hb.1 hb.2)
  have H2 := Lib.hid (orZero_at (fi c) (fi d) c d w (rep_in hc) (rep_in hd) hc.1 hc.2 hd.1 hd.2)
  obtain ⟨x, hx, rx⟩ := (rep_in ha).sub (rep_in hc) (by unfold InP at ha hc; omega)
  obtain ⟨y, hy, ry⟩ := (rep_in hb).sub (rep_in hd) (by unfold InP at hb hd; omega)
  have H3 := Lib.hid (limited_at x y (a - c) (b - d) w rx ry)
  have hop := fun t w => run_complex_sum (P := Try.prog) w .sub (Or.inr rfl) t .f64 _ _ _ _ x y (csum_of hx hy)
  clear rx ry hx hy ha hb hc hd
  go_enter Try.func15, Try.ntmps15
  go_wp2_with fail
  refine H1.out.mono ?_
  rintro e w' ⟨rfl, rfl⟩
  go_wp2_with fail
  refine H2.out.mono ?_
  rintro e w' ⟨rfl, rfl⟩
  go_wp2_with fail
  refine H3.out.mono ?_
  rintro e w' ⟨rfl, rfl⟩
  go_wp2
  go_ret
  exact ⟨rfl, rfl⟩

theorem way_at (a b c d : Int) (w : World) (ha : InP a) (hb : InP b) (hc : InP c) (hd : InP d) :
    Calls Try.prog 19 #[.complex .f64 (fi a) (fi b), .complex .f64 (fi c) (fi d)] w fun e w' => e = .returned (.tuple #[.int .i64 (c - a), .int .i64 (d - b)]) ∧ w = w' := by
  have H1 := Lib.hid (orZero_at (fi a) (fi b) a b w (rep_in ha) (rep_in hb) ha.1 ha.2 hb.1 hb.2)
  have H2 := Lib.hid (orZero_at (fi c) (fi d) c d w (rep_in hc) (rep_in hd) hc.1 hc.2 hd.1 hd.2)
  obtain ⟨x, hx, rx⟩ := (rep_in hc).sub (rep_in ha) (by unfold InP at ha hc; omega)
  obtain ⟨y, hy, ry⟩ := (rep_in hd).sub (rep_in hb) (by unfold InP at hb hd; omega)
  have hop := fun t w => run_complex_sum (P := Try.prog) w .sub (Or.inr rfl) t .f64 _ _ _ _ x y (csum_of hx hy)
  have k1 := to_int rx
  have k2 := to_int ry
  clear rx ry hx hy ha hb hc hd
  go_enter Try.func19, Try.ntmps19
  go_wp2_with fail
  refine H2.out.mono ?_
  rintro e w' ⟨rfl, rfl⟩
  go_wp2_with fail
  refine H1.out.mono ?_
  rintro e w' ⟨rfl, rfl⟩
  go_wp2_with fail
  go_ret2
  exact ⟨rfl, rfl⟩

theorem distance_at (n : Int) (w : World) (h1 : -4398046511104 ≤ n) (h2 : n ≤ 4398046511104) :
    Calls Try.prog 20 #[.int .i64 n] w fun e w' => e = .returned (.int .i64 n.natAbs) ∧ w = w' := by
  go_enter Try.func20, Try.ntmps20
  go_wp2
  all_goals
    go_ret
    exact ⟨ret_int (by omega), rfl⟩

theorem far_at (a b c d : Int) (w : World) (ha : InP a) (hb : InP b) (hc : InP c) (hd : InP d) :
    Calls Try.prog 13 #[.complex .f64 (fi a) (fi b), .complex .f64 (fi c) (fi d)] w fun e w' => e = .returned (.int .i64 ((c - a).natAbs + (d - b).natAbs)) ∧ w = w' := by
  have H1 := Lib.hid (way_at a b c d w ha hb hc hd)
  unfold InP at ha hb hc hd
  have H2 := Lib.hid (distance_at (c - a) w (by omega) (by omega))
  have H3 := Lib.hid (distance_at (d - b) w (by omega) (by omega))
  have e1 : IntKind.i64.wrap (((c - a).natAbs : Int) + ((d - b).natAbs : Int)) = (c - a).natAbs + (d - b).natAbs := IntWalk.i64_in _ (by omega)
  clear ha hb hc hd
  go_enter Try.func13, Try.ntmps13
  go_wp2_with fail
  refine H1.out.mono ?_
  rintro e w' ⟨rfl, rfl⟩
  go_wp2_with fail
  refine H2.out.mono ?_
  rintro e w' ⟨rfl, rfl⟩
  go_wp2_with fail
  refine H3.out.mono ?_
  rintro e w' ⟨rfl, rfl⟩
  go_wp2
  go_ret
  exact ⟨ret_int (by first | rfl | omega), rfl⟩

/-- A number limited to -1 and 1. -/
def sgn (n : Int) : Int := withinI n (-1) 1
theorem sgn_spec (n : Int) : (n < 0 ∧ sgn n = -1) ∨ (n = 0 ∧ sgn n = 0) ∨ (0 < n ∧ sgn n = 1) := by unfold sgn withinI; repeat' split <;> omega

/-- The parts of Step. -/
def stX (a b c d : Int) : Int := if (d - b).natAbs ≤ (c - a).natAbs then a + sgn (c - a) else a
def stY (a b c d : Int) : Int := if (d - b).natAbs ≤ (c - a).natAbs then b else b + sgn (d - b)
theorem st_in (a b c d : Int) (ha : InP a) (hb : InP b) (hc : InP c) (hd : InP d) : InP (stX a b c d) ∧ InP (stY a b c d) := by
  unfold InP at *; unfold stX stY
  have h1 := sgn_spec (c - a)
  have h2 := sgn_spec (d - b)
  split <;> omega

theorem fi0 : fi 0 = 0 := by decide
theorem fi1 : fi 1 = 4607182418800017408 := by decide

theorem step_at (a b c d : Int) (w : World) (ha : InP a) (hb : InP b) (hc : InP c) (hd : InP d) :
    Calls Try.prog 14 #[.complex .f64 (fi a) (fi b), .complex .f64 (fi c) (fi d)] w fun e w' => e = .returned (.complex .f64 (fi (stX a b c d)) (fi (stY a b c d))) ∧ w = w' := by
  have H1 := Lib.hid (way_at a b c d w ha hb hc hd)
  have hst := st_in a b c d ha hb hc hd
  have s1 := sgn_spec (c - a)
  have s2 := sgn_spec (d - b)
  have z : InP 0 := by unfold InP; omega
  have i1 : InP (sgn (c - a)) := by unfold InP; omega
  have i2 : InP (sgn (d - b)) := by unfold InP; omega
  have H2 := Lib.hid (distance_at (c - a) w (by unfold InP at *; omega) (by unfold InP at *; omega))
  have H3 := Lib.hid (distance_at (d - b) w (by unfold InP at *; omega) (by unfold InP at *; omega))
  by_cases h : (d - b).natAbs ≤ (c - a).natAbs
  · have h4 := within_any (c - a) (-1) 1 w
    have h5 := of_any (sgn (c - a)) 0 w
    have h6 := add_at a b (sgn (c - a)) 0 w ha hb i1 z
    rw [cl_of i1, cl_of z] at h5
    have q1 : stX a b c d = a + sgn (c - a) := by unfold stX; rw [if_pos h]
    have q2 : stY a b c d = b := by unfold stY; rw [if_pos h]
    rw [q1, q2] at hst ⊢
    rw [cl_of hst.1, Int.add_zero, cl_of hb] at h6
    have e1 : withinI (c - a) (-1) 1 = sgn (c - a) := rfl
    rw [e1] at h4
    have H4 := Lib.hid h4
    have H5 := Lib.hid h5
    have H6 := Lib.hid h6
    have h' : ((d - b).natAbs : Int) ≤ ((c - a).natAbs : Int) := by omega
    clear ha hb hc hd hst s1 s2 z i1 i2 h4 h5 h6 q1 q2 e1 h
    go_enter Try.func14, Try.ntmps14
    go_wp2_with fail
    refine H1.out.mono ?_
    rintro e w' ⟨rfl, rfl⟩
    go_wp2_with fail
    refine H2.out.mono ?_
    rintro e w' ⟨rfl, rfl⟩
    go_wp2_with fail
    refine H3.out.mono ?_
    rintro e w' ⟨rfl, rfl⟩
    go_wp2_with fail
    refine H4.out.mono ?_
    rintro e w' ⟨rfl, rfl⟩
    go_wp2_with fail
    refine H5.out.mono ?_
    rintro e w' ⟨rfl, rfl⟩
    go_wp2_with fail
    refine H6.out.mono ?_
    rintro e w' ⟨rfl, rfl⟩
    go_wp2
    go_ret
    exact ⟨rfl, rfl⟩
  · have h4 := within_any (d - b) (-1) 1 w
    have h5 := of_any 0 (sgn (d - b)) w
    have h6 := add_at a b 0 (sgn (d - b)) w ha hb z i2
    rw [cl_of i2, cl_of z] at h5
    have q1 : stX a b c d = a := by unfold stX; rw [if_neg h]
    have q2 : stY a b c d = b + sgn (d - b) := by unfold stY; rw [if_neg h]
    rw [q1, q2] at hst ⊢
    rw [cl_of hst.2, Int.add_zero, cl_of ha] at h6
    have e1 : withinI (d - b) (-1) 1 = sgn (d - b) := rfl
    rw [e1] at h4
    have H4 := Lib.hid h4
    have H5 := Lib.hid h5
    have H6 := Lib.hid h6
    have h' : ¬ ((d - b).natAbs : Int) ≤ ((c - a).natAbs : Int) := by omega
    clear ha hb hc hd hst s1 s2 z i1 i2 h4 h5 h6 q1 q2 e1 h
    go_enter Try.func14, Try.ntmps14
    go_wp2_with fail
    refine H1.out.mono ?_
    rintro e w' ⟨rfl, rfl⟩
    go_wp2_with fail
    refine H2.out.mono ?_
    rintro e w' ⟨rfl, rfl⟩
    go_wp2_with fail
    refine H3.out.mono ?_
    rintro e w' ⟨rfl, rfl⟩
    go_wp2_with fail
    refine H4.out.mono ?_
    rintro e w' ⟨rfl, rfl⟩
    go_wp2_with fail
    refine H5.out.mono ?_
    rintro e w' ⟨rfl, rfl⟩
    go_wp2_with fail
    refine H6.out.mono ?_
    rintro e w' ⟨rfl, rfl⟩
    go_wp2
    go_ret
    exact ⟨rfl, rfl⟩

end Go.Proofs.Ytaampnccgkcbdaa
