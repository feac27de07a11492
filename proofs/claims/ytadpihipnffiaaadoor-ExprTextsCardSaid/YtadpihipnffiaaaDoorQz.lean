/-
  What package expr's write and Print return of valid expressions. Conditions: the library's table can be read; those that each theorem names.
-/
import Derived.Test.YtadpihipnffiaaaDoorQy
namespace Go.Proofs.YtadpihipnffiaaaDoor
open Go.ChangeShapes Go.WideShapes Go.ChangeAt Go.RowKit
set_option maxRecDepth 100000
set_option maxHeartbeats 4000000

theorem wr_far {N : Nat} (H : WriteOk N) {x y : Ex} (hx : x.depth ≤ N) (hy : y.depth ≤ N) (hvx : vE x) (hvy : vE y) {k : Int} (hk : k = 15 ∨ k = 19) {w : World} {B g : Nat} {v : Value} {l : Bs} {a1 b1 a2 b2 : Int} {s1 s2 : ByteArray} {A1 A2 : Option Addr} {m1 c1 m2 c2 : Nat}
    (h : WS w B v l) (hgB : g < B) (h1 : KidAt w (fun b => b < B) g 0 x a1 b1 s1 A1 m1 c1) (h2 : KidAt w (fun b => b < B) g 1 y a2 b2 s2 A2 m2 c2) (hl : l.length + (wordB k ++ ([40] ++ prt x ++ [44, 32] ++ prt y ++ [41])).length ≤ 900000) :
    Calls Tryd.prog 31 #[v, .agg #[.int .i64 k, .int .i64 0, .string ⟨#[]⟩, .slice (some ⟨g, 0, none⟩) 2 2]] w (WP w B (l ++ (wordB k ++ ([40] ++ prt x ++ [44, 32] ++ prt y ++ [41])))) := by
  obtain ⟨W0, hW0⟩ : ∃ W, w.alloc (.cells #[.int .i64 k, .int .i64 0, .string ⟨#[]⟩, .slice (some ⟨g, 0, none⟩) 2 2] 29) = W := ⟨_, rfl⟩
  have t0 : Touch NoB w W0.drew := by rw [← hW0]; exact ((Touch.refl _ _).alloc _).drew
  have hx0 : XB W0 w.heap.size k 0 ⟨#[]⟩ (some ⟨g, 0, none⟩) 2 2 := by rw [← hW0]; exact XB.new _ _ _ _ _ _ _ rfl
  have hll : l.length + (wordB k).length + ([40] ++ prt x ++ [44, 32] ++ prt y ++ [41]).length ≤ 900000 := by rw [List.length_append] at hl; omega
  obtain ⟨v1, w1, hr1, hs1, hb1, hk1⟩ := (h.touch t0).str (wordB k) (by omega)
  have HW := Lib.hid (fun w => word_kd k (by omega) w)
  obtain ⟨sx, hsx⟩ : ∃ sx, bs (wordB k) = sx := ⟨_, rfl⟩
  rw [hsx] at hr1 HW
  have HA1 := Lib.hid hr1
  have hx1 : XB w1 w.heap.size k 0 ⟨#[]⟩ (some ⟨g, 0, none⟩) 2 2 := (h.touch t0).keptX hk1 hx0
  have hbb : Below B w w1 := (t0.belowB h.le).trans hb1
  obtain ⟨z0, z1, z2, z3, z4⟩ := hx0.cells
  have y0 : W0.drew.cell? ⟨w.heap.size, 0, none⟩ = some (.int .i64 k) := z0
  have y3 : W0.drew.cell? ⟨w.heap.size, 3, none⟩ = some (.slice (some ⟨g, 0, none⟩) 2 2) := z3
  obtain ⟨p0, p1, p2, p3, p4⟩ := hx1.cells
  have HC : Hid (Calls Tryd.prog 52 #[v1, .slice (some ⟨g, 0, none⟩) 2 2, .string ⟨#[44, 32]⟩] w1 (WP w1 B (l ++ wordB k ++ ([40] ++ prt x ++ [44, 32] ++ prt y ++ [41])))) := Lib.hid (wpair_any H hx hy hvx hvy (q := [44, 32]) hs1 hgB (h1.below hgB hbb) (h2.below hgB hbb) (by rw [List.length_append]; exact hll))
  have HBB := Lib.hid hbb
  clear h h1 h2 hl hll t0 hx0 hr1 hs1 hb1 hk1 hsx hx1 hbb H hx hy hvx hvy
  rcases hk with rfl | rfl
  all_goals
    go_enter Tryd.func31, Tryd.ntmps31
    go_wp2_with fail
    go_region_law (first
      | (go_simp; go_at_call 51; refine (HW.out _).mono ?_; rintro e w' ⟨rfl, rfl⟩)
      | (refine step_appended (T := 26) (U := 9) (d := .tmp 63) (s := .tmp 66) rfl HA1.out rfl (by simp [Act.eval]) (by simp [Act.eval]) ?_)
      | (go_simp; go_at_call 52; refine HC.out.mono ?_; rintro r w3 ⟨v3, rfl, hs3, hb3⟩
         have HE := Lib.hid (And.intro hs3 (HBB.out.trans hb3))
         clear hs3 hb3))
    all_goals
      go_wp2
      go_ret
      exact ⟨v3, rfl, by have := HE.out.1; simp only [List.append_assoc, List.cons_append, List.nil_append] at this ⊢; exact this, HE.out.2⟩
theorem wr_bin {N : Nat} (H : WriteOk N) {x y : Ex} (hx : x.depth ≤ N) (hy : y.depth ≤ N) (hvx : vE x) (hvy : vE y) {k : Int} (hk : 6 ≤ k ∧ k ≤ 13) {w : World} {B g : Nat} {v : Value} {l : Bs} {a1 b1 a2 b2 : Int} {s1 s2 : ByteArray} {A1 A2 : Option Addr} {m1 c1 m2 c2 : Nat}
    (h : WS w B v l) (hgB : g < B) (h1 : KidAt w (fun b => b < B) g 0 x a1 b1 s1 A1 m1 c1) (h2 : KidAt w (fun b => b < B) g 1 y a2 b2 s2 A2 m2 c2) (hl : l.length + ([40] ++ prt x ++ ([32] ++ wordB k ++ [32]) ++ prt y ++ [41]).length ≤ 900000) :
    Calls Tryd.prog 31 #[v, .agg #[.int .i64 k, .int .i64 0, .string ⟨#[]⟩, .slice (some ⟨g, 0, none⟩) 2 2]] w (WP w B (l ++ ([40] ++ prt x ++ ([32] ++ wordB k ++ [32]) ++ prt y ++ [41]))) := by
  obtain ⟨W0, hW0⟩ : ∃ W, w.alloc (.cells #[.int .i64 k, .int .i64 0, .string ⟨#[]⟩, .slice (some ⟨g, 0, none⟩) 2 2] 29) = W := ⟨_, rfl⟩
  have t0 : Touch NoB w W0.drew := by rw [← hW0]; exact ((Touch.refl _ _).alloc _).drew
  have hx0 : XB W0 w.heap.size k 0 ⟨#[]⟩ (some ⟨g, 0, none⟩) 2 2 := by rw [← hW0]; exact XB.new _ _ _ _ _ _ _ rfl
  have HW := Lib.hid (fun w => word_kd k (by omega) w)
  have hwl : (wordB k).length ≤ 4 := by
    have hk' : k = 6 ∨ k = 7 ∨ k = 8 ∨ k = 9 ∨ k = 10 ∨ k = 11 ∨ k = 12 ∨ k = 13 := by omega
    rcases hk' with rfl | rfl | rfl | rfl | rfl | rfl | rfl | rfl <;> decide
  have hbb : Below B w W0.drew := t0.belowB h.le
  obtain ⟨z0, z1, z2, z3, z4⟩ := hx0.cells
  have y0 : W0.drew.cell? ⟨w.heap.size, 0, none⟩ = some (.int .i64 k) := z0
  have y3 : W0.drew.cell? ⟨w.heap.size, 3, none⟩ = some (.slice (some ⟨g, 0, none⟩) 2 2) := z3
  have hc := wpair_any H hx hy hvx hvy (q := [32] ++ wordB k ++ [32]) (h.touch t0) hgB (h1.below hgB hbb) (h2.below hgB hbb) hl
  have e1 : (⟨#[32]⟩ : ByteArray) ++ bs (wordB k) = bs ([32] ++ wordB k) := bs_app [32] (wordB k)
  have e2 : bs ([32] ++ wordB k) ++ (⟨#[32]⟩ : ByteArray) = bs ([32] ++ wordB k ++ [32]) := bs_app ([32] ++ wordB k) [32]
  obtain ⟨sx, hsx⟩ : ∃ sx, bs (wordB k) = sx := ⟨_, rfl⟩
  obtain ⟨sy, hsy⟩ : ∃ sy, bs ([32] ++ wordB k) = sy := ⟨_, rfl⟩
  obtain ⟨sz, hsz⟩ : ∃ sz, bs ([32] ++ wordB k ++ [32]) = sz := ⟨_, rfl⟩
  have z1x : sx.size ≤ 4 := by rw [← hsx, bs_size]; exact hwl
  have z1y : sy.size ≤ 5 := by rw [← hsy, bs_size]; simp; omega
  rw [hsx] at HW e1
  rw [hsy] at e1 e2
  rw [hsz] at e2 hc
  have ha1 : ∀ W, (Op.stringOp .add ⟨#[32]⟩ sx).run Tryd.prog W = .ok (.string sy) W := fun W => (run_string_add_sum (P := Tryd.prog) (w := W) _ _ (by have : (⟨#[32]⟩ : ByteArray).size = 1 := rfl; omega)).trans (by rw [e1])
  have ha2 : ∀ W, (Op.stringOp .add sy ⟨#[32]⟩).run Tryd.prog W = .ok (.string sz) W := fun W => (run_string_add_sum (P := Tryd.prog) (w := W) _ _ (by have : (⟨#[32]⟩ : ByteArray).size = 1 := rfl; omega)).trans (by rw [e2])
  have HC := Lib.hid hc
  have HBB := Lib.hid hbb
  have q0 : (k == 0) = false := by simp; omega
  have q1 : (k == 1) = false := by simp; omega
  have q2 : (k == 2) = false := by simp; omega
  have q3 : (k == 3) = false := by simp; omega
  have q4 : (k == 4) = false := by simp; omega
  have q5 : (k == 5) = false := by simp; omega
  have q14 : (k == 14) = false := by simp; omega
  have q16 : (k == 16) = false := by simp; omega
  have q17 : (k == 17) = false := by simp; omega
  have q18 : (k == 18) = false := by simp; omega
  have q15 : (k == 15) = false := by simp; omega
  have q19 : (k == 19) = false := by simp; omega
  clear h h1 h2 hl t0 hx0 hsx hsy hsz hbb H hx hy hvx hvy hc e1 e2 z1x z1y hwl hk
  go_enter Tryd.func31, Tryd.ntmps31
  go_wp2_with fail
  go_region_law (first
    | (go_simp; go_at_call 51; refine (HW.out _).mono ?_; rintro e w' ⟨rfl, rfl⟩)
    | (go_simp; go_at_call 52; refine HC.out.mono ?_; rintro r w3 ⟨v3, rfl, hs3, hb3⟩
       have HE := Lib.hid (And.intro hs3 (HBB.out.trans hb3))
       clear hs3 hb3))
  all_goals
    go_wp2
    go_ret
    exact ⟨v3, rfl, HE.out.1, HE.out.2⟩
end Go.Proofs.YtadpihipnffiaaaDoor
