/-
  ExprSame: texts that are written otherwise have the same expression. Conditions: the listed variables read as they are laid.
-/
import Derived.Test.YtadpihipnffiaaaDoorOc
namespace Go.Proofs.YtadpihipnffiaaaDoor
open Go.ChangeShapes Go.WideShapes Go.ChangeAt Go.RowKit
set_option maxRecDepth 100000
set_option maxHeartbeats 4000000

def smP : List (Bs × Bs) := [
  ([40, 40, 97, 41, 41], [97]),
  ([97, 32, 45, 32, 98, 32, 45, 32, 99], [40, 97, 32, 45, 32, 98, 41, 32, 45, 32, 99]),
  ([110, 111, 116, 32, 97, 32, 97, 110, 100, 32, 98], [40, 110, 111, 116, 32, 97, 41, 32, 97, 110, 100, 32, 98]),
  ([110, 111, 116, 32, 110, 111, 116, 32, 97], [110, 111, 116, 32, 40, 110, 111, 116, 32, 97, 41]),
  ([97, 32, 43, 32, 45, 49], [97, 32, 43, 32, 40, 45, 49, 41]),
  ([114, 101, 32, 97, 32, 43, 32, 98], [40, 114, 101, 32, 97, 41, 32, 43, 32, 98]),
  ([116, 117, 114, 110, 32, 116, 117, 114, 110, 32, 97], [116, 117, 114, 110, 32, 40, 116, 117, 114, 110, 32, 97, 41]),
  ([97, 32, 97, 110, 100, 32, 98, 32, 111, 114, 32, 99], [40, 97, 32, 97, 110, 100, 32, 98, 41, 32, 111, 114, 32, 99]),
  ([97, 32, 42, 32, 98, 32, 43, 32, 99, 32, 47, 32, 100], [40, 97, 32, 42, 32, 98, 41, 32, 43, 32, 40, 99, 32, 47, 32, 100, 41]),
  ([97, 32, 60, 32, 98, 32, 43, 32, 49], [97, 32, 60, 32, 40, 98, 32, 43, 32, 49, 41]),
  ([102, 97, 114, 40, 97, 44, 32, 98, 41], [102, 97, 114, 40, 40, 97, 41, 44, 32, 40, 98, 41, 41]),
  ([97, 32, 61, 61, 32, 98, 32, 111, 114, 32, 99], [40, 97, 32, 61, 61, 32, 98, 41, 32, 111, 114, 32, 99]),
  ([45, 32, 53], [45, 53]),
  ([105, 109, 32, 40, 97, 44, 32, 98, 41], [105, 109, 32, 40, 40, 97, 41, 44, 32, 40, 98, 41, 41])]
def samF (p : Bs × Bs) : Bool := match txtE p.1, txtE p.2 with
  | some (x, j), some (y, k) => decide (0 < j) && decide (0 < k) && decide (j ≤ 1000) && decide (k ≤ 1000) && decide (p.1.length ≤ 100) && decide (p.2.length ≤ 100) && x.same y
  | _, _ => false
theorem smP_all : smP.all samF = true := by decide +kernel
theorem smP_at {i : Nat} {p : Bs × Bs} (h : smP[i]? = some p) : ∃ x j y k, txtE p.1 = some (x, j) ∧ txtE p.2 = some (y, k) ∧ 0 < j ∧ 0 < k ∧ j ≤ 1000 ∧ k ≤ 1000 ∧ p.1.length ≤ 100 ∧ p.2.length ≤ 100 ∧ x.same y = true := by
  have := List.all_eq_true.1 smP_all p (List.mem_of_getElem? h)
  unfold samF at this
  split at this
  · rename_i x j y k h1 h2
    simp only [Bool.and_eq_true, decide_eq_true_eq] at this
    obtain ⟨⟨⟨⟨⟨⟨a, b⟩, c⟩, d⟩, e⟩, f⟩, g⟩ := this
    exact ⟨x, j, y, k, h1, h2, a, b, c, d, e, f, g⟩
  · cases this
def smC (p : Bs × Bs) : List Value := [.string (bs p.1), .string (bs p.2)]
def smA : Array Value := (smP.flatMap smC).toArray
theorem fm2_at (l : List (Bs × Bs)) : ∀ (i : Nat) (p : Bs × Bs), l[i]? = some p → (l.flatMap smC)[i * 2]? = some (.string (bs p.1)) ∧ (l.flatMap smC)[i * 2 + 1]? = some (.string (bs p.2)) := by
  induction l with
  | nil => intro i p h; cases h
  | cons a r ih =>
    intro i p h
    rw [List.flatMap_cons]
    have hl : (smC a).length = 2 := rfl
    cases i with
    | zero => simp only [List.getElem?_cons_zero, Option.some.injEq] at h; subst h; exact ⟨rfl, rfl⟩
    | succ i =>
      have := ih i p (by simpa using h)
      refine ⟨?_, ?_⟩
      · rw [List.getElem?_append_right (by rw [hl]; omega), hl, show (i + 1) * 2 - 2 = i * 2 from by omega]; exact this.1
      · rw [List.getElem?_append_right (by rw [hl]; omega), hl, show (i + 1) * 2 + 1 - 2 = i * 2 + 1 from by omega]; exact this.2
theorem same_out (k : Int) (w : World) (h : k < 0 ∨ 14 ≤ k) (hev : EN w) : Calls Tryd.prog 6 #[.int .i64 k] w fun e w' => e = .returned (.bool true) ∧ Touch NoB w w' := by
  have HA := Lib.hid (alive_any w hev)
  clear hev
  rcases h with h | h
  · have h0 : decide (k < 0) = true := by simpa using h
    go_enter Tryd.func6, Tryd.ntmps6
    go_wp2_with fail
    refine HA.out.mono ?_
    rintro e w1 ⟨rfl, hT1⟩
    have HT := Lib.hid hT1
    clear hT1
    go_wp2
    go_ret
    exact ⟨rfl, HT.out.alloc _⟩
  · have h0 : decide (k < 0) = false := by simp; omega
    have h1 : decide (14 ≤ k) = true := by simpa using h
    go_enter Tryd.func6, Tryd.ntmps6
    go_wp2_with fail
    refine HA.out.mono ?_
    rintro e w1 ⟨rfl, hT1⟩
    have HT := Lib.hid hT1
    clear hT1
    go_wp2
    go_ret
    exact ⟨rfl, HT.out.alloc _⟩
theorem same_in (i : Nat) (w : World) (h : i < 14) (hev : EN w) : Calls Tryd.prog 6 #[.int .i64 (i : Int)] w fun e w' => e = .returned (.bool true) ∧ Touch NoB w w' := by
  have HA := Lib.hid (alive_any w hev)
  have HE := Lib.hid hev
  obtain ⟨p, hp⟩ : ∃ p, smP[i]? = some p := ⟨smP[i]'(by simp [smP]; omega), List.getElem?_eq_getElem _⟩
  obtain ⟨x, j, y, k, t1, t2, j0, k0, j1, k1, l1, l2, hxy⟩ := smP_at hp
  have HR1 := Lib.hid (fun W (hW : EN W) => read_any t1 (by omega) W hW)
  have HR2 := Lib.hid (fun W (hW : EN W) => read_any t2 (by omega) W hW)
  have HS := Lib.hid hxy
  have HP := Lib.hid (fm2_at smP i p hp)
  have hi0 : decide ((i : Int) < 0) = false := by simp
  have hi1 : decide ((14 : Int) ≤ (i : Int)) = false := by simp; omega
  have hj0 : decide ((0 : Int) < (j : Int)) = true := by simp; omega
  have hk0 : decide ((0 : Int) < (k : Int)) = true := by simp; omega
  clear hev t1 t2 hxy hp
  go_enter Tryd.func6, Tryd.ntmps6
  go_wp2_with fail
  refine HA.out.mono ?_
  rintro e w1 ⟨rfl, hT1⟩
  have HT1 := Lib.hid hT1
  clear hT1
  go_upto_region 3 with fail
  obtain ⟨W, hW⟩ : ∃ W, W = w1.alloc (.cells smA 45 (0, 0)) := ⟨_, rfl⟩
  show Code.wp _ _ _ _ (w1.alloc (.cells smA 45 (0, 0)))
  obtain ⟨N, hN⟩ : ∃ N, w1.heap.size = N := ⟨_, rfl⟩
  have hblk : W.heap[N]? = some (.cells smA 45 (0, 0)) := by rw [hW, ← hN]; exact heap_alloc_new w1 _
  have hT : Touch NoB w W := by rw [hW]; exact HT1.out.alloc _
  rw [← hW, hN]
  have c0 : W.cell? ⟨N, i * 2, none⟩ = some (.string (bs p.1)) := by
    rw [cell_of_row _ _ _ _ _ _ hblk]; unfold smA; rw [List.getElem?_toArray]; exact HP.out.1
  have HC1 : Hid (∀ W2, Touch NoB W W2 → W2.cell? ⟨N, i * 2 + 1, none⟩ = some (.string (bs p.2))) := Lib.hid (fun W2 t => by
    rw [t.cell (p := ⟨N, i * 2 + 1, none⟩) (blk_lt hblk) (fun x => x), cell_of_row _ _ _ _ _ _ hblk]; unfold smA; rw [List.getElem?_toArray]; exact HP.out.2)
  have hlW : N < W.heap.size := blk_lt hblk
  have HTW := Lib.hid hT
  have HD := Lib.hid (HR1.out W (HE.out.touch hT))
  obtain ⟨s1, hs1⟩ : ∃ s1, bs p.1 = s1 := ⟨_, rfl⟩
  rw [hs1] at c0 HD
  clear hW hN hblk hT hs1
  go_wp2_with fail
  refine HD.out.mono ?_
  rintro e w2 ⟨a1, b1, q1, A1, m1, c1, rfl, het1, hT2⟩
  obtain ⟨W2, hW2⟩ : ∃ W, w2.alloc (.cells #[.int .i64 a1, .int .i64 b1, .string q1, .slice A1 m1 c1] 29) = W := ⟨_, rfl⟩
  have t2 : Touch NoB w2 W2 := by rw [← hW2]; exact (Touch.refl _ _).alloc _
  have hx5 : XB W2 w2.heap.size a1 b1 q1 A1 m1 c1 := by rw [← hW2]; exact XB.new _ _ _ _ _ _ _ rfl
  have hT02 : Touch NoB W W2 := hT2.same t2
  have d1 := HC1.out W2 hT02
  have hlW2 : N < W2.heap.size := Nat.lt_of_lt_of_le hlW hT02.size
  have HD2 := Lib.hid (HR2.out W2 (HE.out.touch (HTW.out.same hT02)))
  obtain ⟨s2, hs2⟩ : ∃ s2, bs p.2 = s2 := ⟨_, rfl⟩
  rw [hs2] at d1 HD2
  have HX := Lib.hid (And.intro (het1.touch0 t2) (And.intro hx5 hT02))
  clear het1 hT2 t2 hx5 hT02 hs2 c0
  go_wp2_with fail
  refine HD2.out.mono ?_
  rintro e w3 ⟨a2, b2, q2, A2, m2, c2, rfl, het2, hT3⟩
  obtain ⟨W3, hW3⟩ : ∃ W, w3.alloc (.cells #[.int .i64 a2, .int .i64 b2, .string q2, .slice A2 m2 c2] 29) = W := ⟨_, rfl⟩
  have t3 : Touch NoB w3 W3 := by rw [← hW3]; exact (Touch.refl _ _).alloc _
  have hx7 : XB W3 w3.heap.size a2 b2 q2 A2 m2 c2 := by rw [← hW3]; exact XB.new _ _ _ _ _ _ _ rfl
  have hx5 : XB W3 w2.heap.size a1 b1 q1 A1 m1 c1 := ((hT3.same t3).block _ (blk_lt HX.out.2.1) (fun x => x)).trans HX.out.2.1
  obtain ⟨p50, p51, p52, p53, p54⟩ := hx5.cells
  obtain ⟨p70, p71, p72, p73, p74⟩ := hx7.cells
  have HSM := Lib.hid (same_all x.depth x y (Nat.le_refl _) W3 _ _ _ _ _ _ _ _ _ _ _ _ _ _ (HX.out.1.touch0 (hT3.same t3)) (het2.touch0 t3))
  rw [HS.out] at HSM
  have HT3 := Lib.hid (HTW.out.same (HX.out.2.2.same (hT3.same t3)))
  clear het2 hT3 t3 hx7 hx5 d1
  go_wp2_with fail
  refine HSM.out.mono ?_
  rintro e w4 ⟨rfl, hT4⟩
  have HT4 := Lib.hid (HT3.out.same hT4)
  clear hT4
  go_wp2
  go_ret
  exact ⟨rfl, HT4.out⟩
theorem exprsame_any (k : Int) (w : World) (hev : EN w) : Calls Tryd.prog 6 #[.int .i64 k] w fun e w' => e = .returned (.bool true) ∧ Touch NoB w w' := by
  by_cases h : k < 0 ∨ 14 ≤ k
  · exact same_out k w h hev
  · obtain ⟨i, rfl⟩ : ∃ i : Nat, k = (i : Int) := ⟨k.toNat, by omega⟩
    exact same_in i w (by omega) hev
end Go.Proofs.YtadpihipnffiaaaDoor
