/-
  What package expr's write appends for each kind of expression. Conditions: the library's table can be read; those that each theorem names.
-/
import Derived.Test.YtadpihipnffiaaaDoorQx
namespace Go.Proofs.YtadpihipnffiaaaDoor
open Go.ChangeShapes Go.WideShapes Go.ChangeAt Go.RowKit
set_option maxRecDepth 100000
set_option maxHeartbeats 4000000

theorem bs_app (a b : Bs) : bs a ++ bs b = bs (a ++ b) := by
  apply ByteArray.ext
  simp [bs, ByteArray.data_append]
theorem wr_int {w : World} {B : Nat} {v : Value} {l : Bs} (h : WS w B v l) {n : Int} (h0 : -9223372036854775808 < n) (h1 : n ≤ 9223372036854775807) (hl : l.length ≤ 900000) :
    Calls Tryd.prog 31 #[v, .agg #[.int .i64 0, .int .i64 n, .string ⟨#[]⟩, .slice none 0 0]] w (WP w B (l ++ Lib.itoa n)) := by
  have t0 : Touch NoB w (w.alloc (.cells #[.int .i64 0, .int .i64 n, .string ⟨#[]⟩, .slice none 0 0] 29)) := (Touch.refl _ _).alloc _
  have HC := Lib.hid ((h.touch t0).int n (by omega) h1 (by omega))
  have HB := Lib.hid (t0.belowB h.le)
  clear h t0
  go_enter Tryd.func31, Tryd.ntmps31
  go_wp2_with fail
  refine HC.out.mono ?_
  rintro r w1 ⟨v1, rfl, hs1, hb1⟩
  have HE := Lib.hid (And.intro hs1 (HB.out.trans hb1))
  clear hs1 hb1
  go_wp2
  go_ret
  exact ⟨v1, rfl, HE.out.1, HE.out.2⟩
theorem wr_bool {w : World} {B : Nat} {v : Value} {l : Bs} (h : WS w B v l) {n : Int} (hn : n = 0 ∨ n = 1) (hl : l.length + 4 ≤ 900000) :
    Calls Tryd.prog 31 #[v, .agg #[.int .i64 1, .int .i64 n, .string ⟨#[]⟩, .slice none 0 0]] w (WP w B (l ++ truB (decide (n = 1)))) := by
  have t0 : Touch NoB w (w.alloc (.cells #[.int .i64 1, .int .i64 n, .string ⟨#[]⟩, .slice none 0 0] 29)) := (Touch.refl _ _).alloc _
  have HC := Lib.hid ((h.touch t0).bool (decide (n = 1)) (by omega))
  have HB := Lib.hid (t0.belowB h.le)
  clear h t0 hl
  rcases hn with rfl | rfl
  all_goals
    go_enter Tryd.func31, Tryd.ntmps31
    go_wp2_with fail
    refine HC.out.mono ?_
    rintro r w1 ⟨v1, rfl, hs1, hb1⟩
    have HE := Lib.hid (And.intro hs1 (HB.out.trans hb1))
    clear hs1 hb1
    go_wp2
    go_ret
    exact ⟨v1, rfl, HE.out.1, HE.out.2⟩
theorem wr_name {w : World} {B : Nat} {v : Value} {l s : Bs} (h : WS w B v l) (hl : l.length + s.length ≤ 900000) :
    Calls Tryd.prog 31 #[v, .agg #[.int .i64 2, .int .i64 0, .string (bs s), .slice none 0 0]] w (WP w B (l ++ s)) := by
  have t0 : Touch NoB w (w.alloc (.cells #[.int .i64 2, .int .i64 0, .string (bs s), .slice none 0 0] 29)) := (Touch.refl _ _).alloc _
  obtain ⟨v1, w1, hr1, hs1, hb1, -⟩ := (h.touch t0).str s (by omega)
  have HE := Lib.hid (And.intro hs1 ((t0.belowB h.le).trans hb1))
  obtain ⟨sx, hsx⟩ : ∃ sx, bs s = sx := ⟨_, rfl⟩
  rw [hsx] at hr1 ⊢
  have HA := Lib.hid hr1
  clear h t0 hr1 hs1 hb1 hsx hl
  go_enter Tryd.func31, Tryd.ntmps31
  go_wp2_with (at_builtin; refine Lib.wpList_append_run _ rfl _ _ _ _ rfl _ _ rfl rfl _ _ HA.out ?_)
  go_ret
  exact ⟨v1, rfl, HE.out.1, HE.out.2⟩
theorem wr_word {w : World} {B : Nat} {v : Value} {l : Bs} {k : Int} (hk : k = 4 ∨ k = 5) (h : WS w B v l) (hl : l.length + (wordB k).length ≤ 900000) :
    Calls Tryd.prog 31 #[v, .agg #[.int .i64 k, .int .i64 0, .string ⟨#[]⟩, .slice none 0 0]] w (WP w B (l ++ wordB k)) := by
  have t0 : Touch NoB w (w.alloc (.cells #[.int .i64 k, .int .i64 0, .string ⟨#[]⟩, .slice none 0 0] 29)) := (Touch.refl _ _).alloc _
  obtain ⟨v1, w1, hr1, hs1, hb1, -⟩ := (h.touch t0).str (wordB k) (by omega)
  have HE := Lib.hid (And.intro hs1 ((t0.belowB h.le).trans hb1))
  have HW := Lib.hid (fun w => word_kd k (by omega) w)
  obtain ⟨sx, hsx⟩ : ∃ sx, bs (wordB k) = sx := ⟨_, rfl⟩
  rw [hsx] at hr1 HW
  have HA := Lib.hid hr1
  clear h t0 hr1 hs1 hb1 hsx hl
  rcases hk with rfl | rfl
  all_goals
    go_enter Tryd.func31, Tryd.ntmps31
    go_wp2_with (first
      | (go_at_call 51; refine (HW.out _).mono ?_; rintro e w' ⟨rfl, rfl⟩)
      | (at_builtin; refine Lib.wpList_append_run _ rfl _ _ _ _ rfl _ _ rfl rfl _ _ HA.out ?_))
    go_ret
    exact ⟨v1, rfl, HE.out.1, HE.out.2⟩
theorem wr_sym {w : World} {B : Nat} {v : Value} {l s : Bs} (h : WS w B v l) (hl : l.length + s.length + 1 ≤ 900000) :
    Calls Tryd.prog 31 #[v, .agg #[.int .i64 3, .int .i64 0, .string (bs s), .slice none 0 0]] w (WP w B (l ++ 39 :: s)) := by
  obtain ⟨sx, hsx⟩ : ∃ sx, bs s = sx := ⟨_, rfl⟩
  obtain ⟨W0, hW0⟩ : ∃ W, w.alloc (.cells #[.int .i64 3, .int .i64 0, .string sx, .slice none 0 0] 29) = W := ⟨_, rfl⟩
  have t0 : Touch NoB w W0.drew := by rw [← hW0]; exact ((Touch.refl _ _).alloc _).drew
  have hx0 : XB W0 w.heap.size 3 0 sx none 0 0 := by rw [← hW0]; exact XB.new _ _ _ _ _ _ _ rfl
  obtain ⟨W1, hW1⟩ : ∃ W, W0.drew.alloc (.cells #[.int .u8 39] 5) = W := ⟨_, rfl⟩
  obtain ⟨v1, w1, hr1, hs1, hb1, hk1⟩ := (h.touch t0).byte 39 (by omega) (N := W0.heap.size) rfl (W := W1) hW1
  obtain ⟨v2, w2, hr2, hs2, hb2, -⟩ := hs1.str s (by simp only [List.length_append, List.length_cons, List.length_nil]; omega)
  rw [hsx] at hr2 ⊢
  have HA1 : Hid ((Builtin.append_ #[26, 26] 26 #[v, .slice (some ⟨W0.heap.size, 0, none⟩) 1 1]).run Tryd.prog W1 = .ok v1 w1) := Lib.hid hr1
  have HA2 := Lib.hid hr2
  have HE := Lib.hid (And.intro hs2 (((t0.belowB h.le).trans hb1).trans hb2))
  have hlt : w.heap.size < W0.heap.size := blk_lt hx0
  have hx1 : XB W1 w.heap.size 3 0 sx none 0 0 := by rw [← hW1]; exact (show XB W0.drew _ _ _ _ _ _ _ from hx0).old _
  have hx2 : XB w1 w.heap.size 3 0 sx none 0 0 := (h.touch t0).keptX hk1 hx0
  obtain ⟨z0, z1, z2, z3, z4⟩ := hx0.cells
  have c0 : W0.drew.cell? ⟨w.heap.size, 2, none⟩ = some (.string sx) := cell_blk hx0 2
  have c1 : W1.cell? ⟨w.heap.size, 2, none⟩ = some (.string sx) := cell_blk hx1 2
  have c2 : w1.cell? ⟨w.heap.size, 2, none⟩ = some (.string sx) := cell_blk hx2 2
  have hl1 : w.heap.size < W1.heap.size := blk_lt hx1
  have hl2 : w.heap.size < w1.heap.size := blk_lt hx2
  clear h t0 hx0 hx1 hx2 hr1 hr2 hs1 hs2 hb1 hb2 hk1 hsx hl
  go_enter Tryd.func31, Tryd.ntmps31
  go_wp2_with fail
  go_region_law (first
    | (refine step_appended (T := 26) (U := 26) (d := .tmp 28) (s := .tmp 29) rfl HA1.out rfl (by simp [Act.eval]) (by simp [Act.eval]) ?_)
    | (refine step_appended (T := 26) (U := 9) (d := .tmp 30) (s := .tmp 32) rfl HA2.out rfl (by first | (simp [Act.eval]; done) | (simp [Act.eval, Act.put]; done) | rfl) (by first | (simp [Act.eval]; done) | (simp [Act.eval, Act.put]; done) | rfl) ?_))
  all_goals
    go_wp2
    go_ret
    exact ⟨v2, rfl, by have := HE.out.1; simp only [List.append_assoc, List.cons_append, List.nil_append] at this; exact this, HE.out.2⟩
theorem wr_one {N : Nat} (H : WriteOk N) {x : Ex} (hx : x.depth ≤ N) (hvx : vE x) {k : Int} (hk : k = 14 ∨ k = 16 ∨ k = 17 ∨ k = 18) {w : World} {B g : Nat} {v : Value} {l : Bs} {a1 b1 : Int} {s1 : ByteArray} {A1 : Option Addr} {m1 c1 : Nat}
    (h : WS w B v l) (hgB : g < B) (h1 : KidAt w (fun b => b < B) g 0 x a1 b1 s1 A1 m1 c1) (hl : l.length + (wordB k ++ [32] ++ prt x).length ≤ 900000) :
    Calls Tryd.prog 31 #[v, .agg #[.int .i64 k, .int .i64 0, .string ⟨#[]⟩, .slice (some ⟨g, 0, none⟩) 1 1]] w (WP w B (l ++ (wordB k ++ [32] ++ prt x))) := by
  simp only [List.length_append, List.length_cons, List.length_nil] at hl
  obtain ⟨W0, hW0⟩ : ∃ W, w.alloc (.cells #[.int .i64 k, .int .i64 0, .string ⟨#[]⟩, .slice (some ⟨g, 0, none⟩) 1 1] 29) = W := ⟨_, rfl⟩
  have t0 : Touch NoB w W0 := by rw [← hW0]; exact (Touch.refl _ _).alloc _
  have hx0 : XB W0 w.heap.size k 0 ⟨#[]⟩ (some ⟨g, 0, none⟩) 1 1 := by rw [← hW0]; exact XB.new _ _ _ _ _ _ _ rfl
  obtain ⟨v1, w1, hr1, hs1, hb1, hk1⟩ := (h.touch t0).str (wordB k) (by omega)
  obtain ⟨W1, hW1⟩ : ∃ W, w1.alloc (.cells #[.int .u8 32] 5) = W := ⟨_, rfl⟩
  obtain ⟨v2, w2, hr2, hs2, hb2, hk2⟩ := hs1.byte 32 (by simp only [List.length_append]; omega) (N := w1.heap.size) rfl (W := W1) hW1
  have HW := Lib.hid (fun w => word_kd k (by omega) w)
  obtain ⟨sx, hsx⟩ : ∃ sx, bs (wordB k) = sx := ⟨_, rfl⟩
  rw [hsx] at hr1 HW
  have HA1 := Lib.hid hr1
  have HA2 : Hid ((Builtin.append_ #[26, 26] 26 #[v1, .slice (some ⟨w1.heap.size, 0, none⟩) 1 1]).run Tryd.prog W1 = .ok v2 w2) := Lib.hid hr2
  have hlt : w.heap.size < W0.heap.size := blk_lt hx0
  have hx1 : XB w1 w.heap.size k 0 ⟨#[]⟩ (some ⟨g, 0, none⟩) 1 1 := (h.touch t0).keptX hk1 hx0
  have hx2 : XB w2 w.heap.size k 0 ⟨#[]⟩ (some ⟨g, 0, none⟩) 1 1 := hs1.keptX hk2 hx1
  have hbb : Below B w w2 := ((t0.belowB h.le).trans hb1).trans hb2
  have k2 := h1.below hgB hbb
  obtain ⟨p0, p1, p2, p3, p4⟩ := hx2.cells
  obtain ⟨z0, z1, z2, z3, z4⟩ := hx0.cells
  have e0 : w2.cell? ⟨g, 0, none⟩ = some (.int .i64 a1) := by have := k2.c0; simpa using this
  have e1 : w2.cell? ⟨g, 1, none⟩ = some (.int .i64 b1) := by have := k2.c1; simpa using this
  have e2 : w2.cell? ⟨g, 2, none⟩ = some (.string s1) := by have := k2.c2; simpa using this
  have e3 : w2.cell? ⟨g, 3, none⟩ = some (.slice A1 m1 c1) := by have := k2.c3; simpa using this
  have hgw := k2.lt
  have HC := Lib.hid (H x hx hvx w2 B v2 (l ++ wordB k ++ [32]) _ _ _ _ _ _ hs2 k2.et (by simp only [List.length_append, List.length_cons, List.length_nil]; omega))
  have HBB := Lib.hid hbb
  clear h h1 hl t0 hx0 hr1 hs1 hb1 hk1 hr2 hs2 hb2 hk2 hsx hlt hx1 hx2 hbb k2 H hx hvx
  rcases hk with rfl | rfl | rfl | rfl
  all_goals
    go_enter Tryd.func31, Tryd.ntmps31
    go_wp2_with (first
      | (go_at_call 51; refine (HW.out _).mono ?_; rintro e w' ⟨rfl, rfl⟩)
      | (at_builtin; refine Lib.wpList_append_run _ rfl _ _ _ _ rfl _ _ rfl rfl _ _ HA1.out ?_)
      | (at_builtin; refine Lib.wpList_append_run _ rfl _ _ _ _ rfl _ _ rfl rfl _ _ HA2.out ?_)
      | (go_at_call 31; refine HC.out.mono ?_; rintro r w3 ⟨v3, rfl, hs3, hb3⟩; have HE := Lib.hid (And.intro hs3 (HBB.out.trans hb3)); clear hs3 hb3))
    go_ret
    exact ⟨v3, rfl, by have := HE.out.1; simp only [List.append_assoc, List.cons_append, List.nil_append] at this ⊢; exact this, HE.out.2⟩
end Go.Proofs.YtadpihipnffiaaaDoor
