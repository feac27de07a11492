/-
  The text of an expression, told by recursion; what package expr's writePair appends. Conditions: the library's table can be read; those that each theorem names.
-/
import Derived.Test.YtadpihipnffiaaaDoorQw
import Derived.Deep.RegionLaw
namespace Go.Proofs.YtadpihipnffiaaaDoor
open Go.ChangeShapes Go.WideShapes Go.ChangeAt Go.RowKit
set_option maxRecDepth 100000
set_option maxHeartbeats 4000000

/-- What stands between two operands, what stands ahead of them. -/
def btw (k : Int) : Bs := if k = 15 ∨ k = 19 then [44, 32] else [32] ++ wordB k ++ [32]
def ahd (k : Int) : Bs := if k = 15 ∨ k = 19 then wordB k else []
/-- The text of an expression. -/
def prt : Ex → Bs
  | .leaf k n s => if k = 0 then Lib.itoa n else if k = 1 then truB (decide (n = 1)) else if k = 2 then s else if k = 3 then 39 :: s else wordB k
  | .one k x => wordB k ++ [32] ++ prt x
  | .two k x y => ahd k ++ ([40] ++ prt x ++ btw k ++ prt y ++ [41])
def WP (w : World) (B : Nat) (l : Bs) (e : Ending) (w' : World) : Prop := ∃ v', e = .returned v' ∧ WS w' B v' l ∧ Below B w w'
def WriteOk (N : Nat) : Prop := ∀ (x : Ex), x.depth ≤ N → vE x → ∀ (w : World) (B : Nat) (v : Value) (l : Bs) (a b : Int) (s : ByteArray) (A : Option Addr) (m c : Nat), WS w B v l → ET w (fun b => b < B) x a b s A m c → l.length + (prt x).length ≤ 900000 →
  Calls Tryd.prog 31 #[v, .agg #[.int .i64 a, .int .i64 b, .string s, .slice A m c]] w (WP w B (l ++ prt x))
theorem KidAt.below {w w' : World} {B g i : Nat} {y : Ex} {a b : Int} {s : ByteArray} {A : Option Addr} {m c : Nat} (h : KidAt w (fun b => b < B) g i y a b s A m c) (hg : g < B) (t : Below B w w') : KidAt w' (fun b => b < B) g i y a b s A m c := by
  have e := fun j => World.cell?_of_block (w := w) (w' := w') (a := ⟨g, j, none⟩) (t.block g hg)
  exact ⟨Nat.lt_of_lt_of_le h.lt t.size, (e _).trans h.c0, (e _).trans h.c1, (e _).trans h.c2, (e _).trans h.c3, h.et.below t⟩
theorem wpair_any {N : Nat} (H : WriteOk N) {x y : Ex} (hx : x.depth ≤ N) (hy : y.depth ≤ N) (hvx : vE x) (hvy : vE y) {w : World} {B g : Nat} {v : Value} {l q : Bs} {a1 b1 a2 b2 : Int} {s1 s2 : ByteArray} {A1 A2 : Option Addr} {m1 c1 m2 c2 : Nat}
    (hw : WS w B v l) (hgB : g < B) (h1 : KidAt w (fun b => b < B) g 0 x a1 b1 s1 A1 m1 c1) (h2 : KidAt w (fun b => b < B) g 1 y a2 b2 s2 A2 m2 c2) (hl : l.length + ([40] ++ prt x ++ q ++ prt y ++ [41]).length ≤ 900000) :
    Calls Tryd.prog 52 #[v, .slice (some ⟨g, 0, none⟩) 2 2, .string (bs q)] w (WP w B (l ++ ([40] ++ prt x ++ q ++ prt y ++ [41]))) := by
  simp only [List.length_append, List.length_cons, List.length_nil] at hl
  have hwd : WS w.drew B v l := hw.touch (Touch.refl _ _).drew
  obtain ⟨W1, hW1⟩ : ∃ W, w.drew.alloc (.cells #[.int .u8 40] 5) = W := ⟨_, rfl⟩
  obtain ⟨v1, w1, hr1, hs1, hb1, -⟩ := hwd.byte 40 (by omega) (N := w.heap.size) rfl (W := W1) hW1
  have hbd : Below B w w.drew := (show Touch NoB w w.drew from (Touch.refl _ _).drew).belowB hw.le
  have hbW : Below B w W1 := (show Touch NoB w W1 by rw [← hW1]; exact (Touch.refl _ _).drew.alloc _).belowB hw.le
  have hbw1 : Below B w w1 := hbd.trans hb1
  have k1 := h1.below hgB hbw1
  have HC1 := Lib.hid (H x hx hvx w1 B v1 (l ++ [40]) _ _ _ _ _ _ hs1 k1.et (by simp only [List.length_append, List.length_cons, List.length_nil]; omega))
  have HA1 : Hid ((Builtin.append_ #[26, 26] 26 #[v, .slice (some ⟨w.heap.size, 0, none⟩) 1 1]).run Tryd.prog W1 = .ok v1 w1) := Lib.hid hr1
  have c0 : w.drew.cell? ⟨g, 0, none⟩ = some (.int .i64 a1) := by have := (h1.below hgB hbd).c0; simpa using this
  have c1' : w.drew.cell? ⟨g, 1, none⟩ = some (.int .i64 b1) := by have := (h1.below hgB hbd).c1; simpa using this
  have c2' : w.drew.cell? ⟨g, 2, none⟩ = some (.string s1) := by have := (h1.below hgB hbd).c2; simpa using this
  have c3 : w.drew.cell? ⟨g, 3, none⟩ = some (.slice A1 m1 c1) := by have := (h1.below hgB hbd).c3; simpa using this
  have d0 : W1.cell? ⟨g, 0, none⟩ = some (.int .i64 a1) := by have := (h1.below hgB hbW).c0; simpa using this
  have d1 : W1.cell? ⟨g, 1, none⟩ = some (.int .i64 b1) := by have := (h1.below hgB hbW).c1; simpa using this
  have d2 : W1.cell? ⟨g, 2, none⟩ = some (.string s1) := by have := (h1.below hgB hbW).c2; simpa using this
  have d3 : W1.cell? ⟨g, 3, none⟩ = some (.slice A1 m1 c1) := by have := (h1.below hgB hbW).c3; simpa using this
  have e0 : w1.cell? ⟨g, 0, none⟩ = some (.int .i64 a1) := by have := k1.c0; simpa using this
  have e1 : w1.cell? ⟨g, 1, none⟩ = some (.int .i64 b1) := by have := k1.c1; simpa using this
  have e2 : w1.cell? ⟨g, 2, none⟩ = some (.string s1) := by have := k1.c2; simpa using this
  have e3 : w1.cell? ⟨g, 3, none⟩ = some (.slice A1 m1 c1) := by have := k1.c3; simpa using this
  have hgw : g < w.heap.size := h1.lt
  have hgw1 : g < W1.heap.size := (h1.below hgB hbW).lt
  have hgw2 : g < w1.heap.size := k1.lt
  have HK2 := Lib.hid (h2.below hgB hbw1)
  have HH := Lib.hid (And.intro H (And.intro hy (And.intro hvy (And.intro hgB (And.intro hl hbw1)))))
  clear h1 h2 hw hwd hs1 hbd hbW hbw1 k1 hr1 hb1 H hx hy hvx hvy hl
  go_enter Tryd.func52, Tryd.ntmps52
  go_wp2_with fail
  go_region_law (first
    | (refine step_appended (T := 26) (U := 26) (d := .tmp 7) (s := .tmp 8) rfl HA1.out rfl (by simp [Act.eval]) (by simp [Act.eval]) ?_)
    | (go_simp; go_at_call 31; refine HC1.out.mono ?_; rintro r w2 ⟨v2, rfl, hs2, hb2⟩
       have HS2 := Lib.hid (And.intro hs2 hb2)
       clear hs2 hb2))
  all_goals
    clear c0 c1' c2' c3 d0 d1 d2 d3 e0 e1 e2 e3 HC1 HA1
    obtain ⟨hs2, hb2⟩ := HS2.out
    have hb02 : Below B w w2 := HH.out.2.2.2.2.2.trans hb2
    have hsd : WS w2.drew B v2 (l ++ [40] ++ prt x) := hs2.touch (Touch.refl _ _).drew
    have hl := HH.out.2.2.2.2.1
    obtain ⟨v3, w3, hr3, hs3, hb3, -⟩ := hsd.str q (by simp only [List.length_append, List.length_cons, List.length_nil]; omega)
    have hbd : Below B w1 w2.drew := hb2.trans ((show Touch NoB w2 w2.drew from (Touch.refl _ _).drew).belowB hs2.le)
    have k2 := HK2.out.below HH.out.2.2.2.1 hbd
    have k3 := k2.below HH.out.2.2.2.1 hb3
    have hb03 : Below B w w3 := (HH.out.2.2.2.2.2.trans hbd).trans hb3
    have HC2 := Lib.hid (HH.out.1 y HH.out.2.1 HH.out.2.2.1 w3 B v3 (l ++ [40] ++ prt x ++ q) _ _ _ _ _ _ hs3 k3.et (by simp only [List.length_append, List.length_cons, List.length_nil]; omega))
    have HA3 := Lib.hid hr3
    have c0 : w2.drew.cell? ⟨g, 4, none⟩ = some (.int .i64 a2) := by have := k2.c0; simpa using this
    have c1' : w2.drew.cell? ⟨g, 5, none⟩ = some (.int .i64 b2) := by have := k2.c1; simpa using this
    have c2' : w2.drew.cell? ⟨g, 6, none⟩ = some (.string s2) := by have := k2.c2; simpa using this
    have c3 : w2.drew.cell? ⟨g, 7, none⟩ = some (.slice A2 m2 c2) := by have := k2.c3; simpa using this
    have e0 : w3.cell? ⟨g, 4, none⟩ = some (.int .i64 a2) := by have := k3.c0; simpa using this
    have e1 : w3.cell? ⟨g, 5, none⟩ = some (.int .i64 b2) := by have := k3.c1; simpa using this
    have e2 : w3.cell? ⟨g, 6, none⟩ = some (.string s2) := by have := k3.c2; simpa using this
    have e3 : w3.cell? ⟨g, 7, none⟩ = some (.slice A2 m2 c2) := by have := k3.c3; simpa using this
    have hgw4 : g < w2.heap.size := k2.lt
    have hgw5 : g < w3.heap.size := k3.lt
    have HB := Lib.hid (And.intro hb03 hl)
    clear hs2 hb2 hb02 hsd hr3 hs3 hb3 hbd k2 k3 hb03 hl hgw1 hgw2
    go_wp2_with fail
    go_region_law (first
      | (refine step_appended (T := 26) (U := 9) (d := .tmp 14) (s := .tmp 15) rfl HA3.out rfl (by first | (simp [Act.eval]; done) | (simp [Act.eval, Act.put]; done) | rfl) (by first | (simp [Act.eval]; done) | (simp [Act.eval, Act.put]; done) | rfl) ?_)
      | (go_simp; go_at_call 31; refine HC2.out.mono ?_; rintro r w4 ⟨v4, rfl, hs4, hb4⟩
         have HS4 := Lib.hid (And.intro hs4 hb4)
         clear hs4 hb4))
    all_goals
      clear c0 c1' c2' c3 e0 e1 e2 e3 HC2 HA3
      obtain ⟨hs4, hb4⟩ := HS4.out
      have hl := HB.out.2
      obtain ⟨W4, hW4⟩ : ∃ W, w4.alloc (.cells #[.int .u8 41] 5) = W := ⟨_, rfl⟩
      obtain ⟨v5, w5, hr5, hs5, hb5, -⟩ := hs4.byte 41 (by simp only [List.length_append, List.length_cons, List.length_nil]; omega) rfl hW4
      have HA5 : Hid ((Builtin.append_ #[26, 26] 26 #[v4, .slice (some ⟨w4.heap.size, 0, none⟩) 1 1]).run Tryd.prog W4 = .ok v5 w5) := Lib.hid hr5
      have HE := Lib.hid (And.intro hs5 ((HB.out.1.trans hb4).trans hb5))
      clear hs4 hb4 hl hr5 hs5 hb5
      go_wp2_with (at_builtin; refine Lib.wpList_append_run _ rfl _ _ _ _ rfl _ _ rfl rfl _ _ HA5.out ?_)
      go_ret
      exact ⟨v5, rfl, by have := HE.out.1; simp only [List.append_assoc, List.cons_append, List.nil_append] at this ⊢; exact this, HE.out.2⟩
end Go.Proofs.YtadpihipnffiaaaDoor
