/-
  What package printer's head returns of a node that has a condition. Conditions: the library's table can be read; those that each theorem names.
-/
import Derived.Test.YtkmbobfjoaldgaaGreatDoorZa9
namespace Go.Proofs.YtkmbobfjoaldgaaGreatDoor
open Go.ChangeShapes Go.WideShapes Go.ChangeAt Go.RowKit
set_option maxRecDepth 100000
set_option maxHeartbeats 4000000

/-- A node that has a condition. -/
theorem head_if {w : World} (htab : Lib.TabIs Tryz.prog w "internal/strconv.uint64pow10" .u64 Lib.pow10Tab) {s : ByteArray} {a b : Int} {x : Ex} (hd : x.depth ≤ 40) (hv : vE x) (hpl : (prt x).length ≤ 900000) {Q : Nat → Prop} {x0 x1 : Int} {x2 : ByteArray} {A : Option Addr} {m c : Nat} (hx : ET w Q x x0 x1 x2 A m c) {A1 A2 : Option Addr} {m1 c1 m2 c2 : Nat} :
    Calls Tryz.prog 119 #[.agg #[.int .i64 7, .int .i64 a, .int .i64 b, .string s, .int .i64 x0, .int .i64 x1, .string x2, .slice A m c, .slice A1 m1 c1, .slice A2 m2 c2]] w (HeadP w [nodeW.getD 7 [], prt x]) := by
  obtain ⟨W0, hW0⟩ : ∃ W, w.alloc (.cells #[.int .i64 7, .int .i64 a, .int .i64 b, .string s, .int .i64 x0, .int .i64 x1, .string x2, .slice A m c, .slice A1 m1 c1, .slice A2 m2 c2] 47) = W := ⟨_, rfl⟩
  have t0 : Touch NoB w W0 := by rw [← hW0]; exact (Touch.refl _ _).alloc _
  have hblk : W0.heap[w.heap.size]? = some (.cells #[.int .i64 7, .int .i64 a, .int .i64 b, .string s, .int .i64 x0, .int .i64 x1, .string x2, .slice A m c, .slice A1 m1 c1, .slice A2 m2 c2] 47 (0, 0)) := by rw [← hW0]; exact alloc_blk _ _ _ rfl
  have td : Touch NoB W0 W0.drew := (Touch.refl _ _).drew
  have HN := Lib.hid (nodes_any W0.drew)
  have z0 : W0.cell? ⟨w.heap.size, 0, none⟩ = some (.int .i64 7) := cell_blk hblk 0
  have y0 : W0.drew.cell? ⟨w.heap.size, 0, none⟩ = some (.int .i64 7) := by simpa using z0
  have HB := Lib.hid (And.intro hblk (t0.same td))
  have HTB := Lib.hid (And.intro (Lib.tabBelow_of_tabIs htab) hx)
  clear hblk t0 td htab hx
  go_enter Tryz.func119, Tryz.ntmps119
  go_wp2_with fail
  go_region_with (first
    | (go_at_call 131; refine HN.out.mono ?_
       rintro r w1 ⟨q, rfl, hq, hT1⟩
       have hb1 := (hT1.block _ (blk_lt HB.out.1) (fun x => x)).trans HB.out.1
       have x0' : w1.cell? ⟨w.heap.size, 0, none⟩ = some (.int .i64 7) := cell_blk hb1 0
       have x4' : w1.cell? ⟨w.heap.size, 4, none⟩ = some (.int .i64 x0) := cell_blk hb1 4
       have x5' : w1.cell? ⟨w.heap.size, 5, none⟩ = some (.int .i64 x1) := cell_blk hb1 5
       have x6' : w1.cell? ⟨w.heap.size, 6, none⟩ = some (.string x2) := cell_blk hb1 6
       have x7' : w1.cell? ⟨w.heap.size, 7, none⟩ = some (.slice A m c) := cell_blk hb1 7
       have hlt' : w.heap.size < w1.heap.size := blk_lt hb1
       have HW := Lib.hid (word_any hq 7)
       have HT1 := Lib.hid (HB.out.2.same hT1)
       have HB1 := Lib.hid hb1
       clear hq hT1 hb1)
    | (go_at_call 62; refine HW.out.mono ?_
       rintro r w2 ⟨rfl, rfl⟩))
  all_goals
    have hh := word1 (s := nodeW.getD 7 []) HT1.out _ rfl
    have HI := Lib.hid (print_any hd hv hpl _ (HTB.out.1.on (hh.2.belowB (Nat.le_refl _))).here (HTB.out.2.touch0 hh.2))
    have HH := Lib.hid hh
    clear hh
    go_wp2_with (go_at_call 133; refine HI.out.mono ?_)
    rintro r w4 ⟨rfl, hT4⟩
    obtain ⟨v', w5, hr, htr, hb⟩ := (HH.out.1.below hT4).app (Nat.le_trans HH.out.2.size hT4.size) [prt x] (cs := #[.string (bs (prt x))]) rfl (by simp) (N := w4.heap.size) (m := 1) rfl rfl rfl
    have HA := Lib.hid hr
    have HE := Lib.hid (And.intro htr (touch_of (((HH.out.2.same hT4).belowB (Nat.le_refl _)).trans hb)))
    clear hr htr hb hT4
    go_wp2_with (at_builtin; refine Lib.wpList_append_run _ rfl _ _ _ _ rfl _ _ rfl rfl _ _ HA.out ?_)
    go_ret
    exact ⟨_, rfl, HE.out⟩
end Go.Proofs.YtkmbobfjoaldgaaGreatDoor

/-
  What package printer's head returns of a node that sets. Conditions: the library's table can be read; those that each theorem names.
-/
namespace Go.Proofs.YtkmbobfjoaldgaaGreatDoor
open Go.ChangeShapes Go.WideShapes Go.ChangeAt Go.RowKit
set_option maxRecDepth 100000
set_option maxHeartbeats 4000000

/-- A node that sets. -/
theorem head_set {w : World} (htab : Lib.TabIs Tryz.prog w "internal/strconv.uint64pow10" .u64 Lib.pow10Tab) {nm : Bs} {a b : Int} {x : Ex} (hd : x.depth ≤ 40) (hv : vE x) (hpl : (prt x).length ≤ 900000) {Q : Nat → Prop} {x0 x1 : Int} {x2 : ByteArray} {A : Option Addr} {m c : Nat} (hx : ET w Q x x0 x1 x2 A m c) {A1 A2 : Option Addr} {m1 c1 m2 c2 : Nat} :
    Calls Tryz.prog 119 #[.agg #[.int .i64 8, .int .i64 a, .int .i64 b, .string (bs nm), .int .i64 x0, .int .i64 x1, .string x2, .slice A m c, .slice A1 m1 c1, .slice A2 m2 c2]] w (HeadP w [nodeW.getD 8 [], nm, [58, 61], prt x]) := by
  obtain ⟨W0, hW0⟩ : ∃ W, w.alloc (.cells #[.int .i64 8, .int .i64 a, .int .i64 b, .string (bs nm), .int .i64 x0, .int .i64 x1, .string x2, .slice A m c, .slice A1 m1 c1, .slice A2 m2 c2] 47) = W := ⟨_, rfl⟩
  have t0 : Touch NoB w W0 := by rw [← hW0]; exact (Touch.refl _ _).alloc _
  have hblk : W0.heap[w.heap.size]? = some (.cells #[.int .i64 8, .int .i64 a, .int .i64 b, .string (bs nm), .int .i64 x0, .int .i64 x1, .string x2, .slice A m c, .slice A1 m1 c1, .slice A2 m2 c2] 47 (0, 0)) := by rw [← hW0]; exact alloc_blk _ _ _ rfl
  have td : Touch NoB W0 W0.drew := (Touch.refl _ _).drew
  have HN := Lib.hid (nodes_any W0.drew)
  have z0 : W0.cell? ⟨w.heap.size, 0, none⟩ = some (.int .i64 8) := cell_blk hblk 0
  have y0 : W0.drew.cell? ⟨w.heap.size, 0, none⟩ = some (.int .i64 8) := by simpa using z0
  have HB := Lib.hid (And.intro hblk (t0.same td))
  have HTB := Lib.hid (And.intro (Lib.tabBelow_of_tabIs htab) hx)
  clear hblk t0 td htab hx
  go_enter Tryz.func119, Tryz.ntmps119
  go_wp2_with fail
  go_region_with (first
    | (go_at_call 131; refine HN.out.mono ?_
       rintro r w1 ⟨q, rfl, hq, hT1⟩
       have hb1 := (hT1.block _ (blk_lt HB.out.1) (fun x => x)).trans HB.out.1
       have x0' : w1.cell? ⟨w.heap.size, 0, none⟩ = some (.int .i64 8) := cell_blk hb1 0
       have x3' : w1.cell? ⟨w.heap.size, 3, none⟩ = some (.string (bs nm)) := cell_blk hb1 3
       have x4' : w1.cell? ⟨w.heap.size, 4, none⟩ = some (.int .i64 x0) := cell_blk hb1 4
       have x5' : w1.cell? ⟨w.heap.size, 5, none⟩ = some (.int .i64 x1) := cell_blk hb1 5
       have x6' : w1.cell? ⟨w.heap.size, 6, none⟩ = some (.string x2) := cell_blk hb1 6
       have x7' : w1.cell? ⟨w.heap.size, 7, none⟩ = some (.slice A m c) := cell_blk hb1 7
       have hlt' : w.heap.size < w1.heap.size := blk_lt hb1
       have HW := Lib.hid (word_any hq 8)
       have HT1 := Lib.hid (HB.out.2.same hT1)
       have HB1 := Lib.hid hb1
       clear hq hT1 hb1)
    | (go_at_call 62; refine HW.out.mono ?_
       rintro r w2 ⟨rfl, rfl⟩))
  all_goals
    have hh := word1 (s := nodeW[8]?.getD []) HT1.out _ rfl
    obtain ⟨W2, hW2⟩ : ∃ W, w2.alloc (.cells #[.string (bs (nodeW[8]?.getD []))] 9) = W := ⟨_, rfl⟩
    have hb2 : W2.heap[w.heap.size]? = some (.cells #[.int .i64 8, .int .i64 a, .int .i64 b, .string (bs nm), .int .i64 x0, .int .i64 x1, .string x2, .slice A m c, .slice A1 m1 c1, .slice A2 m2 c2] 47 (0, 0)) := by rw [← hW2, heap_alloc_old _ _ hlt']; exact HB1.out
    have hn2 : w2.heap.size + 1 = W2.heap.size := by rw [← hW2]; simp
    rw [hW2] at hh
    have td2 : Touch NoB W2 W2.drew := (Touch.refl _ _).drew
    have HI := Lib.hid (print_any hd hv hpl W2.drew (HTB.out.1.on ((hh.2.same td2).belowB (Nat.le_refl _))).here (HTB.out.2.touch0 (hh.2.same td2)))
    have c0 : W2.cell? ⟨w.heap.size, 0, none⟩ = some (.int .i64 8) := cell_blk hb2 0
    have d3 : W2.drew.cell? ⟨w.heap.size, 3, none⟩ = some (.string (bs nm)) := by simpa using cell_blk hb2 3
    have d4 : W2.drew.cell? ⟨w.heap.size, 4, none⟩ = some (.int .i64 x0) := by simpa using cell_blk hb2 4
    have d5 : W2.drew.cell? ⟨w.heap.size, 5, none⟩ = some (.int .i64 x1) := by simpa using cell_blk hb2 5
    have d6 : W2.drew.cell? ⟨w.heap.size, 6, none⟩ = some (.string x2) := by simpa using cell_blk hb2 6
    have d7 : W2.drew.cell? ⟨w.heap.size, 7, none⟩ = some (.slice A m c) := by simpa using cell_blk hb2 7
    have HH := Lib.hid (And.intro hh.1 (hh.2.same td2))
    have HB2 := Lib.hid hb2
    clear hh hb2 td2 hn2
    go_wp2_with fail
    go_region_law (first
      | (refine step_appended (T := 41) (U := 41) (d := .tmp 40) (s := .tmp 46) rfl HA.out rfl (by first | (simp [Act.eval]; done) | (simp [Act.eval, Act.put]; done) | rfl) (by first | (simp [Act.eval]; done) | (simp [Act.eval, Act.put]; done) | rfl) ?_)
      | (go_simp; go_at_call 133; refine HI.out.mono ?_; rintro r w4 ⟨rfl, hT4⟩
         have hb4 := (hT4.block _ (blk_lt HB2.out) (fun x => x)).trans HB2.out
         have f3 : w4.cell? ⟨w.heap.size, 3, none⟩ = some (.string (bs nm)) := cell_blk hb4 3
         have hlt4 : w.heap.size < w4.heap.size := blk_lt hb4
         obtain ⟨v', w5, hr, htr, hb⟩ := ((HH.out.1.below (Touch.refl _ _).drew).below hT4).app (Nat.le_trans HH.out.2.size hT4.size) [nm, [58, 61], prt x] (cs := #[.string (bs nm), .string ⟨#[58, 61]⟩, .string (bs (prt x))]) rfl (by simp) (N := w4.heap.size) (m := 3) rfl rfl rfl
         have HA := Lib.hid hr
         have HE := Lib.hid (And.intro htr (touch_of (((HH.out.2.same hT4).belowB (Nat.le_refl _)).trans hb)))
         clear hr htr hb hT4 hb4))
    all_goals
      go_wp2
      go_ret
      exact ⟨_, rfl, HE.out⟩
end Go.Proofs.YtkmbobfjoaldgaaGreatDoor
