/-
  Mask and Get of the document's own Store.
-/
import Derived.Test.YticekldgjlihmaaGd
namespace Go.Proofs.Yticekldgjlihmaa
open Go.ChangeShapes Go.WideShapes Go.ChangeAt Go.RowKit Go.Maps
set_option maxRecDepth 100000
set_option maxHeartbeats 2000000

theorem rat {bs : List Tb} {ts : List RTb} (h2 : ts.map RTb.b = bs) {j : Nat} {b : Tb} (hb : bs[j]? = some b) : ∃ t, ts[j]? = some t ∧ t.b = b := by
  rw [← h2, List.getElem?_map] at hb
  rcases ht : ts[j]? with _ | t
  · rw [ht] at hb; simp at hb
  · rw [ht] at hb; simp at hb; exact ⟨t, rfl, hb⟩
section
variable {w : World} {F : Nat → Prop} {g : Nat} {room most : Int} {ps : List (Int × Bool)} {ds : List Int} {bs : List Tb}
theorem rmask_stale (h : RSt w F g room most ps ds bs) (i x : Int) (hn : hasI ps i x = false) :
    Calls Try.prog 50 #[.pointer (some ⟨g, 0, none⟩), .agg #[.int .i64 i, .int .i64 x]] w fun e w' => e = .returned (.tuple #[.int .u16 0, .int .i64 11]) ∧ Touch NoB w w' := by
  obtain ⟨φ, gi, ts, vl, h1, h2, h3⟩ := h
  have H1 := Lib.hid h1
  have HN := Lib.hid hn
  clear h1 h2 h3 hn
  go_enter Try.func50, Try.ntmps50
  go_wp2
  have hid := alloc_blk w #[.int .i64 i, .int .i64 x] 30 rfl
  have hcg : (w.alloc (.cells #[.int .i64 i, .int .i64 x] 30)).cell? ⟨g, 0, none⟩ = some (.pointer (some ⟨gi, 0, none⟩)) := (H1.out.quiet ((Touch.refl NoB w).alloc _)).c0
  have i0 : (w.alloc (.cells #[.int .i64 i, .int .i64 x] 30)).cell? ⟨w.heap.size, 0, none⟩ = some (.int .i64 i) := cell_blk hid 0
  have i1 : (w.alloc (.cells #[.int .i64 i, .int .i64 x] 30)).cell? ⟨w.heap.size, 1, none⟩ = some (.int .i64 x) := cell_blk hid 1
  clear hid
  go_region_held3 (fun w' => w'.cell? ⟨g, 0, none⟩ = some (.pointer (some ⟨gi, 0, none⟩)) ∧ w'.cell? ⟨w.heap.size, 0, none⟩ = some (.int .i64 i) ∧ w'.cell? ⟨w.heap.size, 1, none⟩ = some (.int .i64 x)) (first | exact ⟨hcg, i0, i1⟩ | exact ⟨hk0, hk1, hk2⟩ | go_keep)
    (first | (go_at_call 43; refine (rhas_any gi room i x ps ds _ _ ((H1.out.quiet ((Touch.refl NoB w).alloc (.cells #[.int .i64 i, .int .i64 x] 30))).quiet (by repeat (first | with_reducible exact Touch.refl _ _ | with_reducible refine Touch.alloc ?_ _ | with_reducible refine Touch.drewN ?_ _ | with_reducible refine Touch.drew ?_))).own).mono ?_; rw [HN.out]; rintro e w6 ⟨rfl, hT6⟩; have hq : Touch NoB (w.alloc (.cells #[.int .i64 i, .int .i64 x] 30)) w6 := Touch.same (by repeat (first | with_reducible exact Touch.refl _ _ | with_reducible refine Touch.alloc ?_ _ | with_reducible refine Touch.drewN ?_ _ | with_reducible refine Touch.drew ?_)) hT6; have hk0 := (Touch.cell hq (p := ⟨g, 0, none⟩) (by have := H1.out.lt; simp; omega) (fun e => e)).trans hcg; have hk1 := (Touch.cell hq (p := ⟨w.heap.size, 0, none⟩) (by simp) (fun e => e)).trans i0; have hk2 := (Touch.cell hq (p := ⟨w.heap.size, 1, none⟩) (by simp) (fun e => e)).trans i1; have hl6 : w.heap.size < w6.heap.size := Nat.lt_of_lt_of_le (by simp) (Touch.size hq); have HT6 := Lib.hid (((Touch.refl NoB w).alloc _).same hq); clear hT6 hq))
  all_goals
    go_wp2
    go_ret2
    exact ⟨rfl, HT6.out.same (by repeat (first | with_reducible exact Touch.refl _ _ | with_reducible refine Touch.alloc ?_ _ | with_reducible refine Touch.drewN ?_ _ | with_reducible refine Touch.drew ?_))⟩
theorem rget_stale (h : RSt w F g room most ps ds bs) (i x : Int) (c : Int) (hn : hasI ps i x = false) :
    Calls Try.prog 17 #[.pointer (some ⟨g, 0, none⟩), .agg #[.int .i64 i, .int .i64 x], .int .i64 c] w fun e w' => e = .returned (.tuple #[.int .i64 0, .int .i64 11]) ∧ Touch NoB w w' := by
  obtain ⟨φ, gi, ts, vl, h1, h2, h3⟩ := h
  have H1 := Lib.hid h1
  have HN := Lib.hid hn
  clear h1 h2 h3 hn
  go_enter Try.func17, Try.ntmps17
  go_wp2
  have hid := alloc_blk w #[.int .i64 i, .int .i64 x] 30 rfl
  have hcg : (w.alloc (.cells #[.int .i64 i, .int .i64 x] 30)).cell? ⟨g, 0, none⟩ = some (.pointer (some ⟨gi, 0, none⟩)) := (H1.out.quiet ((Touch.refl NoB w).alloc _)).c0
  have i0 : (w.alloc (.cells #[.int .i64 i, .int .i64 x] 30)).cell? ⟨w.heap.size, 0, none⟩ = some (.int .i64 i) := cell_blk hid 0
  have i1 : (w.alloc (.cells #[.int .i64 i, .int .i64 x] 30)).cell? ⟨w.heap.size, 1, none⟩ = some (.int .i64 x) := cell_blk hid 1
  clear hid
  go_region_held3 (fun w' => w'.cell? ⟨g, 0, none⟩ = some (.pointer (some ⟨gi, 0, none⟩)) ∧ w'.cell? ⟨w.heap.size, 0, none⟩ = some (.int .i64 i) ∧ w'.cell? ⟨w.heap.size, 1, none⟩ = some (.int .i64 x)) (first | exact ⟨hcg, i0, i1⟩ | exact ⟨hk0, hk1, hk2⟩ | go_keep)
    (first | (go_at_call 43; refine (rhas_any gi room i x ps ds _ _ ((H1.out.quiet ((Touch.refl NoB w).alloc (.cells #[.int .i64 i, .int .i64 x] 30))).quiet (by repeat (first | with_reducible exact Touch.refl _ _ | with_reducible refine Touch.alloc ?_ _ | with_reducible refine Touch.drewN ?_ _ | with_reducible refine Touch.drew ?_))).own).mono ?_; rw [HN.out]; rintro e w6 ⟨rfl, hT6⟩; have hq : Touch NoB (w.alloc (.cells #[.int .i64 i, .int .i64 x] 30)) w6 := Touch.same (by repeat (first | with_reducible exact Touch.refl _ _ | with_reducible refine Touch.alloc ?_ _ | with_reducible refine Touch.drewN ?_ _ | with_reducible refine Touch.drew ?_)) hT6; have hk0 := (Touch.cell hq (p := ⟨g, 0, none⟩) (by have := H1.out.lt; simp; omega) (fun e => e)).trans hcg; have hk1 := (Touch.cell hq (p := ⟨w.heap.size, 0, none⟩) (by simp) (fun e => e)).trans i0; have hk2 := (Touch.cell hq (p := ⟨w.heap.size, 1, none⟩) (by simp) (fun e => e)).trans i1; have hl6 : w.heap.size < w6.heap.size := Nat.lt_of_lt_of_le (by simp) (Touch.size hq); have HT6 := Lib.hid (((Touch.refl NoB w).alloc _).same hq); clear hT6 hq))
  all_goals
    go_wp2
    go_ret2
    exact ⟨rfl, HT6.out.same (by repeat (first | with_reducible exact Touch.refl _ _ | with_reducible refine Touch.alloc ?_ _ | with_reducible refine Touch.drewN ?_ _ | with_reducible refine Touch.drew ?_))⟩
end
end Go.Proofs.Yticekldgjlihmaa
