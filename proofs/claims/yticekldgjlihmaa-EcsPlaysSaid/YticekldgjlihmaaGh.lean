/-
  Put of the document's own Store, where nothing moves.
-/
import Derived.Test.YticekldgjlihmaaGg
namespace Go.Proofs.Yticekldgjlihmaa
open Go.ChangeShapes Go.WideShapes Go.ChangeAt Go.RowKit Go.Maps
set_option maxRecDepth 100000
set_option maxHeartbeats 2000000

section
variable {w : World} {F : Nat → Prop} {g : Nat} {room most : Int} {ps : List (Int × Bool)} {ds : List Int} {bs : List Tb}
theorem rput_stale (h : RSt w F g room most ps ds bs) (i x c v : Int) (hn : hasI ps i x = false) :
    Calls Try.prog 13 #[.pointer (some ⟨g, 0, none⟩), .agg #[.int .i64 i, .int .i64 x], .agg #[.int .i64 c, .int .i64 v]] w fun e w' => e = .returned (.int .i64 11) ∧ Touch NoB w w' := by
  obtain ⟨φ, gi, ts, vl, h1, h2, h3⟩ := h
  have H1 := Lib.hid h1
  have HN := Lib.hid hn
  clear h1 h2 h3 hn
  go_enter Try.func13, Try.ntmps13
  go_wp2
  have hgl := H1.out.lt
  have hn0 := two_new w (.cells #[.int .i64 i, .int .i64 x] 30) (.cells #[.int .i64 c, .int .i64 v] 32)
  have hcg : ((w.alloc (.cells #[.int .i64 i, .int .i64 x] 30)).alloc (.cells #[.int .i64 c, .int .i64 v] 32)).cell? ⟨g, 0, none⟩ = some (.pointer (some ⟨gi, 0, none⟩)) := (H1.out.quiet (((Touch.refl NoB w).alloc (.cells #[.int .i64 i, .int .i64 x] 30)).alloc (.cells #[.int .i64 c, .int .i64 v] 32))).c0
  have i0 : ((w.alloc (.cells #[.int .i64 i, .int .i64 x] 30)).alloc (.cells #[.int .i64 c, .int .i64 v] 32)).cell? ⟨w.heap.size, 0, none⟩ = some (.int .i64 i) := cell_blk hn0.1 0
  have i1 : ((w.alloc (.cells #[.int .i64 i, .int .i64 x] 30)).alloc (.cells #[.int .i64 c, .int .i64 v] 32)).cell? ⟨w.heap.size, 1, none⟩ = some (.int .i64 x) := cell_blk hn0.1 1
  have j0 : ((w.alloc (.cells #[.int .i64 i, .int .i64 x] 30)).alloc (.cells #[.int .i64 c, .int .i64 v] 32)).cell? ⟨w.heap.size + 1, 0, none⟩ = some (.int .i64 c) := cell_blk hn0.2 0
  have j1 : ((w.alloc (.cells #[.int .i64 i, .int .i64 x] 30)).alloc (.cells #[.int .i64 c, .int .i64 v] 32)).cell? ⟨w.heap.size + 1, 1, none⟩ = some (.int .i64 v) := cell_blk hn0.2 1
  clear hn0
  go_region_held3 (fun w' => w'.cell? ⟨g, 0, none⟩ = some (.pointer (some ⟨gi, 0, none⟩)) ∧ w'.cell? ⟨w.heap.size, 0, none⟩ = some (.int .i64 i) ∧ w'.cell? ⟨w.heap.size, 1, none⟩ = some (.int .i64 x)) (first | exact ⟨hcg, i0, i1⟩ | exact ⟨hk0, hk1, hk2⟩ | go_keep)
    (first | (go_at_call 43; refine (rhas_any gi room i x ps ds _ _ ((H1.out.quiet (((Touch.refl NoB w).alloc (.cells #[.int .i64 i, .int .i64 x] 30)).alloc (.cells #[.int .i64 c, .int .i64 v] 32))).quiet (by repeat (first | with_reducible exact Touch.refl _ _ | with_reducible refine Touch.alloc ?_ _ | with_reducible refine Touch.drewN ?_ _ | with_reducible refine Touch.drew ?_))).own).mono ?_; rw [HN.out]; rintro e w6 ⟨rfl, hT6⟩; have hq : Touch NoB ((w.alloc (.cells #[.int .i64 i, .int .i64 x] 30)).alloc (.cells #[.int .i64 c, .int .i64 v] 32)) w6 := Touch.same (by repeat (first | with_reducible exact Touch.refl _ _ | with_reducible refine Touch.alloc ?_ _ | with_reducible refine Touch.drewN ?_ _ | with_reducible refine Touch.drew ?_)) hT6; have hk0 := (Touch.cell hq (p := ⟨g, 0, none⟩) (by simp; omega) (fun e => e)).trans hcg; have hk1 := (Touch.cell hq (p := ⟨w.heap.size, 0, none⟩) (by simp; omega) (fun e => e)).trans i0; have hk2 := (Touch.cell hq (p := ⟨w.heap.size, 1, none⟩) (by simp; omega) (fun e => e)).trans i1; have hk3 := (Touch.cell hq (p := ⟨w.heap.size + 1, 0, none⟩) (by simp) (fun e => e)).trans j0; have hk4 := (Touch.cell hq (p := ⟨w.heap.size + 1, 1, none⟩) (by simp) (fun e => e)).trans j1; have hl6 : w.heap.size + 1 < w6.heap.size := Nat.lt_of_lt_of_le (by simp) (Touch.size hq); have HT6 := Lib.hid ((((Touch.refl NoB w).alloc (.cells #[.int .i64 i, .int .i64 x] 30)).alloc (.cells #[.int .i64 c, .int .i64 v] 32)).same hq); clear hT6 hq))
  all_goals
    go_wp2
    go_ret
    exact ⟨rfl, HT6.out.same (by repeat (first | with_reducible exact Touch.refl _ _ | with_reducible refine Touch.alloc ?_ _ | with_reducible refine Touch.drewN ?_ _ | with_reducible refine Touch.drew ?_))⟩
theorem rput_arg (h : RSt w F g room most ps ds bs) (i x c v : Int) (hn : hasI ps i x = true) (hc : isC c = false) :
    Calls Try.prog 13 #[.pointer (some ⟨g, 0, none⟩), .agg #[.int .i64 i, .int .i64 x], .agg #[.int .i64 c, .int .i64 v]] w fun e w' => e = .returned (.int .i64 1) ∧ Touch NoB w w' := by
  obtain ⟨φ, gi, ts, vl, h1, h2, h3⟩ := h
  have H1 := Lib.hid h1
  have HN := Lib.hid hn
  have HR := Lib.hid (fun W => rright_any c W)
  rw [hc] at HR
  clear h1 h2 h3 hn hc
  go_enter Try.func13, Try.ntmps13
  go_wp2
  have hgl := H1.out.lt
  have hn0 := two_new w (.cells #[.int .i64 i, .int .i64 x] 30) (.cells #[.int .i64 c, .int .i64 v] 32)
  have hcg : ((w.alloc (.cells #[.int .i64 i, .int .i64 x] 30)).alloc (.cells #[.int .i64 c, .int .i64 v] 32)).cell? ⟨g, 0, none⟩ = some (.pointer (some ⟨gi, 0, none⟩)) := (H1.out.quiet (((Touch.refl NoB w).alloc (.cells #[.int .i64 i, .int .i64 x] 30)).alloc (.cells #[.int .i64 c, .int .i64 v] 32))).c0
  have i0 : ((w.alloc (.cells #[.int .i64 i, .int .i64 x] 30)).alloc (.cells #[.int .i64 c, .int .i64 v] 32)).cell? ⟨w.heap.size, 0, none⟩ = some (.int .i64 i) := cell_blk hn0.1 0
  have i1 : ((w.alloc (.cells #[.int .i64 i, .int .i64 x] 30)).alloc (.cells #[.int .i64 c, .int .i64 v] 32)).cell? ⟨w.heap.size, 1, none⟩ = some (.int .i64 x) := cell_blk hn0.1 1
  have j0 : ((w.alloc (.cells #[.int .i64 i, .int .i64 x] 30)).alloc (.cells #[.int .i64 c, .int .i64 v] 32)).cell? ⟨w.heap.size + 1, 0, none⟩ = some (.int .i64 c) := cell_blk hn0.2 0
  have j1 : ((w.alloc (.cells #[.int .i64 i, .int .i64 x] 30)).alloc (.cells #[.int .i64 c, .int .i64 v] 32)).cell? ⟨w.heap.size + 1, 1, none⟩ = some (.int .i64 v) := cell_blk hn0.2 1
  clear hn0
  go_region_held3 (fun w' => w'.cell? ⟨g, 0, none⟩ = some (.pointer (some ⟨gi, 0, none⟩)) ∧ w'.cell? ⟨w.heap.size, 0, none⟩ = some (.int .i64 i) ∧ w'.cell? ⟨w.heap.size, 1, none⟩ = some (.int .i64 x)) (first | exact ⟨hcg, i0, i1⟩ | exact ⟨hk0, hk1, hk2⟩ | go_keep)
    (first | (go_at_call 43; refine (rhas_any gi room i x ps ds _ _ ((H1.out.quiet (((Touch.refl NoB w).alloc (.cells #[.int .i64 i, .int .i64 x] 30)).alloc (.cells #[.int .i64 c, .int .i64 v] 32))).quiet (by repeat (first | with_reducible exact Touch.refl _ _ | with_reducible refine Touch.alloc ?_ _ | with_reducible refine Touch.drewN ?_ _ | with_reducible refine Touch.drew ?_))).own).mono ?_; rw [HN.out]; rintro e w6 ⟨rfl, hT6⟩; have hq : Touch NoB ((w.alloc (.cells #[.int .i64 i, .int .i64 x] 30)).alloc (.cells #[.int .i64 c, .int .i64 v] 32)) w6 := Touch.same (by repeat (first | with_reducible exact Touch.refl _ _ | with_reducible refine Touch.alloc ?_ _ | with_reducible refine Touch.drewN ?_ _ | with_reducible refine Touch.drew ?_)) hT6; have hk0 := (Touch.cell hq (p := ⟨g, 0, none⟩) (by simp; omega) (fun e => e)).trans hcg; have hk1 := (Touch.cell hq (p := ⟨w.heap.size, 0, none⟩) (by simp; omega) (fun e => e)).trans i0; have hk2 := (Touch.cell hq (p := ⟨w.heap.size, 1, none⟩) (by simp; omega) (fun e => e)).trans i1; have hk3 := (Touch.cell hq (p := ⟨w.heap.size + 1, 0, none⟩) (by simp) (fun e => e)).trans j0; have hk4 := (Touch.cell hq (p := ⟨w.heap.size + 1, 1, none⟩) (by simp) (fun e => e)).trans j1; have hl6 : w.heap.size + 1 < w6.heap.size := Nat.lt_of_lt_of_le (by simp) (Touch.size hq); have HT6 := Lib.hid ((((Touch.refl NoB w).alloc (.cells #[.int .i64 i, .int .i64 x] 30)).alloc (.cells #[.int .i64 c, .int .i64 v] 32)).same hq); clear hT6 hq))
  all_goals
    go_wp2_with fail
    refine (HR.out _).mono ?_
    rintro e w7 ⟨rfl, rfl⟩
    go_wp2
    go_ret
    exact ⟨rfl, HT6.out.same (by repeat (first | with_reducible exact Touch.refl _ _ | with_reducible refine Touch.alloc ?_ _ | with_reducible refine Touch.drewN ?_ _ | with_reducible refine Touch.drew ?_))⟩
theorem rput_set (h : RSt w F g room most ps ds bs) (i x v : Int) {c : Nat} (hu : UniqB bs) (hn : hasI ps i x = true) {j k : Nat} {b : Tb} (hb : bs[j]? = some b) (hk : b.ids[k]? = some (i, x)) (hc : c < 16) (hbt : bitB b.m c = true) :
    Calls Try.prog 13 #[.pointer (some ⟨g, 0, none⟩), .agg #[.int .i64 i, .int .i64 x], .agg #[.int .i64 c, .int .i64 v]] w fun e w' => e = .returned (.int .i64 0) ∧ RSt w' (Ext F w w') g room most ps ds (bs.set j (setB b k c v)) ∧ Touch F w w' := by
  obtain ⟨φ, gi, ts, vl, h1, h2, h3⟩ := h
  obtain ⟨t, ht, rfl⟩ := rat h2 hb
  subst h2
  have hk' : (t.l.map Prod.fst)[k]? = some (i, x) := hk
  obtain ⟨ct, htl, _⟩ := (h1.tab j t ht).mask
  obtain ⟨hm0, hm1⟩ := h1.m0 j t ht
  have HOF := Lib.hid (fun W (hW : Touch NoB w W) => rs_of (h1.quiet hW) hu ht hk')
  have hkl : k < t.l.length := by have := (List.getElem?_eq_some_iff.1 hk').1; simpa using this
  have HSET := Lib.hid (fun W (hW : Touch NoB w W) => rs_set h1 hW ht hkl hc hbt v)
  have HHAS := Lib.hid (fun W (hW : Touch NoB w W) => rthas_any t.g t.m c W hm0 hm1 ((hW.cell (p := ⟨t.g, 0, none⟩) htl (fun e => e)).trans ct))
  rw [show colB t.m (c : Int) = true from by have h' : bitB t.m c = true := hbt; unfold colB; simp [h']; omega] at HHAS
  obtain ⟨G, hG⟩ : ∃ G, t.g = G := ⟨_, rfl⟩
  rw [hG] at HSET HHAS HOF
  have HR := Lib.hid (fun W => rright_any c W)
  rw [isC_nat hc] at HR
  have H1 := Lib.hid h1
  have HN := Lib.hid hn
  have HF := Lib.hid (And.intro h3 hm0)
  clear h1 h3 hn hb hk hk' ht hu hc hbt ct htl hm0 hm1 hG hkl
  obtain ⟨cc, hcc⟩ : ∃ cc : Int, (c : Int) = cc := ⟨_, rfl⟩
  rw [hcc] at HSET HHAS HR
  rw [hcc]
  clear hcc
  go_enter Try.func13, Try.ntmps13
  go_wp2
  have hgl := H1.out.lt
  have hn0 := two_new w (.cells #[.int .i64 i, .int .i64 x] 30) (.cells #[.int .i64 cc, .int .i64 v] 32)
  have hcg : ((w.alloc (.cells #[.int .i64 i, .int .i64 x] 30)).alloc (.cells #[.int .i64 cc, .int .i64 v] 32)).cell? ⟨g, 0, none⟩ = some (.pointer (some ⟨gi, 0, none⟩)) := (H1.out.quiet (((Touch.refl NoB w).alloc (.cells #[.int .i64 i, .int .i64 x] 30)).alloc (.cells #[.int .i64 cc, .int .i64 v] 32))).c0
  have i0 : ((w.alloc (.cells #[.int .i64 i, .int .i64 x] 30)).alloc (.cells #[.int .i64 cc, .int .i64 v] 32)).cell? ⟨w.heap.size, 0, none⟩ = some (.int .i64 i) := cell_blk hn0.1 0
  have i1 : ((w.alloc (.cells #[.int .i64 i, .int .i64 x] 30)).alloc (.cells #[.int .i64 cc, .int .i64 v] 32)).cell? ⟨w.heap.size, 1, none⟩ = some (.int .i64 x) := cell_blk hn0.1 1
  have j0 : ((w.alloc (.cells #[.int .i64 i, .int .i64 x] 30)).alloc (.cells #[.int .i64 cc, .int .i64 v] 32)).cell? ⟨w.heap.size + 1, 0, none⟩ = some (.int .i64 cc) := cell_blk hn0.2 0
  have j1 : ((w.alloc (.cells #[.int .i64 i, .int .i64 x] 30)).alloc (.cells #[.int .i64 cc, .int .i64 v] 32)).cell? ⟨w.heap.size + 1, 1, none⟩ = some (.int .i64 v) := cell_blk hn0.2 1
  clear hn0
  go_region_held3 (fun w' => w'.cell? ⟨g, 0, none⟩ = some (.pointer (some ⟨gi, 0, none⟩)) ∧ w'.cell? ⟨w.heap.size, 0, none⟩ = some (.int .i64 i) ∧ w'.cell? ⟨w.heap.size, 1, none⟩ = some (.int .i64 x)) (first | exact ⟨hcg, i0, i1⟩ | exact ⟨hk0, hk1, hk2⟩ | go_keep)
    (first | (go_at_call 43; refine (rhas_any gi room i x ps ds _ _ ((H1.out.quiet (((Touch.refl NoB w).alloc (.cells #[.int .i64 i, .int .i64 x] 30)).alloc (.cells #[.int .i64 cc, .int .i64 v] 32))).quiet (by repeat (first | with_reducible exact Touch.refl _ _ | with_reducible refine Touch.alloc ?_ _ | with_reducible refine Touch.drewN ?_ _ | with_reducible refine Touch.drew ?_))).own).mono ?_; rw [HN.out]; rintro e w6 ⟨rfl, hT6⟩; have hq : Touch NoB ((w.alloc (.cells #[.int .i64 i, .int .i64 x] 30)).alloc (.cells #[.int .i64 cc, .int .i64 v] 32)) w6 := Touch.same (by repeat (first | with_reducible exact Touch.refl _ _ | with_reducible refine Touch.alloc ?_ _ | with_reducible refine Touch.drewN ?_ _ | with_reducible refine Touch.drew ?_)) hT6; have hk0 := (Touch.cell hq (p := ⟨g, 0, none⟩) (by simp; omega) (fun e => e)).trans hcg; have hk1 := (Touch.cell hq (p := ⟨w.heap.size, 0, none⟩) (by simp; omega) (fun e => e)).trans i0; have hk2 := (Touch.cell hq (p := ⟨w.heap.size, 1, none⟩) (by simp; omega) (fun e => e)).trans i1; have hk3 := (Touch.cell hq (p := ⟨w.heap.size + 1, 0, none⟩) (by simp) (fun e => e)).trans j0; have hk4 := (Touch.cell hq (p := ⟨w.heap.size + 1, 1, none⟩) (by simp) (fun e => e)).trans j1; have hl6 : w.heap.size + 1 < w6.heap.size := Nat.lt_of_lt_of_le (by simp) (Touch.size hq); have HT6 := Lib.hid ((((Touch.refl NoB w).alloc (.cells #[.int .i64 i, .int .i64 x] 30)).alloc (.cells #[.int .i64 cc, .int .i64 v] 32)).same hq); clear hT6 hq))
  all_goals
    go_wp2_with fail
    refine (HR.out _).mono ?_
    rintro e w7 ⟨rfl, rfl⟩
    go_wp2_with fail
    refine (HOF.out _ (HT6.out.same (by repeat (first | with_reducible exact Touch.refl _ _ | with_reducible refine Touch.alloc ?_ _ | with_reducible refine Touch.drewN ?_ _ | with_reducible refine Touch.drew ?_)))).mono ?_
    rintro e w7 ⟨rfl, hT7⟩
    have hq7 : Touch NoB w6 w7 := Touch.same (by repeat (first | with_reducible exact Touch.refl _ _ | with_reducible refine Touch.alloc ?_ _ | with_reducible refine Touch.drewN ?_ _ | with_reducible refine Touch.drew ?_)) hT7
    have hk3' := (hq7.cell (p := ⟨w.heap.size + 1, 0, none⟩) hl6 (fun e => e)).trans hk3
    have hk4' := (hq7.cell (p := ⟨w.heap.size + 1, 1, none⟩) hl6 (fun e => e)).trans hk4
    have hl7 := Nat.lt_of_lt_of_le hl6 hq7.size
    have HT7 := Lib.hid (HT6.out.same hq7)
    clear hT7 hq7
    go_wp2_with fail
    refine (HHAS.out _ (HT7.out.same (by repeat (first | with_reducible exact Touch.refl _ _ | with_reducible refine Touch.alloc ?_ _ | with_reducible refine Touch.drewN ?_ _ | with_reducible refine Touch.drew ?_)))).mono ?_
    rintro e w8 ⟨rfl, rfl⟩
    go_wp2_with fail
    refine (HSET.out _ (HT7.out.same (by repeat (first | with_reducible exact Touch.refl _ _ | with_reducible refine Touch.alloc ?_ _ | with_reducible refine Touch.drewN ?_ _ | with_reducible refine Touch.drew ?_)))).mono ?_
    rintro e w9 ⟨rfl, ⟨ts9, h9, hm9⟩, hT9⟩
    have H9 := Lib.hid (And.intro h9 (And.intro hm9 hT9))
    clear h9 hm9 hT9
    go_wp2
    go_ret
    exact ⟨rfl, ⟨φ, gi, ts9, vl, H9.out.1, H9.out.2.1, fun b hb => .inl (HF.out.1 b hb)⟩, H9.out.2.2.mono (fun b (e : φ b = 4 + t.m) => HF.out.1 b (by have := HF.out.2; omega))⟩
end
end Go.Proofs.Yticekldgjlihmaa
