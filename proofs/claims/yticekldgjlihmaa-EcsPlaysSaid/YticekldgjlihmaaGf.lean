/-
  Mask and Get of the document's own Store, where the entity is there.
-/
import Derived.Test.YticekldgjlihmaaGe
namespace Go.Proofs.Yticekldgjlihmaa
open Go.ChangeShapes Go.WideShapes Go.ChangeAt Go.RowKit Go.Maps
set_option maxRecDepth 100000
set_option maxHeartbeats 2000000

theorem colsOf_at {m : Int} {l : List Rw} {c k : Nat} {p : Rw} (hc : c < 16) (hb : bitB m c = true) (hp : l[k]? = some p) : (colsOf m l c).getD k 0 = p.2 c := by
  unfold colsOf
  rw [if_pos ⟨hc, hb⟩, List.getD_eq_getElem?_getD, List.getElem?_map, hp]
  rfl
section
variable {w : World} {F : Nat → Prop} {g : Nat} {room most : Int} {ps : List (Int × Bool)} {ds : List Int} {bs : List Tb}
theorem rmask_in (h : RSt w F g room most ps ds bs) (hu : UniqB bs) (i x : Int) (hn : hasI ps i x = true) {j k : Nat} {b : Tb} (hb : bs[j]? = some b) (hk : b.ids[k]? = some (i, x)) :
    Calls Try.prog 50 #[.pointer (some ⟨g, 0, none⟩), .agg #[.int .i64 i, .int .i64 x]] w fun e w' => e = .returned (.tuple #[.int .u16 b.m, .int .i64 0]) ∧ Touch NoB w w' := by
  obtain ⟨φ, gi, ts, vl, h1, h2, h3⟩ := h
  obtain ⟨t, ht, rfl⟩ := rat h2 hb
  subst h2
  have hk' : (t.l.map Prod.fst)[k]? = some (i, x) := hk
  have HOF := Lib.hid (fun W (hW : Touch NoB w W) => rs_of (h1.quiet hW) hu ht hk')
  obtain ⟨ct, htl, _⟩ := (h1.tab j t ht).mask
  obtain ⟨M, hM⟩ : ∃ M, t.m = M := ⟨_, rfl⟩
  obtain ⟨G, hG⟩ : ∃ G, t.g = G := ⟨_, rfl⟩
  have hM' : t.b.m = M := hM
  rw [hM']
  rw [hG, hM] at ct
  rw [hG] at htl HOF
  have H1 := Lib.hid h1
  have HN := Lib.hid hn
  clear h1 h3 hn hb hk hk' ht hu hM hG hM'
  go_enter Try.func50, Try.ntmps50
  go_wp2
  have hid := alloc_blk w #[.int .i64 i, .int .i64 x] 30 rfl
  have hcg : (w.alloc (.cells #[.int .i64 i, .int .i64 x] 30)).cell? ⟨g, 0, none⟩ = some (.pointer (some ⟨gi, 0, none⟩)) := (H1.out.quiet ((Touch.refl NoB w).alloc _)).c0
  have i0 : (w.alloc (.cells #[.int .i64 i, .int .i64 x] 30)).cell? ⟨w.heap.size, 0, none⟩ = some (.int .i64 i) := cell_blk hid 0
  have i1 : (w.alloc (.cells #[.int .i64 i, .int .i64 x] 30)).cell? ⟨w.heap.size, 1, none⟩ = some (.int .i64 x) := cell_blk hid 1
  clear hid
  go_region_held3 (fun w' => w'.cell? ⟨g, 0, none⟩ = some (.pointer (some ⟨gi, 0, none⟩)) ∧ w'.cell? ⟨w.heap.size, 0, none⟩ = some (.int .i64 i) ∧ w'.cell? ⟨w.heap.size, 1, none⟩ = some (.int .i64 x)) (first | exact ⟨hcg, i0, i1⟩ | exact ⟨hk0, hk1, hk2⟩ | go_keep)
    (first | (go_at_call 43; refine (rhas_any gi room i x ps ds _ _ ((H1.out.quiet ((Touch.refl NoB w).alloc (.cells #[.int .i64 i, .int .i64 x] 30))).quiet (by repeat (first | with_reducible exact Touch.refl _ _ | with_reducible refine Touch.alloc ?_ _ | with_reducible refine Touch.drewN ?_ _ | with_reducible refine Touch.drew ?_))).own).mono ?_; rw [HN.out]; rintro e w6 ⟨rfl, hT6⟩; have hq : Touch NoB (w.alloc (.cells #[.int .i64 i, .int .i64 x] 30)) w6 := Touch.same (by repeat (first | with_reducible exact Touch.refl _ _ | with_reducible refine Touch.alloc ?_ _ | with_reducible refine Touch.drewN ?_ _ | with_reducible refine Touch.drew ?_)) hT6; have hk0 := (Touch.cell hq (p := ⟨g, 0, none⟩) (by have := H1.out.lt; simp; omega) (fun e => e)).trans hcg; have hk1 := (Touch.cell hq (p := ⟨w.heap.size, 0, none⟩) (by simp) (fun e => e)).trans i0; have hk2 := (Touch.cell hq (p := ⟨w.heap.size, 1, none⟩) (by simp) (fun e => e)).trans i1; have hl6 : w.heap.size < w6.heap.size := Nat.lt_of_lt_of_le (by simp) (Touch.size hq); have HT6 := Lib.hid (((Touch.refl NoB w).alloc _).same hq); clear hT6 hq))
  all_goals
    go_wp2_with fail
    refine (HOF.out _ (HT6.out.same (by repeat (first | with_reducible exact Touch.refl _ _ | with_reducible refine Touch.alloc ?_ _ | with_reducible refine Touch.drewN ?_ _ | with_reducible refine Touch.drew ?_)))).mono ?_
    rintro e w7 ⟨rfl, hT7⟩
    have cm := (Touch.cell (HT6.out.same (Touch.same (by repeat (first | with_reducible exact Touch.refl _ _ | with_reducible refine Touch.alloc ?_ _ | with_reducible refine Touch.drewN ?_ _ | with_reducible refine Touch.drew ?_)) hT7)) (p := ⟨G, 0, none⟩) htl (fun e => e)).trans ct
    have HT7 := Lib.hid (HT6.out.same (Touch.same (by repeat (first | with_reducible exact Touch.refl _ _ | with_reducible refine Touch.alloc ?_ _ | with_reducible refine Touch.drewN ?_ _ | with_reducible refine Touch.drew ?_)) hT7))
    clear hT7
    go_wp2
    go_ret2
    exact ⟨rfl, HT7.out.same (by repeat (first | with_reducible exact Touch.refl _ _ | with_reducible refine Touch.alloc ?_ _ | with_reducible refine Touch.drewN ?_ _ | with_reducible refine Touch.drew ?_))⟩
theorem rget_arg (h : RSt w F g room most ps ds bs) (hu : UniqB bs) (i x c : Int) (hn : hasI ps i x = true) {j k : Nat} {b : Tb} (hb : bs[j]? = some b) (hk : b.ids[k]? = some (i, x)) (hc : isC c = false) :
    Calls Try.prog 17 #[.pointer (some ⟨g, 0, none⟩), .agg #[.int .i64 i, .int .i64 x], .int .i64 c] w fun e w' => e = .returned (.tuple #[.int .i64 0, .int .i64 1]) ∧ Touch NoB w w' := by
  obtain ⟨φ, gi, ts, vl, h1, h2, h3⟩ := h
  obtain ⟨t, ht, rfl⟩ := rat h2 hb
  subst h2
  have hk' : (t.l.map Prod.fst)[k]? = some (i, x) := hk
  have HOF := Lib.hid (fun W (hW : Touch NoB w W) => rs_of (h1.quiet hW) hu ht hk')
  have HR := Lib.hid (fun W => rright_any c W)
  rw [hc] at HR
  have H1 := Lib.hid h1
  have HN := Lib.hid hn
  clear h1 h3 hn hb hk hk' ht hu hc
  go_enter Try.func17, Try.ntmps17
  go_wp2
  have hid := alloc_blk w #[.int .i64 i, .int .i64 x] 30 rfl
  have hcg : (w.alloc (.cells #[.int .i64 i, .int .i64 x] 30)).cell? ⟨g, 0, none⟩ = some (.pointer (some ⟨gi, 0, none⟩)) := (H1.out.quiet ((Touch.refl NoB w).alloc _)).c0
  have i0 : (w.alloc (.cells #[.int .i64 i, .int .i64 x] 30)).cell? ⟨w.heap.size, 0, none⟩ = some (.int .i64 i) := cell_blk hid 0
  have i1 : (w.alloc (.cells #[.int .i64 i, .int .i64 x] 30)).cell? ⟨w.heap.size, 1, none⟩ = some (.int .i64 x) := cell_blk hid 1
  clear hid
  go_region_held3 (fun w' => w'.cell? ⟨g, 0, none⟩ = some (.pointer (some ⟨gi, 0, none⟩)) ∧ w'.cell? ⟨w.heap.size, 0, none⟩ = some (.int .i64 i) ∧ w'.cell? ⟨w.heap.size, 1, none⟩ = some (.int .i64 x)) (first | exact ⟨hcg, i0, i1⟩ | exact ⟨hk0, hk1, hk2⟩ | go_keep)
    (first | (go_at_call 43; refine (rhas_any gi room i x ps ds _ _ ((H1.out.quiet ((Touch.refl NoB w).alloc (.cells #[.int .i64 i, .int .i64 x] 30))).quiet (by repeat (first | with_reducible exact Touch.refl _ _ | with_reducible refine Touch.alloc ?_ _ | with_reducible refine Touch.drewN ?_ _ | with_reducible refine Touch.drew ?_))).own).mono ?_; rw [HN.out]; rintro e w6 ⟨rfl, hT6⟩; have hq : Touch NoB (w.alloc (.cells #[.int .i64 i, .int .i64 x] 30)) w6 := Touch.same (by repeat (first | with_reducible exact Touch.refl _ _ | with_reducible refine Touch.alloc ?_ _ | with_reducible refine Touch.drewN ?_ _ | with_reducible refine Touch.drew ?_)) hT6; have hk0 := (Touch.cell hq (p := ⟨g, 0, none⟩) (by have := H1.out.lt; simp; omega) (fun e => e)).trans hcg; have hk1 := (Touch.cell hq (p := ⟨w.heap.size, 0, none⟩) (by simp) (fun e => e)).trans i0; have hk2 := (Touch.cell hq (p := ⟨w.heap.size, 1, none⟩) (by simp) (fun e => e)).trans i1; have hl6 : w.heap.size < w6.heap.size := Nat.lt_of_lt_of_le (by simp) (Touch.size hq); have HT6 := Lib.hid (((Touch.refl NoB w).alloc _).same hq); clear hT6 hq))
  all_goals
    go_wp2_with fail
    refine (HR.out _).mono ?_
    rintro e w7 ⟨rfl, rfl⟩
    go_wp2
    go_ret2
    exact ⟨rfl, HT6.out.same (by repeat (first | with_reducible exact Touch.refl _ _ | with_reducible refine Touch.alloc ?_ _ | with_reducible refine Touch.drewN ?_ _ | with_reducible refine Touch.drew ?_))⟩
theorem rget_none (h : RSt w F g room most ps ds bs) (hu : UniqB bs) (i x c : Int) (hn : hasI ps i x = true) {j k : Nat} {b : Tb} (hb : bs[j]? = some b) (hk : b.ids[k]? = some (i, x)) (hc : isC c = true) (hbit : bitB b.m c.toNat = false) :
    Calls Try.prog 17 #[.pointer (some ⟨g, 0, none⟩), .agg #[.int .i64 i, .int .i64 x], .int .i64 c] w fun e w' => e = .returned (.tuple #[.int .i64 0, .int .i64 12]) ∧ Touch NoB w w' := by
  obtain ⟨φ, gi, ts, vl, h1, h2, h3⟩ := h
  obtain ⟨t, ht, rfl⟩ := rat h2 hb
  subst h2
  have hk' : (t.l.map Prod.fst)[k]? = some (i, x) := hk
  have HOF := Lib.hid (fun W (hW : Touch NoB w W) => rs_of (h1.quiet hW) hu ht hk')
  obtain ⟨hm0, hm1⟩ := h1.m0 j t ht
  have HGT := Lib.hid (fun W (hW : Touch NoB w W) => rtget_no t.g t.m k c t.l _ W ((h1.tab j t ht).quiet hW) hm0 hm1 (by have hbit' : bitB t.m c.toNat = false := hbit; unfold colB; rw [hbit']; simp))
  obtain ⟨G, hG⟩ : ∃ G, t.g = G := ⟨_, rfl⟩
  rw [hG] at HOF HGT
  have HR := Lib.hid (fun W => rright_any c W)
  rw [hc] at HR
  have H1 := Lib.hid h1
  have HN := Lib.hid hn
  clear h1 h3 hn hb hk hk' ht hu hc hbit hG hm0 hm1
  go_enter Try.func17, Try.ntmps17
  go_wp2
  have hid := alloc_blk w #[.int .i64 i, .int .i64 x] 30 rfl
  have hcg : (w.alloc (.cells #[.int .i64 i, .int .i64 x] 30)).cell? ⟨g, 0, none⟩ = some (.pointer (some ⟨gi, 0, none⟩)) := (H1.out.quiet ((Touch.refl NoB w).alloc _)).c0
  have i0 : (w.alloc (.cells #[.int .i64 i, .int .i64 x] 30)).cell? ⟨w.heap.size, 0, none⟩ = some (.int .i64 i) := cell_blk hid 0
  have i1 : (w.alloc (.cells #[.int .i64 i, .int .i64 x] 30)).cell? ⟨w.heap.size, 1, none⟩ = some (.int .i64 x) := cell_blk hid 1
  clear hid
  go_region_held3 (fun w' => w'.cell? ⟨g, 0, none⟩ = some (.pointer (some ⟨gi, 0, none⟩)) ∧ w'.cell? ⟨w.heap.size, 0, none⟩ = some (.int .i64 i) ∧ w'.cell? ⟨w.heap.size, 1, none⟩ = some (.int .i64 x)) (first | exact ⟨hcg, i0, i1⟩ | exact ⟨hk0, hk1, hk2⟩ | go_keep)
    (first | (go_at_call 43; refine (rhas_any gi room i x ps ds _ _ ((H1.out.quiet ((Touch.refl NoB w).alloc (.cells #[.int .i64 i, .int .i64 x] 30))).quiet (by repeat (first | with_reducible exact Touch.refl _ _ | with_reducible refine Touch.alloc ?_ _ | with_reducible refine Touch.drewN ?_ _ | with_reducible refine Touch.drew ?_))).own).mono ?_; rw [HN.out]; rintro e w6 ⟨rfl, hT6⟩; have hq : Touch NoB (w.alloc (.cells #[.int .i64 i, .int .i64 x] 30)) w6 := Touch.same (by repeat (first | with_reducible exact Touch.refl _ _ | with_reducible refine Touch.alloc ?_ _ | with_reducible refine Touch.drewN ?_ _ | with_reducible refine Touch.drew ?_)) hT6; have hk0 := (Touch.cell hq (p := ⟨g, 0, none⟩) (by have := H1.out.lt; simp; omega) (fun e => e)).trans hcg; have hk1 := (Touch.cell hq (p := ⟨w.heap.size, 0, none⟩) (by simp) (fun e => e)).trans i0; have hk2 := (Touch.cell hq (p := ⟨w.heap.size, 1, none⟩) (by simp) (fun e => e)).trans i1; have hl6 : w.heap.size < w6.heap.size := Nat.lt_of_lt_of_le (by simp) (Touch.size hq); have HT6 := Lib.hid (((Touch.refl NoB w).alloc _).same hq); clear hT6 hq))
  all_goals
    go_wp2_with fail
    refine (HR.out _).mono ?_
    rintro e w7 ⟨rfl, rfl⟩
    go_wp2_with fail
    refine (HOF.out _ (HT6.out.same (by repeat (first | with_reducible exact Touch.refl _ _ | with_reducible refine Touch.alloc ?_ _ | with_reducible refine Touch.drewN ?_ _ | with_reducible refine Touch.drew ?_)))).mono ?_
    rintro e w7 ⟨rfl, hT7⟩
    have HT7 := Lib.hid (HT6.out.same (Touch.same (by repeat (first | with_reducible exact Touch.refl _ _ | with_reducible refine Touch.alloc ?_ _ | with_reducible refine Touch.drewN ?_ _ | with_reducible refine Touch.drew ?_)) hT7))
    clear hT7
    go_wp2_with fail
    refine (HGT.out _ (HT7.out.same (by repeat (first | with_reducible exact Touch.refl _ _ | with_reducible refine Touch.alloc ?_ _ | with_reducible refine Touch.drewN ?_ _ | with_reducible refine Touch.drew ?_)))).mono ?_
    rintro e w8 ⟨rfl, rfl⟩
    go_wp2
    go_ret2
    exact ⟨rfl, HT7.out.same (by repeat (first | with_reducible exact Touch.refl _ _ | with_reducible refine Touch.alloc ?_ _ | with_reducible refine Touch.drewN ?_ _ | with_reducible refine Touch.drew ?_))⟩
theorem rget_some (h : RSt w F g room most ps ds bs) (hu : UniqB bs) (i x c : Int) (hn : hasI ps i x = true) {j k : Nat} {b : Tb} (hb : bs[j]? = some b) (hk : b.ids[k]? = some (i, x)) (hc : isC c = true) (hbit : bitB b.m c.toNat = true) :
    Calls Try.prog 17 #[.pointer (some ⟨g, 0, none⟩), .agg #[.int .i64 i, .int .i64 x], .int .i64 c] w fun e w' => e = .returned (.tuple #[.int .i64 ((b.cf c.toNat).getD k 0), .int .i64 0]) ∧ Touch NoB w w' := by
  obtain ⟨φ, gi, ts, vl, h1, h2, h3⟩ := h
  obtain ⟨t, ht, rfl⟩ := rat h2 hb
  subst h2
  have hk' : (t.l.map Prod.fst)[k]? = some (i, x) := hk
  have HOF := Lib.hid (fun W (hW : Touch NoB w W) => rs_of (h1.quiet hW) hu ht hk')
  obtain ⟨hm0, hm1⟩ := h1.m0 j t ht
  obtain ⟨c', rfl⟩ := Int.eq_ofNat_of_zero_le (by unfold isC at hc; simp at hc; omega : 0 ≤ c)
  have hc16 : c' < 16 := by unfold isC at hc; simp at hc; omega
  obtain ⟨p, hp⟩ : ∃ p, t.l[k]? = some p := ⟨_, List.getElem?_eq_getElem (by have := (List.getElem?_eq_some_iff.1 hk').1; simpa using this)⟩
  have hbit' : bitB t.m c' = true := hbit
  have hv : (t.b.cf c').getD k 0 = p.2 c' := colsOf_at hc16 hbit' hp
  simp only [Int.toNat_natCast] at *
  rw [hv]
  have HGT := Lib.hid (fun W (hW : Touch NoB w W) => rtget_yes t.g k c' t.m p t.l _ W ((h1.tab j t ht).quiet hW) hm0 hm1 hp hc16 hbit')
  obtain ⟨G, hG⟩ : ∃ G, t.g = G := ⟨_, rfl⟩
  obtain ⟨V, hV⟩ : ∃ V, p.2 c' = V := ⟨_, rfl⟩
  rw [hG] at HOF HGT
  rw [hV] at HGT
  rw [hV]
  have HR := Lib.hid (fun W => rright_any (c' : Int) W)
  rw [hc] at HR
  have H1 := Lib.hid h1
  have HN := Lib.hid hn
  clear h1 h3 hn hb hk hk' ht hu hc hbit hG hm0 hm1 hV hv hp hbit' hc16
  go_enter Try.func17, Try.ntmps17
  go_wp2
  have hid := alloc_blk w #[.int .i64 i, .int .i64 x] 30 rfl
  have hcg : (w.alloc (.cells #[.int .i64 i, .int .i64 x] 30)).cell? ⟨g, 0, none⟩ = some (.pointer (some ⟨gi, 0, none⟩)) := (H1.out.quiet ((Touch.refl NoB w).alloc _)).c0
  have i0 : (w.alloc (.cells #[.int .i64 i, .int .i64 x] 30)).cell? ⟨w.heap.size, 0, none⟩ = some (.int .i64 i) := cell_blk hid 0
  have i1 : (w.alloc (.cells #[.int .i64 i, .int .i64 x] 30)).cell? ⟨w.heap.size, 1, none⟩ = some (.int .i64 x) := cell_blk hid 1
  clear hid
  go_region_held3 (fun w' => w'.cell? ⟨g, 0, none⟩ = some (.pointer (some ⟨gi, 0, none⟩)) ∧ w'.cell? ⟨w.heap.size, 0, none⟩ = some (.int .i64 i) ∧ w'.cell? ⟨w.heap.size, 1, none⟩ = some (.int .i64 x)) (first | exact ⟨hcg, i0, i1⟩ | exact ⟨hk0, hk1, hk2⟩ | go_keep)
    (first | (go_at_call 43; refine (rhas_any gi room i x ps ds _ _ ((H1.out.quiet ((Touch.refl NoB w).alloc (.cells #[.int .i64 i, .int .i64 x] 30))).quiet (by repeat (first | with_reducible exact Touch.refl _ _ | with_reducible refine Touch.alloc ?_ _ | with_reducible refine Touch.drewN ?_ _ | with_reducible refine Touch.drew ?_))).own).mono ?_; rw [HN.out]; rintro e w6 ⟨rfl, hT6⟩; have hq : Touch NoB (w.alloc (.cells #[.int .i64 i, .int .i64 x] 30)) w6 := Touch.same (by repeat (first | with_reducible exact Touch.refl _ _ | with_reducible refine Touch.alloc ?_ _ | with_reducible refine Touch.drewN ?_ _ | with_reducible refine Touch.drew ?_)) hT6; have hk0 := (Touch.cell hq (p := ⟨g, 0, none⟩) (by have := H1.out.lt; simp; omega) (fun e => e)).trans hcg; have hk1 := (Touch.cell hq (p := ⟨w.heap.size, 0, none⟩) (by simp) (fun e => e)).trans i0; have hk2 := (Touch.cell hq (p := ⟨w.heap.size, 1, none⟩) (by simp) (fun e => e)).trans i1; have hl6 : w.heap.size < w6.heap.size := Nat.lt_of_lt_of_le (by simp) (Touch.size hq); have HT6 := Lib.hid (((Touch.refl NoB w).alloc _).same hq); clear hT6 hq))
  all_goals
    go_wp2_with fail
    refine (HR.out _).mono ?_
    rintro e w7 ⟨rfl, rfl⟩
    go_wp2_with fail
    refine (HOF.out _ (HT6.out.same (by repeat (first | with_reducible exact Touch.refl _ _ | with_reducible refine Touch.alloc ?_ _ | with_reducible refine Touch.drewN ?_ _ | with_reducible refine Touch.drew ?_)))).mono ?_
    rintro e w7 ⟨rfl, hT7⟩
    have HT7 := Lib.hid (HT6.out.same (Touch.same (by repeat (first | with_reducible exact Touch.refl _ _ | with_reducible refine Touch.alloc ?_ _ | with_reducible refine Touch.drewN ?_ _ | with_reducible refine Touch.drew ?_)) hT7))
    clear hT7
    go_wp2_with fail
    refine (HGT.out _ (HT7.out.same (by repeat (first | with_reducible exact Touch.refl _ _ | with_reducible refine Touch.alloc ?_ _ | with_reducible refine Touch.drewN ?_ _ | with_reducible refine Touch.drew ?_)))).mono ?_
    rintro e w8 ⟨rfl, rfl⟩
    go_wp2
    go_ret2
    exact ⟨rfl, HT7.out.same (by repeat (first | with_reducible exact Touch.refl _ _ | with_reducible refine Touch.alloc ?_ _ | with_reducible refine Touch.drewN ?_ _ | with_reducible refine Touch.drew ?_))⟩
end
end Go.Proofs.Yticekldgjlihmaa
