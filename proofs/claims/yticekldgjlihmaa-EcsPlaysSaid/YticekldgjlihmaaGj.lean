/-
  Put of the document's own Store, where a value comes to it; Take.
-/
import Derived.Test.YticekldgjlihmaaGi
namespace Go.Proofs.Yticekldgjlihmaa
open Go.ChangeShapes Go.WideShapes Go.ChangeAt Go.RowKit Go.Maps
set_option maxRecDepth 100000
set_option maxHeartbeats 16000000

theorem ropen_at {bs : List Tb} {m : Int} {b : Tb} (h : (openB bs m)[posB bs m]? = some b) : b.m = m := by
  unfold openB at h
  split at h
  · next hh =>
    unfold hasB at hh
    rw [h] at hh
    simpa using hh
  · rw [insT_at _ (by unfold posB; exact List.countP_le_length)] at h
    injection h with h
    rw [← h]
theorem enter_skip (bs : List Tb) {m : Int} (p : Int × Int) (cl : List (Int × Int)) {c : Nat} (v : Int) (hc : bitB m c = false) : enterB bs m p (cl ++ [((c : Int), v)]) = enterB bs m p cl := by
  unfold enterB modB
  rcases h : (openB bs m)[posB bs m]? with _ | b
  · rfl
  · have hm := ropen_at h
    simp only
    congr 1
    unfold addB
    rw [newCol_no (by rw [hm]; unfold colB; simp [hc])]
theorem min_wrap {c : Nat} (hc : c < 16) : min (IntKind.u64.wrap (c : Int)).toNat 16 = c := by
  rw [IntKind.wrap_u64]
  omega
theorem shl_bw {c : Nat} (hc : c < 16) : IntKind.u16.wrap ((2 : Int) ^ c) = bw c := by
  have h1 := bw_range hc
  rw [show ((2 : Int) ^ c) = bw c from by unfold bw; simp, IntKind.wrap_u16]
  omega

section
variable {w : World} {F : Nat → Prop} {g : Nat} {room most : Int} {ps : List (Int × Bool)} {ds : List Int} {bs : List Tb}
theorem RSt.more {F' : Nat → Prop} (h : RSt w F g room most ps ds bs) (hf : ∀ b, F b → F' b) : RSt w F' g room most ps ds bs := by
  obtain ⟨φ, gi, ts, vl, h1, h2, h3⟩ := h
  exact ⟨φ, gi, ts, vl, h1, h2, fun b hb => hf b (h3 b hb)⟩
theorem RMoveEnd.after {W w' : World} {j k : Nat} {b : Tb} {m : Int} {p : Int × Int} {more : List (Int × Int)} {z : Int} (h : RMoveEnd W F g room most ps ds bs j k b m p more z w') (hW : Touch NoB w W) : RMoveEnd w F g room most ps ds bs j k b m p more z w' := by
  unfold RMoveEnd at h ⊢
  split at h
  · next hh =>
    rw [if_pos hh]
    exact ⟨h.1, h.2.1.more (fun b hb => hb.imp id (fun hb => ⟨Nat.le_trans hW.size hb.1, hb.2⟩)), (hW.mono (fun _ e => e.elim)).trans h.2.2 (fun b hb => .inl hb)⟩
  · next hh =>
    rw [if_neg hh]
    exact ⟨h.1, hW.same h.2⟩
theorem RMoveEnd.code {w' : World} {j k : Nat} {b : Tb} {m : Int} {p : Int × Int} {more : List (Int × Int)} {z : Int} (h : RMoveEnd w F g room most ps ds bs j k b m p more z w') : z = 0 ∨ z = 10 := by
  unfold RMoveEnd at h
  split at h
  · exact .inl h.1
  · exact .inr h.1

theorem rput_more (h : RSt w F g room most ps ds bs) (hu : UniqB bs) (hbl : bs.length ≤ 1000) (hll : ∀ b ∈ bs, b.ids.length < 1000000) (i x v : Int) {c : Nat} (hn : hasI ps i x = true) {j k : Nat} {b : Tb} (hb : bs[j]? = some b) (hk : b.ids[k]? = some (i, x)) (hc : c < 16) (hbt : bitB b.m c = false) :
    Calls Try.prog 13 #[.pointer (some ⟨g, 0, none⟩), .agg #[.int .i64 i, .int .i64 x], .agg #[.int .i64 c, .int .i64 v]] w fun e w' => ∃ z, e = .returned (.int .i64 z) ∧ RMoveEnd w F g room most ps ds bs j k b (orM b.m c) (i, x) [((c : Int), v)] z w' := by
  have h0 := h
  obtain ⟨φ, gi, ts, vl, h1, h2, h3⟩ := h
  obtain ⟨t, ht, htb⟩ := rat h2 hb
  have hk' : (t.l.map Prod.fst)[k]? = some (i, x) := by rw [← htb] at hk; exact hk
  have htm : t.m = b.m := by rw [← htb]; rfl
  obtain ⟨ct, htl, _⟩ := (h1.tab j t ht).mask
  obtain ⟨hm0, hm1⟩ := h1.m0 j t ht
  have hu' : UniqB (ts.map RTb.b) := by rw [h2]; exact hu
  have HOF := Lib.hid (fun W (hW : Touch NoB w W) => rs_of (h1.quiet hW) hu' ht hk')
  have HHAS := Lib.hid (fun W (hW : Touch NoB w W) => rthas_any t.g t.m c W hm0 hm1 ((hW.cell (p := ⟨t.g, 0, none⟩) htl (fun e => e)).trans ct))
  rw [htm] at HHAS ct hm0 hm1
  rw [show colB b.m (c : Int) = false from by unfold colB; simp [hbt]] at HHAS
  have hz : ∀ b, w.heap.size ≤ b → φ b = 0 := fun b hb => by
    by_cases e : φ b = 0
    · exact e
    · have := h1.wf _ e; omega
  have HZ := Lib.hid hz
  have HMOVE := Lib.hid (fun W (hW : Touch NoB w W) => (rs_move (h1.quiet hW) h2 h3 hu hbl hll i x (orM b.m c) c v (orM_range hm1 hc) ht hk' (by rw [htm]; exact orM_ne hm0 hbt)).mono fun e w' ⟨z, a, y⟩ => (⟨z, a, by have := y.1.after hW; rwa [htb] at this, by have := y.2.1; rwa [htm] at this, y.2.2⟩ : ∃ z, e = Ending.returned (.int .i64 z) ∧ RMoveEnd w F g room most ps ds bs j k b (orM b.m c) (i, x) [((c : Int), v)] z w' ∧ w'.cell? ⟨t.g, 0, none⟩ = some (Value.int .u16 b.m) ∧ Touch (fun b => φ b ≠ 0) W w'))
  have hor := or_bw hm0 hm1 hc
  have hsl := shl_bw hc
  have hmin := min_wrap hc
  obtain ⟨G, hG⟩ : ∃ G, t.g = G := ⟨_, rfl⟩
  rw [hG] at HHAS HOF htl ct HMOVE
  have HR := Lib.hid (fun W => rright_any c W)
  rw [isC_nat hc] at HR
  have H1 := Lib.hid h1
  have HN := Lib.hid hn
  obtain ⟨R, hR⟩ : ∃ R : Int → World → Prop, R = fun z w' => RMoveEnd w F g room most ps ds bs j k b (orM b.m c) (i, x) [((c : Int), v)] z w' := ⟨_, rfl⟩
  have e1 : ∀ z w', RMoveEnd w F g room most ps ds bs j k b (orM b.m c) (i, x) [((c : Int), v)] z w' = R z w' := fun z w' => by rw [hR]
  simp only [e1] at HMOVE
  simp only [e1]
  obtain ⟨bm, hbm⟩ : ∃ bm, b.m = bm := ⟨_, rfl⟩
  rw [hbm] at ct hor HMOVE
  have HMV : Hid (∀ M, M = orM bm c → ∀ W, Touch NoB w W → Calls Try.prog 46 #[.pointer (some ⟨g, 0, none⟩), .agg #[.int .i64 i, .int .i64 x], .int .u16 M, .agg #[.int .i64 c, .int .i64 v]] W fun e w' => ∃ z, e = Ending.returned (.int .i64 z) ∧ R z w' ∧ w'.cell? ⟨G, 0, none⟩ = some (Value.int .u16 bm) ∧ Touch (fun b => φ b ≠ 0) W w') := Lib.hid (fun M hM W hW => by rw [hM]; exact HMOVE.out W hW)
  clear HMOVE
  clear h0 hz h1 h2 h3 hn hb hk hk' ht hu hu' hbt hm0 hm1 hG hR e1 htm htb hll hbl hbm
  go_enter Try.func13, Try.ntmps13
  go_wp2
  have hgl := H1.out.lt
  have hn0 := two_new w (.cells #[.int .i64 i, .int .i64 x] 30) (.cells #[.int .i64 c, .int .i64 v] 32)
  have hcg : ((w.alloc (.cells #[.int .i64 i, .int .i64 x] 30)).alloc (.cells #[.int .i64 c, .int .i64 v] 32)).cell? ⟨g, 0, none⟩ = some (.pointer (some ⟨gi, 0, none⟩)) := (H1.out.quiet (((Touch.refl NoB w).alloc (.cells #[.int .i64 i, .int .i64 x] 30)).alloc (.cells #[.int .i64 c, .int .i64 v] 32))).c0
  have i0 : ((w.alloc (.cells #[.int .i64 i, .int .i64 x] 30)).alloc (.cells #[.int .i64 c, .int .i64 v] 32)).cell? ⟨w.heap.size, 0, none⟩ = some (.int .i64 i) := cell_blk hn0.1 0
  have i1 : ((w.alloc (.cells #[.int .i64 i, .int .i64 x] 30)).alloc (.cells #[.int .i64 c, .int .i64 v] 32)).cell? ⟨w.heap.size, 1, none⟩ = some (.int .i64 x) := cell_blk hn0.1 1
  have j0 : ((w.alloc (.cells #[.int .i64 i, .int .i64 x] 30)).alloc (.cells #[.int .i64 c, .int .i64 v] 32)).cell? ⟨w.heap.size + 1, 0, none⟩ = some (.int .i64 c) := cell_blk hn0.2 0
  have j1 : ((w.alloc (.cells #[.int .i64 i, .int .i64 x] 30)).alloc (.cells #[.int .i64 c, .int .i64 v] 32)).cell? ⟨w.heap.size + 1, 1, none⟩ = some (.int .i64 v) := cell_blk hn0.2 1
  clear hn0
  go_region_held3 (fun w' => w'.cell? ⟨g, 0, none⟩ = some (.pointer (some ⟨gi, 0, none⟩)) ∧ w'.cell? ⟨w.heap.size, 0, none⟩ = some (.int .i64 i) ∧ w'.cell? ⟨w.heap.size, 1, none⟩ = some (.int .i64 x)) (first | exact ⟨hcg, i0, i1⟩ | exact ⟨hk0, hk1, hk2⟩ | go_keep)
    (first | (go_at_call 43; refine (rhas_any gi room i x ps ds _ _ ((H1.out.quiet (((Touch.refl NoB w).alloc (.cells #[.int .i64 i, .int .i64 x] 30)).alloc (.cells #[.int .i64 c, .int .i64 v] 32))).quiet (by repeat (first | with_reducible exact Touch.refl _ _ | with_reducible refine Touch.alloc ?_ _ | with_reducible refine Touch.drewN ?_ _ | with_reducible refine Touch.drew ?_))).own).mono ?_; rw [HN.out]; rintro e w6 ⟨rfl, hT6⟩; have hq : Touch NoB ((w.alloc (.cells #[.int .i64 i, .int .i64 x] 30)).alloc (.cells #[.int .i64 c, .int .i64 v] 32)) w6 := Touch.same (by repeat (first | with_reducible exact Touch.refl _ _ | with_reducible refine Touch.alloc ?_ _ | with_reducible refine Touch.drewN ?_ _ | with_reducible refine Touch.drew ?_)) hT6; have hk0 := (Touch.cell hq (p := ⟨g, 0, none⟩) (by simp; omega) (fun e => e)).trans hcg; have hk1 := (Touch.cell hq (p := ⟨w.heap.size, 0, none⟩) (by simp; omega) (fun e => e)).trans i0; have hk2 := (Touch.cell hq (p := ⟨w.heap.size, 1, none⟩) (by simp; omega) (fun e => e)).trans i1; have hk3 := (Touch.cell hq (p := ⟨w.heap.size + 1, 0, none⟩) (by simp) (fun e => e)).trans j0; have hk4 := (Touch.cell hq (p := ⟨w.heap.size + 1, 1, none⟩) (by simp) (fun e => e)).trans j1; have hl6 : w.heap.size + 1 < w6.heap.size := Nat.lt_of_lt_of_le (by simp) (Touch.size hq); have HT6 := Lib.hid ((((Touch.refl NoB w).alloc (.cells #[.int .i64 i, .int .i64 x] 30)).alloc (.cells #[.int .i64 c, .int .i64 v] 32)).same hq); clear hT6 hq))
  all_goals
    go_wp2_with fail
    refine (HR.out _).mono ?_
    rintro e w7 ⟨rfl, rfl⟩
    go_wp2_with fail
    refine (HOF.out _ (HT6.out.same (by repeat (first | with_reducible exact Touch.refl _ _ | with_reducible refine Touch.alloc ?_ _ | with_reducible refine Touch.drewN ?_ _ | with_reducible refine Touch.drew ?_)))).mono ?_
    rintro e w7 ⟨rfl, hT7⟩
    have hq7 : Touch NoB w6 w7 := Touch.same (by repeat (first | with_reducible exact Touch.refl _ _ | with_reducible refine Touch.alloc ?_ _ | with_reducible refine Touch.drewN ?_ _ | with_reducible refine Touch.drew ?_)) hT7
    have p0 := (hq7.cell (p := ⟨w.heap.size, 0, none⟩) (Nat.lt_of_succ_lt hl6) (fun e => e)).trans hk1
    have p1 := (hq7.cell (p := ⟨w.heap.size, 1, none⟩) (Nat.lt_of_succ_lt hl6) (fun e => e)).trans hk2
    have p3 := (hq7.cell (p := ⟨w.heap.size + 1, 0, none⟩) hl6 (fun e => e)).trans hk3
    have p4 := (hq7.cell (p := ⟨w.heap.size + 1, 1, none⟩) hl6 (fun e => e)).trans hk4
    have pm := ((HT6.out.same hq7).cell (p := ⟨G, 0, none⟩) htl (fun e => e)).trans ct
    have hl7 := Nat.lt_of_lt_of_le hl6 hq7.size
    have HT7 := Lib.hid (HT6.out.same hq7)
    clear hT7 hq7
    go_wp2_with fail
    refine (HHAS.out _ (HT7.out.same (by repeat (first | with_reducible exact Touch.refl _ _ | with_reducible refine Touch.alloc ?_ _ | with_reducible refine Touch.drewN ?_ _ | with_reducible refine Touch.drew ?_)))).mono ?_
    rintro e w8 ⟨rfl, rfl⟩
    go_wp2_with fail
    go_region_held3 (fun w' => w'.cell? ⟨G, 0, none⟩ = some (.int .u16 bm) ∧ w'.cell? ⟨w.heap.size, 0, none⟩ = some (.int .i64 i) ∧ w'.cell? ⟨w.heap.size, 1, none⟩ = some (.int .i64 x) ∧ w'.cell? ⟨w.heap.size + 1, 0, none⟩ = some (.int .i64 c) ∧ w'.cell? ⟨w.heap.size + 1, 1, none⟩ = some (.int .i64 v)) (first | exact ⟨pm, p0, p1, p3, p4⟩ | exact ⟨s0, s1, s2, s3, s4⟩ | go_keep)
      (first | (go_at_call 46; refine (HMV.out _ (by first | rfl | (rw [hmin, hsl]; exact hor)) _ (HT7.out.same (by repeat (first | with_reducible exact Touch.refl _ _ | with_reducible refine Touch.alloc ?_ _ | with_reducible refine Touch.drewN ?_ _ | with_reducible refine Touch.drew ?_)))).mono ?_; rintro e w9 ⟨z, rfl, hE, s0, hT9⟩; have hqq : Touch (fun b => φ b ≠ 0) w7 w9 := Touch.trans (by repeat (first | with_reducible exact Touch.refl _ _ | with_reducible refine Touch.alloc ?_ _ | with_reducible refine Touch.drewN ?_ _ | with_reducible refine Touch.drew ?_)) hT9 (fun b e => .inl e); have s1 := (Touch.cell hqq (p := ⟨w.heap.size, 0, none⟩) (Nat.lt_of_succ_lt hl7) (fun e => e (HZ.out _ (Nat.le_refl _)))).trans p0; have s2 := (Touch.cell hqq (p := ⟨w.heap.size, 1, none⟩) (Nat.lt_of_succ_lt hl7) (fun e => e (HZ.out _ (Nat.le_refl _)))).trans p1; have s3 := (Touch.cell hqq (p := ⟨w.heap.size + 1, 0, none⟩) hl7 (fun e => e (HZ.out _ (Nat.le_succ _)))).trans p3; have s4 := (Touch.cell hqq (p := ⟨w.heap.size + 1, 1, none⟩) hl7 (fun e => e (HZ.out _ (Nat.le_succ _)))).trans p4; have HE := Lib.hid hE; clear hE hT9 hqq))
    all_goals
      go_wp2
      go_ret
      exact ⟨_, rfl, HE.out⟩
end
end Go.Proofs.Yticekldgjlihmaa
