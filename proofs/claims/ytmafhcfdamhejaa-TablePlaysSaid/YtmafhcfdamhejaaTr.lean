/-
  The walk of TablePlays.
-/
import Derived.Test.YtmafhcfdamhejaaTq
import Derived.Deep.DeepCutAuto
import Derived.Deep.CutBlock
import Derived.Deep.RegionWith
import Derived.Deep.RegionHeld3
namespace Go.Proofs.Ytmafhcfdamhejaa
open Go.ChangeShapes Go.WideShapes Go.ChangeAt Go.RowKit Go.Maps

theorem touch_belowT {F : Nat → Prop} {w a b : World} {B : Nat} (h : Touch F w a) (k : Below B a b) (hB : w.heap.size ≤ B) : Touch F w b :=
  h.trans (G := fun x => B ≤ x) ⟨k.os, k.tape, k.output, k.size, fun x _ hx => k.block x (by omega)⟩ (fun x hx => .inr (by omega))
/-- The j-th element of the list of calls. -/
def TActAt (w : World) (b off j : Nat) (way row comp val i x : Int) (Ac : Option Addr) (n cp : Nat) : Prop :=
  w.cell? ⟨b, off + j * 7, none⟩ = some (.int .i64 way) ∧ w.cell? ⟨b, off + j * 7 + 1, none⟩ = some (.int .i64 row) ∧ w.cell? ⟨b, off + j * 7 + 2, none⟩ = some (.int .i64 comp) ∧ w.cell? ⟨b, off + j * 7 + 3, none⟩ = some (.int .i64 val) ∧
  w.cell? ⟨b, off + j * 7 + 4, none⟩ = some (.int .i64 i) ∧ w.cell? ⟨b, off + j * 7 + 5, none⟩ = some (.int .i64 x) ∧ w.cell? ⟨b, off + j * 7 + 6, none⟩ = some (.slice Ac n cp)
/-- What holds at the head of TablePlays' loop. -/
def TPRel (w : World) (B N gt go gr : Nat) (m : Int) (i : Value) (wr : World) : Prop :=
  ∃ k : Nat, k ≤ N ∧ i = .int .i64 k ∧ ∃ l, LOk l k ∧ TPMem B wr gt go gr m l l k k [] ∧ Touch NoB w wr
/-- What holds behind the switch. -/
def TPEnd (w : World) (B gt go gr k : Nat) (m : Int) (xs : List (Nat × Obj)) (wr : World) : Prop :=
  ∃ l, LOk l (k + 1) ∧ TPMem B wr gt go gr m l l (k + 1) (k + 1) xs ∧ Touch NoB w wr

theorem cells_now {w w' : World} {B : Nat} {A : Option Addr} {cl : List (Int × Int)} (h : CellsAt w NoB A cl) (t : Touch NoB w w') (hB : w.heap.size ≤ B) : CellsAt w' (fun b => B ≤ b) A cl := by
  intro j c v hj
  obtain ⟨b, off, e, hb, _, h1, h2⟩ := h j c v hj
  obtain ⟨b', off', e', hb', _, h1', h2'⟩ := h.touch t j c v hj
  rw [e] at e'
  injection e' with e'
  injection e' with e1 e2
  subst e1 e2
  exact ⟨b, off, e, hb', fun (x : B ≤ b) => by omega, h1', h2'⟩

theorem tp_start {m : Int} {w1 w2 w3 w4 : World} (h1 : TO w2 (fun b => b = w1.heap.size) w1.heap.size m [] (fun _ => []) (.map []) 0)
    (h2 : TO w3 (fun b => b = w2.heap.size) w2.heap.size 3 [] (fun _ => []) (.map []) 0) (t3 : Touch NoB w2 w3) (h3 : RT w4 (fun b => b = w3.heap.size) w3.heap.size m []) (t4 : Touch NoB w3 w4) :
    TPMem w1.heap.size w4 w1.heap.size w2.heap.size w3.heap.size m [] [] 0 0 [] := by
  have l1 : w1.heap.size < w2.heap.size := by obtain ⟨_, _, _, _, h⟩ := h1; exact h.lt
  have l2 : w2.heap.size < w3.heap.size := by obtain ⟨_, _, _, _, h⟩ := h2; exact h.lt
  have l3 : w3.heap.size < w4.heap.size := by obtain ⟨_, h, _⟩ := h3; exact blk_lt h
  refine ⟨fun b => b = w1.heap.size, fun b => b = w2.heap.size, fun b => b = w3.heap.size, ⟨_, 0, ?_, mapis_nil, Nat.le_refl _⟩, ⟨_, _, 0, h2.quiet t4, mapis_nil, Nat.le_refl _, fun c _ _ => rfl⟩, h3, by simp, ?_, ?_, ?_, ?_, ?_, ?_, by simp, by simp, by simp, by omega⟩
  · rw [colsOf_nil]
    exact h1.quiet (t3.same t4)
  · rintro b rfl; omega
  · rintro b rfl; omega
  · rintro b rfl; omega
  · rintro b rfl e; omega
  · rintro b rfl e; omega
  · rintro b rfl e; omega

set_option maxHeartbeats 4000000 in
set_option maxRecDepth 100000 in
theorem tablePlays_in (m : Int) (A : Option Addr) (N cap : Nat) (w : World) (hm : 0 ≤ m) (hm2 : m < 65536) (hN : N ≤ 80)
    (hz : ∀ j : Nat, j < N → ∃ b off way row comp val i x Ac n cp cl, A = some ⟨b, off, none⟩ ∧ b < w.heap.size ∧ TActAt w b off j way row comp val i x Ac n cp ∧ I64 i ∧ I64 x ∧ n ≤ 9223372036854775807 ∧ cl.length = n ∧ CellsAt w NoB Ac cl) :
    Calls Try.prog 4 #[.int .u16 m, .slice A N cap] w fun e w' => e = .returned (.bool true) ∧ Touch NoB w w' := by
  have HZ := Lib.hid hz
  clear hz
  have d3 : decide (80 < (N : Int)) = false := by simp; omega
  go_enter Try.func4, Try.ntmps4
  go_wp2_with fail
  refine (talive_any w).mono ?_
  rintro e w1 ⟨rfl, hT⟩
  have HT := Lib.hid hT
  have hs1 := hT.size
  clear hT
  go_wp2_with fail
  refine (tnew_any m w1).mono ?_
  rintro e w2 ⟨rfl, hO1, hT2⟩
  have H1 := Lib.hid (And.intro hO1 hT2)
  clear hO1 hT2
  go_wp2_with fail
  refine (tnew_any 3 w2).mono ?_
  rintro e w3 ⟨rfl, hO2, hT3⟩
  have H2 := Lib.hid (And.intro hO2 hT3)
  clear hO2 hT3
  go_wp2_with fail
  refine (rtnew_any m w3).mono ?_
  rintro e w4 ⟨rfl, hO3, hT4⟩
  have HS : Hid (TPRel w w1.heap.size N w1.heap.size w2.heap.size w3.heap.size m (.int .i64 0) w4) :=
    ⟨0, Nat.zero_le _, rfl, [], lok_nil, tp_start H1.out.1 H2.out.1 H2.out.2 hO3 hT4, ((HT.out.same H1.out.2).same H2.out.2).same hT4⟩
  obtain ⟨gt, hgt⟩ : ∃ g, w1.heap.size = g := ⟨_, rfl⟩
  obtain ⟨go, hgo⟩ : ∃ g, w2.heap.size = g := ⟨_, rfl⟩
  obtain ⟨gr, hgr⟩ : ∃ g, w3.heap.size = g := ⟨_, rfl⟩
  rw [hgo, hgr] at HS
  rw [hgt, hgo, hgr]
  obtain ⟨B, hB⟩ : ∃ B, w1.heap.size = B := ⟨_, rfl⟩
  rw [hB] at hgt HS hs1
  subst hgt
  clear hO3 hT4 H1 H2 hgo hgr hB
  go_wp2
  go_loopw [9] (fun i wr => TPRel w B N B go gr m i wr) (fun i _ => N - (intOf i).toNat)
  case atStart => exact HS.out
  case round =>
    clear HS
    obtain ⟨k, hk, rfl, l, hI, hM, hTr⟩ := hrel
    have hsr := hTr.size
    have HI := Lib.hid hI
    have HM := Lib.hid hM
    have HTr := Lib.hid hTr
    have hBr := hM.size
    clear hI hM hTr
    by_cases hlt : k < N
    · obtain ⟨b, off, way, row, comp, val, i, x, Ac, n, cp, cl, rfl, hb, hact, hi, hx, hn, hcl, hC⟩ := HZ.out k hlt
      obtain ⟨a0, a1, a2, a3, a4, a5, a6⟩ := hact
      have c0 := (HTr.out.cell hb (fun x => x)).trans a0
      have c1 := (HTr.out.cell hb (fun x => x)).trans a1
      have c2 := (HTr.out.cell hb (fun x => x)).trans a2
      have c3 := (HTr.out.cell hb (fun x => x)).trans a3
      have c4 := (HTr.out.cell hb (fun x => x)).trans a4
      have c5 := (HTr.out.cell hb (fun x => x)).trans a5
      have c6 := (HTr.out.cell hb (fun x => x)).trans a6
      have HIX := Lib.hid (And.intro hi hx)
      have HCL := Lib.hid hcl
      have HC := Lib.hid hC
      clear a0 a1 a2 a3 a4 a5 a6 hi hx hcl hC
      have hbr : b < wr.heap.size := by omega
      by_cases hn30 : 30 < n
      · go_wp2
        go_ret
        exact ⟨rfl, HTr.out.alloc _⟩
      · go_wp2_with fail
        refine (tp_other (HM.out.box (.cells #[.int .i64 way, .int .i64 row, .int .i64 comp, .int .i64 val, .int .i64 i, .int .i64 x, .slice Ac n cp] 53)) (by omega)).mono ?_
        rintro e w5 ⟨v, rfl, hM3, hB3⟩
        obtain ⟨ga, hga⟩ : ∃ ga, wr.heap.size = ga := ⟨_, rfl⟩
        have hT3 := touch_belowT (HTr.out.alloc (.cells #[.int .i64 way, .int .i64 row, .int .i64 comp, .int .i64 val, .int .i64 i, .int .i64 x, .slice Ac n cp] 53)) hB3 hs1
        rw [hga] at hM3
        rw [hga]
        have hg3 := hM3.blk (List.mem_singleton.2 rfl)
        have k0 : w5.cell? ⟨ga, 0, none⟩ = some (.int .i64 way) := cell_blk hg3 0
        have k1 : w5.cell? ⟨ga, 1, none⟩ = some (.int .i64 row) := cell_blk hg3 1
        have k2 : w5.cell? ⟨ga, 2, none⟩ = some (.int .i64 comp) := cell_blk hg3 2
        have k3 : w5.cell? ⟨ga, 3, none⟩ = some (.int .i64 val) := cell_blk hg3 3
        have k4 : w5.cell? ⟨ga, 4, none⟩ = some (.int .i64 i) := cell_blk hg3 4
        have k5 : w5.cell? ⟨ga, 5, none⟩ = some (.int .i64 x) := cell_blk hg3 5
        have k6 : w5.cell? ⟨ga, 6, none⟩ = some (.slice Ac n cp) := cell_blk hg3 6
        have hl3 := blk_lt hg3
        have HM4 := Lib.hid hM3
        have HT4 := Lib.hid hT3
        clear hM3 hB3 hT3 HM HTr hg3 c0 c1 c2 c3 c4 c5 c6 hsr hBr hbr hga
        go_upto_block 2 with fail
        go_cut [] (fun wx => TPEnd w B B go gr k m [(ga, (.cells #[.int .i64 way, .int .i64 row, .int .i64 comp, .int .i64 val, .int .i64 i, .int .i64 x, .slice Ac n cp] 53))] wx)
        case first =>
          by_cases e0 : way = 0
          · subst e0
            obtain ⟨v0, l0, hI0, hS0, hR0⟩ := tp_add HI.out hm hm2 (by omega) HIX.out.1 HIX.out.2 cl n HCL.out (by omega)
            have HS := Lib.hid hS0
            have HRr := Lib.hid hR0
            have HI0 := Lib.hid hI0
            clear hS0 hR0 hI0
            have dv : (v0 != v0) = false := by simp
            go_wp2_with fail
            go_region_held3 (fun w' => w'.cell? ⟨ga, 4, none⟩ = some (.int .i64 i) ∧ w'.cell? ⟨ga, 5, none⟩ = some (.int .i64 x) ∧ w'.cell? ⟨ga, 6, none⟩ = some (.slice Ac n cp)) (first | go_keep | exact ⟨hk4, hk5, hk6⟩)
              (first | (go_at_call 23; refine (HS.out _ _ _ _ _ _ _ _ _ _ (HM4.out.quiet (by repeat (first | with_reducible exact Touch.refl _ _ | with_reducible refine Touch.alloc ?_ _ | with_reducible refine Touch.drewN ?_ _ | with_reducible refine Touch.drew ?_))) (cells_now HC.out (HT4.out.same (by repeat (first | with_reducible exact Touch.refl _ _ | with_reducible refine Touch.alloc ?_ _ | with_reducible refine Touch.drewN ?_ _ | with_reducible refine Touch.drew ?_))) hs1)).mono ?_; rintro e w6 ⟨rfl, hm, hB5⟩; have ht := touch_belowT (HT4.out.same (by repeat (first | with_reducible exact Touch.refl _ _ | with_reducible refine Touch.alloc ?_ _ | with_reducible refine Touch.drewN ?_ _ | with_reducible refine Touch.drew ?_))) hB5 hs1; have hk4 : w6.cell? ⟨ga, 4, none⟩ = some (.int .i64 i) := cell_blk (hm.blk (List.mem_singleton.2 rfl)) 4; have hk5 : w6.cell? ⟨ga, 5, none⟩ = some (.int .i64 x) := cell_blk (hm.blk (List.mem_singleton.2 rfl)) 5; have hk6 : w6.cell? ⟨ga, 6, none⟩ = some (.slice Ac n cp) := cell_blk (hm.blk (List.mem_singleton.2 rfl)) 6; clear HM4 HT4; have HM4 := Lib.hid hm; have HT4 := Lib.hid ht; clear hm hB5 ht)
                     | (go_at_call 24; refine (HRr.out _ _ _ _ _ _ _ _ _ _ _ (HM4.out.quiet (by repeat (first | with_reducible exact Touch.refl _ _ | with_reducible refine Touch.alloc ?_ _ | with_reducible refine Touch.drewN ?_ _ | with_reducible refine Touch.drew ?_))) (cells_now HC.out (HT4.out.same (by repeat (first | with_reducible exact Touch.refl _ _ | with_reducible refine Touch.alloc ?_ _ | with_reducible refine Touch.drewN ?_ _ | with_reducible refine Touch.drew ?_))) hs1)).mono ?_; rintro e w7 ⟨rfl, hm, hB5⟩; have ht := touch_belowT (HT4.out.same (by repeat (first | with_reducible exact Touch.refl _ _ | with_reducible refine Touch.alloc ?_ _ | with_reducible refine Touch.drewN ?_ _ | with_reducible refine Touch.drew ?_))) hB5 hs1; have hk4 : w7.cell? ⟨ga, 4, none⟩ = some (.int .i64 i) := cell_blk (hm.blk (List.mem_singleton.2 rfl)) 4; have hk5 : w7.cell? ⟨ga, 5, none⟩ = some (.int .i64 x) := cell_blk (hm.blk (List.mem_singleton.2 rfl)) 5; have hk6 : w7.cell? ⟨ga, 6, none⟩ = some (.slice Ac n cp) := cell_blk (hm.blk (List.mem_singleton.2 rfl)) 6; clear HM4 HT4; have HM4 := Lib.hid hm; have HT4 := Lib.hid ht; clear hm hB5 ht))
            all_goals
              go_wp2
              go_meet
              exact ⟨l0, HI0.out, HM4.out.quiet (by repeat (first | with_reducible exact Touch.refl _ _ | with_reducible refine Touch.alloc ?_ _ | with_reducible refine Touch.drewN ?_ _ | with_reducible refine Touch.drew ?_)), HT4.out.same (by repeat (first | with_reducible exact Touch.refl _ _ | with_reducible refine Touch.alloc ?_ _ | with_reducible refine Touch.drewN ?_ _ | with_reducible refine Touch.drew ?_))⟩
          · by_cases e1 : way = 1
            · subst e1
              obtain ⟨ls, b0, l0, hI0, hls, hS0, hR0⟩ := tp_remove HI.out hm hm2 (by omega) row
              have HS := Lib.hid hS0
              have HRr := Lib.hid hR0
              have HI0 := Lib.hid hI0
              clear hS0 hR0 hI0
              have db : (b0 != b0) = false := by cases b0 <;> rfl
              go_wp2_with fail
              refine (HS.out _ _ _ _ _ _ _ _ HM4.out).mono ?_
              rintro e w6 ⟨v6, rfl, hR6, hB6⟩
              have hT6 := touch_belowT HT4.out hB6 hs1
              have kk1 : w6.cell? ⟨ga, 1, none⟩ = some (.int .i64 row) := by
                obtain ⟨_, _, _, a6, _⟩ := hR6
                exact cell_blk (a6.id _ (List.mem_singleton.2 rfl)) 1
              have hl6 : ga < w6.heap.size := by have := hB6.size; omega
              have HR6 := Lib.hid hR6
              have HT6 := Lib.hid hT6
              clear hR6 hB6 hT6 HM4 HT4
              go_wp2_with fail
              refine (HRr.out _ _ _ _ _ _ _ _ _ _ HR6.out).mono ?_
              rintro e w7 ⟨v7, rfl, ⟨hM7, hr6, hr7⟩, hB7⟩
              have hT7 := touch_belowT HT6.out hB7 hs1
              obtain ⟨A6, cap6, rfl, _, _⟩ := row_any hr6
              obtain ⟨A7, cap7, rfl, _, _⟩ := row_any hr7
              have HM7 := Lib.hid hM7
              have HT7 := Lib.hid hT7
              have HR7 := Lib.hid (And.intro hr6 hr7)
              have hls2 : ls.length ≤ 100000 := by omega
              clear hM7 hB7 hT7 HR6 HT6 hr6 hr7
              go_wp2_with fail
              refine (same_cells _ _ _ _ _ _ ls _ HR7.out.1 HR7.out.2 hls2).mono ?_
              rintro e w8 ⟨rfl, hT8⟩
              have HM8 := Lib.hid (HM7.out.quiet hT8)
              have HT8 := Lib.hid (HT7.out.same hT8)
              clear hT8 HM7 HT7 HR7
              go_wp2
              go_meet
              exact ⟨l0, HI0.out.more (by omega), HM8.out, HT8.out⟩
            · by_cases e2 : way = 2
              · subst e2
                obtain ⟨b0, l0, hI0, hS0, hR0⟩ := tp_set HI.out hm hm2 row comp val
                have HS := Lib.hid hS0
                have HRr := Lib.hid hR0
                have HI0 := Lib.hid hI0
                clear hS0 hR0 hI0
                have db : (b0 != b0) = false := by cases b0 <;> rfl
                go_wp2_with fail
                go_region_held3 (fun w' => w'.cell? ⟨ga, 1, none⟩ = some (.int .i64 row) ∧ w'.cell? ⟨ga, 2, none⟩ = some (.int .i64 comp) ∧ w'.cell? ⟨ga, 3, none⟩ = some (.int .i64 val)) (first | go_keep | exact ⟨hk1, hk2, hk3⟩)
                  (first | (go_at_call 28; refine (HS.out _ _ _ _ _ _ _ _ (HM4.out.quiet (by repeat (first | with_reducible exact Touch.refl _ _ | with_reducible refine Touch.alloc ?_ _ | with_reducible refine Touch.drewN ?_ _ | with_reducible refine Touch.drew ?_)))).mono ?_; rintro e w6 ⟨rfl, hm, hB5⟩; have ht := touch_belowT (HT4.out.same (by repeat (first | with_reducible exact Touch.refl _ _ | with_reducible refine Touch.alloc ?_ _ | with_reducible refine Touch.drewN ?_ _ | with_reducible refine Touch.drew ?_))) hB5 hs1; have hk1 : w6.cell? ⟨ga, 1, none⟩ = some (.int .i64 row) := cell_blk (hm.blk (List.mem_singleton.2 rfl)) 1; have hk2 : w6.cell? ⟨ga, 2, none⟩ = some (.int .i64 comp) := cell_blk (hm.blk (List.mem_singleton.2 rfl)) 2; have hk3 : w6.cell? ⟨ga, 3, none⟩ = some (.int .i64 val) := cell_blk (hm.blk (List.mem_singleton.2 rfl)) 3; clear HM4 HT4; have HM4 := Lib.hid hm; have HT4 := Lib.hid ht; clear hm hB5 ht)
                         | (go_at_call 29; refine (HRr.out _ _ _ _ _ _ _ _ _ (HM4.out.quiet (by repeat (first | with_reducible exact Touch.refl _ _ | with_reducible refine Touch.alloc ?_ _ | with_reducible refine Touch.drewN ?_ _ | with_reducible refine Touch.drew ?_)))).mono ?_; rintro e w7 ⟨rfl, hm, hB5⟩; have ht := touch_belowT (HT4.out.same (by repeat (first | with_reducible exact Touch.refl _ _ | with_reducible refine Touch.alloc ?_ _ | with_reducible refine Touch.drewN ?_ _ | with_reducible refine Touch.drew ?_))) hB5 hs1; have hk1 : w7.cell? ⟨ga, 1, none⟩ = some (.int .i64 row) := cell_blk (hm.blk (List.mem_singleton.2 rfl)) 1; have hk2 : w7.cell? ⟨ga, 2, none⟩ = some (.int .i64 comp) := cell_blk (hm.blk (List.mem_singleton.2 rfl)) 2; have hk3 : w7.cell? ⟨ga, 3, none⟩ = some (.int .i64 val) := cell_blk (hm.blk (List.mem_singleton.2 rfl)) 3; clear HM4 HT4; have HM4 := Lib.hid hm; have HT4 := Lib.hid ht; clear hm hB5 ht))
                all_goals
                  go_wp2
                  go_meet
                  exact ⟨l0, HI0.out.more (by omega), (HM4.out.quiet (by repeat (first | with_reducible exact Touch.refl _ _ | with_reducible refine Touch.alloc ?_ _ | with_reducible refine Touch.drewN ?_ _ | with_reducible refine Touch.drew ?_))).more (by omega), HT4.out.same (by repeat (first | with_reducible exact Touch.refl _ _ | with_reducible refine Touch.alloc ?_ _ | with_reducible refine Touch.drewN ?_ _ | with_reducible refine Touch.drew ?_))⟩
              · by_cases e3 : way = 3
                · subst e3
                  obtain ⟨x0, b0, hS0, hR0⟩ := tp_get hm hm2 l row comp
                  have HS := Lib.hid hS0
                  have HRr := Lib.hid hR0
                  clear hS0 hR0
                  have db : (b0 != b0) = false := by cases b0 <;> rfl
                  have dx : (x0 != x0) = false := by simp
                  go_wp2_with fail
                  refine (HS.out _ _ _ _ _ _ _ _ _ HM4.out).mono ?_
                  rintro e w6 ⟨rfl, rfl⟩
                  go_wp2_with fail
                  refine (HRr.out _ _ _ _ _ _ _ _ _ HM4.out).mono ?_
                  rintro e w6 ⟨rfl, rfl⟩
                  go_wp2
                  go_meet
                  exact ⟨l, HI.out.more (by omega), HM4.out.more (by omega), HT4.out⟩
                · have f0 : (way == 0) = false := by simpa using e0
                  have f1 : (way == 1) = false := by simpa using e1
                  have f2 : (way == 2) = false := by simpa using e2
                  have f3 : (way == 3) = false := by simpa using e3
                  go_wp2
                  go_meet
                  exact ⟨l, HI.out.more (by omega), HM4.out.more (by omega), HT4.out⟩
        case rest =>
          clear HM4 HT4 k0 k1 k2 k3 k4 k5 k6 hl3 HI HCL HC
          obtain ⟨l2, hI2, hM2, hT2⟩ := hcut
          have hg2 := hM2.blk (List.mem_singleton.2 rfl)
          have k2 : wc.cell? ⟨ga, 2, none⟩ = some (.int .i64 comp) := cell_blk hg2 2
          have k4 : wc.cell? ⟨ga, 4, none⟩ = some (.int .i64 i) := cell_blk hg2 4
          have k5 : wc.cell? ⟨ga, 5, none⟩ = some (.int .i64 x) := cell_blk hg2 5
          have hl2 := blk_lt hg2
          have hlen := hI2.len
          obtain ⟨li, hli⟩ : ∃ li, l2.map Prod.fst = li := ⟨_, rfl⟩
          obtain ⟨lc, hlc⟩ : ∃ lc, colR m l2 comp = lc := ⟨_, rfl⟩
          obtain ⟨rv, hrv⟩ : ∃ rv, rowV (l2.map Prod.fst) (i, x) = rv := ⟨_, rfl⟩
          have hlil : li.length ≤ 100000 := by rw [← hli, List.length_map]; omega
          have hlcl : lc.length ≤ 100000 := by
            rw [← hlc]
            unfold colR
            split
            · rw [List.length_map]; omega
            · simp
          have HE := Lib.hid (And.intro hli (And.intro hlc hrv))
          have HLL := Lib.hid (And.intro hlil (And.intro hlcl hlen))
          have HI2 := Lib.hid hI2
          have HM2 := Lib.hid hM2
          have HT2 := Lib.hid hT2
          clear hI2 hM2 hT2 hg2 hli hlc hrv hlil hlcl hlen
          have dr : (rv != rv) = false := by simp
          have hle6 : li.length ≤ 1000000 := by have := HLL.out.1; omega
          have hle7 : l2.length ≤ 1000000 := by have := HLL.out.2.2; omega
          go_wp2_with fail
          go_region_held3 (fun w' => w'.cell? ⟨ga, 2, none⟩ = some (.int .i64 comp) ∧ w'.cell? ⟨ga, 4, none⟩ = some (.int .i64 i) ∧ w'.cell? ⟨ga, 5, none⟩ = some (.int .i64 x)) (first | go_keep | exact ⟨hk2, hk4, hk5⟩)
            (first | (go_at_call 32; refine (tp_ids (HM2.out.quiet (by repeat (first | with_reducible exact Touch.refl _ _ | with_reducible refine Touch.alloc ?_ _ | with_reducible refine Touch.drewN ?_ _ | with_reducible refine Touch.drew ?_))) HE.out.1 hle6).mono ?_; rintro e w6 ⟨v1, rfl, hrow, hT5⟩; obtain ⟨A1, cp1, rfl, _, _⟩ := row_any hrow; (try (have hx := row_touch HA2.out (Touch.same (by repeat (first | with_reducible exact Touch.refl _ _ | with_reducible refine Touch.alloc ?_ _ | with_reducible refine Touch.drewN ?_ _ | with_reducible refine Touch.drew ?_)) hT5) (fun _ _ x => x); clear HA2; have HA2 := Lib.hid hx; clear hx)); have HA1 := Lib.hid hrow; clear hrow; have hm := HM2.out.quiet (Touch.same (by repeat (first | with_reducible exact Touch.refl _ _ | with_reducible refine Touch.alloc ?_ _ | with_reducible refine Touch.drewN ?_ _ | with_reducible refine Touch.drew ?_)) hT5); have ht := HT2.out.same (Touch.same (by repeat (first | with_reducible exact Touch.refl _ _ | with_reducible refine Touch.alloc ?_ _ | with_reducible refine Touch.drewN ?_ _ | with_reducible refine Touch.drew ?_)) hT5); have hk2 : w6.cell? ⟨ga, 2, none⟩ = some (.int .i64 comp) := cell_blk (hm.blk (List.mem_singleton.2 rfl)) 2; have hk4 : w6.cell? ⟨ga, 4, none⟩ = some (.int .i64 i) := cell_blk (hm.blk (List.mem_singleton.2 rfl)) 4; have hk5 : w6.cell? ⟨ga, 5, none⟩ = some (.int .i64 x) := cell_blk (hm.blk (List.mem_singleton.2 rfl)) 5; clear HM2 HT2; have HM2 := Lib.hid hm; have HT2 := Lib.hid ht; clear hm ht hT5)
                   | (go_at_call 33; refine (tp_rids (HM2.out.quiet (by repeat (first | with_reducible exact Touch.refl _ _ | with_reducible refine Touch.alloc ?_ _ | with_reducible refine Touch.drewN ?_ _ | with_reducible refine Touch.drew ?_))) HE.out.1 hle6).mono ?_; rintro e w7 ⟨v2, rfl, hrow, hT5⟩; obtain ⟨A2, cp2, rfl, _, _⟩ := row_any hrow; (try (have hx := row_touch HA1.out (Touch.same (by repeat (first | with_reducible exact Touch.refl _ _ | with_reducible refine Touch.alloc ?_ _ | with_reducible refine Touch.drewN ?_ _ | with_reducible refine Touch.drew ?_)) hT5) (fun _ _ x => x); clear HA1; have HA1 := Lib.hid hx; clear hx)); have HA2 := Lib.hid hrow; clear hrow; have hm := HM2.out.quiet (Touch.same (by repeat (first | with_reducible exact Touch.refl _ _ | with_reducible refine Touch.alloc ?_ _ | with_reducible refine Touch.drewN ?_ _ | with_reducible refine Touch.drew ?_)) hT5); have ht := HT2.out.same (Touch.same (by repeat (first | with_reducible exact Touch.refl _ _ | with_reducible refine Touch.alloc ?_ _ | with_reducible refine Touch.drewN ?_ _ | with_reducible refine Touch.drew ?_)) hT5); have hk2 : w7.cell? ⟨ga, 2, none⟩ = some (.int .i64 comp) := cell_blk (hm.blk (List.mem_singleton.2 rfl)) 2; have hk4 : w7.cell? ⟨ga, 4, none⟩ = some (.int .i64 i) := cell_blk (hm.blk (List.mem_singleton.2 rfl)) 4; have hk5 : w7.cell? ⟨ga, 5, none⟩ = some (.int .i64 x) := cell_blk (hm.blk (List.mem_singleton.2 rfl)) 5; clear HM2 HT2; have HM2 := Lib.hid hm; have HT2 := Lib.hid ht; clear hm ht hT5)
                   | (go_at_call 17; refine (same_ids _ _ _ _ _ _ li _ (row_touch HA1.out (by repeat (first | with_reducible exact Touch.refl _ _ | with_reducible refine Touch.alloc ?_ _ | with_reducible refine Touch.drewN ?_ _ | with_reducible refine Touch.drew ?_)) (fun _ _ x => x)) (row_touch HA2.out (by repeat (first | with_reducible exact Touch.refl _ _ | with_reducible refine Touch.alloc ?_ _ | with_reducible refine Touch.drewN ?_ _ | with_reducible refine Touch.drew ?_)) (fun _ _ x => x)) HLL.out.1).mono ?_; rintro e w8 ⟨rfl, hT5⟩; have hm := HM2.out.quiet (Touch.same (by repeat (first | with_reducible exact Touch.refl _ _ | with_reducible refine Touch.alloc ?_ _ | with_reducible refine Touch.drewN ?_ _ | with_reducible refine Touch.drew ?_)) hT5); have ht := HT2.out.same (Touch.same (by repeat (first | with_reducible exact Touch.refl _ _ | with_reducible refine Touch.alloc ?_ _ | with_reducible refine Touch.drewN ?_ _ | with_reducible refine Touch.drew ?_)) hT5); have hk2 : w8.cell? ⟨ga, 2, none⟩ = some (.int .i64 comp) := cell_blk (hm.blk (List.mem_singleton.2 rfl)) 2; have hk4 : w8.cell? ⟨ga, 4, none⟩ = some (.int .i64 i) := cell_blk (hm.blk (List.mem_singleton.2 rfl)) 4; have hk5 : w8.cell? ⟨ga, 5, none⟩ = some (.int .i64 x) := cell_blk (hm.blk (List.mem_singleton.2 rfl)) 5; clear HM2 HT2; have HM2 := Lib.hid hm; have HT2 := Lib.hid ht; clear hm ht hT5)
                   | (go_at_call 35; refine (tp_col (HM2.out.quiet (by repeat (first | with_reducible exact Touch.refl _ _ | with_reducible refine Touch.alloc ?_ _ | with_reducible refine Touch.drewN ?_ _ | with_reducible refine Touch.drew ?_))) hm hm2 HE.out.2.1 hle7).mono ?_; rintro e w9 ⟨v3, rfl, hrow, hT5⟩; obtain ⟨A3, cp3, rfl, _, _⟩ := row_any hrow; (try (have hx := row_touch HC2.out (Touch.same (by repeat (first | with_reducible exact Touch.refl _ _ | with_reducible refine Touch.alloc ?_ _ | with_reducible refine Touch.drewN ?_ _ | with_reducible refine Touch.drew ?_)) hT5) (fun _ _ x => x); clear HC2; have HC2 := Lib.hid hx; clear hx)); have HC1 := Lib.hid hrow; clear hrow; have hm := HM2.out.quiet (Touch.same (by repeat (first | with_reducible exact Touch.refl _ _ | with_reducible refine Touch.alloc ?_ _ | with_reducible refine Touch.drewN ?_ _ | with_reducible refine Touch.drew ?_)) hT5); have ht := HT2.out.same (Touch.same (by repeat (first | with_reducible exact Touch.refl _ _ | with_reducible refine Touch.alloc ?_ _ | with_reducible refine Touch.drewN ?_ _ | with_reducible refine Touch.drew ?_)) hT5); have hk2 : w9.cell? ⟨ga, 2, none⟩ = some (.int .i64 comp) := cell_blk (hm.blk (List.mem_singleton.2 rfl)) 2; have hk4 : w9.cell? ⟨ga, 4, none⟩ = some (.int .i64 i) := cell_blk (hm.blk (List.mem_singleton.2 rfl)) 4; have hk5 : w9.cell? ⟨ga, 5, none⟩ = some (.int .i64 x) := cell_blk (hm.blk (List.mem_singleton.2 rfl)) 5; clear HM2 HT2; have HM2 := Lib.hid hm; have HT2 := Lib.hid ht; clear hm ht hT5)
                   | (go_at_call 36; refine (tp_rcol (HM2.out.quiet (by repeat (first | with_reducible exact Touch.refl _ _ | with_reducible refine Touch.alloc ?_ _ | with_reducible refine Touch.drewN ?_ _ | with_reducible refine Touch.drew ?_))) hm hm2 HE.out.2.1 hle7).mono ?_; rintro e w10 ⟨v4, rfl, hrow, hT5⟩; obtain ⟨A4, cp4, rfl, _, _⟩ := row_any hrow; (try (have hx := row_touch HC1.out (Touch.same (by repeat (first | with_reducible exact Touch.refl _ _ | with_reducible refine Touch.alloc ?_ _ | with_reducible refine Touch.drewN ?_ _ | with_reducible refine Touch.drew ?_)) hT5) (fun _ _ x => x); clear HC1; have HC1 := Lib.hid hx; clear hx)); have HC2 := Lib.hid hrow; clear hrow; have hm := HM2.out.quiet (Touch.same (by repeat (first | with_reducible exact Touch.refl _ _ | with_reducible refine Touch.alloc ?_ _ | with_reducible refine Touch.drewN ?_ _ | with_reducible refine Touch.drew ?_)) hT5); have ht := HT2.out.same (Touch.same (by repeat (first | with_reducible exact Touch.refl _ _ | with_reducible refine Touch.alloc ?_ _ | with_reducible refine Touch.drewN ?_ _ | with_reducible refine Touch.drew ?_)) hT5); have hk2 : w10.cell? ⟨ga, 2, none⟩ = some (.int .i64 comp) := cell_blk (hm.blk (List.mem_singleton.2 rfl)) 2; have hk4 : w10.cell? ⟨ga, 4, none⟩ = some (.int .i64 i) := cell_blk (hm.blk (List.mem_singleton.2 rfl)) 4; have hk5 : w10.cell? ⟨ga, 5, none⟩ = some (.int .i64 x) := cell_blk (hm.blk (List.mem_singleton.2 rfl)) 5; clear HM2 HT2; have HM2 := Lib.hid hm; have HT2 := Lib.hid ht; clear hm ht hT5)
                   | (go_at_call 34; refine (same_ints _ _ _ _ _ _ lc _ (row_touch HC1.out (by repeat (first | with_reducible exact Touch.refl _ _ | with_reducible refine Touch.alloc ?_ _ | with_reducible refine Touch.drewN ?_ _ | with_reducible refine Touch.drew ?_)) (fun _ _ x => x)) (row_touch HC2.out (by repeat (first | with_reducible exact Touch.refl _ _ | with_reducible refine Touch.alloc ?_ _ | with_reducible refine Touch.drewN ?_ _ | with_reducible refine Touch.drew ?_)) (fun _ _ x => x)) HLL.out.2.1).mono ?_; rintro e w11 ⟨rfl, hT5⟩; have hm := HM2.out.quiet (Touch.same (by repeat (first | with_reducible exact Touch.refl _ _ | with_reducible refine Touch.alloc ?_ _ | with_reducible refine Touch.drewN ?_ _ | with_reducible refine Touch.drew ?_)) hT5); have ht := HT2.out.same (Touch.same (by repeat (first | with_reducible exact Touch.refl _ _ | with_reducible refine Touch.alloc ?_ _ | with_reducible refine Touch.drewN ?_ _ | with_reducible refine Touch.drew ?_)) hT5); have hk2 : w11.cell? ⟨ga, 2, none⟩ = some (.int .i64 comp) := cell_blk (hm.blk (List.mem_singleton.2 rfl)) 2; have hk4 : w11.cell? ⟨ga, 4, none⟩ = some (.int .i64 i) := cell_blk (hm.blk (List.mem_singleton.2 rfl)) 4; have hk5 : w11.cell? ⟨ga, 5, none⟩ = some (.int .i64 x) := cell_blk (hm.blk (List.mem_singleton.2 rfl)) 5; clear HM2 HT2; have HM2 := Lib.hid hm; have HT2 := Lib.hid ht; clear hm ht hT5)
                   | (go_at_call 37; refine (tp_row (HM2.out.quiet (by repeat (first | with_reducible exact Touch.refl _ _ | with_reducible refine Touch.alloc ?_ _ | with_reducible refine Touch.drewN ?_ _ | with_reducible refine Touch.drew ?_))) HIX.out.1 HIX.out.2 HE.out.2.2).mono ?_; rintro e w12 ⟨rfl, hT5⟩; have hm := HM2.out.quiet (Touch.same (by repeat (first | with_reducible exact Touch.refl _ _ | with_reducible refine Touch.alloc ?_ _ | with_reducible refine Touch.drewN ?_ _ | with_reducible refine Touch.drew ?_)) hT5); have ht := HT2.out.same (Touch.same (by repeat (first | with_reducible exact Touch.refl _ _ | with_reducible refine Touch.alloc ?_ _ | with_reducible refine Touch.drewN ?_ _ | with_reducible refine Touch.drew ?_)) hT5); have hk2 : w12.cell? ⟨ga, 2, none⟩ = some (.int .i64 comp) := cell_blk (hm.blk (List.mem_singleton.2 rfl)) 2; have hk4 : w12.cell? ⟨ga, 4, none⟩ = some (.int .i64 i) := cell_blk (hm.blk (List.mem_singleton.2 rfl)) 4; have hk5 : w12.cell? ⟨ga, 5, none⟩ = some (.int .i64 x) := cell_blk (hm.blk (List.mem_singleton.2 rfl)) 5; clear HM2 HT2; have HM2 := Lib.hid hm; have HT2 := Lib.hid ht; clear hm ht hT5)
                   | (go_at_call 38; refine (tp_rrow (HM2.out.quiet (by repeat (first | with_reducible exact Touch.refl _ _ | with_reducible refine Touch.alloc ?_ _ | with_reducible refine Touch.drewN ?_ _ | with_reducible refine Touch.drew ?_))) HE.out.2.2).mono ?_; rintro e w13 ⟨rfl, hT5⟩; have hm := HM2.out.quiet (Touch.same (by repeat (first | with_reducible exact Touch.refl _ _ | with_reducible refine Touch.alloc ?_ _ | with_reducible refine Touch.drewN ?_ _ | with_reducible refine Touch.drew ?_)) hT5); have ht := HT2.out.same (Touch.same (by repeat (first | with_reducible exact Touch.refl _ _ | with_reducible refine Touch.alloc ?_ _ | with_reducible refine Touch.drewN ?_ _ | with_reducible refine Touch.drew ?_)) hT5); have hk2 : w13.cell? ⟨ga, 2, none⟩ = some (.int .i64 comp) := cell_blk (hm.blk (List.mem_singleton.2 rfl)) 2; have hk4 : w13.cell? ⟨ga, 4, none⟩ = some (.int .i64 i) := cell_blk (hm.blk (List.mem_singleton.2 rfl)) 4; have hk5 : w13.cell? ⟨ga, 5, none⟩ = some (.int .i64 x) := cell_blk (hm.blk (List.mem_singleton.2 rfl)) 5; clear HM2 HT2; have HM2 := Lib.hid hm; have HT2 := Lib.hid ht; clear hm ht hT5))
          all_goals
            go_wp2
            go_roundw
            case rel => exact ⟨k + 1, by omega, by go_num, l2, HI2.out, (HM2.out.quiet (by repeat (first | with_reducible exact Touch.refl _ _ | with_reducible refine Touch.alloc ?_ _ | with_reducible refine Touch.drewN ?_ _ | with_reducible refine Touch.drew ?_))).forget (by simp), HT2.out.same (by repeat (first | with_reducible exact Touch.refl _ _ | with_reducible refine Touch.alloc ?_ _ | with_reducible refine Touch.drewN ?_ _ | with_reducible refine Touch.drew ?_))⟩
            case measure => simp [intOf]; omega
    · go_wp2
      go_ret
      exact ⟨rfl, HTr.out⟩
end Go.Proofs.Ytmafhcfdamhejaa
