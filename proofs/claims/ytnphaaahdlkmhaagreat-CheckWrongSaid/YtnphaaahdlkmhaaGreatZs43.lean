/-
  Package check's Check: what it returns of any program that fits. Conditions: those that the theorem names.
-/
import Derived.Test.YtnphaaahdlkmhaaGreatZs42
namespace Go.Proofs.YtnphaaahdlkmhaaGreat
open Go.ChangeShapes Go.WideShapes Go.ChangeAt Go.RowKit Go.Maps
set_option maxRecDepth 100000
set_option maxHeartbeats 4000000

theorem check_any (p : Pg) (x : ByteArray × Int) {w : World} {Q : Nat → Prop} {v1 v2 v3 : Value} (hP : PgAt w Q p [v1, v2, v3]) (hcap : CapOk v1) (hfit : pgFitC p = true) (hx : checkE p = some x) :
    Calls Tryz.prog 8 #[.agg #[v1, v2, v3]] w fun e w' => e = .returned (.tuple #[.string x.1, .int .i64 x.2]) ∧ Touch NoB w w' := by
  have hmm := @run_makeMap Tryz.prog
  obtain ⟨u1, u2, u3, xs, ys, he, h1, h2, h3, h4, h5⟩ := hP.via (R := fun b => b < w.heap.size) (fun b _ hb => hb)
  simp only [List.cons.injEq, and_true] at he
  obtain ⟨rfl, rfl, rfl⟩ := he
  obtain ⟨rs, hrs, hrx⟩ := rs_of h3
  have h1' := h1
  have h2' := h2
  have h4' := h4
  obtain ⟨A1, c1, rfl, -⟩ := h1'
  obtain ⟨A2, c2, rfl, -⟩ := h2'
  obtain ⟨A3, c3, rfl, -⟩ := h4'
  obtain ⟨n1, hn1⟩ : ∃ n, p.keys.length = n := ⟨_, rfl⟩
  obtain ⟨n2, hn2⟩ : ∃ n, p.trees.length = n := ⟨_, rfl⟩
  obtain ⟨n3, hn3⟩ : ∃ n, p.doms.length = n := ⟨_, rfl⟩
  rw [hn1] at h1 hcap ⊢
  rw [hn2] at h2 ⊢
  rw [hn3] at h4 ⊢
  have HG : Hid (GivP p x rs A1 A2 A3 n1 c1 n2 c2 n3 c3 w (fun b => b < w.heap.size) xs ys) := Lib.hid ⟨h1, h2, h3, h4, h5, hn1, hn2, hn3, hrs, hrx, fun b hb => hb, hcap _ _ _ rfl, hfit⟩
  obtain ⟨f1, f2, -⟩ := fit_parts hfit
  have HK := Lib.hid (fun W (t : Touch NoB w W) => kindsof_any A1 n1 c1 (p.keys.map kyG) W (by rw [List.length_map]; exact hn1) (by omega) ((katG h1 (fun k hk => (f2 k hk).1)).touch t) (fun k hk => by
    obtain ⟨y, hy, rfl⟩ := List.mem_map.1 hk
    have := (f2 y hy).2
    unfold W64 kyG
    simp only
    omega))
  have HX := Lib.hid hx
  clear hP hcap hfit hx h1 h2 h3 h4 h5 hrs hrx f1 f2
  have e0 : ∀ (args : Array Value) (w : World), (callFunc 23 args).run Tryz.prog w = .ok (.enter 23 args) w := enters_of Tryz.func23 (by kernel_rfl) rfl
  have e1 : ∀ (args : Array Value) (w : World), (callFunc 24 args).run Tryz.prog w = .ok (.enter 24 args) w := enters_of Tryz.func24 (by kernel_rfl) rfl
  have e2 : ∀ (args : Array Value) (w : World), (callFunc 25 args).run Tryz.prog w = .ok (.enter 25 args) w := enters_of Tryz.func25 (by kernel_rfl) rfl
  have e3 : ∀ (args : Array Value) (w : World), (callFunc 26 args).run Tryz.prog w = .ok (.enter 26 args) w := enters_of Tryz.func26 (by kernel_rfl) rfl
  have e4 : ∀ (args : Array Value) (w : World), (callFunc 27 args).run Tryz.prog w = .ok (.enter 27 args) w := enters_of Tryz.func27 (by kernel_rfl) rfl
  have e5 : ∀ (args : Array Value) (w : World), (callFunc 28 args).run Tryz.prog w = .ok (.enter 28 args) w := enters_of Tryz.func28 (by kernel_rfl) rfl
  go_enter Tryz.func8, Tryz.ntmps8
  go_wp2_with fail
  refine (HK.out _ (by repeat (first | with_reducible exact Touch.refl NoB _ | with_reducible refine Touch.drew ?_ | with_reducible refine Touch.alloc ?_ _))).mono ?_
  rintro r w1 ⟨rfl, hKM, hT1⟩
  rw [World.size_alloc] at hKM
  have hb : w1.heap[w.heap.size]? = some (.cells #[.slice A1 n1 c1, .slice A2 n2 c2, .slice A3 n3 c3] 29 (0, 0)) := (hT1.block _ (by rw [World.size_alloc]; omega) (fun f => f)).trans (alloc_blk _ _ _ rfl)
  have hsz := hT1.size
  rw [World.size_alloc] at hsz
  have hkl := hKM.lt
  have HT1 := Lib.hid (And.intro (((Touch.refl NoB w).alloc (.cells #[.slice A1 n1 c1, .slice A2 n2 c2, .slice A3 n3 c3] 29)).same hT1) hKM)
  have p0 := cell_blk hb 0
  have p1 := cell_blk hb 1
  have p2 := cell_blk hb 2
  have p3 := blk_lt hb
  have HB := Lib.hid hb
  clear hT1 hb hKM
  go_wp2
  go_loopw [24] (fun v24 wr => CkRel p x rs w.heap.size (w1.heap.size + 1 + 1 + 1) (w1.heap.size + 1 + 1) (w.heap.size + 1) w1.heap.size (w1.heap.size + 1) (pgV A1 A2 A3 n1 c1 n2 c2 n3 c3) w v24 wr) (fun v24 _ => 6 - (intOf v24).toNat)
  case atStart =>
    refine ⟨0, by omega, rfl, (Touch.block (F := NoB) (w := w1) (by repeat (first | with_reducible exact Touch.refl NoB _ | with_reducible refine Touch.drew ?_ | with_reducible refine Touch.alloc ?_ _)) _ p3 (fun f => f)).trans HB.out, alloc_blk _ _ _ (by simp only [World.size_alloc]), ?_, ?_, ?_, ?_, HX.out, HT1.out.1.same (by repeat (first | with_reducible exact Touch.refl NoB _ | with_reducible refine Touch.drew ?_ | with_reducible refine Touch.alloc ?_ _))⟩
    · have h := HT1.out.2
      rw [← HG.out.l1] at h
      exact h.touch (F := NoB) (by repeat (first | with_reducible exact Touch.refl NoB _ | with_reducible refine Touch.drew ?_ | with_reducible refine Touch.alloc ?_ _)) (fun f => f)
    · rw [if_neg (by decide)]
      exact (RM.made w1 (vsOf rs) (List.mem_cons_self ..)).touch (F := NoB) (by repeat (first | with_reducible exact Touch.refl NoB _ | with_reducible refine Touch.drew ?_ | with_reducible refine Touch.alloc ?_ _)) (fun f => f)
    · rw [if_neg (by decide)]
      have h := NM.made (w1.alloc (.map #[] 0))
      rw [World.size_alloc] at h
      exact h.touch (F := NoB) (by repeat (first | with_reducible exact Touch.refl NoB _ | with_reducible refine Touch.drew ?_ | with_reducible refine Touch.alloc ?_ _)) (fun f => f)
    · rw [if_neg (by decide)]
      exact (Touch.block (F := NoB) (w := ((w1.alloc (.map #[] 0)).alloc (.map #[] 0)).alloc (.cells #[.map (some (w.heap.size + 1)), .map (some w1.heap.size), .map (some (w1.heap.size + 1)), .int .i64 0] 80)) (by repeat (first | with_reducible exact Touch.refl NoB _ | with_reducible refine Touch.drew ?_ | with_reducible refine Touch.alloc ?_ _)) _ (by simp only [World.size_alloc]; omega) (fun f => f)).trans (alloc_blk _ _ _ (by simp only [World.size_alloc]))
  case round =>
    have HA : Hid (Apt w.heap.size w.heap.size (w1.heap.size + 1 + 1 + 1) (w1.heap.size + 1 + 1) (w.heap.size + 1) w1.heap.size (w1.heap.size + 1)) := Lib.hid ⟨Nat.le_refl _, by omega, by omega, by omega, by omega, by omega⟩
    obtain ⟨i, hi, rfl, hs⟩ := hrel
    have hq := hs.prog
    have hg := hs.fns
    have hT := hs.t
    unfold pgV at hq
    have q0 := cell_blk hq 0
    have q1 := cell_blk hq 1
    have q2 := cell_blk hq 2
    have q3 := blk_lt hq
    have g9 := blk_lt hg
    have HS := Lib.hid hs
    clear p0 p1 p2 p3 HB HT1 hs hkl hsz
    by_cases h6 : i < 6
    · have hc : i = 0 ∨ i = 1 ∨ i = 2 ∨ i = 3 ∨ i = 4 ∨ i = 5 := by omega
      clear hi h6 hT hq
      rcases hc with rfl | rfl | rfl | rfl | rfl | rfl
      · have g0 := cell_blk hg 0
        clear hg
        unfold fnC at g0
        simp only [List.getElem?_toArray, List.getElem?_cons_zero] at g0
        have HC := Lib.hid (fun W (t : Touch NoB wr W) => step0 HG.out HS.out t)
        unfold pgV at HC
        go_wp2_with (go_at_fn 23; refine (HC.out _ (by repeat (first | with_reducible exact Touch.refl NoB _ | with_reducible refine Touch.drew ?_ | with_reducible refine Touch.alloc ?_ _))).mono ?_; rintro r w2 ⟨y, rfl, hT2, hy0, hy1⟩; have HT2 := Lib.hid (And.intro hT2 (And.intro hy0 hy1)); clear hT2 hy0 hy1; obtain ⟨y1, y2⟩ := y; by_cases hyz : y2 = 0)
        · have HZ := Lib.hid hyz
          subst hyz
          go_wp2
          go_roundw
          case rel => exact ⟨1, by omega, by go_num, HT2.out.2.1 rfl⟩
          case measure => simp [intOf] <;> omega
        · have hne : (y2 != 0) = true := by simpa using hyz
          have HZ := Lib.hid hyz
          clear hyz
          go_wp2
          go_ret2
          have hxy := HT2.out.2.2 HZ.out
          exact ⟨by rw [hxy]; rfl, HT2.out.1⟩
      · have g0 := cell_blk hg 1
        clear hg
        unfold fnC at g0
        simp only [List.getElem?_toArray, List.getElem?_cons_succ, List.getElem?_cons_zero] at g0
        have HC := Lib.hid (fun W (t : Touch NoB wr W) => step1 HA.out HG.out HS.out t)
        unfold pgV at HC
        go_wp2_with (go_at_fn 24; refine (HC.out _ (by repeat (first | with_reducible exact Touch.refl NoB _ | with_reducible refine Touch.drew ?_ | with_reducible refine Touch.alloc ?_ _))).mono ?_; rintro r w2 ⟨y, rfl, hT2, hy0, hy1⟩; have HT2 := Lib.hid (And.intro hT2 (And.intro hy0 hy1)); clear hT2 hy0 hy1; obtain ⟨y1, y2⟩ := y; by_cases hyz : y2 = 0)
        · have HZ := Lib.hid hyz
          subst hyz
          go_wp2
          go_roundw
          case rel => exact ⟨2, by omega, by go_num, HT2.out.2.1 rfl⟩
          case measure => simp [intOf] <;> omega
        · have hne : (y2 != 0) = true := by simpa using hyz
          have HZ := Lib.hid hyz
          clear hyz
          go_wp2
          go_ret2
          have hxy := HT2.out.2.2 HZ.out
          exact ⟨by rw [hxy]; rfl, HT2.out.1⟩
      · have g0 := cell_blk hg 2
        clear hg
        unfold fnC at g0
        simp only [List.getElem?_toArray, List.getElem?_cons_succ, List.getElem?_cons_zero] at g0
        have HC := Lib.hid (fun W (t : Touch NoB wr W) => step2 HA.out HG.out HS.out t)
        unfold pgV at HC
        go_wp2_with (go_at_fn 25; refine (HC.out _ (by repeat (first | with_reducible exact Touch.refl NoB _ | with_reducible refine Touch.drew ?_ | with_reducible refine Touch.alloc ?_ _))).mono ?_; rintro r w2 ⟨y, rfl, hT2, hy0, hy1⟩; have HT2 := Lib.hid (And.intro hT2 (And.intro hy0 hy1)); clear hT2 hy0 hy1; obtain ⟨y1, y2⟩ := y; by_cases hyz : y2 = 0)
        · have HZ := Lib.hid hyz
          subst hyz
          go_wp2
          go_roundw
          case rel => exact ⟨3, by omega, by go_num, HT2.out.2.1 rfl⟩
          case measure => simp [intOf] <;> omega
        · have hne : (y2 != 0) = true := by simpa using hyz
          have HZ := Lib.hid hyz
          clear hyz
          go_wp2
          go_ret2
          have hxy := HT2.out.2.2 HZ.out
          exact ⟨by rw [hxy]; rfl, HT2.out.1⟩
      · have g0 := cell_blk hg 3
        clear hg
        unfold fnC at g0
        simp only [List.getElem?_toArray, List.getElem?_cons_succ, List.getElem?_cons_zero] at g0
        have HC := Lib.hid (fun W (t : Touch NoB wr W) => step3 HA.out HG.out HS.out t)
        unfold pgV at HC
        go_wp2_with (go_at_fn 26; refine (HC.out _ (by repeat (first | with_reducible exact Touch.refl NoB _ | with_reducible refine Touch.drew ?_ | with_reducible refine Touch.alloc ?_ _))).mono ?_; rintro r w2 ⟨y, rfl, hT2, hy0, hy1⟩; have HT2 := Lib.hid (And.intro hT2 (And.intro hy0 hy1)); clear hT2 hy0 hy1; obtain ⟨y1, y2⟩ := y; by_cases hyz : y2 = 0)
        · have HZ := Lib.hid hyz
          subst hyz
          go_wp2
          go_roundw
          case rel => exact ⟨4, by omega, by go_num, HT2.out.2.1 rfl⟩
          case measure => simp [intOf] <;> omega
        · have hne : (y2 != 0) = true := by simpa using hyz
          have HZ := Lib.hid hyz
          clear hyz
          go_wp2
          go_ret2
          have hxy := HT2.out.2.2 HZ.out
          exact ⟨by rw [hxy]; rfl, HT2.out.1⟩
      · have g0 := cell_blk hg 4
        clear hg
        unfold fnC at g0
        simp only [List.getElem?_toArray, List.getElem?_cons_succ, List.getElem?_cons_zero] at g0
        have HC := Lib.hid (fun W (t : Touch NoB wr W) => step4 HA.out HG.out HS.out t)
        unfold pgV at HC
        go_wp2_with (go_at_fn 27; refine (HC.out _ (by repeat (first | with_reducible exact Touch.refl NoB _ | with_reducible refine Touch.drew ?_ | with_reducible refine Touch.alloc ?_ _))).mono ?_; rintro r w2 ⟨y, rfl, hT2, hy0, hy1⟩; have HT2 := Lib.hid (And.intro hT2 (And.intro hy0 hy1)); clear hT2 hy0 hy1; obtain ⟨y1, y2⟩ := y; by_cases hyz : y2 = 0)
        · have HZ := Lib.hid hyz
          subst hyz
          go_wp2
          go_roundw
          case rel => exact ⟨5, by omega, by go_num, HT2.out.2.1 rfl⟩
          case measure => simp [intOf] <;> omega
        · have hne : (y2 != 0) = true := by simpa using hyz
          have HZ := Lib.hid hyz
          clear hyz
          go_wp2
          go_ret2
          have hxy := HT2.out.2.2 HZ.out
          exact ⟨by rw [hxy]; rfl, HT2.out.1⟩
      · have g0 := cell_blk hg 5
        clear hg
        unfold fnC at g0
        simp only [List.getElem?_toArray, List.getElem?_cons_succ, List.getElem?_cons_zero] at g0
        have HC := Lib.hid (fun W (t : Touch NoB wr W) => step5 HA.out HG.out HS.out t)
        unfold pgV at HC
        go_wp2_with (go_at_fn 28; refine (HC.out _ (by repeat (first | with_reducible exact Touch.refl NoB _ | with_reducible refine Touch.drew ?_ | with_reducible refine Touch.alloc ?_ _))).mono ?_; rintro r w2 ⟨y, rfl, hT2, hy0, hy1⟩; have HT2 := Lib.hid (And.intro hT2 (And.intro hy0 hy1)); clear hT2 hy0 hy1; obtain ⟨y1, y2⟩ := y; by_cases hyz : y2 = 0)
        · have HZ := Lib.hid hyz
          subst hyz
          go_wp2
          go_roundw
          case rel => exact ⟨6, by omega, by go_num, HT2.out.2.1 rfl⟩
          case measure => simp [intOf] <;> omega
        · have hne : (y2 != 0) = true := by simpa using hyz
          have HZ := Lib.hid hyz
          clear hyz
          go_wp2
          go_ret2
          have hxy := HT2.out.2.2 HZ.out
          exact ⟨by rw [hxy]; rfl, HT2.out.1⟩
    · obtain rfl : i = 6 := by omega
      clear hi h6 hT hq hg
      have hr : some ((⟨#[]⟩ : ByteArray), (0 : Int)) = some x := HS.out.rest
      injection hr with hr
      subst hr
      go_wp2
      go_ret2
      exact ⟨rfl, HS.out.t⟩
end Go.Proofs.YtnphaaahdlkmhaaGreat
