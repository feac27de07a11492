/-
  What Spawn returns, and what it leaves in memory.
-/
import Derived.Test.YticekldgjlihmaaM5
namespace Go.Proofs.Yticekldgjlihmaa
open Go.ChangeShapes Go.WideShapes Go.ChangeAt Go.RowKit Go.Maps
set_option maxRecDepth 100000
set_option maxHeartbeats 1000000

def posB (bs : List Tb) (m : Int) : Nat := bs.countP fun b => decide (b.m < m)
def hasB (bs : List Tb) (m : Int) : Bool := match bs[posB bs m]? with
  | some b => b.m == m
  | none => false
def openB (bs : List Tb) (m : Int) : List Tb := if hasB bs m = true then bs else insT bs (posB bs m) ⟨m, [], fun _ => []⟩
def modB (l : List Tb) (k : Nat) (f : Tb → Tb) : List Tb := match l[k]? with
  | some b => l.set k (f b)
  | none => l
def addB (p : Int × Int) (cl : List (Int × Int)) (b : Tb) : Tb := ⟨b.m, b.ids ++ [p], newCol b.m b.cf cl⟩
/-- p enters the table of m, with the values of cl. -/
def enterB (bs : List Tb) (m : Int) (p : Int × Int) (cl : List (Int × Int)) : List Tb := modB (openB bs m) (posB bs m) (addB p cl)

theorem posB_map (ts : List Ar) (m : Int) : posB (ts.map Ar.b) m = posL (am ts) m := by
  unfold posB posL am
  rw [List.countP_map, List.countP_map]
  rfl
theorem hasB_map (ts : List Ar) (m : Int) : hasB (ts.map Ar.b) m = hasL (am ts) m := by
  unfold hasB hasL
  rw [posB_map, am_get, List.getElem?_map]
  cases ts[posL (am ts) m]? <;> rfl
theorem open_map {ts ts' : List Ar} {m : Int} {j : Nat} {r : Ar} (h : OpenT ts m ts' j r) : ts'.map Ar.b = openB (ts.map Ar.b) m ∧ j = posB (ts.map Ar.b) m := by
  obtain ⟨hj, _, ⟨h1, rfl⟩ | ⟨h1, rfl, _, _, h2⟩⟩ := h
  · exact ⟨by unfold openB; rw [hasB_map, if_pos h1], by rw [posB_map, hj]⟩
  · refine ⟨?_, by rw [posB_map, hj]⟩
    unfold openB
    rw [hasB_map, if_neg (by rw [h1]; decide), posB_map, ← hj]
    simp [insT, List.map_take, List.map_drop, h2]
theorem ent_map {ts ts' : List Ar} {m : Int} {p : Int × Int} {cl : List (Int × Int)} (h : EntT ts m p cl ts') : ts'.map Ar.b = enterB (ts.map Ar.b) m p cl := by
  obtain ⟨tm, j, r, D', n', hO, hr, rfl⟩ := h
  obtain ⟨h1, h2⟩ := open_map hO
  unfold enterB modB
  rw [← h1, ← h2, List.getElem?_map, hr]
  simp [addB, List.map_set]

/-- A Store lies at block g: places ps, ds; tables bs; all its blocks are in F; cnt calls at most have changed it. -/
def St (w : World) (F : Nat → Prop) (cnt g : Nat) (room tables : Int) (ps : List (Int × Bool)) (ds : List Int) (bs : List Tb) : Prop :=
  ∃ φ ts H nh va bh, SG w φ g room tables ps ds ts H nh va bh ∧ SInv cnt room tables ps ds ts H nh ∧ ts.map Ar.b = bs ∧ ∀ b, φ b ≠ 0 → F b
theorem St.quiet {w w' : World} {F : Nat → Prop} {cnt g : Nat} {room tables : Int} {ps : List (Int × Bool)} {ds : List Int} {bs : List Tb} (h : St w F cnt g room tables ps ds bs) (t : Touch NoB w w') : St w' F cnt g room tables ps ds bs := by
  obtain ⟨φ, ts, H, nh, va, bh, h1, h2, h3, h4⟩ := h
  exact ⟨φ, ts, H, nh, va, bh, h1.quiet t, h2, h3, h4⟩
theorem St.keep {w w' : World} {F G : Nat → Prop} {cnt g : Nat} {room tables : Int} {ps : List (Int × Bool)} {ds : List Int} {bs : List Tb} (h : St w F cnt g room tables ps ds bs) (t : Touch G w w') (d : Dis F G) : St w' F cnt g room tables ps ds bs := by
  obtain ⟨φ, ts, H, nh, va, bh, h1, h2, h3, h4⟩ := h
  exact ⟨φ, ts, H, nh, va, bh, h1.keep t (fun b hb hg => d b (h4 b hb) hg), h2, h3, h4⟩
theorem St.more {w : World} {F G : Nat → Prop} {cnt c g : Nat} {room tables : Int} {ps : List (Int × Bool)} {ds : List Int} {bs : List Tb} (h : St w F cnt g room tables ps ds bs) (d : ∀ b, F b → G b) (hc : cnt ≤ c) : St w G c g room tables ps ds bs := by
  obtain ⟨φ, ts, H, nh, va, bh, h1, h2, h3, h4⟩ := h
  exact ⟨φ, ts, H, nh, va, bh, h1, h2.more hc, h3, fun b hb => d b (h4 b hb)⟩

theorem CellsAt.none {w w' : World} {F : Nat → Prop} {A : Option Addr} {cl : List (Int × Int)} (h : CellsAt w F A cl) (t : Touch NoB w w') : CellsAt w' F A cl := h.touch (t.mono (fun _ e => e.elim))

section
variable {w : World} {F : Nat → Prop} {cnt g : Nat} {room tables : Int} {ps : List (Int × Bool)} {ds : List Int} {bs : List Tb}

def NoId (k : Int) (e : Ending) (w w' : World) : Prop := e = .returned (.tuple #[.agg #[.int .i64 0, .int .i64 0], .int .i64 k]) ∧ Touch NoB w w'

theorem spawn_arg (A : Option Addr) (N cap : Nat) (cl : List (Int × Int)) (hN : cl.length = N) (hN2 : N ≤ 1000) (hC : CellsAt w F A cl) (hm : maskO cl = none) :
    Calls Try.prog 7 #[.pointer (some ⟨g, 0, none⟩), .slice A N cap] w fun e w' => NoId 1 e w w' := by
  have TW : Touch NoB w (w.alloc (.cells #[.int .i64 0, .int .i64 0] 30)) := (Touch.refl NoB w).alloc _
  have HM := Lib.hid (maskOf_any A N cap cl (w.alloc (.cells #[.int .i64 0, .int .i64 0] 30)) hN hN2 ((hC.none TW).move (G := NoB) (Touch.refl _ _) (fun _ _ e => e.elim)))
  have hv : maskV cl = .tuple #[.int .u16 0, .bool false] := by unfold maskV; rw [hm]
  rw [hv] at HM
  clear hN hC hm hv
  go_enter Try.func7, Try.ntmps7
  go_wp2_with fail
  refine HM.out.mono ?_
  rintro e w1 ⟨rfl, hT1⟩
  have hq := new_blk hT1 rfl (fun e => e)
  have c0 : w1.cell? ⟨w.heap.size, 0, none⟩ = some (.int .i64 0) := cell_blk hq 0
  have c1 : w1.cell? ⟨w.heap.size, 1, none⟩ = some (.int .i64 0) := cell_blk hq 1
  have z0 := free_blk hq 0
  have z1 := free_blk hq 1
  have hl := blk_lt hq
  have HT := Lib.hid (TW.same hT1)
  clear hT1 hq TW
  go_wp2
  exact bodyPost_ret (v := .tuple #[.agg #[.int .i64 0, .int .i64 0], .int .i64 1]) (by simp [results, Try.results7, go_sem, c0, c1]) rfl ⟨rfl, (HT.out.setCell (.inr (Nat.le_refl _)) _).setCell (.inr (Nat.le_refl _)) _⟩

theorem spawn_room (h : St w F cnt g room tables ps ds bs) (A : Option Addr) (N cap : Nat) (cl : List (Int × Int)) (hN : cl.length = N) (hN2 : N ≤ 1000) (hC : CellsAt w F A cl) {m : Int} (hm : maskO cl = some m) (hf : (hasB bs m || decide ((bs.length : Int) < tables)) = false) (hc : cnt ≤ 1000) :
    Calls Try.prog 7 #[.pointer (some ⟨g, 0, none⟩), .slice A N cap] w fun e w' => NoId 10 e w w' := by
  have TW : Touch NoB w (w.alloc (.cells #[.int .i64 0, .int .i64 0] 30)) := (Touch.refl NoB w).alloc _
  have HM := Lib.hid (maskOf_any A N cap cl (w.alloc (.cells #[.int .i64 0, .int .i64 0] 30)) hN hN2 ((hC.none TW).move (G := NoB) (Touch.refl _ _) (fun _ _ e => e.elim)))
  have hv : maskV cl = .tuple #[.int .u16 m, .bool true] := by unfold maskV; rw [hm]
  rw [hv] at HM
  obtain ⟨φ, ts, H, nh, va, bh, h1, h2, h3, h4⟩ := h
  have hl := h2.len
  have hf' : (hasL (am ts) m || decide ((ts.length : Int) < tables)) = false := by rw [← hasB_map, h3]; rw [← h3, List.length_map] at hf; rwa [h3] at hf
  have HR : Hid (∀ W, Touch NoB w W → Calls Try.prog 25 #[.pointer (some ⟨g, 0, none⟩), .int .u16 m] W fun e w' => e = .returned (.bool false) ∧ Touch NoB W w') := fun W hW => by
    have := (h1.quiet hW).hasRoom m (by omega)
    rwa [hf'] at this
  clear hN hC hm hv h1 h2 h3 h4 hf hf' hl
  go_enter Try.func7, Try.ntmps7
  go_wp2_with fail
  refine HM.out.mono ?_
  rintro e w1 ⟨rfl, hT1⟩
  have hq1 := new_blk hT1 rfl (fun e => e)
  have HQ := Lib.hid hq1
  have HT := Lib.hid (TW.same hT1)
  clear hT1 hq1 TW
  go_wp2_with fail
  refine (HR.out _ HT.out).mono ?_
  rintro e w2 ⟨rfl, hT2⟩
  have hq := (hT2.block _ (blk_lt HQ.out) (fun e => e)).trans HQ.out
  have c0 : w2.cell? ⟨w.heap.size, 0, none⟩ = some (.int .i64 0) := cell_blk hq 0
  have c1 : w2.cell? ⟨w.heap.size, 1, none⟩ = some (.int .i64 0) := cell_blk hq 1
  have z0 := free_blk hq 0
  have z1 := free_blk hq 1
  have hl := blk_lt hq
  have HT2 := Lib.hid (HT.out.same hT2)
  clear hT2 hq
  go_wp2
  exact bodyPost_ret (v := .tuple #[.agg #[.int .i64 0, .int .i64 0], .int .i64 10]) (by simp [results, Try.results7, go_sem, c0, c1]) rfl ⟨rfl, (HT2.out.setCell (.inr (Nat.le_refl _)) _).setCell (.inr (Nat.le_refl _)) _⟩

theorem spawn_full (h : St w F cnt g room tables ps ds bs) (A : Option Addr) (N cap : Nat) (cl : List (Int × Int)) (hN : cl.length = N) (hN2 : N ≤ 1000) (hC : CellsAt w F A cl) {m : Int} (hm : maskO cl = some m) (hf : (hasB bs m || decide ((bs.length : Int) < tables)) = true) (hk : makeS room ps ds = none) (hc : cnt ≤ 1000) :
    Calls Try.prog 7 #[.pointer (some ⟨g, 0, none⟩), .slice A N cap] w fun e w' => NoId 10 e w w' := by
  have TW : Touch NoB w (w.alloc (.cells #[.int .i64 0, .int .i64 0] 30)) := (Touch.refl NoB w).alloc _
  have HM := Lib.hid (maskOf_any A N cap cl (w.alloc (.cells #[.int .i64 0, .int .i64 0] 30)) hN hN2 ((hC.none TW).move (G := NoB) (Touch.refl _ _) (fun _ _ e => e.elim)))
  have hv : maskV cl = .tuple #[.int .u16 m, .bool true] := by unfold maskV; rw [hm]
  rw [hv] at HM
  obtain ⟨φ, ts, H, nh, va, bh, h1, h2, h3, h4⟩ := h
  have hl := h2.len
  have hf' : (hasL (am ts) m || decide ((ts.length : Int) < tables)) = true := by rw [← hasB_map, h3]; rw [← h3, List.length_map] at hf; rwa [h3] at hf
  have HR : Hid (∀ W, Touch NoB w W → Calls Try.prog 25 #[.pointer (some ⟨g, 0, none⟩), .int .u16 m] W fun e w' => e = .returned (.bool true) ∧ Touch NoB W w') := fun W hW => by
    have := (h1.quiet hW).hasRoom m (by omega)
    rwa [hf'] at this
  have HK : Hid (∀ W, Touch NoB w W → Calls Try.prog 26 #[.pointer (some ⟨g, 0, none⟩)] W fun e w' => e = .returned (.tuple #[.agg #[.int .i64 0, .int .i64 0], .int .i64 10]) ∧ Touch NoB W w') := fun W hW => make_none (h1.quiet hW).own h2.p hk
  have hgl := h1.lt
  clear hN hC hm hv h1 h2 h3 h4 hf hf' hl hk
  go_enter Try.func7, Try.ntmps7
  go_wp2_with fail
  refine HM.out.mono ?_
  rintro e w1 ⟨rfl, hT1⟩
  have hq1 := new_blk hT1 rfl (fun e => e)
  have HQ := Lib.hid hq1
  have HT := Lib.hid (TW.same hT1)
  clear hT1 hq1 TW
  go_wp2_with fail
  refine (HR.out _ HT.out).mono ?_
  rintro e w2 ⟨rfl, hT2⟩
  have hq2 := (hT2.block _ (blk_lt HQ.out) (fun e => e)).trans HQ.out
  have HQ2 := Lib.hid hq2
  have hgl2 : g < w2.heap.size := Nat.lt_of_lt_of_le hgl (HT.out.same hT2).size
  have HT2 := Lib.hid (HT.out.same hT2)
  clear hT2 hq2
  go_wp2_with fail
  refine (HK.out _ HT2.out).mono ?_
  rintro e w3 ⟨rfl, hT3⟩
  have hq := (hT3.block _ (blk_lt HQ2.out) (fun e => e)).trans HQ2.out
  have c0 : w3.cell? ⟨w.heap.size, 0, none⟩ = some (.int .i64 0) := cell_blk hq 0
  have c1 : w3.cell? ⟨w.heap.size, 1, none⟩ = some (.int .i64 0) := cell_blk hq 1
  have z0 := free_blk hq 0
  have z1 := free_blk hq 1
  have hl := blk_lt hq
  have HT3 := Lib.hid (HT2.out.same hT3)
  clear hT3 hq
  go_wp2
  exact bodyPost_ret (v := .tuple #[.agg #[.int .i64 0, .int .i64 0], .int .i64 10]) (by simp [results, Try.results7, go_sem, c0, c1, hl]) rfl ⟨rfl, by
    have hs := HT3.out.size
    repeat (first | with_reducible exact HT3.out | with_reducible refine Touch.alloc ?_ _ | with_reducible refine Touch.setCell ?_ (.inr (by simp <;> omega)) _)⟩

def SpawnOk (w : World) (F : Nat → Prop) (cnt g : Nat) (room tables : Int) (ps' : List (Int × Bool)) (ds' : List Int) (bs' : List Tb) (id : Int × Int) (e : Ending) (w' : World) : Prop :=
  e = .returned (.tuple #[.agg #[.int .i64 id.1, .int .i64 id.2], .int .i64 0]) ∧ St w' (Ext F w w') (cnt + 1) g room tables ps' ds' bs' ∧ Touch F w w'

theorem open_len {ts ts' : List Ar} {m : Int} {j : Nat} {r : Ar} (h : OpenT ts m ts' j r) : ts'.length = if hasL (am ts) m = true then ts.length else ts.length + 1 := by
  obtain ⟨hj, _, ⟨h1, rfl⟩ | ⟨h1, rfl, _⟩⟩ := h
  · rw [if_pos h1]
  · rw [if_neg (by rw [h1]; decide), insT_length]
    have := posL_le (am ts) m
    rw [am_length] at this
    omega

theorem spawn_ok (h : St w F cnt g room tables ps ds bs) (A : Option Addr) (N cap : Nat) (cl : List (Int × Int)) (hN : cl.length = N) (hN2 : N ≤ 1000) (hC : CellsAt w F A cl) {m : Int} (hm : maskO cl = some m) (hf : (hasB bs m || decide ((bs.length : Int) < tables)) = true) {id : Int × Int} {ps' : List (Int × Bool)} {ds' : List Int} (hk : makeS room ps ds = some (id, ps', ds')) (hc : cnt ≤ 999) :
    Calls Try.prog 7 #[.pointer (some ⟨g, 0, none⟩), .slice A N cap] w (SpawnOk w F cnt g room tables ps' ds' (enterB bs m id cl) id) := by
  have hmr := maskO_range cl 0 m (by decide) (by decide) hm
  have TW : Touch NoB w (w.alloc (.cells #[.int .i64 0, .int .i64 0] 30)) := (Touch.refl NoB w).alloc _
  have HM := Lib.hid (maskOf_any A N cap cl (w.alloc (.cells #[.int .i64 0, .int .i64 0] 30)) hN hN2 ((hC.none TW).move (G := NoB) (Touch.refl _ _) (fun _ _ e => e.elim)))
  have hv : maskV cl = .tuple #[.int .u16 m, .bool true] := by unfold maskV; rw [hm]
  rw [hv] at HM
  obtain ⟨φ, ts, H, nh, va, bh, h1, h2, h3, h4⟩ := h
  have hl := h2.len
  have hf' : (hasL (am ts) m || decide ((ts.length : Int) < tables)) = true := by rw [← hasB_map, h3]; rw [← h3, List.length_map] at hf; rwa [h3] at hf
  obtain ⟨P', i1, i2, hnew, hlink⟩ := h2.p.make hk (by omega)
  have hn : ¬ InT ts (id.1, id.2) := fun e => by rw [← h2.link, hnew] at e; cases e
  have HR : Hid (∀ W, Touch NoB w W → Calls Try.prog 25 #[.pointer (some ⟨g, 0, none⟩), .int .u16 m] W fun e w' => e = .returned (.bool true) ∧ Touch NoB W w') := fun W hW => by
    have := (h1.quiet hW).hasRoom m (by omega)
    rwa [hf'] at this
  have HK : Hid (∀ W, Touch NoB w W → Calls Try.prog 26 #[.pointer (some ⟨g, 0, none⟩)] W fun e w' => e = .returned (.tuple #[.agg #[.int .i64 id.1, .int .i64 id.2], .int .i64 0]) ∧ SG w' (relab φ W w' 1) g room tables ps' ds' ts H nh va bh ∧ Touch (fun b => φ b = 1) W w') := fun W hW =>
    (make_some (h1.quiet hW).own (fun b hb => ⟨Nat.zero_le _, (h1.quiet hW).wf b (by rw [hb]; decide)⟩) h2.p hk (by omega)).mono fun e w' ⟨a, b, c⟩ => ⟨a, (h1.quiet hW).putIds c b, c⟩
  have HE : Hid (∀ (W0 W3 W4 : World), Touch NoB w W0 → w.heap.size < W0.heap.size → W0.heap[w.heap.size]? = some (.cells #[.int .i64 0, .int .i64 0] 30 (0, 0)) → SG W3 (relab φ W0 W3 1) g room tables ps' ds' ts H nh va bh → Touch (fun b => φ b = 1) W0 W3 → Touch NoB W3 W4 → W4.heap[W3.heap.size]? = some (.cells #[.int .i64 id.1, .int .i64 id.2] 30 (0, 0)) →
      Calls Try.prog 27 #[.pointer (some ⟨g, 0, none⟩), .agg #[.int .i64 id.1, .int .i64 id.2], .int .u16 m, .slice A N cap] W4 fun e w' => e = .returned (.tuple #[]) ∧ w'.heap[w.heap.size]? = some (.cells #[.int .i64 0, .int .i64 0] 30 (0, 0)) ∧ w'.heap[W3.heap.size]? = some (.cells #[.int .i64 id.1, .int .i64 id.2] 30 (0, 0)) ∧ St w' (fun b => Ext F w w' b ∧ b ≠ w.heap.size) (cnt + 1) g room tables ps' ds' (enterB bs m id cl) ∧ Touch F w w') := by
    intro W0 W3 W4 hT0 hs0 hq0 hS3 hT3 hT4 hq4
    have hS4 := hS3.quiet hT4
    have hg3 : ∀ b, relab φ W0 W3 1 b ≠ 0 → φ b ≠ 0 ∨ W0.heap.size ≤ b := by
      intro b hb
      unfold relab at hb
      split at hb
      · right; omega
      · exact .inl hb
    have hC4 : CellsAt W4 (fun b => relab φ W0 W3 1 b ≠ 0) A cl := by
      have c0 : CellsAt W0 (fun b => φ b ≠ 0) A cl := (hC.move (G := fun b => φ b ≠ 0) (Touch.refl _ _) (fun b _ e => h4 b e)).none hT0
      exact (c0.move (G := fun b => relab φ W0 W3 1 b ≠ 0) (hT3.mono (fun b e => by rw [e]; decide)) (fun b hb e => (hg3 b e).elim (fun x => x) (fun x => by omega))).none hT4
    refine (enter_any hS4 h2.t m id.1 id.2 A N cap cl hmr i1 i2 hn (by omega) (by omega) hN hN2 hC4).mono ?_
    rintro e w5 ⟨φ5, t5, H5, nh5, va5, rfl, h5, I5, hE5, hT5, hφ5⟩
    have n0 : relab φ W0 W3 1 w.heap.size = 0 := by
      unfold relab
      rw [if_neg (by omega)]
      exact Classical.byContradiction fun e => by have := h1.wf _ e; omega
    have n3 : relab φ W0 W3 1 W3.heap.size = 0 := Classical.byContradiction fun e => by have := hS3.wf _ e; omega
    have hT03 : Touch (fun b => φ b ≠ 0) W0 W3 := hT3.mono (fun b e => by rw [e]; decide)
    have hT05 : Touch (fun b => φ b ≠ 0) w w5 := ((hT0.mono (fun _ e => e.elim)).same hT03).trans ((hT4.mono (fun _ e => e.elim)).same hT5) (fun b e => (hg3 b e).elim .inl (fun x => .inr (by have := hT0.size; omega)))
    refine ⟨rfl, ?_, (hT5.block _ (blk_lt hq4) (fun e => e n3)).trans hq4, ⟨φ5, t5, H5, nh5, va5, bh, h5, ⟨I5, P', fun i x => ?_, ?_, ?_⟩, by rw [← h3]; exact ent_map hE5, fun b hb => ?_⟩, hT05.mono (fun b e => h4 b e)⟩
    · have a3 : W3.heap[w.heap.size]? = some (.cells #[.int .i64 0, .int .i64 0] 30 (0, 0)) := (hT3.block _ hs0 (fun e => by have := h1.wf w.heap.size (by rw [e]; decide); omega)).trans hq0
      have a4 := (hT4.block _ (blk_lt a3) (fun e => e)).trans a3
      exact (hT5.block _ (blk_lt a4) (fun e => e n0)).trans a4
    · rw [hlink, h2.link]
      obtain ⟨tm, j, r, D', n', hO, hr, rfl⟩ := hE5
      rw [entered_in hr rfl, open_in hO]
    · obtain ⟨tm, j, r, D', n', hO, hr, rfl⟩ := hE5
      rw [List.length_set, open_len hO]
      split <;> omega
    · obtain ⟨tm, j, r, D', n', hO, hr, rfl⟩ := hE5
      rw [List.length_set, open_len hO]
      have hlim := h2.lim
      refine ⟨?_, hlim.2⟩
      cases hh : hasL (am ts) m
      · rw [hh] at hf'
        simp at hf'
        rw [if_neg (by decide)]
        omega
      · rw [if_pos rfl]
        exact hlim.1
    · refine ⟨?_, fun e => ?_⟩
      rotate_left
      · subst e
        rcases hφ5 _ hb with e | e
        · exact e n0
        · have a2 := hT3.size
          have a3 := hT4.size
          omega
      have hbl := h5.wf b hb
      rcases hφ5 b hb with e | e
      · rcases hg3 b e with e2 | e2
        · exact .inl (h4 b e2)
        · right; have := hT0.size; omega
      · right
        have a1 := hT0.size
        have a2 := hT3.size
        have a3 := hT4.size
        omega
  have hgl := h1.lt
  clear hN hC hm hv h1 h2 h3 h4 hf hf' hl hk P' i1 i2 hnew hlink hn hmr
  go_enter Try.func7, Try.ntmps7
  go_wp2_with fail
  refine HM.out.mono ?_
  rintro e w1 ⟨rfl, hT1⟩
  have hq1 := new_blk hT1 rfl (fun e => e)
  have HQ := Lib.hid hq1
  have HT := Lib.hid (TW.same hT1)
  clear hT1 hq1 TW
  go_wp2_with fail
  refine (HR.out _ HT.out).mono ?_
  rintro e w2 ⟨rfl, hT2⟩
  have hq2 := (hT2.block _ (blk_lt HQ.out) (fun e => e)).trans HQ.out
  have HQ2 := Lib.hid hq2
  have hgl2 : g < w2.heap.size := Nat.lt_of_lt_of_le hgl (HT.out.same hT2).size
  have HT2 := Lib.hid (HT.out.same hT2)
  clear hT2 hq2
  go_wp2_with fail
  refine (HK.out _ HT2.out).mono ?_
  rintro e w3 ⟨rfl, hS3, hT3⟩
  have HS3 := Lib.hid hS3
  have HT3 := Lib.hid hT3
  clear hS3 hT3
  go_wp2_with fail
  refine (HE.out w2 w3 _ HT2.out (blk_lt HQ2.out) HQ2.out HS3.out HT3.out ((Touch.refl NoB w3).alloc _) (alloc_blk w3 _ _ rfl)).mono ?_
  rintro e w5 ⟨rfl, hq, hi, hS, hT⟩
  have c0 : w5.cell? ⟨w.heap.size, 0, none⟩ = some (.int .i64 0) := cell_blk hq 0
  have c1 : w5.cell? ⟨w.heap.size, 1, none⟩ = some (.int .i64 0) := cell_blk hq 1
  have z0 := free_blk hq 0
  have z1 := free_blk hq 1
  have hl := blk_lt hq
  have d0 : w5.cell? ⟨w3.heap.size, 0, none⟩ = some (.int .i64 id.1) := cell_blk hi 0
  have d1 : w5.cell? ⟨w3.heap.size, 1, none⟩ = some (.int .i64 id.2) := cell_blk hi 1
  have hl3 := blk_lt hi
  have hne : w3.heap.size ≠ w.heap.size := by have := HT2.out.size; have := HT3.out.size; have := blk_lt HQ2.out; omega
  have HSS := Lib.hid hS
  have HTT := Lib.hid hT
  clear hS hT hq hi
  go_wp2
  refine bodyPost_ret (v := .tuple #[.agg #[.int .i64 id.1, .int .i64 id.2], .int .i64 0]) (by simp [results, Try.results7, go_sem, c0, c1]) rfl ⟨rfl, ?_, ?_⟩
  · have t6 : Touch (fun b => b = w.heap.size) w5 ((w5.setCell ⟨w.heap.size, 0, none⟩ (.int .i64 id.1)).setCell ⟨w.heap.size, 1, none⟩ (.int .i64 id.2)) := ((Touch.refl (fun b => b = w.heap.size) w5).setCell (p := ⟨w.heap.size, 0, none⟩) (.inl rfl) _).setCell (p := ⟨w.heap.size, 1, none⟩) (.inl rfl) _
    refine (HSS.out.keep t6 (fun b hb e => hb.2 e)).more (fun b hb => ?_) (Nat.le_refl _)
    rcases hb.1 with e | ⟨e1, e2⟩
    · exact .inl e
    · exact .inr ⟨e1, Nat.lt_of_lt_of_le e2 t6.size⟩
  · exact (HTT.out.setCell (.inr (Nat.le_refl _)) _).setCell (.inr (Nat.le_refl _)) _
end
end Go.Proofs.Yticekldgjlihmaa
