/-
  Package nest's visit.add over expressions and over nodes: it counts an element, with what is below it, in the row where the visit lies. Conditions: those that each theorem names.
-/
import Derived.Test.YtfpeennegmlcpaaN3
import Derived.Test.YtfpeennegmlcpaaAdd
import Derived.StillTailTactics
namespace Go.Proofs.Ytfpeennegmlcpaa
open Go.ChangeShapes Go.WideShapes Go.ChangeAt Go.RowKit
set_option maxRecDepth 100000
set_option maxHeartbeats 1000000

theorem mk_blk (W : World) (cs : Array Value) (t : TypeId) {N : Nat} (hN : W.heap.size = N) : (W.alloc (.cells cs t)).heap[N]? = some (.cells cs t (0, 0)) := by
  subst hN; exact heap_alloc_new W _
/-- The row after an element has been counted. -/
def addRow (cs : Array Value) (o : Nat) (at' c d : Int) : Array Value := ((cs.setIfInBounds (o + 2) (.int .i64 c)).setIfInBounds (o + 3) (.int .i64 d)).setIfInBounds (o + 1) (.int .i64 at')
theorem addx_any {w : World} {b o : Nat} {cs : Array Value} {ty : TypeId} (at' c d ic id : Int) (hb : w.heap[b]? = some (.cells cs ty (0, 0))) (h1 : cs[o + 1]? = some (.int .i64 at')) (h2 : cs[o + 2]? = some (.int .i64 c)) (h3 : cs[o + 3]? = some (.int .i64 d))
    (ha : 0 ≤ at' ∧ at' ≤ 4294967296) (hc : 0 ≤ c ∧ c ≤ 9223372036854775807) (hic : 0 ≤ ic ∧ ic ≤ 9223372036854775807) (hid : 0 ≤ id ∧ id ≤ 4294967296) :
    Calls Try.prog 126 #[.pointer (some ⟨b, o, none⟩), .agg #[.int .i64 ic, .int .i64 id]] w fun e w' => e = .returned (.tuple #[]) ∧ w'.heap[b]? = some (.cells (addRow cs o (at' + 1) (lim (c + lim (1 + ic))) (max d (1 + id))) ty (0, 0)) ∧ Touch (fun x => x = b) w w' := by
  obtain ⟨W0, hW0⟩ : ∃ W0, w.alloc (.cells #[.int .i64 ic, .int .i64 id] 135) = W0 := ⟨_, rfl⟩
  have t0 : Touch NoB w W0 := hW0 ▸ (Touch.refl NoB w).alloc _
  have q1 : W0.heap[b]? = some (.cells cs ty (0, 0)) := (t0.block b (blk_lt hb) (fun f => f)).trans hb
  have q0 : W0.heap[w.heap.size]? = some (.cells #[.int .i64 ic, .int .i64 id] 135 (0, 0)) := hW0 ▸ mk_blk w _ _ rfl
  have hn : b ≠ w.heap.size := by have := blk_lt hb; omega
  have x0 : W0.cell? ⟨w.heap.size, 0, none⟩ = some (.int .i64 ic) := cell_blk q0 0
  have k2 : W0.cell? ⟨b, o + 2, none⟩ = some (.int .i64 c) := (cell_blk q1 (o + 2)).trans h2
  have cA := fun (a b : Int) (w : World) (h1 : -9223372036854775808 ≤ a ∧ a ≤ 9223372036854775807) (h2 : -9223372036854775808 ≤ b ∧ b ≤ 9223372036854775807) => (add_any a b w h1.1 h1.2 h2.1 h2.2).mono (R' := fun e w'' => e = .returned (.int .i64 (lim (a + b))) ∧ w'' = w) fun e w' h => ⟨h.1, h.2.symm⟩
  have z0 := free_blk q1 (o + 2)
  have l0 := blk_lt q1
  obtain ⟨v1, hv1⟩ : ∃ v, lim (c + lim (1 + ic)) = v := ⟨_, rfl⟩
  obtain ⟨W1, hW1⟩ : ∃ W1, W0.drew.setCell ⟨b, o + 2, none⟩ (.int .i64 v1) = W1 := ⟨_, rfl⟩
  have t1 : Touch (fun x => x = b) W0 W1 := hW1 ▸ ((Touch.refl (fun x => x = b) W0).drew.setCell (p := ⟨b, o + 2, none⟩) (.inl rfl) _)
  have r1 : W1.heap[b]? = some (.cells (cs.setIfInBounds (o + 2) (.int .i64 v1)) ty (0, 0)) := hW1 ▸ set_blk (w := W0.drew) q1 (o + 2) _
  have r0 := (t1.block _ (blk_lt q0) (fun e => hn e.symm)).trans q0
  have y1 : W1.cell? ⟨w.heap.size, 1, none⟩ = some (.int .i64 id) := cell_blk r0 1
  have y3 : W1.cell? ⟨b, o + 3, none⟩ = some (.int .i64 d) := (cell_blk r1 (o + 3)).trans ((Array.getElem?_setIfInBounds_ne (by omega)).trans h3)
  have z1 := free_blk r1 (o + 3)
  have l1 := blk_lt r1
  obtain ⟨v2, hv2⟩ : ∃ v, (if d < IntKind.i64.wrap (1 + id) then IntKind.i64.wrap (1 + id) else d) = v := ⟨_, rfl⟩
  obtain ⟨W2, hW2⟩ : ∃ W2, W1.drew.setCell ⟨b, o + 2 + 1, none⟩ (.int .i64 v2) = W2 := ⟨_, rfl⟩
  have t2 : Touch (fun x => x = b) W0 W2 := hW2 ▸ (t1.drew.setCell (p := ⟨b, o + 3, none⟩) (.inl rfl) _)
  have r2 : W2.heap[b]? = some (.cells ((cs.setIfInBounds (o + 2) (.int .i64 v1)).setIfInBounds (o + 3) (.int .i64 v2)) ty (0, 0)) := hW2 ▸ set_blk (w := W1.drew) r1 (o + 3) _
  have y4 : W2.cell? ⟨b, o + 1, none⟩ = some (.int .i64 at') := (cell_blk r2 (o + 1)).trans ((Array.getElem?_setIfInBounds_ne (by omega)).trans ((Array.getElem?_setIfInBounds_ne (by omega)).trans h1))
  have z2 := free_blk r2 (o + 1)
  have l2 := blk_lt r2
  go_enter Try.func126, Try.ntmps126
  go_wp2_with fail
  go_still_tail 13, (by kernel_rfl)
  still_call (cA 1 ic _ (by omega) (by omega))
  still_call (cA c (lim (1 + ic)) _ (by omega) (lim_range _))
  repeat still_step
  refine wpStill_nil ?_
  change wpList _ _ _ _ _ W0.drew
  go_wp2_with fail
  go_still_tail 13, (by kernel_rfl)
  change wpList _ _ _ _ _ W1.drew
  go_wp2
  go_end0
  have hw : IntKind.i64.wrap (1 + id) = 1 + id := IntWalk.i64_in _ (by omega)
  rw [hw] at hv2
  have e2 : v2 = max d (1 + id) := by rw [← hv2]; split <;> omega
  have r3 := set_blk r2 (o + 1) (.int .i64 (at' + 1))
  rw [e2, ← hv1] at r3
  refine ⟨rfl, r3, ?_⟩
  exact ((t0.mono (fun _ h => h.elim)).same t2).setCell (p := ⟨b, o + 1, none⟩) (.inl rfl) _
theorem addn_any {w : World} {b o : Nat} {cs : Array Value} {ty : TypeId} (at' c d ic id : Int) (hb : w.heap[b]? = some (.cells cs ty (0, 0))) (h1 : cs[o + 1]? = some (.int .i64 at')) (h2 : cs[o + 2]? = some (.int .i64 c)) (h3 : cs[o + 3]? = some (.int .i64 d))
    (ha : 0 ≤ at' ∧ at' ≤ 4294967296) (hc : 0 ≤ c ∧ c ≤ 9223372036854775807) (hic : 0 ≤ ic ∧ ic ≤ 9223372036854775807) (hid : 0 ≤ id ∧ id ≤ 4294967296) :
    Calls Try.prog 79 #[.pointer (some ⟨b, o, none⟩), .agg #[.int .i64 ic, .int .i64 id]] w fun e w' => e = .returned (.tuple #[]) ∧ w'.heap[b]? = some (.cells (addRow cs o (at' + 1) (lim (c + lim (1 + ic))) (max d (1 + id))) ty (0, 0)) ∧ Touch (fun x => x = b) w w' := by
  obtain ⟨W0, hW0⟩ : ∃ W0, w.alloc (.cells #[.int .i64 ic, .int .i64 id] 135) = W0 := ⟨_, rfl⟩
  have t0 : Touch NoB w W0 := hW0 ▸ (Touch.refl NoB w).alloc _
  have q1 : W0.heap[b]? = some (.cells cs ty (0, 0)) := (t0.block b (blk_lt hb) (fun f => f)).trans hb
  have q0 : W0.heap[w.heap.size]? = some (.cells #[.int .i64 ic, .int .i64 id] 135 (0, 0)) := hW0 ▸ mk_blk w _ _ rfl
  have hn : b ≠ w.heap.size := by have := blk_lt hb; omega
  have x0 : W0.cell? ⟨w.heap.size, 0, none⟩ = some (.int .i64 ic) := cell_blk q0 0
  have k2 : W0.cell? ⟨b, o + 2, none⟩ = some (.int .i64 c) := (cell_blk q1 (o + 2)).trans h2
  have cA := fun (a b : Int) (w : World) (h1 : -9223372036854775808 ≤ a ∧ a ≤ 9223372036854775807) (h2 : -9223372036854775808 ≤ b ∧ b ≤ 9223372036854775807) => (add_any a b w h1.1 h1.2 h2.1 h2.2).mono (R' := fun e w'' => e = .returned (.int .i64 (lim (a + b))) ∧ w'' = w) fun e w' h => ⟨h.1, h.2.symm⟩
  have z0 := free_blk q1 (o + 2)
  have l0 := blk_lt q1
  obtain ⟨v1, hv1⟩ : ∃ v, lim (c + lim (1 + ic)) = v := ⟨_, rfl⟩
  obtain ⟨W1, hW1⟩ : ∃ W1, W0.drew.setCell ⟨b, o + 2, none⟩ (.int .i64 v1) = W1 := ⟨_, rfl⟩
  have t1 : Touch (fun x => x = b) W0 W1 := hW1 ▸ ((Touch.refl (fun x => x = b) W0).drew.setCell (p := ⟨b, o + 2, none⟩) (.inl rfl) _)
  have r1 : W1.heap[b]? = some (.cells (cs.setIfInBounds (o + 2) (.int .i64 v1)) ty (0, 0)) := hW1 ▸ set_blk (w := W0.drew) q1 (o + 2) _
  have r0 := (t1.block _ (blk_lt q0) (fun e => hn e.symm)).trans q0
  have y1 : W1.cell? ⟨w.heap.size, 1, none⟩ = some (.int .i64 id) := cell_blk r0 1
  have y3 : W1.cell? ⟨b, o + 3, none⟩ = some (.int .i64 d) := (cell_blk r1 (o + 3)).trans ((Array.getElem?_setIfInBounds_ne (by omega)).trans h3)
  have z1 := free_blk r1 (o + 3)
  have l1 := blk_lt r1
  obtain ⟨v2, hv2⟩ : ∃ v, (if d < IntKind.i64.wrap (1 + id) then IntKind.i64.wrap (1 + id) else d) = v := ⟨_, rfl⟩
  obtain ⟨W2, hW2⟩ : ∃ W2, W1.drew.setCell ⟨b, o + 2 + 1, none⟩ (.int .i64 v2) = W2 := ⟨_, rfl⟩
  have t2 : Touch (fun x => x = b) W0 W2 := hW2 ▸ (t1.drew.setCell (p := ⟨b, o + 3, none⟩) (.inl rfl) _)
  have r2 : W2.heap[b]? = some (.cells ((cs.setIfInBounds (o + 2) (.int .i64 v1)).setIfInBounds (o + 3) (.int .i64 v2)) ty (0, 0)) := hW2 ▸ set_blk (w := W1.drew) r1 (o + 3) _
  have y4 : W2.cell? ⟨b, o + 1, none⟩ = some (.int .i64 at') := (cell_blk r2 (o + 1)).trans ((Array.getElem?_setIfInBounds_ne (by omega)).trans ((Array.getElem?_setIfInBounds_ne (by omega)).trans h1))
  have z2 := free_blk r2 (o + 1)
  have l2 := blk_lt r2
  go_enter Try.func79, Try.ntmps79
  go_wp2_with fail
  go_still_tail 13, (by kernel_rfl)
  still_call (cA 1 ic _ (by omega) (by omega))
  still_call (cA c (lim (1 + ic)) _ (by omega) (lim_range _))
  repeat still_step
  refine wpStill_nil ?_
  change wpList _ _ _ _ _ W0.drew
  go_wp2_with fail
  go_still_tail 13, (by kernel_rfl)
  change wpList _ _ _ _ _ W1.drew
  go_wp2
  go_end0
  have hw : IntKind.i64.wrap (1 + id) = 1 + id := IntWalk.i64_in _ (by omega)
  rw [hw] at hv2
  have e2 : v2 = max d (1 + id) := by rw [← hv2]; split <;> omega
  have r3 := set_blk r2 (o + 1) (.int .i64 (at' + 1))
  rw [e2, ← hv1] at r3
  refine ⟨rfl, r3, ?_⟩
  exact ((t0.mono (fun _ h => h.elim)).same t2).setCell (p := ⟨b, o + 1, none⟩) (.inl rfl) _
end Go.Proofs.Ytfpeennegmlcpaa
