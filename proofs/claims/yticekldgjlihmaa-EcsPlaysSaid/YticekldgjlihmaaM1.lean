/-
  Plain arithmetic on Lean's integers: what a number comes to when it is limited to 64 bits, with the facts on sums, products and quotients that the contracts of package clamp use. No condition beyond those that each theorem names.
-/
import Derived.IntWalk
import Derived.WalkKit
import Derived.Below
import Derived.Laws.OwnMore
import Derived.OwnWalk
import Derived.Maps.AppendAt
import Derived.Deep.Draws
namespace Go.Proofs.Yticekldgjlihmaa
open Go.RowKit (wrap64)

/-- A number limited to the range of 64 bits. -/
def lim (n : Int) : Int := if n < -9223372036854775808 then -9223372036854775808 else if 9223372036854775807 < n then 9223372036854775807 else n
def In64 (n : Int) : Prop := -9223372036854775808 ≤ n ∧ n ≤ 9223372036854775807
def divI (a b : Int) : Int := if b = 0 then 0 else lim (a.tdiv b)
def withinI (n lo hi : Int) : Int := if n < lo ∨ hi < lo then lo else if hi < n then hi else n

theorem lim_lo {n : Int} (h : n < -9223372036854775808) : lim n = -9223372036854775808 := by unfold lim; rw [if_pos h]
theorem lim_hi {n : Int} (h : 9223372036854775807 < n) : lim n = 9223372036854775807 := by unfold lim; rw [if_neg (by omega), if_pos h]
theorem lim_in {n : Int} (h1 : -9223372036854775808 ≤ n) (h2 : n ≤ 9223372036854775807) : lim n = n := by unfold lim; rw [if_neg (by omega), if_neg (by omega)]
theorem lim_range (n : Int) : -9223372036854775808 ≤ lim n ∧ lim n ≤ 9223372036854775807 := by unfold lim; split <;> (try split) <;> omega
theorem lim_mono {a b : Int} (h : a ≤ b) : lim a ≤ lim b := by unfold lim; repeat' split <;> omega

theorem tdiv_abs_le (x y : Int) : (x.tdiv y).natAbs ≤ x.natAbs := by
  rw [Int.natAbs_tdiv]; exact Nat.div_le_self _ _

theorem lim_zero : lim 0 = 0 := by decide
theorem mul_least : lim (-9223372036854775808 * -1) = 9223372036854775807 := by decide
theorem div_zero (a : Int) : divI a 0 = 0 := by unfold divI; rw [if_pos rfl]
theorem div_least : divI (-9223372036854775808) (-1) = 9223372036854775807 := by decide
/-- The quotient that Go computes, where it is within 64 bits. -/
theorem quo_range (a b : Int) (h1 : -9223372036854775808 ≤ a) (h2 : a ≤ 9223372036854775807) (hb : b ≠ 0) (hm : ¬ (a ≤ -9223372036854775808 ∧ b = -1)) :
    -9223372036854775808 ≤ a.tdiv b ∧ a.tdiv b ≤ 9223372036854775807 := by
  have h := tdiv_abs_le a b
  by_cases ha : a = -9223372036854775808
  · by_cases hb1 : b = 1
    · subst ha hb1; decide
    · have hab : (a.tdiv b).natAbs ≤ a.natAbs / 2 := by
        rw [Int.natAbs_tdiv]
        exact Nat.div_le_div_left (by omega) (by omega)
      omega
  · omega
theorem quo_in (a b : Int) (h1 : -9223372036854775808 ≤ a) (h2 : a ≤ 9223372036854775807) (hb : b ≠ 0) (hm : ¬ (a ≤ -9223372036854775808 ∧ b = -1)) :
    wrap64 (a.tdiv b) = divI a b := by
  have h := quo_range a b h1 h2 hb hm
  unfold divI
  rw [if_neg hb, lim_in h.1 h.2]; unfold wrap64; omega

theorem mul_same (a b p : Int) (hin : -9223372036854775808 ≤ a * b ∧ a * b ≤ 9223372036854775807) (hp : IntKind.i64.wrap (a * b) = p) : p = lim (a * b) := by
  rw [IntWalk.i64_in _ hin] at hp; rw [lim_in hin.1 hin.2]; exact hp.symm
theorem mul_back (a b p : Int) (ha1 : -9223372036854775808 ≤ a) (ha2 : a ≤ 9223372036854775807) (hb : b ≠ 0) (hin : -9223372036854775808 ≤ a * b ∧ a * b ≤ 9223372036854775807)
    (hp : IntKind.i64.wrap (a * b) = p) : IntKind.i64.wrap (p.tdiv b) = a := by
  rw [IntWalk.i64_in _ hin] at hp; subst hp
  rw [Int.mul_tdiv_cancel _ hb]; exact IntWalk.i64_in _ ⟨ha1, ha2⟩
theorem wrap_range (n : Int) : -9223372036854775808 ≤ IntKind.i64.wrap n ∧ IntKind.i64.wrap n ≤ 9223372036854775807 := by rw [IntKind.wrap_i64]; omega
theorem mul_over (a b p : Int) (hb1 : -9223372036854775808 ≤ b) (hb2 : b ≤ 9223372036854775807) (hb : b ≠ 0) (hm : ¬ (a = -9223372036854775808 ∧ b = -1))
    (ha1 : -9223372036854775808 ≤ a) (ha2 : a ≤ 9223372036854775807)
    (hin : ¬ (-9223372036854775808 ≤ a * b ∧ a * b ≤ 9223372036854775807)) (hp : IntKind.i64.wrap (a * b) = p) : IntKind.i64.wrap (p.tdiv b) ≠ a := by
  have hr := wrap_range (a * b)
  rw [hp] at hr
  have hpm : ¬ (p ≤ -9223372036854775808 ∧ b = -1) := by
    rintro ⟨_, rfl⟩
    omega
  have hq := quo_range p b hr.1 hr.2 hb hpm
  rw [IntWalk.i64_in _ hq]
  intro he
  have h1 := Int.mul_tdiv_add_tmod p b
  rw [he, Int.mul_comm b a] at h1
  have h2 : (p.tmod b).natAbs < b.natAbs := by
    rw [Int.natAbs_tmod]; exact Nat.mod_lt _ (by omega)
  rw [IntKind.wrap_i64] at hp
  omega
theorem mul_sign_pos {a b : Int} (h : 0 ≤ a * b) (hin : ¬ (-9223372036854775808 ≤ a * b ∧ a * b ≤ 9223372036854775807)) : 9223372036854775807 = lim (a * b) := (lim_hi (by omega)).symm
theorem mul_sign_neg {a b : Int} (h : a * b ≤ 0) (hin : ¬ (-9223372036854775808 ≤ a * b ∧ a * b ≤ 9223372036854775807)) : -9223372036854775808 = lim (a * b) := (lim_lo (by omega)).symm

theorem lim_low {n : Int} (h : n ≤ -9223372036854775808) : lim n = -9223372036854775808 := by
  unfold lim; split
  · rfl
  · rw [if_neg (by omega)]; omega
theorem within_lo (n lo hi : Int) : lo ≤ withinI n lo hi := by unfold withinI; repeat' split <;> omega
theorem within_hi (n lo hi : Int) : hi < lo ∨ withinI n lo hi ≤ hi := by unfold withinI; repeat' split <;> omega
theorem within_idem (n lo hi : Int) : withinI (withinI n lo hi) lo hi = withinI n lo hi := by unfold withinI; repeat' split <;> omega
theorem div_in (a b : Int) (hb : b ≠ 0) (h : -9223372036854775808 ≤ a.tdiv b ∧ a.tdiv b ≤ 9223372036854775807) : divI a b = a.tdiv b := by
  unfold divI; rw [if_neg hb, lim_in h.1 h.2]
theorem rest_eq (a b : Int) : a - a.tdiv b * b = a.tmod b := by
  have := Int.mul_tdiv_add_tmod a b
  rw [Int.mul_comm b] at this; omega
theorem tmod_abs (a b : Int) : (a.tmod b).natAbs ≤ a.natAbs := by rw [Int.natAbs_tmod]; exact Nat.mod_le _ _
theorem rest_sign (a b : Int) : a - a.tdiv b * b = 0 ∨ (a - a.tdiv b * b < 0 ∧ a < 0) ∨ (0 < a - a.tdiv b * b ∧ 0 ≤ a) := by
  rw [rest_eq]
  rcases Int.lt_or_le a 0 with h | h
  · have h2 := Int.tmod_nonneg (a := -a) b (by omega); rw [Int.neg_tmod] at h2; omega
  · have := Int.tmod_nonneg b h; omega
theorem back_range (a b : Int) (ha1 : -9223372036854775808 ≤ a) (ha2 : a ≤ 9223372036854775807) :
    -9223372036854775808 ≤ a.tdiv b * b ∧ a.tdiv b * b ≤ 9223372036854775807 := by
  have h1 := rest_eq a b
  have h2 := tmod_abs a b
  have h3 := rest_sign a b
  omega
theorem rest_range (a b : Int) (ha1 : -9223372036854775808 ≤ a) (ha2 : a ≤ 9223372036854775807) (hb : b ≠ 0) (ham : a ≠ -9223372036854775808) :
    -9223372036854775808 ≤ a - a.tdiv b * b ∧ a - a.tdiv b * b ≤ 9223372036854775807 ∧ (a - a.tdiv b * b).natAbs < b.natAbs := by
  rw [rest_eq]
  have h2 := tmod_abs a b
  have h3 : (a.tmod b).natAbs < b.natAbs := by rw [Int.natAbs_tmod]; exact Nat.mod_lt _ (by omega)
  omega

theorem mul_small (a b : Int) (h1 : -1073741824 ≤ a) (h2 : a ≤ 1073741824) (h3 : -1073741824 ≤ b) (h4 : b ≤ 1073741824) :
    -1152921504606846976 ≤ a * b ∧ a * b ≤ 1152921504606846976 := by
  have h : (a * b).natAbs ≤ 1073741824 * 1073741824 := by rw [Int.natAbs_mul]; exact Nat.mul_le_mul (by omega) (by omega)
  omega

end Go.Proofs.Yticekldgjlihmaa

/-
  Words for memory: which blocks a call may have changed; rows of a call's own kept over it. No program is named here.
-/
namespace Go.Proofs.Yticekldgjlihmaa
open Go.RowKit

/-- Of the blocks that w had, none outside F reads otherwise in w'; no block has gone; the streams are as they were. -/
structure Touch (F : Nat → Prop) (w w' : World) : Prop where
  os : w'.os = w.os
  tape : w'.tape = w.tape
  output : w'.output = w.output
  size : w.heap.size ≤ w'.heap.size
  block : ∀ k, k < w.heap.size → ¬ F k → w'.heap[k]? = w.heap[k]?

/-- No block at all. -/
def NoB : Nat → Prop := fun _ => False
/-- F, and every block that came between w and w'. -/
def Ext (F : Nat → Prop) (w w' : World) : Nat → Prop := fun b => F b ∨ (w.heap.size ≤ b ∧ b < w'.heap.size)
/-- F lies between B and the end of w's memory. -/
def InW (w : World) (B : Nat) (F : Nat → Prop) : Prop := ∀ b, F b → B ≤ b ∧ b < w.heap.size
/-- No block is in both. -/
def Dis (F G : Nat → Prop) : Prop := ∀ b, F b → G b → False

section
variable {F G : Nat → Prop} {w w' a b c : World} {B : Nat}
theorem Touch.refl (F : Nat → Prop) (w : World) : Touch F w w := ⟨rfl, rfl, rfl, Nat.le_refl _, fun _ _ _ => rfl⟩
theorem Touch.mono (h : Touch F w w') (hF : ∀ b, F b → G b) : Touch G w w' := ⟨h.os, h.tape, h.output, h.size, fun k hk hg => h.block k hk (fun x => hg (hF k x))⟩
/-- Two steps; what the second may change is in F, or is new since the start. -/
theorem Touch.trans (h : Touch F a b) (k : Touch G b c) (hG : ∀ x, G x → F x ∨ a.heap.size ≤ x) : Touch F a c :=
  ⟨k.os.trans h.os, k.tape.trans h.tape, k.output.trans h.output, Nat.le_trans h.size k.size, fun i hi hf =>
    (k.block i (Nat.lt_of_lt_of_le hi h.size) (fun g => (hG i g).elim hf (fun e => by omega))).trans (h.block i hi hf)⟩
theorem Touch.same (h : Touch F a b) (k : Touch F b c) : Touch F a c := h.trans k (fun _ => Or.inl)
theorem Touch.drew (h : Touch F a w) : Touch F a w.drew := ⟨h.os, h.tape, h.output, h.size, h.block⟩
theorem Touch.drewN (h : Touch F a w) (n : Nat) : Touch F a (w.drewN n) := ⟨h.os, h.tape, h.output, h.size, h.block⟩
theorem Touch.alloc (h : Touch F a w) (o : Obj) : Touch F a (w.alloc o) :=
  h.same ⟨rfl, rfl, rfl, by simp, fun k hk _ => Below.heap_alloc _ _ _ hk⟩
theorem Touch.setCell (h : Touch F a w) {p : Addr} (hp : F p.block ∨ a.heap.size ≤ p.block) (u : Value) : Touch F a (w.setCell p u) :=
  h.trans (G := fun b => b = p.block) ⟨rfl, rfl, rfl, by simp [World.setCell], fun k _ hn => Below.heap_setCell _ _ _ _ hn⟩ (fun x hx => by subst hx; exact hp)
theorem Touch.grown (h : Touch F a w) {row : Option Nat} (hg : w.grownBy w' row) (hr : ∀ k, row = some k → F k ∨ a.heap.size ≤ k) : Touch F a w' :=
  h.trans (G := fun b => row = some b) ⟨hg.os, hg.tape, hg.output, hg.size, fun k hk hn => hg.block k hk (fun e => hn e.symm)⟩ (fun x hx => hr x hx)
theorem Touch.cell (h : Touch F w w') {p : Addr} (hl : p.block < w.heap.size) (hf : ¬ F p.block) : w'.cell? p = w.cell? p := World.cell?_of_block (w := w) (h.block p.block hl hf)
theorem Touch.frozen (h : Touch F w w') {p : Addr} (hl : p.block < w.heap.size) (hf : ¬ F p.block) : w'.frozen? p = w.frozen? p := World.frozen?_of_block (w := w) (h.block p.block hl hf)
/-- What only new blocks were changed by leaves all that was there. -/
theorem Touch.below (h : Touch F w w') (hB : ∀ b, F b → w.heap.size ≤ b) : Below w.heap.size w w' :=
  ⟨h.os, h.tape, h.output, h.size, fun k hk => h.block k hk (fun f => by have := hB k f; omega)⟩
theorem Touch.grow (h : Touch F w w') (hB : ∀ b, F b → B ≤ b) (hl : B ≤ w.heap.size) : Below B w w' :=
  ⟨h.os, h.tape, h.output, h.size, fun k hk => h.block k (by omega) (fun f => by have := hB k f; omega)⟩

theorem InW.ext (h : InW w B F) (hs : w.heap.size ≤ w'.heap.size) (hB : B ≤ w.heap.size) : InW w' B (Ext F w w') := by
  rintro b (hb | ⟨h1, h2⟩)
  · have := h b hb; omega
  · omega
theorem InW.more (h : InW w B F) (hs : w.heap.size ≤ w'.heap.size) : InW w' B F := fun b hb => by have := h b hb; omega
theorem Dis.symm (h : Dis F G) : Dis G F := fun b hg hf => h b hf hg
theorem Dis.ext (h : Dis F G) (hG : InW w B G) : Dis (Ext F w w') G := by
  rintro b (hb | ⟨h1, _⟩) hg
  · exact h b hb hg
  · have := hG b hg; omega
theorem Dis.ext' (h : Dis F G) (hF : InW w B F) : Dis F (Ext G w w') := (h.symm.ext hF).symm
end

section
variable {F : Nat → Prop} {w w' : World} {base : Nat} {e : TypeId} {size n : Nat} {v : Value} {xs : List Value}
/-- A row stays as it is while its block is not touched. -/
theorem row_touch (h : w.ownsRow base e size v n xs) (t : Touch F w w') (hf : ∀ k, v.ownBlock = some k → ¬ F k) : w'.ownsRow base e size v n xs := by
  refine ⟨h.1, ?_⟩
  rcases h.2 with h0 | ⟨g, cap, cur, rfl, hb, hg, r⟩
  · exact .inl h0
  · exact .inr ⟨g, cap, cur, rfl, hb, by rw [t.block g (Array.getElem?_eq_some_iff.1 hg).1 (hf g rfl)]; exact hg, r⟩
theorem row_lt (h : w.ownsRow base e size v n xs) {k : Nat} (hk : v.ownBlock = some k) : k < w.heap.size := (h.lt k hk).2
/-- A row with an element shows its form. -/
theorem row_form (h : w.ownsRow base e size v n xs) (hn : 0 < n) : ∃ g cap, v = .slice (some ⟨g, 0, none⟩) n cap ∧ n ≤ cap ∧ cap ≤ maxLen ∧ v.ownBlock = some g := by
  rcases h.2 with ⟨_, h0⟩ | ⟨g, cap, cur, rfl, _, _, hc, hm, _⟩
  · omega
  · exact ⟨g, cap, rfl, hc, hm, rfl⟩
/-- The form of any row: a slice value of length n. -/
theorem row_any (h : w.ownsRow base e size v n xs) : ∃ A cap, v = .slice A n cap ∧ n ≤ cap ∧ cap ≤ maxLen := by
  rcases h.2 with ⟨rfl, h0⟩ | ⟨g, cap, cur, rfl, _, _, hc, hm, _⟩
  · subst h0; exact ⟨none, 0, rfl, Nat.le_refl _, by unfold maxLen; omega⟩
  · exact ⟨_, cap, rfl, hc, hm⟩
/-- A shorter row of the same block: 's[:m]'. -/
theorem row_cut {g cap : Nat} (h : w.ownsRow base e size (.slice (some ⟨g, 0, none⟩) n cap) n xs) {m : Nat} (hm : m ≤ n) : w.ownsRow base e size (.slice (some ⟨g, 0, none⟩) m cap) m (xs.take (m * size)) := by
  have hms : m * size ≤ n * size := Nat.mul_le_mul_right _ hm
  refine ⟨by rw [List.length_take, h.1]; omega, ?_⟩
  rcases h.2 with ⟨h0, _⟩ | ⟨g', cap', cur, hv, hb, hg, hc, hx, hs, ht⟩
  · cases h0
  · injection hv with h1 h2 h3
    injection h1 with h1
    injection h1 with h1
    subst h1 h3
    exact .inr ⟨g, cap, cur, rfl, hb, hg, by omega, hx, hs, by rw [← ht, List.take_take, Nat.min_eq_left hms]⟩
/-- Two blocks of different element types differ. -/
theorem row_ne (h : w.ownsRow base e size v n xs) {g : Nat} {cs : Array Value} {t : TypeId} {fr : Nat × Nat} (hg : w.heap[g]? = some (.cells cs t fr)) (hne : e ≠ t) : v.ownBlock ≠ some g := by
  rcases h.2 with ⟨rfl, _⟩ | ⟨g', cap, cur, rfl, _, hh, _⟩
  · simp [Value.ownBlock]
  · intro he
    have e1 : g' = g := by simpa [Value.ownBlock] using he
    subst e1
    rw [hg] at hh
    injection hh with hh
    injection hh with _ ht
    exact hne ht.symm
theorem row_row_ne {base' : Nat} {e' : TypeId} {size' n' : Nat} {v' : Value} {xs' : List Value} (h : w.ownsRow base e size v n xs) (h' : w.ownsRow base' e' size' v' n' xs') (hne : e ≠ e') {k : Nat} (hk : v.ownBlock = some k) : v'.ownBlock ≠ some k := by
  rcases h.2 with ⟨rfl, _⟩ | ⟨g, cap, cur, rfl, _, hh, _⟩
  · simp [Value.ownBlock] at hk
  · have e1 : g = k := by simpa [Value.ownBlock] using hk
    subst e1
    exact row_ne h' hh (fun x => hne x.symm)
end

theorem cell_blk {w : World} {g : Nat} {cs : Array Value} {t : TypeId} {fr : Nat × Nat} (h : w.heap[g]? = some (.cells cs t fr)) (i : Nat) : w.cell? ⟨g, i, none⟩ = cs[i]? := cell_of_row w g i cs t fr h
theorem free_blk {w : World} {g : Nat} {cs : Array Value} {t : TypeId} (h : w.heap[g]? = some (.cells cs t (0, 0))) (i : Nat) : w.frozen? ⟨g, i, none⟩ = false := by simp [World.frozen?, h]
theorem set_blk {w : World} {g : Nat} {cs : Array Value} {t : TypeId} {fr : Nat × Nat} (h : w.heap[g]? = some (.cells cs t fr)) (i : Nat) (u : Value) : (w.setCell ⟨g, i, none⟩ u).heap[g]? = some (.cells (cs.setIfInBounds i u) t fr) := by
  simp [World.setCell, Array.getElem?_modify, h]
theorem blk_lt {w : World} {g : Nat} {o : Obj} (h : w.heap[g]? = some o) : g < w.heap.size := (Array.getElem?_eq_some_iff.1 h).1

end Go.Proofs.Yticekldgjlihmaa
