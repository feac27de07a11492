/-
  What package expr's binary does with a parser in memory. Conditions: the table of levels can be read; what it calls does as the model says.
-/
import Derived.Test.YtkmbobfjoaldgaaGreatDoorQn
import Derived.Deep.AppendLies
namespace Go.Proofs.YtkmbobfjoaldgaaGreatDoor
open Go.ChangeShapes Go.WideShapes Go.ChangeAt Go.RowKit
set_option maxRecDepth 100000
set_option maxHeartbeats 4000000

theorem bin_single {gp g n cp B d D : Nat} {ts : List Tk} {u : Nat → Rs} (HU : UnaOk gp g n cp B ts d D u) : BinOk gp g n cp B ts 5 d D (binL ts u 0) := by
  intro w k e h hv
  obtain ⟨W0, hW0⟩ : ∃ W, w.alloc (.cells #[.int .i64 0, .int .i64 0, .string ⟨#[]⟩, .slice none 0 0] 44) = W := ⟨_, rfl⟩
  have hT0 : Touch NoB w W0 := by rw [← hW0]; exact (Touch.refl _ _).alloc _
  have hs0 : W0.heap.size = w.heap.size + 1 := by rw [← hW0]; simp only [World.size_alloc]
  have hb4 : XB W0 w.heap.size 0 0 ⟨#[]⟩ none 0 0 := by rw [← hW0]; exact XB.new w _ _ _ _ _ _ rfl
  have hgp := blk_lt h.blk
  have hgl := h.tl.lt
  have HC := Lib.hid (HU W0 k e (h.touch hT0) (hv.touch0 hT0))
  have HB4 := Lib.hid hb4
  have HT0 := Lib.hid hT0
  clear h hv hb4 hT0 HU
  go_enter Tryz.func161, Tryz.ntmps161
  go_wp2_with fail
  refine HC.out.mono ?_
  rintro r w4 ⟨hT4, z, k3, e3, a3, b3, s3, A3, m3, c3, rfl, hz, hp4, ho4, hzd⟩
  have HQ := Lib.hid (And.intro hp4 hT4)
  have HZ := Lib.hid (And.intro hz (And.intro ho4 hzd))
  clear hp4 hT4 hz ho4 hzd
  have hb4 := HB4.out.go HQ.out.2 (by omega)
  obtain ⟨z0, z1, z2, z3, z4⟩ := hb4.cells
  obtain ⟨f0, f1, f2, f3⟩ := hb4.free
  clear hb4
  go_wp2
  have hTE := touch4 (F := AtB gp) ((Touch.anyB (F := AtB gp) HT0.out).same HQ.out.2) (.inr (Nat.le_refl w.heap.size)) (.int .i64 a3) (.int .i64 b3) (.string s3) (.slice A3 m3 c3)
  have hTX := touch4 (F := fun b => b = w.heap.size) (Touch.refl _ w4) (.inl rfl) (.int .i64 a3) (.int .i64 b3) (.string s3) (.slice A3 m3 c3)
  exact bodyPost_ret (v := .agg #[.int .i64 a3, .int .i64 b3, .string s3, .slice A3 m3 c3]) (by simp [results, Tryz.results161, go_sem, z0, z1, z2, z3]) rfl ⟨hTE, z, k3, e3, _, _, _, _, _, _, rfl, (HZ.out.1.aside hTX (by intro q; rcases q with q | q; exact q.elim; omega)).via (fun b h1 _ => by rcases h1 with h1 | h1; exact h1.elim; exact .inr (by omega)), HQ.out.1.touchX hTX hgp hgl, HZ.out.2.1, HZ.out.2.2⟩

/-! ### the model's loop, round by round -/
theorem bin_start {ts : List Tk} {u : Nat → Rs} {j k e k1 e1 : Nat} {x : Ex} (ho : Out (binL ts u j k) k e x k1 e1) :
    (e1 ≠ 0 → Out (binL ts u (j + 1) k) k e x k1 e1) ∧ (e1 = 0 → e = 0 ∧ loopL ts (4 - j) (binL ts u j) (ts.length - k1) x k1 = binL ts u (j + 1) k) := by
  by_cases he : e = 0
  · subst he
    unfold Out at ho
    rw [if_pos rfl] at ho
    cases hr : binL ts u j k with
    | er e i =>
      rw [hr] at ho
      obtain ⟨rfl, rfl, h0⟩ := ho
      refine ⟨fun _ => ?_, fun h => absurd h h0⟩
      unfold Out binL
      rw [if_pos rfl, hr]
      exact ⟨rfl, rfl, h0⟩
    | ok z i =>
      rw [hr] at ho
      obtain ⟨rfl, rfl, rfl⟩ := ho
      refine ⟨fun h => absurd rfl h, fun _ => ⟨rfl, ?_⟩⟩
      conv => rhs; unfold binL
      rw [hr]
  · unfold Out at ho
    rw [if_neg he] at ho
    obtain ⟨rfl, rfl⟩ := ho
    exact ⟨fun _ => Out.bad he, fun h => absurd h he⟩
theorem bin_none {ts : List Tk} {sub : Nat → Rs} {lv k kx f : Nat} {x : Ex} {R0 : Rs} (hl : loopL ts lv sub f x kx = R0) (ho : opk ts lv kx = none) : Out R0 k 0 x kx 0 := by
  have : R0 = .ok x kx := by
    rw [← hl]
    cases f with
    | zero => rfl
    | succ f => unfold loopL; rw [ho]
  subst this
  exact ⟨rfl, rfl, rfl⟩
theorem bin_op {ts : List Tk} {sub : Nat → Rs} {lv k kx f k2 e2 e3 : Nat} {x y : Ex} {kd : Int} {R0 : Rs} (hs : ∀ k, k ≤ ts.length → (sub k).fwd ts.length k) (hf : ts.length ≤ kx + f) (hl : loopL ts lv sub f x kx = R0) (hop : opk ts lv kx = some kd)
    (ho : Out (sub (kx + 1)) (kx + 1) 0 y k2 e2) (he3 : e3 = if e2 = 0 ∧ 40 < (Ex.two kd x y).depth then 4 else e2) :
    (lv = 2 → Out R0 k 0 (.two kd x y) k2 e3) ∧ (e3 ≠ 0 → Out R0 k 0 (.two kd x y) k2 e3) ∧ (lv ≠ 2 → e3 = 0 → (Ex.two kd x y).depth ≤ 40 ∧ ∃ f', ts.length ≤ k2 + f' ∧ loopL ts lv sub f' (.two kd x y) k2 = R0) ∧ kx < k2 := by
  have hlt := opk_lt hop
  cases f with
  | zero => omega
  | succ f =>
    unfold loopL at hl
    rw [hop] at hl
    simp only at hl
    have h2 := hs (kx + 1) (by omega)
    unfold Out at ho
    rw [if_pos rfl] at ho
    cases hr : sub (kx + 1) with
    | er e i =>
      rw [hr] at ho hl h2
      obtain ⟨rfl, rfl, h0⟩ := ho
      rw [if_neg (fun z => h0 z.1)] at he3
      subst he3 hl
      exact ⟨fun _ => ⟨rfl, rfl, h0⟩, fun _ => ⟨rfl, rfl, h0⟩, fun _ h => absurd h h0, by have := h2.1; omega⟩
    | ok z i =>
      rw [hr] at ho hl h2
      obtain ⟨rfl, rfl, rfl⟩ := ho
      simp only [mk] at hl
      by_cases h40 : 40 < (Ex.two kd x y).depth
      · rw [if_pos h40] at hl
        rw [if_pos ⟨rfl, h40⟩] at he3
        simp only at hl
        subst he3 hl
        exact ⟨fun _ => ⟨rfl, rfl, by decide⟩, fun _ => ⟨rfl, rfl, by decide⟩, fun _ h => absurd h (by decide), by have := h2.1; omega⟩
      · rw [if_neg h40] at hl
        rw [if_neg (fun z => h40 z.2)] at he3
        simp only at hl
        subst he3
        refine ⟨fun h => ?_, fun h => absurd rfl h, fun h _ => ⟨by omega, f, by have := h2.1; omega, by rw [if_neg h] at hl; exact hl⟩, by have := h2.1; omega⟩
        rw [if_pos h] at hl
        subst hl
        exact ⟨rfl, rfl, rfl⟩
theorem PS.cell1 {w : World} {gp g n cp : Nat} {ts : List Tk} {k e : Nat} (h : PS w gp g n cp ts k e) : w.cell? ⟨gp, 1, none⟩ = some (.int .i64 (k : Int)) := cell_blk h.blk 1
/-- What a binary's loop carries. -/
structure BinRel (gp g n cp B : Nat) (ts : List Tk) (lv D k e q6 q7 : Nat) (sub : Nat → Rs) (R0 : Rs) (w : World) (x : Ex) (kx ex : Nat) (a b : Int) (s : ByteArray) (A : Option Addr) (m c : Nat) (wr : World) : Prop where
  t : Touch (AtB gp) w wr
  x7 : XB wr q7 a b s A m c
  x6 : XB wr q6 0 0 ⟨#[]⟩ none 0 0
  et : ET wr (fun b => w.heap.size < b ∧ b ≠ q7) x a b s A m c
  ps : PS wr gp g n cp ts kx ex
  hv : LV wr B
  bad : ex ≠ 0 → Out R0 k e x kx ex ∧ x.depth ≤ D + 1
  good : ex = 0 → e = 0 ∧ x.depth ≤ D ∧ ∃ f, ts.length ≤ kx + f ∧ loopL ts lv sub f x kx = R0
def meas (gp n : Nat) (wr : World) : Nat := n - (intOf ((wr.cell? ⟨gp, 1, none⟩).getD undef)).toNat
theorem meas_at {w : World} {gp g n cp : Nat} {ts : List Tk} {k e : Nat} (h : PS w gp g n cp ts k e) : meas gp n w = n - k := by
  unfold meas
  rw [h.cell1]
  simp [intOf]
end Go.Proofs.YtkmbobfjoaldgaaGreatDoor
