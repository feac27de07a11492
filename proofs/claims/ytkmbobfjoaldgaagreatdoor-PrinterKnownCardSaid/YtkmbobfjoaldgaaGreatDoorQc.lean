/-
  A reader of tokens in memory (the head of a parser's block, of whatever type): what package tokens' Next returns. Conditions: those that each theorem names.
-/
import Derived.Test.YtkmbobfjoaldgaaGreatDoorQb
import Derived.Test.YtkmbobfjoaldgaaGreatDoorLu
namespace Go.Proofs.YtkmbobfjoaldgaaGreatDoor
open Go.ChangeShapes Go.WideShapes Go.ChangeAt Go.RowKit
set_option maxRecDepth 100000
set_option maxHeartbeats 4000000

/-- A parser at place k with error e, in block gp; its tokens lie in block g. -/
structure PSt (T : TypeId) (w : World) (gp g n cp : Nat) (ts : List Tk) (k e : Nat) : Prop where
  blk : w.heap[gp]? = some (.cells #[.slice (some ⟨g, 0, none⟩) n cp, .int .i64 (k : Int), .int .i64 (e : Int)] T (0, 0))
  tl : TL w g ts
  ne : g ≠ gp
  len : ts.length = n
  le : k ≤ n
  small : n ≤ 100000
  txs : ∀ t ∈ ts, t.tx.length ≤ 100000
/-- A parser of expressions. -/
abbrev PS := PSt 198
def AtB (gp : Nat) : Nat → Prop := fun b => b = gp
theorem TL.touchP {w w' : World} {g gp : Nat} {ts : List Tk} (h : TL w g ts) (t : Touch (AtB gp) w w') (hne : g ≠ gp) : TL w' g ts := by
  refine ⟨Nat.lt_of_lt_of_le h.lt t.size, fun k x hx => ?_⟩
  have e := fun j => t.cell (p := ⟨g, j, none⟩) h.lt hne
  obtain ⟨a, b, c, d⟩ := h.at_ k x hx
  exact ⟨(e _).trans a, (e _).trans b, (e _).trans c, (e _).trans d⟩
theorem PSt.touch {T : TypeId} {w w' : World} {gp g n cp : Nat} {ts : List Tk} {k e : Nat} (h : PSt T w gp g n cp ts k e) (t : Touch NoB w w') : PSt T w' gp g n cp ts k e :=
  ⟨(t.block gp (blk_lt h.blk) (fun x => x)).trans h.blk, h.tl.touch t, h.ne, h.len, h.le, h.small, h.txs⟩
theorem Touch.anyB {w w' : World} {F : Nat → Prop} (t : Touch NoB w w') : Touch F w w' := t.mono (fun _ x => x.elim)
/-- Its place written anew. -/
theorem PSt.setk {T : TypeId} {w : World} {gp g n cp : Nat} {ts : List Tk} {k e : Nat} (h : PSt T w gp g n cp ts k e) (j : Nat) (hj : j ≤ n) : PSt T (w.setCell ⟨gp, 1, none⟩ (.int .i64 (j : Int))) gp g n cp ts j e := by
  have tt : Touch (AtB gp) w (w.setCell ⟨gp, 1, none⟩ (.int .i64 (j : Int))) := (Touch.refl (AtB gp) w).setCell (p := ⟨gp, 1, none⟩) (.inl rfl) _
  exact ⟨set_blk h.blk 1 _, h.tl.touchP tt h.ne, h.ne, h.len, hj, h.small, h.txs⟩
theorem PSt.sete {T : TypeId} {w : World} {gp g n cp : Nat} {ts : List Tk} {k e : Nat} (h : PSt T w gp g n cp ts k e) (j : Nat) : PSt T (w.setCell ⟨gp, 2, none⟩ (.int .i64 (j : Int))) gp g n cp ts k j := by
  have tt : Touch (AtB gp) w (w.setCell ⟨gp, 2, none⟩ (.int .i64 (j : Int))) := (Touch.refl (AtB gp) w).setCell (p := ⟨gp, 2, none⟩) (.inl rfl) _
  exact ⟨set_blk h.blk 2 _, h.tl.touchP tt h.ne, h.ne, h.len, h.le, h.small, h.txs⟩
theorem PSt.touchX {T : TypeId} {w w' : World} {gp g n cp : Nat} {ts : List Tk} {k e s : Nat} (h : PSt T w gp g n cp ts k e) (t : Touch (fun b => b = s) w w') (h1 : gp < s) (h2 : g < s) : PSt T w' gp g n cp ts k e := by
  refine ⟨(t.block gp (blk_lt h.blk) (by omega)).trans h.blk, ?_, h.ne, h.len, h.le, h.small, h.txs⟩
  refine ⟨Nat.lt_of_lt_of_le h.tl.lt t.size, fun k x hx => ?_⟩
  have hgs : ¬ g = s := by omega
  have e := fun j => t.cell (p := ⟨g, j, none⟩) h.tl.lt hgs
  obtain ⟨a, b, c, d⟩ := h.tl.at_ k x hx
  exact ⟨(e _).trans a, (e _).trans b, (e _).trans c, (e _).trans d⟩
/-- The token that comes. -/
def nxt (ts : List Tk) (k e : Nat) : Tk := if e = 0 then (ts[k]?).getD ⟨0, 0, 0, []⟩ else ⟨0, 0, 0, []⟩

theorem nxt_at {ts : List Tk} {k : Nat} {t : Tk} (h : ts[k]? = some t) : nxt ts k 0 = t := by simp [nxt, h]
theorem nxt_end {ts : List Tk} : nxt ts ts.length 0 = ⟨0, 0, 0, []⟩ := by simp [nxt]
theorem nxt_bad {ts : List Tk} {k e : Nat} (h : e ≠ 0) : nxt ts k e = ⟨0, 0, 0, []⟩ := by simp [nxt, h]
theorem next_any {T : TypeId} {w : World} {gp g n cp : Nat} {ts : List Tk} {k e : Nat} (h : PSt T w gp g n cp ts k e) :
    Calls Tryz.prog 39 #[.pointer (some ⟨gp, 0, none⟩)] w fun x w' => x = .returned (.agg #[.int .i64 (nxt ts k e).kd, .int .i64 (nxt ts k e).n, .int .i64 (nxt ts k e).pl, .string (bs (nxt ts k e).tx)]) ∧ Touch NoB w w' := by
  have hgp := blk_lt h.blk
  obtain ⟨W, hW⟩ : ∃ W, w.alloc (.cells #[.int .i64 0, .int .i64 0, .int .i64 0, .string ⟨#[]⟩] 60) = W := ⟨_, rfl⟩
  have hT : Touch NoB w W := by rw [← hW]; exact (Touch.refl _ _).alloc _
  have hN : W.heap[w.heap.size]? = some (.cells #[.int .i64 0, .int .i64 0, .int .i64 0, .string ⟨#[]⟩] 60 (0, 0)) := by rw [← hW]; exact alloc_blk _ _ _ rfl
  have hr := (h.touch hT)
  have c0 : W.drew.cell? ⟨gp, 0, none⟩ = some (.slice (some ⟨g, 0, none⟩) n cp) := cell_blk hr.blk 0
  have c1 : W.drew.cell? ⟨gp, 1, none⟩ = some (.int .i64 (k : Int)) := cell_blk hr.blk 1
  have c2 : W.drew.cell? ⟨gp, 2, none⟩ = some (.int .i64 (e : Int)) := cell_blk hr.blk 2
  have n0 : W.cell? ⟨w.heap.size, 0, none⟩ = some (.int .i64 0) := cell_blk hN 0
  have n1 : W.cell? ⟨w.heap.size, 1, none⟩ = some (.int .i64 0) := cell_blk hN 1
  have n2 : W.cell? ⟨w.heap.size, 2, none⟩ = some (.int .i64 0) := cell_blk hN 2
  have n3 : W.cell? ⟨w.heap.size, 3, none⟩ = some (.string ⟨#[]⟩) := cell_blk hN 3
  have f0 : W.frozen? ⟨w.heap.size, 0, none⟩ = false := free_blk hN 0
  have f1 : W.frozen? ⟨w.heap.size, 1, none⟩ = false := free_blk hN 1
  have f2 : W.frozen? ⟨w.heap.size, 2, none⟩ = false := free_blk hN 2
  have f3 : W.frozen? ⟨w.heap.size, 3, none⟩ = false := free_blk hN 3
  have nl : w.heap.size < W.heap.size := blk_lt hN
  have hks : (k : Int) ≤ 100000 := by have := h.le; have := h.small; omega
  have hsm := h.small
  have HT := Lib.hid hT
  by_cases he : e = 0
  · subst he
    by_cases hlt : k < n
    · obtain ⟨t, ht⟩ : ∃ t, ts[k]? = some t := ⟨ts[k]'(by rw [h.len]; exact hlt), List.getElem?_eq_getElem _⟩
      obtain ⟨a0, a1, a2, a3⟩ := hr.tl.at_ k t ht
      have al := hr.tl.lt
      rw [nxt_at ht]
      have p0 : W.drew.cell? ⟨g, k * 4, none⟩ = some (.int .i64 t.kd) := a0
      have p1 : W.drew.cell? ⟨g, k * 4 + 1, none⟩ = some (.int .i64 t.n) := a1
      have p2 : W.drew.cell? ⟨g, k * 4 + 2, none⟩ = some (.int .i64 t.pl) := a2
      have p3 : W.drew.cell? ⟨g, k * 4 + 3, none⟩ = some (.string (bs t.tx)) := a3
      have hkn : decide ((n : Int) ≤ (k : Int)) = false := by simp; omega
      have hkn' : decide (n ≤ k) = false := by simp; omega
      have hgn : w.heap.size ≠ gp := by omega
      have hgg : w.heap.size ≠ g := by have := h.tl.lt; omega
      clear h hr hN hT a0 a1 a2 a3
      go_enter Tryz.func39, Tryz.ntmps39
      go_upto_region 1 with fail
      go_region
      go_wp2
      go_region
      go_wp2
      exact bodyPost_ret (v := .agg #[.int .i64 t.kd, .int .i64 t.n, .int .i64 t.pl, .string (bs t.tx)]) (by simp [results, Tryz.results39, go_sem, n0, n1, n2, n3]) rfl ⟨rfl, by
        have hnew : ∀ b, b = w.heap.size → NoB b ∨ w.heap.size ≤ b := fun b e => .inr (by omega)
        repeat (first | with_reducible exact HT.out | with_reducible refine Touch.drew ?_ | with_reducible refine Touch.setCell ?_ (hnew _ rfl) _)⟩
    · obtain rfl : k = n := by have := h.le; omega
      have hnx : nxt ts k 0 = ⟨0, 0, 0, []⟩ := by rw [← h.len]; exact nxt_end
      have hkn : decide ((k : Int) ≤ (k : Int)) = true := by simp
      have hkn' : decide (k ≤ k) = true := by simp
      have hgn : w.heap.size ≠ gp := by omega
      rw [hnx]
      have hbs : bs [] = ⟨#[]⟩ := rfl
      simp only [hbs]
      clear h hr hN hT hnx hbs
      go_enter Tryz.func39, Tryz.ntmps39
      go_upto_region 1 with fail
      go_region
      go_wp2
      exact bodyPost_ret (v := .agg #[.int .i64 0, .int .i64 0, .int .i64 0, .string ⟨#[]⟩]) (by simp [results, Tryz.results39, go_sem, n0, n1, n2, n3]) rfl ⟨rfl, by
        have hnew : ∀ b, b = w.heap.size → NoB b ∨ w.heap.size ≤ b := fun b e => .inr (by omega)
        repeat (first | with_reducible exact HT.out | with_reducible refine Touch.drew ?_ | with_reducible refine Touch.setCell ?_ (hnew _ rfl) _)⟩
  · rw [nxt_bad he]
    have hee : ((e : Int) != 0) = true := by simp; omega
    have hgn : w.heap.size ≠ gp := by omega
    have hbs : bs [] = ⟨#[]⟩ := rfl
    simp only [hbs]
    clear h hr hN hT hbs
    go_enter Tryz.func39, Tryz.ntmps39
    go_upto_region 1 with fail
    go_region
    go_wp2
    exact bodyPost_ret (v := .agg #[.int .i64 0, .int .i64 0, .int .i64 0, .string ⟨#[]⟩]) (by simp [results, Tryz.results39, go_sem, n0, n1, n2, n3]) rfl ⟨rfl, by
      have hnew : ∀ b, b = w.heap.size → NoB b ∨ w.heap.size ≤ b := fun b e => .inr (by omega)
      repeat (first | with_reducible exact HT.out | with_reducible refine Touch.drew ?_ | with_reducible refine Touch.setCell ?_ (hnew _ rfl) _)⟩
end Go.Proofs.YtkmbobfjoaldgaaGreatDoor
