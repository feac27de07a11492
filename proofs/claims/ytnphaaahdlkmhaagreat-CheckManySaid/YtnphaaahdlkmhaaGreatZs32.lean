/-
  What stands in memory while the document's own Parse reads: the reader is newer than the program's two blocks. No condition beyond those that each theorem names.
-/
import Derived.Test.YtnphaaahdlkmhaaGreatZs31
namespace Go.Proofs.YtnphaaahdlkmhaaGreat
open Go.ChangeShapes Go.WideShapes Go.ChangeAt Go.RowKit
set_option maxRecDepth 100000
set_option maxHeartbeats 4000000

def At2 (gp q3 : Nat) : Nat → Prop := fun k => k = gp ∨ k = q3
/-- A program that is being read, at block q3; we: the world when the reader had been made; Q: the blocks of its finished trees and domains. -/
structure PN (we wr : World) (gp q3 : Nat) (Q : Nat → Prop) (a : List Ky) (b : List Tr) (c : List Dm) (vk vt vd : Value) (ts ds : List Value) : Prop where
  t : Touch (At2 gp q3) we wr
  b3 : B3 wr 29 q3 vk vt vd
  rk : wr.ownsRow we.heap.size 57 3 vk a.length (kyC a)
  rt : wr.ownsRow we.heap.size 64 11 vt b.length ts
  lt : LsAt (TrAt wr Q) b ts
  rd : wr.ownsRow we.heap.size 71 4 vd c.length ds
  ld : LsAt (DmAt wr Q) c ds
  hQ : ∀ k, Q k → we.heap.size ≤ k ∧ k < wr.heap.size ∧ vk.ownBlock ≠ some k ∧ vt.ownBlock ≠ some k ∧ vd.ownBlock ≠ some k
section
variable {we wr V : World} {gp q3 : Nat} {Q : Nat → Prop} {a : List Ky} {b : List Tr} {c : List Dm} {vk vt vd : Value} {ts ds : List Value}
/-- A call leaves it; what the call has made new is finished. -/
theorem PN.go (h : PN we wr gp q3 Q a b c vk vt vd ts ds) (t : Touch (AtB gp) wr V) (hgp : gp < we.heap.size) (hne : q3 ≠ gp) :
    PN we V gp q3 (fun k => Q k ∨ (wr.heap.size ≤ k ∧ k < V.heap.size)) a b c vk vt vd ts ds := by
  have q : ∀ k, Q k → ¬ AtB gp k := fun k hk f => by have := (h.hQ k hk).1; unfold AtB at f; omega
  have hs := h.t.size
  have hs' := t.size
  refine ⟨h.t.same (t.mono (fun k hk => .inl hk)), h.b3.go t hne, row_go h.rk t hgp, row_go h.rt t hgp, h.lt.mono (fun x ys hx => (hx.touch t q).via (fun k hk _ => .inl hk)), row_go h.rd t hgp, h.ld.mono (fun x ys hx => (hx.touch t q).via (fun k hk _ => .inl hk)), fun k hk => ?_⟩
  rcases hk with hk | ⟨h1, h2⟩
  · have := h.hQ k hk
    exact ⟨this.1, by omega, this.2.2⟩
  · exact ⟨by omega, h2, fun e => by have := (h.rk.lt k e).2; omega, fun e => by have := (h.rt.lt k e).2; omega, fun e => by have := (h.rd.lt k e).2; omega⟩
end
section
variable {we w3 wx : World} {gp q3 gd cap : Nat} {Q : Nat → Prop} {a : List Ky} {b : List Tr} {c : List Dm} {vk vt vd : Value} {ts ds : List Value}
theorem PN.addK {v : Ky} (h : PN we w3 gp q3 Q a b c vk vt vd ts ds) (hq : q3 < we.heap.size) (TR : Touch (fun b => vk.ownBlock = some b) w3 wx)
    (hown : wx.ownsRow we.heap.size 57 3 (.slice (some ⟨gd, 0, none⟩) (a.length + 1) cap) (a.length + 1) (kyC a ++ [.string (bs v.nm), .int .i64 (v.kd : Int), .bool v.sh])) (hat : vk.ownBlock = some gd ∨ w3.heap.size ≤ gd) :
    PN we (wx.setCell ⟨q3, 0, none⟩ (.slice (some ⟨gd, 0, none⟩) (a.length + 1) cap)) gp q3 Q (a ++ [v]) (b) (c) (.slice (some ⟨gd, 0, none⟩) (a.length + 1) cap) vt vd ts ds := by
  have hb3 := h.b3.goR TR (row_ne h.rk h.b3 (by decide))
  have rt := row_touch h.rt TR (fun k hk f => row_row_ne h.rk h.rt (by decide) f hk)
  have rd := row_touch h.rd TR (fun k hk f => row_row_ne h.rk h.rd (by decide) f hk)
  have tS := (Touch.refl (fun b => b = q3) wx).setCell (p := ⟨q3, 0, none⟩) (.inl rfl) (.slice (some ⟨gd, 0, none⟩) (a.length + 1) cap)
  have hq3 : ∀ k, Q k → k ≠ q3 := fun k hk e => by have := (h.hQ k hk).1; omega
  have hself : wx.ownsRow we.heap.size 57 3 (.slice (some ⟨gd, 0, none⟩) (a.length + 1) cap) (a.length + 1) (kyC a ++ [.string (bs v.nm), .int .i64 (v.kd : Int), .bool v.sh]) := hown
  have hrow := row_aside (i := 0) (x := .slice (some ⟨gd, 0, none⟩) (a.length + 1) cap) hself (row_ne hself hb3 (by decide))
  have T1 : Touch (At2 gp q3) we (wx.setCell ⟨q3, 0, none⟩ (.slice (some ⟨gd, 0, none⟩) (a.length + 1) cap)) := (h.t.trans TR (fun k hk => .inr (row_base h.rk k hk))).setCell (p := ⟨q3, 0, none⟩) (.inl (.inr rfl)) _
  have LT := h.lt.mono (fun x ys hx => (hx.touch TR (fun k hk => (h.hQ k hk).2.2.1)).touch tS (fun k hk => hq3 k hk))
  have LD := h.ld.mono (fun x ys hx => (hx.touch TR (fun k hk => (h.hQ k hk).2.2.1)).touch tS (fun k hk => hq3 k hk))
  have HQ : ∀ k, Q k → (Value.slice (some ⟨gd, 0, none⟩) (a.length + 1) cap).ownBlock ≠ some k := fun k hk e => by
    have e1 : gd = k := by simpa [Value.ownBlock] using e
    subst e1
    rcases hat with e | e
    · exact (h.hQ _ hk).2.2.1 e
    · have := (h.hQ _ hk).2.1; omega
  exact ⟨T1, hb3.set0 _, (by rw [List.length_append, kyC_snoc]; exact hrow), row_aside rt (row_ne rt hb3 (by decide)), LT, row_aside rd (row_ne rd hb3 (by decide)), LD, fun k hk => ⟨(h.hQ k hk).1, Nat.lt_of_lt_of_le (h.hQ k hk).2.1 (Nat.le_trans TR.size tS.size), HQ k hk, (h.hQ k hk).2.2.2.1, (h.hQ k hk).2.2.2.2⟩⟩
theorem PN.addT {v : Tr} {ys : List Value} (h : PN we w3 gp q3 Q a b c vk vt vd ts ds) (hq : q3 < we.heap.size) (hv : TrAt w3 Q v ys) (TR : Touch (fun b => vt.ownBlock = some b) w3 wx)
    (hown : wx.ownsRow we.heap.size 64 11 (.slice (some ⟨gd, 0, none⟩) (b.length + 1) cap) (b.length + 1) (ts ++ ys)) (hat : vt.ownBlock = some gd ∨ w3.heap.size ≤ gd) :
    PN we (wx.setCell ⟨q3, 1, none⟩ (.slice (some ⟨gd, 0, none⟩) (b.length + 1) cap)) gp q3 Q (a) (b ++ [v]) (c) vk (.slice (some ⟨gd, 0, none⟩) (b.length + 1) cap) vd (ts ++ ys) ds := by
  have hb3 := h.b3.goR TR (row_ne h.rt h.b3 (by decide))
  have rk := row_touch h.rk TR (fun k hk f => row_row_ne h.rt h.rk (by decide) f hk)
  have rd := row_touch h.rd TR (fun k hk f => row_row_ne h.rt h.rd (by decide) f hk)
  have tS := (Touch.refl (fun b => b = q3) wx).setCell (p := ⟨q3, 1, none⟩) (.inl rfl) (.slice (some ⟨gd, 0, none⟩) (b.length + 1) cap)
  have hq3 : ∀ k, Q k → k ≠ q3 := fun k hk e => by have := (h.hQ k hk).1; omega
  have hself : wx.ownsRow we.heap.size 64 11 (.slice (some ⟨gd, 0, none⟩) (b.length + 1) cap) (b.length + 1) (ts ++ ys) := hown
  have hrow := row_aside (i := 1) (x := .slice (some ⟨gd, 0, none⟩) (b.length + 1) cap) hself (row_ne hself hb3 (by decide))
  have T1 : Touch (At2 gp q3) we (wx.setCell ⟨q3, 1, none⟩ (.slice (some ⟨gd, 0, none⟩) (b.length + 1) cap)) := (h.t.trans TR (fun k hk => .inr (row_base h.rt k hk))).setCell (p := ⟨q3, 1, none⟩) (.inl (.inr rfl)) _
  have LT := (LsAt.snoc h.lt hv).mono (fun x ys hx => (hx.touch TR (fun k hk => (h.hQ k hk).2.2.2.1)).touch tS (fun k hk => hq3 k hk))
  have LD := h.ld.mono (fun x ys hx => (hx.touch TR (fun k hk => (h.hQ k hk).2.2.2.1)).touch tS (fun k hk => hq3 k hk))
  have HQ : ∀ k, Q k → (Value.slice (some ⟨gd, 0, none⟩) (b.length + 1) cap).ownBlock ≠ some k := fun k hk e => by
    have e1 : gd = k := by simpa [Value.ownBlock] using e
    subst e1
    rcases hat with e | e
    · exact (h.hQ _ hk).2.2.2.1 e
    · have := (h.hQ _ hk).2.1; omega
  exact ⟨T1, hb3.set1 _, row_aside rk (row_ne rk hb3 (by decide)), (by rw [List.length_append]; exact hrow), LT, row_aside rd (row_ne rd hb3 (by decide)), LD, fun k hk => ⟨(h.hQ k hk).1, Nat.lt_of_lt_of_le (h.hQ k hk).2.1 (Nat.le_trans TR.size tS.size), (h.hQ k hk).2.2.1, HQ k hk, (h.hQ k hk).2.2.2.2⟩⟩
theorem PN.addD {v : Dm} {ys : List Value} (h : PN we w3 gp q3 Q a b c vk vt vd ts ds) (hq : q3 < we.heap.size) (hv : DmAt w3 Q v ys) (TR : Touch (fun b => vd.ownBlock = some b) w3 wx)
    (hown : wx.ownsRow we.heap.size 71 4 (.slice (some ⟨gd, 0, none⟩) (c.length + 1) cap) (c.length + 1) (ds ++ ys)) (hat : vd.ownBlock = some gd ∨ w3.heap.size ≤ gd) :
    PN we (wx.setCell ⟨q3, 2, none⟩ (.slice (some ⟨gd, 0, none⟩) (c.length + 1) cap)) gp q3 Q (a) (b) (c ++ [v]) vk vt (.slice (some ⟨gd, 0, none⟩) (c.length + 1) cap) ts (ds ++ ys) := by
  have hb3 := h.b3.goR TR (row_ne h.rd h.b3 (by decide))
  have rk := row_touch h.rk TR (fun k hk f => row_row_ne h.rd h.rk (by decide) f hk)
  have rt := row_touch h.rt TR (fun k hk f => row_row_ne h.rd h.rt (by decide) f hk)
  have tS := (Touch.refl (fun b => b = q3) wx).setCell (p := ⟨q3, 2, none⟩) (.inl rfl) (.slice (some ⟨gd, 0, none⟩) (c.length + 1) cap)
  have hq3 : ∀ k, Q k → k ≠ q3 := fun k hk e => by have := (h.hQ k hk).1; omega
  have hself : wx.ownsRow we.heap.size 71 4 (.slice (some ⟨gd, 0, none⟩) (c.length + 1) cap) (c.length + 1) (ds ++ ys) := hown
  have hrow := row_aside (i := 2) (x := .slice (some ⟨gd, 0, none⟩) (c.length + 1) cap) hself (row_ne hself hb3 (by decide))
  have T1 : Touch (At2 gp q3) we (wx.setCell ⟨q3, 2, none⟩ (.slice (some ⟨gd, 0, none⟩) (c.length + 1) cap)) := (h.t.trans TR (fun k hk => .inr (row_base h.rd k hk))).setCell (p := ⟨q3, 2, none⟩) (.inl (.inr rfl)) _
  have LT := h.lt.mono (fun x ys hx => (hx.touch TR (fun k hk => (h.hQ k hk).2.2.2.2)).touch tS (fun k hk => hq3 k hk))
  have LD := (LsAt.snoc h.ld hv).mono (fun x ys hx => (hx.touch TR (fun k hk => (h.hQ k hk).2.2.2.2)).touch tS (fun k hk => hq3 k hk))
  have HQ : ∀ k, Q k → (Value.slice (some ⟨gd, 0, none⟩) (c.length + 1) cap).ownBlock ≠ some k := fun k hk e => by
    have e1 : gd = k := by simpa [Value.ownBlock] using e
    subst e1
    rcases hat with e | e
    · exact (h.hQ _ hk).2.2.2.2 e
    · have := (h.hQ _ hk).2.1; omega
  exact ⟨T1, hb3.set2 _, row_aside rk (row_ne rk hb3 (by decide)), row_aside rt (row_ne rt hb3 (by decide)), LT, (by rw [List.length_append]; exact hrow), LD, fun k hk => ⟨(h.hQ k hk).1, Nat.lt_of_lt_of_le (h.hQ k hk).2.1 (Nat.le_trans TR.size tS.size), (h.hQ k hk).2.2.1, (h.hQ k hk).2.2.2.1, HQ k hk⟩⟩
end
end Go.Proofs.YtnphaaahdlkmhaaGreat
