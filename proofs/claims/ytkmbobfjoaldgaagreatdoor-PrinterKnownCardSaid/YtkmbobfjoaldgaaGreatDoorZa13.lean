/-
  The last open node of package tree's node gets a kid, store by store. No condition beyond those that each theorem names.
-/
import Derived.Test.YtkmbobfjoaldgaaGreatDoorZa12
import Derived.Test.YtkmbobfjoaldgaaGreatDoorQa
import Derived.Test.YtkmbobfjoaldgaaGreatDoorZa11
import Derived.Deep.CutBlock
import Derived.Test.YtkmbobfjoaldgaaGreatDoorZa7
namespace Go.Proofs.YtkmbobfjoaldgaaGreatDoor
open Go.ChangeShapes Go.WideShapes Go.ChangeAt Go.RowKit
set_option maxRecDepth 100000
set_option maxHeartbeats 4000000

theorem row_top10 {W : World} {base gs k svc : Nat} {e : TypeId} {cs0 : List Value} {x0 x1 x2 x3 x4 x5 x6 x7 x8 x9 : Value} (hl : cs0.length = k * 10) (h : W.ownsRow base e 10 (.slice (some ⟨gs, 0, none⟩) (k + 1) svc) (k + 1) (cs0 ++ [x0, x1, x2, x3, x4, x5, x6, x7, x8, x9])) :
    (W.cell? ⟨gs, k * 10, none⟩ = some x0 ∧ W.cell? ⟨gs, k * 10 + 1, none⟩ = some x1 ∧ W.cell? ⟨gs, k * 10 + 2, none⟩ = some x2 ∧ W.cell? ⟨gs, k * 10 + 3, none⟩ = some x3 ∧ W.cell? ⟨gs, k * 10 + 4, none⟩ = some x4 ∧ W.cell? ⟨gs, k * 10 + 5, none⟩ = some x5 ∧ W.cell? ⟨gs, k * 10 + 6, none⟩ = some x6 ∧ W.cell? ⟨gs, k * 10 + 7, none⟩ = some x7 ∧ W.cell? ⟨gs, k * 10 + 8, none⟩ = some x8 ∧ W.cell? ⟨gs, k * 10 + 9, none⟩ = some x9) ∧ (W.frozen? ⟨gs, k * 10, none⟩ = false ∧ W.frozen? ⟨gs, k * 10 + 1, none⟩ = false ∧ W.frozen? ⟨gs, k * 10 + 2, none⟩ = false ∧ W.frozen? ⟨gs, k * 10 + 3, none⟩ = false ∧ W.frozen? ⟨gs, k * 10 + 4, none⟩ = false ∧ W.frozen? ⟨gs, k * 10 + 5, none⟩ = false ∧ W.frozen? ⟨gs, k * 10 + 6, none⟩ = false ∧ W.frozen? ⟨gs, k * 10 + 7, none⟩ = false ∧ W.frozen? ⟨gs, k * 10 + 8, none⟩ = false ∧ W.frozen? ⟨gs, k * 10 + 9, none⟩ = false) := by
  have q : ∀ j, j < 10 → W.cell? ⟨gs, k * 10 + j, none⟩ = [x0, x1, x2, x3, x4, x5, x6, x7, x8, x9][j]? := fun j hj => by rw [h.cellAt _ (by omega), List.getElem?_append_right (by omega), hl]; congr 1; omega
  exact ⟨⟨q 0 (by decide), q 1 (by decide), q 2 (by decide), q 3 (by decide), q 4 (by decide), q 5 (by decide), q 6 (by decide), q 7 (by decide), q 8 (by decide), q 9 (by decide)⟩, ⟨h.frozenAt _, h.frozenAt _, h.frozenAt _, h.frozenAt _, h.frozenAt _, h.frozenAt _, h.frozenAt _, h.frozenAt _, h.frozenAt _, h.frozenAt _⟩⟩
theorem row_set8 {W : World} {base gs k svc : Nat} {e : TypeId} {cs0 : List Value} {x0 x1 x2 x3 x4 x5 x6 x7 x8 x9 : Value} (hl : cs0.length = k * 10) (h : W.ownsRow base e 10 (.slice (some ⟨gs, 0, none⟩) (k + 1) svc) (k + 1) (cs0 ++ [x0, x1, x2, x3, x4, x5, x6, x7, x8, x9])) (v : Value) :
    (W.setCell ⟨gs, k * 10 + 8, none⟩ v).ownsRow base e 10 (.slice (some ⟨gs, 0, none⟩) (k + 1) svc) (k + 1) (cs0 ++ [x0, x1, x2, x3, x4, x5, x6, x7, v, x9]) := by
  have h1 := (h.stored (k * 10 + 8) v).1
  have e : (cs0 ++ [x0, x1, x2, x3, x4, x5, x6, x7, x8, x9]).set (k * 10 + 8) v = cs0 ++ [x0, x1, x2, x3, x4, x5, x6, x7, v, x9] := by
    rw [← hl]
    simp
  rw [e] at h1
  exact h1
theorem setL_blk {g : Nat} {t : TypeId} {fr : Nat × Nat} : ∀ (l zs xs : List Value) (w : World), zs.length = l.length → w.heap[g]? = some (.cells (xs ++ zs).toArray t fr) → (setL w g xs.length l).heap[g]? = some (.cells (xs ++ l).toArray t fr)
  | [], zs, xs, w, hl, h => by
    have : zs = [] := List.eq_nil_of_length_eq_zero hl
    subst this
    exact h
  | v :: l, [], xs, w, hl, h => by simp at hl
  | v :: l, z :: zs, xs, w, hl, h => by
    have h1 := set_blk h xs.length v
    have e1 : (xs ++ z :: zs).toArray.setIfInBounds xs.length v = ((xs ++ [v]) ++ zs).toArray := by simp
    rw [e1] at h1
    have h2 := setL_blk l zs (xs ++ [v]) _ (by simpa using hl) h1
    rw [List.length_append] at h2
    simpa [setL] using h2
theorem NB.setL {w : World} {q : Nat} {v0 v1 v2 v3 v4 v5 v6 v7 v8 v9 : Value} (h : NB w q v0 v1 v2 v3 v4 v5 v6 v7 v8 v9) (x0 x1 x2 x3 x4 x5 x6 x7 x8 x9 : Value) : NB (setL w q 0 [x0, x1, x2, x3, x4, x5, x6, x7, x8, x9]) q x0 x1 x2 x3 x4 x5 x6 x7 x8 x9 :=
  setL_blk [x0, x1, x2, x3, x4, x5, x6, x7, x8, x9] [v0, v1, v2, v3, v4, v5, v6, v7, v8, v9] [] w rfl h
theorem NB.drew {w : World} {q : Nat} {v0 v1 v2 v3 v4 v5 v6 v7 v8 v9 : Value} (h : NB w q v0 v1 v2 v3 v4 v5 v6 v7 v8 v9) : NB w.drew q v0 v1 v2 v3 v4 v5 v6 v7 v8 v9 := h
theorem PSt.touchX2 {T : TypeId} {w w' : World} {F : Nat → Prop} {gp g n cp : Nat} {ts : List Tk} {k e : Nat} (h : PSt T w gp g n cp ts k e) (t : Touch F w w') (h1 : ¬ F gp) (h2 : ¬ F g) : PSt T w' gp g n cp ts k e := by
  refine ⟨(t.block gp (blk_lt h.blk) h1).trans h.blk, ?_, h.ne, h.len, h.le, h.small, h.txs⟩
  refine ⟨Nat.lt_of_lt_of_le h.tl.lt t.size, fun k x hx => ?_⟩
  have e := fun j => t.cell (p := ⟨g, j, none⟩) h.tl.lt h2
  obtain ⟨a, b, c, d⟩ := h.tl.at_ k x hx
  exact ⟨(e _).trans a, (e _).trans b, (e _).trans c, (e _).trans d⟩
section
variable {w V U0 wx U : World} {gp g n cp q3 gs gk cap svc : Nat} {ts : List Tk} {st : St} {φ : Nat → Nat} {r : List Nd} {cs0 : List Value} {nd p : Nd} {e0 e1 : Int} {e2 : ByteArray} {A : Option Addr} {m c : Nat} {kv wv : Value} {D : Nat} {xs ys zs : List Value} {f0 f1 : Int} {f2 : ByteArray} {A' : Option Addr} {m' c' : Nat} {kvp wvp : Value} {D' : Nat} {xsp ysp : List Value}
/-- Behind the append of a kid: the row's new value is stored in the stack. -/
theorem pop_mid (hN : NC w V gp q3 φ (p :: r) (.slice (some ⟨gs, 0, none⟩) (r.length + 1) svc) (cs0 ++ onL p f0 f1 f2 A' m' c' kvp wvp) nd e0 e1 e2 A m c kv wv D xs ys) (hst : StAt V w.heap.size φ r cs0) (hop : OnC V w.heap.size φ r.length p f0 f1 f2 A' m' c' kvp wvp D' xsp ysp)
    (t0 : Touch NoB V U0) (TR : Touch (fun b => kvp.ownBlock = some b) U0 wx) (hown : wx.ownsRow w.heap.size 47 10 (.slice (some ⟨gk, 0, none⟩) (p.ks.length + 1) cap) (p.ks.length + 1) (xsp ++ zs)) (hat : kvp.ownBlock = some gk ∨ U0.heap.size ≤ gk) :
    (wx.cell? ⟨gs, r.length * 10 + 8, none⟩ = some kvp ∧ wx.frozen? ⟨gs, r.length * 10 + 8, none⟩ = false) ∧ gk ≠ gs ∧ gk ≠ q3 ∧ gs ≠ q3 ∧ (kvp.ownBlock = some gk ∨ V.heap.size ≤ gk) ∧
    ∀ U, wx.setCell ⟨gs, r.length * 10 + 8, none⟩ (.slice (some ⟨gk, 0, none⟩) (p.ks.length + 1) cap) = U → U.ownsRow w.heap.size 47 10 (.slice (some ⟨gk, 0, none⟩) (p.ks.length + 1) cap) (p.ks.length + 1) (xsp ++ zs) ∧ U.ownsRow w.heap.size 47 10 (.slice (some ⟨gs, 0, none⟩) (r.length + 1) svc) (r.length + 1) (cs0 ++ [.int .i64 (p.kd : Int), .int .i64 (p.a : Int), .int .i64 (p.b : Int), .string (bs p.nm), .int .i64 f0, .int .i64 f1, .string f2, .slice A' m' c', .slice (some ⟨gk, 0, none⟩) (p.ks.length + 1) cap, wvp]) ∧
      Touch (fun b => b = gs ∨ kvp.ownBlock = some b) V U ∧ NB U q3 (.int .i64 (nd.kd : Int)) (.int .i64 (nd.a : Int)) (.int .i64 (nd.b : Int)) (.string (bs nd.nm)) (.int .i64 e0) (.int .i64 e1) (.string e2) (.slice A m c) (kv) (wv) := by
  have hgs : φ gs = 2 := hN.ns.hs gs rfl
  have h3 := hN.ns.free (b := q3) (.inr (.inl rfl))
  have hgl := (hN.ns.hφ gs (by omega)).2.1
  have hgq : gs ≠ q3 := (hN.ns.hφ gs (by omega)).2.2
  have hql := blk_lt hN.nb
  have hat' : kvp.ownBlock = some gk ∨ V.heap.size ≤ gk := hat.imp (fun e => e) (fun e => Nat.le_trans t0.size e)
  have o1 : kvp.ownBlock ≠ some gs := fun e => by have := hop.fk gs e; omega
  have o2 : kvp.ownBlock ≠ some q3 := fun e => by have := hop.fk q3 e; omega
  have k1 : gk ≠ gs := by
    rintro rfl
    rcases hat' with e | e
    · exact o1 e
    · omega
  have k2 : gk ≠ q3 := by
    rintro rfl
    rcases hat' with e | e
    · exact o2 e
    · omega
  have hcl : cs0.length = r.length * 10 := hst.len
  have hrs : wx.ownsRow w.heap.size 47 10 (.slice (some ⟨gs, 0, none⟩) (r.length + 1) svc) (r.length + 1) (cs0 ++ [.int .i64 (p.kd : Int), .int .i64 (p.a : Int), .int .i64 (p.b : Int), .string (bs p.nm), .int .i64 f0, .int .i64 f1, .string f2, .slice A' m' c', kvp, wvp]) := row_touch (row_touch hN.ns.rs t0 (fun _ _ z => z)) TR (fun k hk e => by
    have e1 : gs = k := by simpa [Value.ownBlock] using hk
    exact o1 (e1 ▸ e))
  have htop := row_top10 hcl hrs
  refine ⟨⟨htop.1.2.2.2.2.2.2.2.2.1, hrs.frozenAt _⟩, k1, k2, hgq, hat', fun U hU => ?_⟩
  subst hU
  have tS := (Touch.refl (fun b => b = gs) wx).setCell (p := ⟨gs, r.length * 10 + 8, none⟩) (.inl rfl) (.slice (some ⟨gk, 0, none⟩) (p.ks.length + 1) cap)
  refine ⟨row_aside hown (fun e => k1 (by simpa [Value.ownBlock] using e)), row_set8 hcl hrs _, ?_, ((hN.nb.touch t0 (fun z => z)).touch TR o2).touch tS (fun e => hgq e.symm)⟩
  have a1 : Touch (fun b => b = gs ∨ kvp.ownBlock = some b) V U0 := Touch.trans (Touch.refl _ V) t0 (fun _ z => z.elim)
  exact (a1.trans TR (fun b hb => .inl (.inr hb))).trans tS (fun b hb => .inl (.inl hb))
theorem pop_tl {V U1 U : World} {gs gk : Nat} {kvp : Value} (t1 : Touch (fun b => b = gs ∨ kvp.ownBlock = some b) V U1) (t2 : Touch (fun b => b = gk) U1 U) (hat : kvp.ownBlock = some gk ∨ V.heap.size ≤ gk) : Touch (fun b => b = gs ∨ kvp.ownBlock = some b) V U :=
  t1.trans t2 (fun b hb => by
    subst hb
    exact hat.imp (fun e => .inr e) (fun e => e))
/-- Then the node is read back from the stack. -/
theorem pop_fin (hN : NC w V gp q3 φ (p :: r) (.slice (some ⟨gs, 0, none⟩) (r.length + 1) svc) (cs0 ++ onL p f0 f1 f2 A' m' c' kvp wvp) nd e0 e1 e2 A m c kv wv D xs ys) (hst : StAt V w.heap.size φ r cs0) (hop : OnC V w.heap.size φ r.length p f0 f1 f2 A' m' c' kvp wvp D' xsp ysp)
    (hp : PS2 57 V gp g n cp ts st) (hgp : gp < w.heap.size) (hgl : g < w.heap.size) (hq : w.heap.size < q3) (hat : kvp.ownBlock = some gk ∨ V.heap.size ≤ gk) (hkq : gk ≠ q3) (hgq : gs ≠ q3)
    (hk : U.ownsRow w.heap.size 47 10 (.slice (some ⟨gk, 0, none⟩) (p.ks.length + 1) cap) (p.ks.length + 1) (xsp ++ [.int .i64 (nd.kd : Int), .int .i64 (nd.a : Int), .int .i64 (nd.b : Int), .string (bs nd.nm), .int .i64 e0, .int .i64 e1, .string e2, .slice A m c, kv, wv])) (hs : U.ownsRow w.heap.size 47 10 (.slice (some ⟨gs, 0, none⟩) (r.length + 1) svc) (r.length + 1) (cs0 ++ [.int .i64 (p.kd : Int), .int .i64 (p.a : Int), .int .i64 (p.b : Int), .string (bs p.nm), .int .i64 f0, .int .i64 f1, .string f2, .slice A' m' c', .slice (some ⟨gk, 0, none⟩) (p.ks.length + 1) cap, wvp])) (t : Touch (fun b => b = gs ∨ kvp.ownBlock = some b) V U) (hb : NB U q3 (.int .i64 (nd.kd : Int)) (.int .i64 (nd.a : Int)) (.int .i64 (nd.b : Int)) (.string (bs nd.nm)) (.int .i64 e0) (.int .i64 e1) (.string e2) (.slice A m c) (kv) (wv)) :
    (∃ χ E, NC w ((setL U q3 0 [.int .i64 (p.kd : Int), .int .i64 (p.a : Int), .int .i64 (p.b : Int), .string (bs p.nm), .int .i64 f0, .int .i64 f1, .string f2, .slice A' m' c', .slice (some ⟨gk, 0, none⟩) (p.ks.length + 1) cap, wvp]).drew) gp q3 χ r (.slice (some ⟨gs, 0, none⟩) r.length svc) cs0 (p.add nd) f0 f1 f2 A' m' c' (.slice (some ⟨gk, 0, none⟩) (p.ks.length + 1) cap) wvp E (xsp ++ onL nd e0 e1 e2 A m c kv wv) ysp) ∧ PS2 57 ((setL U q3 0 [.int .i64 (p.kd : Int), .int .i64 (p.a : Int), .int .i64 (p.b : Int), .string (bs p.nm), .int .i64 f0, .int .i64 f1, .string f2, .slice A' m' c', .slice (some ⟨gk, 0, none⟩) (p.ks.length + 1) cap, wvp]).drew) gp g n cp ts st := by
  have hbY := (hb.setL (.int .i64 (p.kd : Int)) (.int .i64 (p.a : Int)) (.int .i64 (p.b : Int)) (.string (bs p.nm)) (.int .i64 f0) (.int .i64 f1) (.string f2) (.slice A' m' c') (.slice (some ⟨gk, 0, none⟩) (p.ks.length + 1) cap) (wvp)).drew
  have tS : Touch (fun b => b = q3) U ((setL U q3 0 [.int .i64 (p.kd : Int), .int .i64 (p.a : Int), .int .i64 (p.b : Int), .string (bs p.nm), .int .i64 f0, .int .i64 f1, .string f2, .slice A' m' c', .slice (some ⟨gk, 0, none⟩) (p.ks.length + 1) cap, wvp]).drew) := (setL_touch _ _ _).drew
  have h3 := hN.ns.free (b := q3) (.inr (.inl rfl))
  have tA : Touch (fun b => b = gs ∨ kvp.ownBlock = some b ∨ b = q3) V ((setL U q3 0 [.int .i64 (p.kd : Int), .int .i64 (p.a : Int), .int .i64 (p.b : Int), .string (bs p.nm), .int .i64 f0, .int .i64 f1, .string f2, .slice A' m' c', .slice (some ⟨gk, 0, none⟩) (p.ks.length + 1) cap, wvp]).drew) := (t.mono (fun b hb => hb.imp (fun e => e) (fun e => .inl e))).trans tS (fun b hb => .inl (.inr (.inr hb)))
  have hbw : ∀ b, (b = gs ∨ kvp.ownBlock = some b ∨ b = q3) → w.heap.size < b := by
    intro b hb
    rcases hb with rfl | hb | rfl
    · exact (hN.ns.hφ b (by rw [hN.ns.hs b rfl]; decide)).1
    · exact (hN.ns.hφ b (by rw [hop.fk b hb]; omega)).1
    · exact hq
  refine ⟨?_, hp.touchX2 tA (fun e => by have := hbw _ e; omega) (fun e => by have := hbw _ e; omega)⟩
  have hk2 := row_touch hk tS (fun k hk e => by
    have e1 : gk = k := by simpa [Value.ownBlock] using hk
    exact hkq (e1.trans e))
  have hs2 := row_touch hs tS (fun k hk e => by
    have e1 : gs = k := by simpa [Value.ownBlock] using hk
    exact hgq (e1.trans e))
  exact NC.pop hN.ns hst hop hN.on hq (blk_lt hN.nb) tA hk2 hat hs2 hbY
end
end Go.Proofs.YtkmbobfjoaldgaaGreatDoor

/-
  What stands at each label of package lex's divide: the frame, the memory, what is left of the text; a measure. No condition beyond those that each theorem names.
-/
namespace Go.Proofs.YtkmbobfjoaldgaaGreatDoor
open Go.ChangeShapes Go.WideShapes Go.ChangeAt Go.RowKit
set_option maxRecDepth 100000
set_option maxHeartbeats 4000000

/-! ### tokens in memory -/
/-- A token in a block of its own, a list of tokens in a row of its own. -/
structure DI (w : World) (g : Nat) (ts : List Tk) (vl : Value) (wr : World) : Prop where
  t : Touch NoB w wr
  ge : w.heap.size ≤ g
  blk : ∃ x0 x1 x2 x3, wr.heap[g]? = some (.cells #[x0, x1, x2, x3] 60 (0, 0))
  row : wr.ownsRow w.heap.size 60 4 vl ts.length (tkC ts)
  ne : vl.ownBlock ≠ some g
theorem DI.touch {w wr wx : World} {g : Nat} {ts : List Tk} {vl : Value} (h : DI w g ts vl wr) (k : Touch NoB wr wx) : DI w g ts vl wx := by
  obtain ⟨x0, x1, x2, x3, hb⟩ := h.blk
  exact ⟨h.t.same k, h.ge, ⟨x0, x1, x2, x3, (k.block g (blk_lt hb) (fun x => x)).trans hb⟩, row_touch h.row k (fun _ _ x => x), h.ne⟩
theorem DI.lt {w wr : World} {g : Nat} {ts : List Tk} {vl : Value} (h : DI w g ts vl wr) : g < wr.heap.size := by
  obtain ⟨x0, x1, x2, x3, hb⟩ := h.blk
  exact blk_lt hb
/-- The token's block written anew. -/
theorem DI.put {w wr : World} {g : Nat} {ts : List Tk} {vl : Value} (h : DI w g ts vl wr) (y0 y1 y2 y3 : Value) :
    DI w g ts vl ((((wr.setCell ⟨g, 0, none⟩ y0).setCell ⟨g, 1, none⟩ y1).setCell ⟨g, 2, none⟩ y2).setCell ⟨g, 3, none⟩ y3) := by
  obtain ⟨x0, x1, x2, x3, hb⟩ := h.blk
  have tt := touch4 (F := fun b => b = g) (w0 := wr) (Touch.refl _ wr) (g := g) (.inl rfl) y0 y1 y2 y3
  exact ⟨touch4 h.t (.inr h.ge) _ _ _ _, h.ge, ⟨_, _, _, _, set4 hb y0 y1 y2 y3⟩, row_touch h.row tt (fun k hk e => h.ne (e ▸ hk)), h.ne⟩
/-! ### frames -/
def slot (a : Act) (i : Nat) : Value := a.tmps.toList.getD i undef
def slots (l : List Value) (i : Nat) : Value := l.getD i undef
theorem list_slots (l : List Value) : l = (List.range l.length).map (slots l) := by
  apply List.ext_getElem?
  intro i
  rw [List.getElem?_map]
  by_cases h : i < l.length
  · rw [List.getElem?_range h, List.getElem?_eq_getElem h]; simp [slots, List.getD, h]
  · rw [List.getElem?_eq_none (by omega), List.getElem?_eq_none (by simp; omega)]; rfl

theorem frame_slots {a : Act} (h : a.tmps.toList.length = 143) (hd : a.defers = []) : a = ⟨([slot a 0, slot a 1, slot a 2, slot a 3, slot a 4, slot a 5, slot a 6, slot a 7, slot a 8, slot a 9, slot a 10, slot a 11, slot a 12, slot a 13, slot a 14, slot a 15, slot a 16, slot a 17, slot a 18, slot a 19, slot a 20, slot a 21, slot a 22, slot a 23, slot a 24, slot a 25, slot a 26, slot a 27, slot a 28, slot a 29, slot a 30, slot a 31, slot a 32, slot a 33, slot a 34, slot a 35, slot a 36, slot a 37, slot a 38, slot a 39, slot a 40, slot a 41, slot a 42, slot a 43, slot a 44, slot a 45, slot a 46, slot a 47, slot a 48, slot a 49, slot a 50, slot a 51, slot a 52, slot a 53, slot a 54, slot a 55, slot a 56, slot a 57, slot a 58, slot a 59, slot a 60, slot a 61, slot a 62, slot a 63, slot a 64, slot a 65, slot a 66, slot a 67, slot a 68, slot a 69, slot a 70, slot a 71, slot a 72, slot a 73, slot a 74, slot a 75, slot a 76, slot a 77, slot a 78, slot a 79, slot a 80, slot a 81, slot a 82, slot a 83, slot a 84, slot a 85, slot a 86, slot a 87, slot a 88, slot a 89, slot a 90, slot a 91, slot a 92, slot a 93, slot a 94, slot a 95, slot a 96, slot a 97, slot a 98, slot a 99, slot a 100, slot a 101, slot a 102, slot a 103, slot a 104, slot a 105, slot a 106, slot a 107, slot a 108, slot a 109, slot a 110, slot a 111, slot a 112, slot a 113, slot a 114, slot a 115, slot a 116, slot a 117, slot a 118, slot a 119, slot a 120, slot a 121, slot a 122, slot a 123, slot a 124, slot a 125, slot a 126, slot a 127, slot a 128, slot a 129, slot a 130, slot a 131, slot a 132, slot a 133, slot a 134, slot a 135, slot a 136, slot a 137, slot a 138, slot a 139, slot a 140, slot a 141, slot a 142] : List Value).toArray, []⟩ := by
  obtain ⟨t, d⟩ := a
  subst hd
  have h1 := list_slots t.toList
  rw [h] at h1
  congr 1
  apply Array.toList_inj.1
  rw [h1]
  rfl

/-- The code from each label on. -/
noncomputable def divC : Code := match Tryz.f38.body with
  | some (.seq _ (.scope c)) => c
  | _ => .skip
noncomputable def divX (l : Nat) : Code := match findLabel divC l with
  | some (.seq .skip c) => c
  | _ => .skip
theorem divX0 : findLabel divC 0 = some (.seq .skip (divX 0)) := by kernel_rfl
theorem divX1 : findLabel divC 1 = some (.seq .skip (divX 1)) := by kernel_rfl
theorem divX2 : findLabel divC 2 = some (.seq .skip (divX 2)) := by kernel_rfl
theorem divX3 : findLabel divC 3 = some (.seq .skip (divX 3)) := by kernel_rfl
theorem divX4 : findLabel divC 4 = some (.seq .skip (divX 4)) := by kernel_rfl
theorem divX5 : findLabel divC 5 = some (.seq .skip (divX 5)) := by kernel_rfl
theorem divX_some (l : Nat) (h : l < 6) : findLabel divC l = some (.seq .skip (divX l)) := by
  have : l = 0 ∨ l = 1 ∨ l = 2 ∨ l = 3 ∨ l = 4 ∨ l = 5 := by omega
  rcases this with rfl | rfl | rfl | rfl | rfl | rfl
  · exact divX0
  · exact divX1
  · exact divX2
  · exact divX3
  · exact divX4
  · exact divX5

/-- What stands at label l: t tokens found, the token under way begins at place i, place k is read next; ok: what was told. -/
def DL (b : Bs) (g : Nat) (ts : List Tk) (i k : Nat) (v7 : Value) (wr : World) : Nat → Prop
  | 0 => Lx.pre ts (fromS false b k) = lexL b
  | 1 => Run (fun c => !decide (c.toNat = 10)) b i k ∧ (∃ c, b[i]? = some c ∧ c.toNat = 47) ∧ Lx.pre ts (fromS true b k) = lexL b
  | 2 => Run bW b i k ∧ (∃ c, b[i]? = some c ∧ bL c = true) ∧ Lx.pre ts (fromS false b i) = lexL b
  | 3 => Run bD b i k ∧ (∃ c, b[i]? = some c ∧ bD c = true) ∧ Lx.pre ts (fromS false b i) = lexL b
  | 4 => k = i ∧ (∃ c, b[i]? = some c ∧ bB c = false ∧ ¬ (c.toNat = 47 ∧ slash (b.drop (i + 1)) = true) ∧ bL c = false ∧ bD c = false) ∧ Lx.pre ts (fromS false b i) = lexL b
  | _ => (∃ c, b[i]? = some c ∧ bB c = false ∧ ¬ (c.toNat = 47 ∧ slash (b.drop (i + 1)) = true)) ∧ Lx.pre ts (fromS false b i) = lexL b ∧
    ((v7 = .bool false ∧ tokL i (b.drop i) = none) ∨ (v7 = .bool true ∧ ∃ t y, tokL i (b.drop i) = some (t, k - i) ∧ i < k ∧ wr.heap[g]? = some (.cells #[.int .i64 t.kd, .int .i64 t.n, y, .string (bs t.tx)] 60 (0, 0))))
def mu (n l : Nat) (a : Act) : Nat := (n + 10) * (n - (intOf (slot a (if l = 0 then 9 else 8))).toNat) + (match l with
  | 0 => n + 5
  | 4 => n + 4
  | 5 => 2
  | _ => (n - (intOf (slot a 9)).toNat) + 3)
/-- The place that bounds the number of tokens found. -/
def cn : Nat → Nat → Nat → Nat
  | 0, _, k => k
  | _, i, _ => i
/-- .. in the program's frame. -/
structure DF (A : Option Addr) (cap : Nat) (b : Bs) (w : World) (g : Nat) (l : Nat) (ts : List Tk) (vl v7 v8 : Value) (i k : Nat) (a : Act) (wr : World) : Prop where
  len : a.tmps.toList.length = 143
  dfr : a.defers = []
  s0 : slot a 0 = .slice A b.length cap
  s5 : slot a 5 = vl
  s6 : slot a 6 = .pointer (some ⟨g, 0, none⟩)
  s7 : slot a 7 = v7
  s8 : slot a 8 = v8
  s9 : slot a 9 = .int .i64 (k : Int)
  at8 : l ≠ 0 → v8 = .int .i64 (i : Int)
  le : k ≤ b.length
  ilt : l ≠ 0 → i < b.length
  cnt : ts.length ≤ cn l i k
  di : DI w g ts vl wr
  dl : DL b g ts i k v7 wr l
def DJ (A : Option Addr) (cap : Nat) (b : Bs) (w : World) (g : Nat) (l : Nat) (a : Act) (wr : World) : Prop :=
  l < 6 ∧ ∃ ts vl v7 v8 i k, DF A cap b w g l ts vl v7 v8 i k a wr
/-- A jump to label l, below a measure of M. -/
def DG (A : Option Addr) (cap : Nat) (b : Bs) (w : World) (g M : Nat) (l : Nat) (a : Act) (wr : World) : Prop := DJ A cap b w g l a wr ∧ mu b.length l a < M
def mv (n l i k : Nat) : Nat := (n + 10) * (n - (if l = 0 then k else i)) + (match l with
  | 0 => n + 5
  | 4 => n + 4
  | 5 => 2
  | _ => (n - k) + 3)
theorem DF.mu {A : Option Addr} {cap : Nat} {b : Bs} {w : World} {g l : Nat} {ts : List Tk} {vl v7 v8 : Value} {i k : Nat} {a : Act} {wr : World} (h : DF A cap b w g l ts vl v7 v8 i k a wr) : mu b.length l a = mv b.length l i k := by
  unfold Go.Proofs.YtkmbobfjoaldgaaGreatDoor.mu mv
  by_cases h0 : l = 0
  · subst h0
    simp only [if_true, h.s9, intOf, Int.toNat_natCast]
  · have h8 := h.s8.trans (h.at8 h0)
    simp only [if_neg h0, h8, h.s9, intOf, Int.toNat_natCast]
theorem mul_step {n i k : Nat} (h1 : i < k) (h2 : k ≤ n) : (n + 10) * (n - k) + (n + 10) ≤ (n + 10) * (n - i) := by
  have : n - i = (n - k) + ((k - i - 1) + 1) := by omega
  rw [this, Nat.mul_add, Nat.mul_add]
  omega
/-- A frame, slot by slot. -/
theorem DG.mk {A : Option Addr} {cap : Nat} {b : Bs} {w : World} {g M l : Nat} {a : Act} {wr : World} (ts : List Tk) (vl v7 v8 : Value) (i k : Nat) (h : DF A cap b w g l ts vl v7 v8 i k a wr) (hl : l < 6) (hm : mv b.length l i k < M) : DG A cap b w g M l a wr :=
  ⟨⟨hl, ts, vl, v7, v8, i, k, h⟩, by rw [h.mu]; exact hm⟩
theorem hop_mono {J1 J2 : Nat → Act → World → Prop} {Q : Exit → Act → World → Prop} (h : ∀ l a w, J1 l a w → J2 l a w) : ∀ e a w, hop J1 Q e a w → hop J2 Q e a w := by
  intro e a w x
  cases e with
  | goto l => exact h l a w x
  | normal => exact x
  | exit id => exact x
  | ret => exact x
  | panic ch => exact x
  | outgrown => exact x
theorem DG.up {A : Option Addr} {cap : Nat} {b : Bs} {w : World} {g M M' l : Nat} {a : Act} {wr : World} (h : DG A cap b w g M l a wr) (hm : M ≤ M') : DG A cap b w g M' l a wr := ⟨h.1, Nat.lt_of_lt_of_le h.2 hm⟩
end Go.Proofs.YtkmbobfjoaldgaaGreatDoor

/-
  What package tree's node does with a parser in memory: the nodes that wait for a kid lie in a stack. Conditions: the table of levels can be read; names and numbers among the tokens are such; an end's token lies at or behind the place.
-/
namespace Go.Proofs.YtkmbobfjoaldgaaGreatDoor
open Go.ChangeShapes Go.WideShapes Go.ChangeAt Go.RowKit
set_option maxRecDepth 100000
set_option maxHeartbeats 8000000

theorem info_node' : ∃ i0, Tryz.prog.info? 47 = some i0 ∧ i0.zero = some (.agg #[.int .i64 0, .int .i64 0, .int .i64 0, .string ⟨#[]⟩, .int .i64 0, .int .i64 0, .string ⟨#[]⟩, .slice none 0 0, .slice none 0 0, .slice none 0 0]) ∧ i0.size = 10 ∧ i0.bytes = 144 := by
  have h : (Tryz.prog.info? 47).map (fun i => (i.zero, i.size, i.bytes)) = some (some (.agg #[.int .i64 0, .int .i64 0, .int .i64 0, .string ⟨#[]⟩, .int .i64 0, .int .i64 0, .string ⟨#[]⟩, .slice none 0 0, .slice none 0 0, .slice none 0 0]), 10, 144) := by kernel_rfl
  cases hi : Tryz.prog.info? 47 with
  | none => rw [hi] at h; cases h
  | some i0 =>
    rw [hi] at h
    simp only [Option.map_some, Option.some.injEq, Prod.mk.injEq] at h
    exact ⟨i0, rfl, h.1, h.2.1, h.2.2⟩
/-- What a node's parser leaves. -/
def NodPost (w : World) (gp g n cp : Nat) (ts : List Tk) (nd : Nd) (st : St) (x : Ending) (w' : World) : Prop := ∃ (e0 e1 : Int) (e2 : ByteArray) (A : Option Addr) (m c : Nat) (kA : Option Addr) (km kc : Nat) (wA : Option Addr) (wm wc : Nat) (D : Nat),
  x = .returned (.agg #[.int .i64 (nd.kd : Int), .int .i64 (nd.a : Int), .int .i64 (nd.b : Int), .string (bs nd.nm), .int .i64 e0, .int .i64 e1, .string e2, .slice A m c, .slice kA km kc, .slice wA wm wc]) ∧ NT w' (fun b => w.heap.size ≤ b) D nd [.int .i64 (nd.kd : Int), .int .i64 (nd.a : Int), .int .i64 (nd.b : Int), .string (bs nd.nm), .int .i64 e0, .int .i64 e1, .string e2, .slice A m c, .slice kA km kc, .slice wA wm wc] ∧ PS2 57 w' gp g n cp ts st ∧ Touch (AtB gp) w w'
/-- The code from each label on. -/
noncomputable def nodC : Code := match Tryz.f84.body with
  | some (.seq _ (.scope c)) => c
  | _ => .skip
noncomputable def nodX (l : Nat) : Code := match findLabel nodC l with
  | some (.seq .skip c) => c
  | _ => .skip
theorem nodX0 : findLabel nodC 0 = some (.seq .skip (nodX 0)) := by kernel_rfl
theorem nodX1 : findLabel nodC 1 = some (.seq .skip (nodX 1)) := by kernel_rfl
theorem frame_node {a : Act} (h : a.tmps.toList.length = 71) (hd : a.defers = []) : a = ⟨([slot a 0, slot a 1, slot a 2, slot a 3, slot a 4, slot a 5, slot a 6, slot a 7, slot a 8, slot a 9, slot a 10, slot a 11, slot a 12, slot a 13, slot a 14, slot a 15, slot a 16, slot a 17, slot a 18, slot a 19, slot a 20, slot a 21, slot a 22, slot a 23, slot a 24, slot a 25, slot a 26, slot a 27, slot a 28, slot a 29, slot a 30, slot a 31, slot a 32, slot a 33, slot a 34, slot a 35, slot a 36, slot a 37, slot a 38, slot a 39, slot a 40, slot a 41, slot a 42, slot a 43, slot a 44, slot a 45, slot a 46, slot a 47, slot a 48, slot a 49, slot a 50, slot a 51, slot a 52, slot a 53, slot a 54, slot a 55, slot a 56, slot a 57, slot a 58, slot a 59, slot a 60, slot a 61, slot a 62, slot a 63, slot a 64, slot a 65, slot a 66, slot a 67, slot a 68, slot a 69, slot a 70] : List Value).toArray, []⟩ := by
  obtain ⟨t, d⟩ := a
  subst hd
  have h1 := list_slots t.toList
  rw [h] at h1
  congr 1
  apply Array.toList_inj.1
  rw [h1]
  rfl
/-- The frame. -/
structure NF (w : World) (gp q3 : Nat) (sv : Value) (a : Act) : Prop where
  len : a.tmps.toList.length = 71
  dfr : a.defers = []
  s0 : slot a 0 = .pointer (some ⟨gp, 0, none⟩)
  s2 : slot a 2 = .pointer (some ⟨w.heap.size, 0, none⟩)
  s3 : slot a 3 = sv
  s4 : slot a 4 = .pointer (some ⟨q3, 0, none⟩)
/-- Bounds: what is read so far and the fuel left. -/
structure NBd (f : Nat) (op : List Nd) : Prop where
  ln : op.length + f ≤ 700000
  kd : ∀ p ∈ op, p.kd ≤ 15
  sz : ∀ p ∈ op, p.ks.length + p.ws.length + f ≤ 700000
theorem NBd.down {f f' : Nat} {op : List Nd} (h : NBd f op) (hf : f' ≤ f) : NBd f' op := ⟨by have := h.ln; omega, h.kd, fun p hp => by have := h.sz p hp; omega⟩
/-- What holds at each label, with fuel f. -/
def NJ (w : World) (gp g n cp q3 L : Nat) (ts : List Tk) (R0 : Nd × St) (f : Nat) (l : Nat) (a : Act) (wr : World) : Prop :=
  (l = 0 ∧ ∃ φ op sv cs σ v0 v1 v2 v3 v4 v5 v6 v7 v8 v9, NF w gp q3 sv a ∧ NS w wr gp q3 φ op sv cs ∧ NB wr q3 v0 v1 v2 v3 v4 v5 v6 v7 v8 v9 ∧ PS2 57 wr gp g n cp ts σ ∧ nodR ts f op none σ = R0 ∧ FuB f L op.length σ ∧ σ.1 ≤ L ∧ NBd f op) ∨
  (l = 1 ∧ ∃ φ op sv cs σ nd e0 e1 e2 A m c kv wv D xs ys, NF w gp q3 sv a ∧ NC w wr gp q3 φ op sv cs nd e0 e1 e2 A m c kv wv D xs ys ∧ PS2 57 wr gp g n cp ts σ ∧ nodR ts f op (some nd) σ = R0 ∧ FuN f L op.length σ ∧ σ.1 ≤ L ∧ NBd f op ∧ nd.kd ≤ 15 ∧ nd.ks.length + nd.ws.length + f ≤ 700000)
/-- What the way out wants. -/
def OnRetN (w : World) (gp g n cp : Nat) (ts : List Tk) (R0 : Nd × St) (Q : Exit → Act → World → Prop) : Prop :=
  ∀ (a : Act) (W : World) (v0 v1 v2 v3 v4 v5 v6 v7 v8 v9 : Value), a.defers = [] → a.tmps[2]? = some (.pointer (some ⟨w.heap.size, 0, none⟩)) → NB W w.heap.size v0 v1 v2 v3 v4 v5 v6 v7 v8 v9 → NodPost w gp g n cp ts R0.1 R0.2 (.returned (.agg #[v0, v1, v2, v3, v4, v5, v6, v7, v8, v9])) W → Q .ret a W
theorem NC.fin {w wr : World} {gp q3 : Nat} {φ : Nat → Nat} {sv : Value} {cs : List Value} {n : Nd} {e0 e1 : Int} {e2 : ByteArray} {A : Option Addr} {m c : Nat} {kv wv : Value} {D : Nat} {xs ys : List Value} (h : NC w wr gp q3 φ [] sv cs n e0 e1 e2 A m c kv wv D xs ys) : NT wr (fun b => w.heap.size < b) (D + 1) n (onL n e0 e1 e2 A m c kv wv) := by
  have h1 := h.on.done (ψ := fun b => if φ b = 0 then 0 else 1) (fun b hb => if_neg (by omega))
  refine NT.via (fun b hb _ => ?_) _ _ _ h1
  have e : (if φ b = 0 then 0 else 1) = 1 := hb
  split at e
  · cases e
  · rename_i z; exact (h.ns.hφ b z).1
theorem nt_zero (w : World) (Q : Nat → Prop) : NT w Q 1 nd0 [.int .i64 0, .int .i64 0, .int .i64 0, .string ⟨#[]⟩, .int .i64 0, .int .i64 0, .string ⟨#[]⟩, .slice none 0 0, .slice none 0 0, .slice none 0 0] :=
  ⟨0, 0, ⟨#[]⟩, none, 0, 0, .slice none 0 0, .slice none 0 0, [], [], rfl, ⟨rfl, rfl, rfl, rfl, rfl, rfl⟩, ⟨none, 0, rfl, fun j x hj => by cases hj⟩, .nil, ⟨none, 0, rfl, fun j x hj => by cases hj⟩, .nil⟩
theorem node_ret {w : World} {gp g n cp : Nat} {ts : List Tk} {R0 : Nd × St} : OnRetN w gp g n cp ts R0 (bodyPost Tryz.prog Tryz.f84 (NodPost w gp g n cp ts R0.1 R0.2)) := by
  intro a W v0 v1 v2 v3 v4 v5 v6 v7 v8 v9 hd h2 hb hP
  obtain ⟨z0, z1, z2, z3, z4, z5, z6, z7, z8, z9, zl⟩ := hb.cells
  exact bodyPost_ret (v := .agg #[v0, v1, v2, v3, v4, v5, v6, v7, v8, v9]) (by simp [results, Tryz.results84, go_sem, h2, z0, z1, z2, z3, z4, z5, z6, z7, z8, z9]) hd hP
theorem node_behind {w wr : World} {gp g n cp q3 B L f M : Nat} {ts : List Tk} {R0 : Nd × St} {σ : St} {φ : Nat → Nat} {op : List Nd} {sv : Value} {cs : List Value} {nd : Nd} {e0 e1 : Int} {e2 : ByteArray} {A : Option Addr} {m c : Nat} {kv wv : Value} {D : Nat} {xs ys : List Value} {u1 u5 u6 u7 u8 u9 u10 u11 u12 u13 u14 u15 u16 u17 u18 u19 u20 u21 u22 u23 u24 u25 u26 u27 u28 u29 u30 u31 u32 u33 u34 u35 u36 u37 u38 u39 u40 u41 u42 u43 u44 u45 u46 u47 u48 u49 u50 u51 u52 u53 u54 u55 u56 u57 u58 u59 u60 u61 u62 u63 u64 u65 u66 u67 u68 u69 u70 : Value} (hok : NamesOk ts) (hnk : NumsOk ts) (hv : LV w B) (hB : B ≤ gp) (hE : EnT ts L) (hgp : gp < w.heap.size) (hgl : g < w.heap.size) (hq : w.heap.size < q3) (hM : f ≤ M)
    (hN : NC w wr gp q3 φ op sv cs nd e0 e1 e2 A m c kv wv D xs ys) (hp : PS2 57 wr gp g n cp ts σ) (md : nodR ts f op (some nd) σ = R0) (fu : FuN f L op.length σ) (hL : σ.1 ≤ L) (hbd : NBd f op) (hkd : nd.kd ≤ 15) (hsz : nd.ks.length + nd.ws.length + f ≤ 700000) :
    (nodX 1).wp Tryz.prog (hop (fun l a w' => ∃ n', n' < M ∧ NJ w gp g n cp q3 L ts R0 n' l a w') (bodyPost Tryz.prog Tryz.f84 (NodPost w gp g n cp ts R0.1 R0.2))) ⟨#[.pointer (some ⟨gp, 0, none⟩), u1, .pointer (some ⟨w.heap.size, 0, none⟩), sv, .pointer (some ⟨q3, 0, none⟩), u5, u6, u7, u8, u9, u10, u11, u12, u13, u14, u15, u16, u17, u18, u19, u20, u21, u22, u23, u24, u25, u26, u27, u28, u29, u30, u31, u32, u33, u34, u35, u36, u37, u38, u39, u40, u41, u42, u43, u44, u45, u46, u47, u48, u49, u50, u51, u52, u53, u54, u55, u56, u57, u58, u59, u60, u61, u62, u63, u64, u65, u66, u67, u68, u69, u70], []⟩ wr := by
  have hrd := nod_behind hE hL md fu
  obtain ⟨svA, svc, rfl, hsv1, hsv2⟩ := row_any hN.ns.rs
  unfold maxLen at hsv2
  have c2 : wr.cell? ⟨gp, 2, none⟩ = some (.int .i64 (σ.2 : Int)) := cell_blk hp.blk 2
  simp only [nodX, nodC, Tryz.f84, findLabel, Nat.reduceBEq, Bool.false_eq_true, if_true, if_false]
  have HN := Lib.hid hN
  have HP := Lib.hid hp
  have HQ := Lib.hid (node_ret (w := w) (gp := gp) (g := g) (n := n) (cp := cp) (ts := ts) (R0 := R0))
  have HBD := Lib.hid hbd
  have HSZ := Lib.hid (And.intro hkd hsz)
  by_cases he : σ.2 = 0
  · have hee : ((σ.2 : Int) != 0) = false := by simp [he]
    have HC := Lib.hid (another_all hok hnk hv hB hN hp hgp hgl hq hkd (by omega))
    have hr2 := hrd.2.1 he
    have hr3 := hrd.2.2.1 he
    have hr4 := hrd.2.2.2 he
    obtain ⟨bb, hbb⟩ : ∃ bb, anoV ts nd σ = bb := ⟨_, rfl⟩
    rw [hbb] at HC hr2 hr3 hr4
    obtain ⟨nd2, hnd2⟩ : ∃ z, anoN ts nd σ = z := ⟨_, rfl⟩
    obtain ⟨st, hst⟩ : ∃ z, anoS ts nd σ = z := ⟨_, rfl⟩
    have hnd3 : nd2.kd ≤ 15 ∧ nd2.ks.length = nd.ks.length ∧ nd2.ws.length ≤ nd.ws.length + 1 := by
      rw [← hnd2]
      unfold anoN
      repeat' split
      all_goals first
        | exact ⟨hkd, rfl, by omega⟩
        | exact ⟨by rw [Nd.wadd_kd]; exact hkd, by rw [Nd.wadd_ks], by rw [Nd.wadd_ws, List.length_append]; exact Nat.le_refl _⟩
    rw [hnd2, hst] at HC hr2 hr3 hr4
    have HR2 := Lib.hid hr2
    have HR3 := Lib.hid hr3
    have HR4 := Lib.hid hr4
    have HK := Lib.hid hnd3
    clear hrd hr2 hr3 hr4 hbb hnd2 hst hnd3 hN hp md fu hL hbd hok hnk hv hB hE hkd hsz
    go_wp2_with fail
    refine HC.out.mono ?_
    rintro x V ⟨rfl, ψ, wv', ys', hN2, hp2⟩
    have HN := Lib.hid hN2
    have HP := Lib.hid hp2
    clear hN2 hp2 c2
    obtain ⟨kA, kc, rfl, hk1, hk2⟩ := row_any HN.out.on.rk
    obtain ⟨wA, wc, rfl, hw1, hw2⟩ := row_any HN.out.on.rw_
    cases bb
    · by_cases hop : op = []
      · subst hop
        have hR := HR3.out rfl rfl
        obtain ⟨i0, i1, i2, i3, i4, i5, i6, i7, i8, i9, il⟩ := HN.out.nb.cells
        obtain ⟨z0, z1, z2, z3, z4, z5, z6, z7, z8, z9, zl⟩ := HN.out.ns.b2.cells
        obtain ⟨f0, f1, f2, f3, f4, f5, f6, f7, f8, f9⟩ := HN.out.ns.b2.free
        obtain ⟨Y, hY⟩ : ∃ Y, setL V w.heap.size 0 [.int .i64 (nd2.kd : Int), .int .i64 (nd2.a : Int), .int .i64 (nd2.b : Int), .string (bs nd2.nm), .int .i64 e0, .int .i64 e1, .string e2, .slice A m c, .slice kA nd2.ks.length kc, .slice wA nd2.ws.length wc] = Y := ⟨_, rfl⟩
        have tY : Touch (fun b => b = w.heap.size) V Y := by rw [← hY]; exact setL_touch _ _ _
        have bY : NB Y w.heap.size (.int .i64 (nd2.kd : Int)) (.int .i64 (nd2.a : Int)) (.int .i64 (nd2.b : Int)) (.string (bs nd2.nm)) (.int .i64 e0) (.int .i64 e1) (.string e2) (.slice A m c) (.slice kA nd2.ks.length kc) (.slice wA nd2.ws.length wc) := by rw [← hY]; exact HN.out.ns.b2.setL _ _ _ _ _ _ _ _ _ _
        have HG : Hid (NodPost w gp g n cp ts R0.1 R0.2 (.returned (.agg #[.int .i64 (nd2.kd : Int), .int .i64 (nd2.a : Int), .int .i64 (nd2.b : Int), .string (bs nd2.nm), .int .i64 e0, .int .i64 e1, .string e2, .slice A m c, .slice kA nd2.ks.length kc, .slice wA nd2.ws.length wc])) Y) := Lib.hid (by
          rw [hR]
          exact ⟨e0, e1, e2, A, m, c, kA, nd2.ks.length, kc, wA, nd2.ws.length, wc, _, rfl, NT.via (fun b hb _ => Nat.le_of_lt hb) _ _ _ (NT.touch tY (fun b hb e => by omega) _ _ _ HN.out.fin), HP.out.touchX tY hgp hgl, HN.out.ns.t.trans tY (fun b hb => .inr (by omega))⟩)
        have HBY := Lib.hid bY
        clear tY bY hR
        simp only [setL] at hY
        go_wp2
        exact HQ.out _ _ _ _ _ _ _ _ _ _ _ _ rfl rfl HBY.out HG.out
      · have hop1 : ((op.length : Int) == 0) = false := by
          have := List.length_pos_iff.2 hop
          simp; omega
        obtain ⟨p, r, rfl⟩ := List.exists_cons_of_ne_nil hop
        obtain ⟨f', hf', md', fu', hL'⟩ := HR4.out rfl p r rfl
        obtain ⟨cs0, lp, rfl, hst, hon⟩ := HN.out.ns.st
        obtain ⟨f0, f1, f2, A', m', c', kvp, wvp, D', xsp, ysp, rfl, hop3⟩ := hon
        obtain ⟨pA, pc, rfl, hpk1, hpk2⟩ := row_any hop3.rk
        obtain ⟨pW, pwc, rfl, hpw1, hpw2⟩ := row_any hop3.rw_
        obtain ⟨gs, svc', hsve, -, -, -⟩ := row_form HN.out.ns.rs (by simp)
        injection hsve with e1 e2' e3'
        subst e1 e3'
        have HHS := Lib.hid (And.intro hst hop3)
        have HMD := Lib.hid (And.intro md' (And.intro fu' hL'))
        clear md' fu' hL' hst hop3 hop
        simp only [List.length_cons] at *
        have hcl : cs0.length = r.length * 10 := HHS.out.1.len
        have hri : (r.length : Int) < (r.length : Int) + 1 := by omega
        have hki : (p.ks.length : Int) < (p.ks.length : Int) + 1 := by omega
        have hrc : r.length ≤ svc := by omega
        obtain ⟨i0, i1, i2, i3, i4, i5, i6, i7, i8, i9, il⟩ := HN.out.nb.cells
        go_wp2_with fail
        go_region_law? fail
        · skip
          obtain ⟨UF, hUF⟩ : ∃ U, (V.alloc (.cells #[.bool false] 4)).drew = U := ⟨_, rfl⟩
          have tUF : Touch NoB V UF := by rw [← hUF]; exact ((Touch.refl NoB V).alloc _).drew
          have HUF := Lib.hid (And.intro tUF (HN.out.go (Touch.anyB tUF) hgp hq))
          clear tUF
          have hN := HUF.out.2
          have tU := HUF.out.1
          have hop4 := HHS.out.2.touch tU (fun b hb => hb.elim)
          have hrs : UF.ownsRow w.heap.size 47 10 (.slice (some ⟨gs, 0, none⟩) (r.length + 1) svc) (r.length + 1) (cs0 ++ [.int .i64 (p.kd : Int), .int .i64 (p.a : Int), .int .i64 (p.b : Int), .string (bs p.nm), .int .i64 f0, .int .i64 f1, .string f2, .slice A' m' c', .slice pA p.ks.length pc, .slice pW p.ws.length pwc]) := hN.ns.rs
          obtain ⟨⟨t0, t1, t2, t3, t4, t5, t6, t7, t8, t9⟩, -⟩ := row_top10 hcl hrs
          obtain ⟨i0, i1, i2, i3, i4, i5, i6, i7, i8, i9, il⟩ := hN.nb.cells
          obtain ⟨i0', hi, hz0, hz1', hz2'⟩ := info_node'
          have hpsz := HBD.out.sz p (List.mem_cons_self ..)
          have HU := Lib.hid (And.intro tU (And.intro hop4 hN))
          have hUs := tU.size
          have hUw := hN.ns.t.size
          clear tU hop4 hrs hN
          have hcz : ((UF.alloc (.cells #[.int .i64 (nd2.kd : Int), .int .i64 (nd2.a : Int), .int .i64 (nd2.b : Int), .string (bs nd2.nm), .int .i64 e0, .int .i64 e1, .string e2, .slice A m c, .slice kA nd2.ks.length kc, .slice wA nd2.ws.length wc] 47)).drew).cell? ⟨gs, r.length * 10 + 8, none⟩ = some (.slice pA p.ks.length pc) := ((Touch.refl NoB UF).alloc _).drew.cell (p := ⟨gs, r.length * 10 + 8, none⟩) (by have := (HU.out.2.2.ns.rs.lt gs rfl).2; exact this) (fun z => z) |>.trans t8
          have hcd : UF.drew.cell? ⟨gs, r.length * 10 + 8, none⟩ = some (.slice pA p.ks.length pc) := t8
          have ⟨di0, di1, di2, di3, di4, di5, di6, di7, di8, di9⟩ : UF.drew.cell? ⟨q3, 0, none⟩ = some (.int .i64 (nd2.kd : Int)) ∧ UF.drew.cell? ⟨q3, 1, none⟩ = some (.int .i64 (nd2.a : Int)) ∧ UF.drew.cell? ⟨q3, 2, none⟩ = some (.int .i64 (nd2.b : Int)) ∧ UF.drew.cell? ⟨q3, 3, none⟩ = some (.string (bs nd2.nm)) ∧ UF.drew.cell? ⟨q3, 4, none⟩ = some (.int .i64 e0) ∧ UF.drew.cell? ⟨q3, 5, none⟩ = some (.int .i64 e1) ∧ UF.drew.cell? ⟨q3, 6, none⟩ = some (.string e2) ∧ UF.drew.cell? ⟨q3, 7, none⟩ = some (.slice A m c) ∧ UF.drew.cell? ⟨q3, 8, none⟩ = some (.slice kA nd2.ks.length kc) ∧ UF.drew.cell? ⟨q3, 9, none⟩ = some (.slice wA nd2.ws.length wc) := ⟨i0, i1, i2, i3, i4, i5, i6, i7, i8, i9⟩
          go_wp2_with fail
          go_region_law? (first
            | (refine step_append_lies _ rfl (.tmp 58) (.tmp 60) 45 rfl w.heap.size 47 i0' (.agg #[.int .i64 0, .int .i64 0, .int .i64 0, .string ⟨#[]⟩, .int .i64 0, .int .i64 0, .string ⟨#[]⟩, .slice none 0 0, .slice none 0 0, .slice none 0 0]) 10 144 Tryz.underlying45 hi hz0 hz1' hz2' rfl (by decide) (.slice pA p.ks.length pc) p.ks.length xsp (by simp [Act.eval]) (by exact (HU.out.2.1.rk.alloc _).drew) ⟨UF.heap.size, 0, none⟩ 1 1 [.int .i64 (nd2.kd : Int), .int .i64 (nd2.a : Int), .int .i64 (nd2.b : Int), .string (bs nd2.nm), .int .i64 e0, .int .i64 e1, .string e2, .slice A m c, .slice kA nd2.ks.length kc, .slice wA nd2.ws.length wc] (by simp [Act.eval]) rfl (by exact World.news_of_block (cs := #[.int .i64 (nd2.kd : Int), .int .i64 (nd2.a : Int), .int .i64 (nd2.b : Int), .string (bs nd2.nm), .int .i64 e0, .int .i64 e1, .string e2, .slice A m c, .slice kA nd2.ks.length kc, .slice wA nd2.ws.length wc]) (show (UF.alloc (.cells #[.int .i64 (nd2.kd : Int), .int .i64 (nd2.a : Int), .int .i64 (nd2.b : Int), .string (bs nd2.nm), .int .i64 e0, .int .i64 e1, .string e2, .slice A m c, .slice kA nd2.ks.length kc, .slice wA nd2.ws.length wc] 47)).drew.heap[UF.heap.size]? = _ from alloc_blk UF _ 47 rfl)) (by intro u hu; simp at hu; rcases hu with rfl | rfl | rfl | rfl | rfl | rfl | rfl | rfl | rfl | rfl <;> rfl) (by decide) (by unfold maxLen; omega) (by omega) (by simp only [World.size_alloc, World.size_drew]; omega) (UF.heap.size + 1) (by simp) ?_
               intro gk capk wx hown hgrow hat hlt
               have TR : Touch (fun b => (Value.slice pA p.ks.length pc).ownBlock = some b) UF wx := ((Touch.refl _ UF).alloc _).drew.grown hgrow (fun _ e => .inl e)
               obtain ⟨⟨w8, fz8⟩, k1, k2, k3, hat2, hmid⟩ := pop_mid HN.out HHS.out.1 HHS.out.2 HU.out.1 TR hown (hat.imp (fun e => e) (fun e => by omega))
               obtain ⟨U, hU⟩ : ∃ U, wx.setCell ⟨gs, r.length * 10 + 8, none⟩ (.slice (some ⟨gk, 0, none⟩) (p.ks.length + 1) capk) = U := ⟨_, rfl⟩
               have HX := Lib.hid (hmid U hU)
               have HK3 := Lib.hid (And.intro hat2 (And.intro k2 k3))
               clear hown hgrow hat TR hmid hat2))
          all_goals
            skip
            have hst17 := row_top10 hcl (show U.drew.ownsRow w.heap.size 47 10 (.slice (some ⟨gs, 0, none⟩) (r.length + 1) svc) (r.length + 1) (cs0 ++ [.int .i64 (p.kd : Int), .int .i64 (p.a : Int), .int .i64 (p.b : Int), .string (bs p.nm), .int .i64 f0, .int .i64 f1, .string f2, .slice A' m' c', .slice (some ⟨gk, 0, none⟩) (p.ks.length + 1) capk, .slice pW p.ws.length pwc]) from HX.out.2.1)
            obtain ⟨⟨s0, s1, s2, s3, s4, s5, s6, s7, s8, s9⟩, -⟩ := hst17
            have hnb17 : NB U.drew q3 (.int .i64 (nd2.kd : Int)) (.int .i64 (nd2.a : Int)) (.int .i64 (nd2.b : Int)) (.string (bs nd2.nm)) (.int .i64 e0) (.int .i64 e1) (.string e2) (.slice A m c) (.slice kA nd2.ks.length kc) (.slice wA nd2.ws.length wc) := HX.out.2.2.2
            obtain ⟨n0, n1, n2, n3, n4, n5, n6, n7, n8, n9, nl⟩ := hnb17.cells
            obtain ⟨y0, y1, y2, y3, y4, y5, y6, y7, y8, y9⟩ := hnb17.free
            have hnb18 : NB U q3 (.int .i64 (nd2.kd : Int)) (.int .i64 (nd2.a : Int)) (.int .i64 (nd2.b : Int)) (.string (bs nd2.nm)) (.int .i64 e0) (.int .i64 e1) (.string e2) (.slice A m c) (.slice kA nd2.ks.length kc) (.slice wA nd2.ws.length wc) := HX.out.2.2.2
            obtain ⟨o0, o1, o2, o3, o4, o5, o6, o7, o8, o9, ol⟩ := hnb18.cells
            obtain ⟨x0, x1, x2, x3, x4, x5, x6, x7, x8, x9⟩ := hnb18.free
            clear hnb18
            obtain ⟨⟨χ, E, hNC⟩, hPS⟩ := pop_fin HN.out HHS.out.1 HHS.out.2 HP.out hgp hgl hq HK3.out.1 HK3.out.2.1 HK3.out.2.2 HX.out.1 HX.out.2.1 HX.out.2.2.1 HX.out.2.2.2
            obtain ⟨Y0, hY⟩ : ∃ Y, setL U q3 0 [.int .i64 (p.kd : Int), .int .i64 (p.a : Int), .int .i64 (p.b : Int), .string (bs p.nm), .int .i64 f0, .int .i64 f1, .string f2, .slice A' m' c', .slice (some ⟨gk, 0, none⟩) (p.ks.length + 1) capk, .slice pW p.ws.length pwc] = Y := ⟨_, rfl⟩
            rw [hY] at hNC hPS
            have HY := Lib.hid (And.intro hNC hPS)
            clear hNC hPS hnb17
            simp only [setL] at hY
            go_wp2_with fail
            go_region_law? fail
            all_goals
              go_wp2
              go_step3
              refine ⟨f', by omega, .inr ⟨rfl, χ, r, .slice (some ⟨gs, 0, none⟩) r.length svc, cs0, st, p.add nd2, f0, f1, f2, A', m', c', .slice (some ⟨gk, 0, none⟩) (p.ks.length + 1) capk, .slice pW p.ws.length pwc, E, _, _, ⟨rfl, rfl, rfl, rfl, rfl, rfl⟩, HY.out.1, HY.out.2, HMD.out.1, HMD.out.2.1, HMD.out.2.2, ⟨?_, fun x hx => ?_, fun x hx => ?_⟩, ?_, ?_⟩⟩
              · have := HBD.out.ln; simp only [List.length_cons] at this; omega
              · exact HBD.out.kd x (List.mem_cons_of_mem _ hx)
              · have := HBD.out.sz x (List.mem_cons_of_mem _ hx); omega
              · rw [Nd.add_kd]; exact HBD.out.kd p (List.mem_cons_self ..)
              · have := HBD.out.sz p (List.mem_cons_self ..)
                rw [Nd.add_ks, Nd.add_ws, List.length_append, List.length_singleton]
                omega
        · skip
          obtain ⟨UT, hUT⟩ : ∃ U, (V.alloc (.cells #[.bool true] 4)).drew = U := ⟨_, rfl⟩
          have tUT : Touch NoB V UT := by rw [← hUT]; exact ((Touch.refl NoB V).alloc _).drew
          have HUT := Lib.hid (And.intro tUT (HN.out.go (Touch.anyB tUT) hgp hq))
          clear tUT
          have hN := HUT.out.2
          have tU := HUT.out.1
          have hop4 := HHS.out.2.touch tU (fun b hb => hb.elim)
          have hrs : UT.ownsRow w.heap.size 47 10 (.slice (some ⟨gs, 0, none⟩) (r.length + 1) svc) (r.length + 1) (cs0 ++ [.int .i64 (p.kd : Int), .int .i64 (p.a : Int), .int .i64 (p.b : Int), .string (bs p.nm), .int .i64 f0, .int .i64 f1, .string f2, .slice A' m' c', .slice pA p.ks.length pc, .slice pW p.ws.length pwc]) := hN.ns.rs
          obtain ⟨⟨t0, t1, t2, t3, t4, t5, t6, t7, t8, t9⟩, -⟩ := row_top10 hcl hrs
          obtain ⟨i0, i1, i2, i3, i4, i5, i6, i7, i8, i9, il⟩ := hN.nb.cells
          obtain ⟨i0', hi, hz0, hz1', hz2'⟩ := info_node'
          have hpsz := HBD.out.sz p (List.mem_cons_self ..)
          have HU := Lib.hid (And.intro tU (And.intro hop4 hN))
          have hUs := tU.size
          have hUw := hN.ns.t.size
          clear tU hop4 hrs hN
          go_wp2_with (at_builtin; refine wpList_append_lies _ rfl (.tmp 44) (.tmp 46) 45 rfl w.heap.size 47 i0' (.agg #[.int .i64 0, .int .i64 0, .int .i64 0, .string ⟨#[]⟩, .int .i64 0, .int .i64 0, .string ⟨#[]⟩, .slice none 0 0, .slice none 0 0, .slice none 0 0]) 10 144 Tryz.underlying45 hi hz0 hz1' hz2' rfl (by decide) (.slice pA p.ks.length pc) p.ks.length xsp rfl ?c0 ⟨UT.heap.size, 0, none⟩ 1 1 [.int .i64 0, .int .i64 0, .int .i64 0, .string ⟨#[]⟩, .int .i64 0, .int .i64 0, .string ⟨#[]⟩, .slice none 0 0, .slice none 0 0, .slice none 0 0] rfl rfl ?c1 ?c2 (by decide) ?c3 ?c4 ?c5 (UT.heap.size + 1) ?c6 ?go)
          case c0 => exact HU.out.2.1.rk.alloc _
          case c1 => exact World.news_of_block (cs := #[.int .i64 0, .int .i64 0, .int .i64 0, .string ⟨#[]⟩, .int .i64 0, .int .i64 0, .string ⟨#[]⟩, .slice none 0 0, .slice none 0 0, .slice none 0 0]) (alloc_blk UT _ 47 rfl)
          case c2 => intro u hu; simp at hu; rcases hu with rfl | rfl | rfl | rfl | rfl | rfl | rfl | rfl | rfl | rfl <;> rfl
          case c3 => unfold maxLen; omega
          case c4 => omega
          case c5 => simp only [World.size_alloc]; omega
          case c6 => simp only [World.size_alloc]
          case go =>
            intro gk capk wx hown hgrow hat hlt
            have TR : Touch (fun b => (Value.slice pA p.ks.length pc).ownBlock = some b) UT wx := ((Touch.refl _ UT).alloc _).grown hgrow (fun _ e => .inl e)
            obtain ⟨⟨w8, fz8⟩, k1, k2, k3, hat2, hmid⟩ := pop_mid HN.out HHS.out.1 HHS.out.2 HU.out.1 TR hown (hat.imp (fun e => e) (fun e => by omega))
            obtain ⟨U1, hU1⟩ : ∃ U, wx.setCell ⟨gs, r.length * 10 + 8, none⟩ (.slice (some ⟨gk, 0, none⟩) (p.ks.length + 1) capk) = U := ⟨_, rfl⟩
            obtain ⟨hk1', hs1', ht1', hb1'⟩ := hmid U1 hU1
            have hkl : xsp.length = p.ks.length * 10 := HU.out.2.1.rk.1
            obtain ⟨⟨g0, g1, g2, g3, g4, g5, g6, g7, g8, g9⟩, ⟨h0, h1, h2, h3, h4, h5, h6, h7, h8, h9⟩⟩ := row_top10 hkl hk1'
            obtain ⟨j0, j1, j2, j3, j4, j5, j6, j7, j8, j9, jl⟩ := hb1'.cells
            obtain ⟨U, hU⟩ : ∃ U, setL U1 gk (p.ks.length * 10) [.int .i64 (nd2.kd : Int), .int .i64 (nd2.a : Int), .int .i64 (nd2.b : Int), .string (bs nd2.nm), .int .i64 e0, .int .i64 e1, .string e2, .slice A m c, .slice kA nd2.ks.length kc, .slice wA nd2.ws.length wc] = U := ⟨_, rfl⟩
            have tL : Touch (fun b => b = gk) U1 U := by rw [← hU]; exact setL_touch _ _ _
            have hkU := row_setL [.int .i64 (nd2.kd : Int), .int .i64 (nd2.a : Int), .int .i64 (nd2.b : Int), .string (bs nd2.nm), .int .i64 e0, .int .i64 e1, .string e2, .slice A m c, .slice kA nd2.ks.length kc, .slice wA nd2.ws.length wc] [.int .i64 0, .int .i64 0, .int .i64 0, .string ⟨#[]⟩, .int .i64 0, .int .i64 0, .string ⟨#[]⟩, .slice none 0 0, .slice none 0 0, .slice none 0 0] xsp U1 rfl hk1'
            rw [hkl, hU] at hkU
            have HX := Lib.hid (And.intro hkU (And.intro (row_touch hs1' tL (fun k hk e => k1 (by
              have e1 : gs = k := by simpa [Value.ownBlock] using hk
              exact (e1.trans e).symm))) (And.intro (pop_tl ht1' tL hat2) (hb1'.touch tL (fun e => k2 e.symm)))))
            have HK3 := Lib.hid (And.intro hat2 (And.intro k2 k3))
            clear hown hgrow hat TR hmid hat2 hk1' hs1' ht1' hb1' tL hkU
            simp only [setL, Nat.add_assoc, Nat.reduceAdd] at hU
            go_wp2_with fail
            have hst17 := row_top10 hcl (show U.drew.ownsRow w.heap.size 47 10 (.slice (some ⟨gs, 0, none⟩) (r.length + 1) svc) (r.length + 1) (cs0 ++ [.int .i64 (p.kd : Int), .int .i64 (p.a : Int), .int .i64 (p.b : Int), .string (bs p.nm), .int .i64 f0, .int .i64 f1, .string f2, .slice A' m' c', .slice (some ⟨gk, 0, none⟩) (p.ks.length + 1) capk, .slice pW p.ws.length pwc]) from HX.out.2.1)
            obtain ⟨⟨s0, s1, s2, s3, s4, s5, s6, s7, s8, s9⟩, -⟩ := hst17
            have hnb17 : NB U.drew q3 (.int .i64 (nd2.kd : Int)) (.int .i64 (nd2.a : Int)) (.int .i64 (nd2.b : Int)) (.string (bs nd2.nm)) (.int .i64 e0) (.int .i64 e1) (.string e2) (.slice A m c) (.slice kA nd2.ks.length kc) (.slice wA nd2.ws.length wc) := HX.out.2.2.2
            obtain ⟨n0, n1, n2, n3, n4, n5, n6, n7, n8, n9, nl⟩ := hnb17.cells
            obtain ⟨y0, y1, y2, y3, y4, y5, y6, y7, y8, y9⟩ := hnb17.free
            have hnb18 : NB U q3 (.int .i64 (nd2.kd : Int)) (.int .i64 (nd2.a : Int)) (.int .i64 (nd2.b : Int)) (.string (bs nd2.nm)) (.int .i64 e0) (.int .i64 e1) (.string e2) (.slice A m c) (.slice kA nd2.ks.length kc) (.slice wA nd2.ws.length wc) := HX.out.2.2.2
            obtain ⟨o0, o1, o2, o3, o4, o5, o6, o7, o8, o9, ol⟩ := hnb18.cells
            obtain ⟨x0, x1, x2, x3, x4, x5, x6, x7, x8, x9⟩ := hnb18.free
            clear hnb18
            obtain ⟨⟨χ, E, hNC⟩, hPS⟩ := pop_fin HN.out HHS.out.1 HHS.out.2 HP.out hgp hgl hq HK3.out.1 HK3.out.2.1 HK3.out.2.2 HX.out.1 HX.out.2.1 HX.out.2.2.1 HX.out.2.2.2
            obtain ⟨Y0, hY⟩ : ∃ Y, setL U q3 0 [.int .i64 (p.kd : Int), .int .i64 (p.a : Int), .int .i64 (p.b : Int), .string (bs p.nm), .int .i64 f0, .int .i64 f1, .string f2, .slice A' m' c', .slice (some ⟨gk, 0, none⟩) (p.ks.length + 1) capk, .slice pW p.ws.length pwc] = Y := ⟨_, rfl⟩
            rw [hY] at hNC hPS
            have HY := Lib.hid (And.intro hNC hPS)
            clear hNC hPS hnb17
            simp only [setL] at hY
            go_wp2_with fail
            go_region_law? fail
            all_goals
              go_wp2
              go_step3
              refine ⟨f', by omega, .inr ⟨rfl, χ, r, .slice (some ⟨gs, 0, none⟩) r.length svc, cs0, st, p.add nd2, f0, f1, f2, A', m', c', .slice (some ⟨gk, 0, none⟩) (p.ks.length + 1) capk, .slice pW p.ws.length pwc, E, _, _, ⟨rfl, rfl, rfl, rfl, rfl, rfl⟩, HY.out.1, HY.out.2, HMD.out.1, HMD.out.2.1, HMD.out.2.2, ⟨?_, fun x hx => ?_, fun x hx => ?_⟩, ?_, ?_⟩⟩
              · have := HBD.out.ln; simp only [List.length_cons] at this; omega
              · exact HBD.out.kd x (List.mem_cons_of_mem _ hx)
              · have := HBD.out.sz x (List.mem_cons_of_mem _ hx); omega
              · rw [Nd.add_kd]; exact HBD.out.kd p (List.mem_cons_self ..)
              · have := HBD.out.sz p (List.mem_cons_self ..)
                rw [Nd.add_ks, Nd.add_ws, List.length_append, List.length_singleton]
                omega
    · obtain ⟨f', hf', md', fu', hL'⟩ := HR2.out rfl
      obtain ⟨i0, i1, i2, i3, i4, i5, i6, i7, i8, i9, il⟩ := HN.out.nb.cells
      obtain ⟨i0', hi, hz0, hz1', hz2'⟩ := info_node'
      go_wp2_with (at_builtin; refine wpList_append_lies _ rfl (.tmp 26) (.tmp 28) 45 rfl w.heap.size 47 i0' (.agg #[.int .i64 0, .int .i64 0, .int .i64 0, .string ⟨#[]⟩, .int .i64 0, .int .i64 0, .string ⟨#[]⟩, .slice none 0 0, .slice none 0 0, .slice none 0 0]) 10 144 Tryz.underlying45 hi hz0 hz1' hz2' rfl (by decide) (.slice svA op.length svc) op.length cs rfl ?c0 ⟨V.heap.size, 0, none⟩ 1 1 (onL nd2 e0 e1 e2 A m c (.slice kA nd2.ks.length kc) (.slice wA nd2.ws.length wc)) rfl rfl ?c1 ?c2 (by decide) ?c3 ?c4 ?c5 (V.heap.size + 1) ?c6 ?go)
      case c0 => exact HN.out.ns.rs.alloc _
      case c1 => exact World.news_of_block (cs := #[.int .i64 (nd2.kd : Int), .int .i64 (nd2.a : Int), .int .i64 (nd2.b : Int), .string (bs nd2.nm), .int .i64 e0, .int .i64 e1, .string e2, .slice A m c, .slice kA nd2.ks.length kc, .slice wA nd2.ws.length wc]) (alloc_blk V _ 47 rfl)
      case c2 => intro u hu; simp [onL] at hu; rcases hu with rfl | rfl | rfl | rfl | rfl | rfl | rfl | rfl | rfl | rfl <;> rfl
      case c3 => have := HBD.out.ln; unfold maxLen; omega
      case c4 => have := HBD.out.ln; omega
      case c5 => have := HN.out.ns.t.size; simp only [World.size_alloc]; omega
      case c6 => simp only [World.size_alloc]
      case go =>
        intro gs cap2 wx hown hgrow hat hlt
        have TR : Touch (fun k9 => (Value.slice svA op.length svc).ownBlock = some k9) V wx := ((Touch.refl _ V).alloc _).grown hgrow (fun _ e => .inl e)
        obtain ⟨⟨χ, hNS⟩, hnb⟩ := HN.out.push hq TR hown (hat.imp (fun e => e) (fun e => by omega))
        have HX := Lib.hid (And.intro hNS (And.intro hnb (HP.out.touchR TR (row_base HN.out.ns.rs) hgp hgl)))
        clear hown hgrow hat TR hNS hnb
        go_wp2
        go_step3
        refine ⟨f', by omega, .inl ⟨rfl, χ, nd2 :: op, _, _, st, _, _, _, _, _, _, _, _, _, _, ⟨rfl, rfl, rfl, rfl, rfl, rfl⟩, HX.out.1, HX.out.2.1, HX.out.2.2, md', fu', hL', ⟨?_, fun p hp => ?_, fun p hp => ?_⟩⟩⟩
        · have := HBD.out.ln; simp only [List.length_cons]; omega
        · rcases List.mem_cons.1 hp with rfl | hp
          · exact HK.out.1
          · exact HBD.out.kd p hp
        · rcases List.mem_cons.1 hp with rfl | hp
          · have h1 := HK.out; have h2 := HSZ.out.2; omega
          · have := HBD.out.sz p hp; omega
  · have hee : ((σ.2 : Int) != 0) = true := by simp; omega
    obtain ⟨z0, z1, z2, z3, z4, z5, z6, z7, z8, z9, zl⟩ := HN.out.ns.b2.cells
    obtain ⟨f0, f1, f2, f3, f4, f5, f6, f7, f8, f9⟩ := HN.out.ns.b2.free
    have hR := hrd.1 he
    obtain ⟨Y, hY⟩ : ∃ Y, setL wr w.heap.size 0 [.int .i64 0, .int .i64 0, .int .i64 0, .string ⟨#[]⟩, .int .i64 0, .int .i64 0, .string ⟨#[]⟩, .slice none 0 0, .slice none 0 0, .slice none 0 0] = Y := ⟨_, rfl⟩
    have tY : Touch (fun b => b = w.heap.size) wr Y := by rw [← hY]; exact setL_touch _ _ _
    have bY : NB Y w.heap.size (.int .i64 0) (.int .i64 0) (.int .i64 0) (.string ⟨#[]⟩) (.int .i64 0) (.int .i64 0) (.string ⟨#[]⟩) (.slice none 0 0) (.slice none 0 0) (.slice none 0 0) := by rw [← hY]; exact HN.out.ns.b2.setL _ _ _ _ _ _ _ _ _ _
    have HG : Hid (NodPost w gp g n cp ts R0.1 R0.2 (.returned (.agg #[.int .i64 0, .int .i64 0, .int .i64 0, .string ⟨#[]⟩, .int .i64 0, .int .i64 0, .string ⟨#[]⟩, .slice none 0 0, .slice none 0 0, .slice none 0 0])) Y) := Lib.hid (by
      rw [hR]
      exact ⟨0, 0, ⟨#[]⟩, none, 0, 0, none, 0, 0, none, 0, 0, 1, rfl, nt_zero _ _, HP.out.touchX tY hgp hgl, HN.out.ns.t.trans tY (fun b hb => .inr (by omega))⟩)
    have HBY := Lib.hid bY
    clear tY bY hR
    simp only [setL] at hY
    clear hrd hN hp md fu hL hbd hok hnk hv hB hE hkd hsz
    go_wp2
    exact HQ.out _ _ _ _ _ _ _ _ _ _ _ _ rfl rfl HBY.out HG.out
end Go.Proofs.YtkmbobfjoaldgaaGreatDoor

/-
  What package tree's node does with a parser in memory, from its label begin on, and as a whole. Conditions: the table of levels can be read; names and numbers among the tokens are such; an end's token lies at or behind the place.
-/
namespace Go.Proofs.YtkmbobfjoaldgaaGreatDoor
open Go.ChangeShapes Go.WideShapes Go.ChangeAt Go.RowKit
set_option maxRecDepth 100000
set_option maxHeartbeats 8000000

theorem setL_size {g : Nat} : ∀ (l : List Value) (i : Nat) (w : World), (setL w g i l).heap.size = w.heap.size
  | [], _, _ => rfl
  | v :: l, i, w => by unfold setL; rw [setL_size l (i + 1) _]; simp
/-- A head has been read and stored. -/
theorem NS.head {w w2 w3 : World} {gp q3 : Nat} {φ : Nat → Nat} {op : List Nd} {sv : Value} {cs : List Value} {kd na nb : Nat} {nm : Bs} {ex : Ex} {e0 e1 : Int} {e2 : ByteArray} {A : Option Addr} {m c : Nat} {v0 v1 v2 v3 v4 v5 v6 v7 v8 v9 : Value} (h : NS w w2 gp q3 φ op sv cs) (t : Touch (AtB gp) w2 w3) (hgp : gp < w.heap.size) (hq : w.heap.size < q3)
    (hbk : NB w2 q3 v0 v1 v2 v3 v4 v5 v6 v7 v8 v9) (het : ET w3 (fun b => w2.heap.size ≤ b) ex e0 e1 e2 A m c) :
    ∃ ψ, NC w (setL w3 q3 0 [.int .i64 (kd : Int), .int .i64 (na : Int), .int .i64 (nb : Int), .string (bs nm), .int .i64 e0, .int .i64 e1, .string e2, .slice A m c, .slice none 0 0, .slice none 0 0]) gp q3 ψ op sv cs (.mk kd na nb nm ex [] []) e0 e1 e2 A m c (.slice none 0 0) (.slice none 0 0) 0 [] [] := by
  have hb2 := blk_lt h.b2
  have hq2 := blk_lt hbk
  have h3 := h.free (b := q3) (.inr (.inl rfl))
  have p2 : ∀ k, widL φ w2.heap.size w3.heap.size k ≠ 0 → w.heap.size < k ∧ k < w3.heap.size ∧ k ≠ q3 := by
    intro k hk
    rcases widL_no hk with z | ⟨z1, z2⟩
    · have := h.hφ k z
      have := t.size
      omega
    · exact ⟨by omega, z2, by omega⟩
  have hl := (h.go t hgp).label (fun b hb => widL_old (a := w2.heap.size) (b := w3.heap.size) hb) p2
  have h4 : widL φ w2.heap.size w3.heap.size q3 = 0 := by
    by_cases e : widL φ w2.heap.size w3.heap.size q3 = 0
    · exact e
    · exact absurd rfl (p2 q3 e).2.2
  have tS : Touch (fun b => b = q3) w3 (setL w3 q3 0 [.int .i64 (kd : Int), .int .i64 (na : Int), .int .i64 (nb : Int), .string (bs nm), .int .i64 e0, .int .i64 e1, .string e2, .slice A m c, .slice none 0 0, .slice none 0 0]) := setL_touch _ _ _
  have hb3 := (hbk.go t (by omega)).setL (.int .i64 (kd : Int)) (.int .i64 (na : Int)) (.int .i64 (nb : Int)) (.string (bs nm)) (.int .i64 e0) (.int .i64 e1) (.string e2) (.slice A m c) (.slice none 0 0) (.slice none 0 0)
  refine ⟨_, hl.touch tS (fun b hb => by subst hb; exact ⟨by omega, by omega, by omega, fun i _ => ⟨by omega, by omega⟩⟩) (fun b hb => .inr (by omega)), hb3, ?_⟩
  refine ⟨?_, World.ownsRow_nil _ _ _ _, .nil, World.ownsRow_nil _ _ _ _, .nil, fun b hb => by simp [Value.ownBlock] at hb, fun b hb => by simp [Value.ownBlock] at hb⟩
  refine (het.far tS (fun b hb e => by have := hb; omega)).via (fun b hb hlt => ?_)
  have hlt3 : b < w3.heap.size := by rw [show (setL w3 q3 0 [.int .i64 (kd : Int), .int .i64 (na : Int), .int .i64 (nb : Int), .string (bs nm), .int .i64 e0, .int .i64 e1, .string e2, .slice A m c, .slice none 0 0, .slice none 0 0]).heap.size = w3.heap.size from setL_size _ _ _] at hlt; exact hlt
  exact widL_new (h.free (.inr (.inr hb))) hb hlt3
theorem node_begin {w wr : World} {gp g n cp q3 B L f M : Nat} {ts : List Tk} {R0 : Nd × St} {σ : St} {φ : Nat → Nat} {op : List Nd} {sv : Value} {cs : List Value} {v0 v1 v2 v3 v4 v5 v6 v7 v8 v9 : Value} {u1 u5 u6 u7 u8 u9 u10 u11 u12 u13 u14 u15 u16 u17 u18 u19 u20 u21 u22 u23 u24 u25 u26 u27 u28 u29 u30 u31 u32 u33 u34 u35 u36 u37 u38 u39 u40 u41 u42 u43 u44 u45 u46 u47 u48 u49 u50 u51 u52 u53 u54 u55 u56 u57 u58 u59 u60 u61 u62 u63 u64 u65 u66 u67 u68 u69 u70 : Value} (hok : NamesOk ts) (hnk : NumsOk ts) (hv : LV w B) (hB : B ≤ gp) (hE : EnT ts L) (hgp : gp < w.heap.size) (hgl : g < w.heap.size) (hq : w.heap.size < q3) (hM : f ≤ M)
    (hN : NS w wr gp q3 φ op sv cs) (hnb : NB wr q3 v0 v1 v2 v3 v4 v5 v6 v7 v8 v9) (hp : PS2 57 wr gp g n cp ts σ) (md : nodR ts f op none σ = R0) (fu : FuB f L op.length σ) (hL : σ.1 ≤ L) (hbd : NBd f op) :
    (nodX 0).wp Tryz.prog (hop (fun l a w' => ∃ n', n' < M ∧ NJ w gp g n cp q3 L ts R0 n' l a w') (bodyPost Tryz.prog Tryz.f84 (NodPost w gp g n cp ts R0.1 R0.2))) ⟨#[.pointer (some ⟨gp, 0, none⟩), u1, .pointer (some ⟨w.heap.size, 0, none⟩), sv, .pointer (some ⟨q3, 0, none⟩), u5, u6, u7, u8, u9, u10, u11, u12, u13, u14, u15, u16, u17, u18, u19, u20, u21, u22, u23, u24, u25, u26, u27, u28, u29, u30, u31, u32, u33, u34, u35, u36, u37, u38, u39, u40, u41, u42, u43, u44, u45, u46, u47, u48, u49, u50, u51, u52, u53, u54, u55, u56, u57, u58, u59, u60, u61, u62, u63, u64, u65, u66, u67, u68, u69, u70], []⟩ wr := by
  obtain ⟨f', rfl, md', fu', hL'⟩ := nod_begin hE hL md fu
  obtain ⟨svA, svc, rfl, hsv1, hsv2⟩ := row_any hN.rs
  obtain ⟨s0, hs0⟩ : ∃ z, begS op σ = z := ⟨_, rfl⟩
  rw [hs0] at md' fu' hL'
  have HH := Lib.hid (fun (W : World) (q : PS2 57 W gp g n cp ts s0) (hv : LV W B) => head_st hok hnk hv hB q)
  unfold HdPost at HH
  have HBH := Lib.hid (fun (V : World) (ψ : Nat → Nat) (e0 e1 : Int) (e2 : ByteArray) (A : Option Addr) (m c : Nat) (hNC : NC w V gp q3 ψ op (.slice svA op.length svc) cs (headN ts s0) e0 e1 e2 A m c (.slice none 0 0) (.slice none 0 0) 0 [] []) (hp : PS2 57 V gp g n cp ts (headS ts s0)) (u1 u5 u6 u7 u8 u9 u10 u11 u12 u13 u14 u15 u16 u17 u18 u19 u20 u21 u22 u23 u24 u25 u26 u27 u28 u29 u30 u31 u32 u33 u34 u35 u36 u37 u38 u39 u40 u41 u42 u43 u44 u45 u46 u47 u48 u49 u50 u51 u52 u53 u54 u55 u56 u57 u58 u59 u60 u61 u62 u63 u64 u65 u66 u67 u68 u69 u70 : Value) =>
    (node_behind hok hnk hv hB hE hgp hgl hq (Nat.le_trans (Nat.le_succ f') hM) hNC hp md' fu' hL' (hbd.down (Nat.le_succ f')) (headK_le ts s0) (by have := hbd.ln; show 0 + 0 + f' ≤ 700000; omega) : (nodX 1).wp Tryz.prog _ ⟨#[.pointer (some ⟨gp, 0, none⟩), u1, .pointer (some ⟨w.heap.size, 0, none⟩), .slice svA op.length svc, .pointer (some ⟨q3, 0, none⟩), u5, u6, u7, u8, u9, u10, u11, u12, u13, u14, u15, u16, u17, u18, u19, u20, u21, u22, u23, u24, u25, u26, u27, u28, u29, u30, u31, u32, u33, u34, u35, u36, u37, u38, u39, u40, u41, u42, u43, u44, u45, u46, u47, u48, u49, u50, u51, u52, u53, u54, u55, u56, u57, u58, u59, u60, u61, u62, u63, u64, u65, u66, u67, u68, u69, u70], []⟩ V))
  have HF := Lib.hid (fail_st hp 4)
  have hsF : op.length = 40 → failS 4 σ = s0 := fun e => by rw [← hs0]; unfold begS; rw [if_pos e]
  have hsN : op.length ≠ 40 → σ = s0 := fun e => by rw [← hs0]; unfold begS; rw [if_neg e]
  have HN := Lib.hid hN
  have HNB := Lib.hid hnb
  have HP := Lib.hid hp
  have HV := Lib.hid (And.intro hv hB)
  have hq2 := blk_lt hnb
  simp only [nodX, nodC, Tryz.f84, findLabel, Nat.reduceBEq, if_true]
  have E := Eq.refl (nodX 1)
  conv at E => rhs; simp only [nodX, nodC, Tryz.f84, findLabel, Nat.reduceBEq, Bool.false_eq_true, if_true, if_false]
  rw [← E]
  clear E
  clear md' fu' hL' hok hnk hv hB hE hN hnb hp md fu hL hbd hs0
  by_cases h40 : op.length = 40
  · have hl40 : ((op.length : Int) == 40) = true := by rw [h40]; rfl
    have hsf := hsF h40
    rw [hsf] at HF
    clear hsF hsN h40
    go_wp2_with fail
    refine HF.out.mono ?_
    rintro x w2 ⟨rfl, hp, hT⟩
    have HN := Lib.hid (HN.out.go hT hgp)
    have HNB := Lib.hid (HNB.out.go hT (by omega))
    have HP := Lib.hid hp
    clear hp hT
    have HC := Lib.hid (HH.out _ HP.out (HV.out.1.touchP HN.out.t HV.out.2))
    have hq4 := blk_lt HNB.out
    obtain ⟨i0, i1, i2, i3, i4, i5, i6, i7, i8, i9, il⟩ := HNB.out.cells
    go_wp2_with fail
    refine HC.out.mono ?_
    rintro x w3 ⟨e0, e1, e2, A, m, c, rfl, het, hp, hT⟩
    obtain ⟨ψ, hNC⟩ := HN.out.head (kd := headK ts s0) (na := (headV ts s0).a) (nb := (headV ts s0).b) (nm := (headV ts s0).nm) hT hgp hq HNB.out het
    have hnb3 := HNB.out.go hT (by omega)
    clear i0 i1 i2 i3 i4 i5 i6 i7 i8 i9 il
    obtain ⟨i0, i1, i2, i3, i4, i5, i6, i7, i8, i9, il⟩ := hnb3.cells
    obtain ⟨y0, y1, y2, y3, y4, y5, y6, y7, y8, y9⟩ := hnb3.free
    obtain ⟨V, hV⟩ : ∃ V, setL w3 q3 0 [.int .i64 (headK ts s0 : Int), .int .i64 ((headV ts s0).a : Int), .int .i64 ((headV ts s0).b : Int), .string (bs (headV ts s0).nm), .int .i64 e0, .int .i64 e1, .string e2, .slice A m c, .slice none 0 0, .slice none 0 0] = V := ⟨_, rfl⟩
    have hpV : PS2 57 V gp g n cp ts (headS ts s0) := by
      have tS : Touch (fun b => b = q3) w3 V := by rw [← hV]; exact setL_touch _ _ _
      exact hp.touchX2 tS (fun e => by omega) (fun e => by omega)
    rw [hV] at hNC
    have HX := Lib.hid (And.intro hNC hpV)
    clear hNC hpV hp hT het hnb3
    simp only [setL] at hV
    go_wp2
    refine wp_label ?_
    rename_i hgo
    exact hgo _ _ (HBH.out V ψ e0 e1 e2 A m c HX.out.1 HX.out.2 _ _ _ _ _ _ _ _ _ _ _ _ _ _ _ _ _ _ _ _ _ _ _ _ _ _ _ _ _ _ _ _ _ _ _ _ _ _ _ _ _ _ _ _ _ _ _ _ _ _ _ _ _ _ _ _ _ _ _ _ _ _ _ _ _ _ _)
  · have hl40 : ((op.length : Int) == 40) = false := by simp; omega
    have hsf := hsN h40
    rw [hsf] at HP
    clear hsF hsN h40 HF
    obtain ⟨w2, hw2⟩ : ∃ z, wr = z := ⟨_, rfl⟩
    subst hw2
    have HC := Lib.hid (HH.out _ HP.out (HV.out.1.touchP HN.out.t HV.out.2))
    have hq4 := blk_lt HNB.out
    obtain ⟨i0, i1, i2, i3, i4, i5, i6, i7, i8, i9, il⟩ := HNB.out.cells
    go_wp2_with fail
    refine HC.out.mono ?_
    rintro x w3 ⟨e0, e1, e2, A, m, c, rfl, het, hp, hT⟩
    obtain ⟨ψ, hNC⟩ := HN.out.head (kd := headK ts s0) (na := (headV ts s0).a) (nb := (headV ts s0).b) (nm := (headV ts s0).nm) hT hgp hq HNB.out het
    have hnb3 := HNB.out.go hT (by omega)
    clear i0 i1 i2 i3 i4 i5 i6 i7 i8 i9 il
    obtain ⟨i0, i1, i2, i3, i4, i5, i6, i7, i8, i9, il⟩ := hnb3.cells
    obtain ⟨y0, y1, y2, y3, y4, y5, y6, y7, y8, y9⟩ := hnb3.free
    obtain ⟨V, hV⟩ : ∃ V, setL w3 q3 0 [.int .i64 (headK ts s0 : Int), .int .i64 ((headV ts s0).a : Int), .int .i64 ((headV ts s0).b : Int), .string (bs (headV ts s0).nm), .int .i64 e0, .int .i64 e1, .string e2, .slice A m c, .slice none 0 0, .slice none 0 0] = V := ⟨_, rfl⟩
    have hpV : PS2 57 V gp g n cp ts (headS ts s0) := by
      have tS : Touch (fun b => b = q3) w3 V := by rw [← hV]; exact setL_touch _ _ _
      exact hp.touchX2 tS (fun e => by omega) (fun e => by omega)
    rw [hV] at hNC
    have HX := Lib.hid (And.intro hNC hpV)
    clear hNC hpV hp hT het hnb3
    simp only [setL] at hV
    go_wp2
    refine wp_label ?_
    rename_i hgo
    exact hgo _ _ (HBH.out V ψ e0 e1 e2 A m c HX.out.1 HX.out.2 _ _ _ _ _ _ _ _ _ _ _ _ _ _ _ _ _ _ _ _ _ _ _ _ _ _ _ _ _ _ _ _ _ _ _ _ _ _ _ _ _ _ _ _ _ _ _ _ _ _ _ _ _ _ _ _ _ _ _ _ _ _ _ _ _ _ _)
/-- What package tree's node does. -/
theorem node_any {w : World} {gp g n cp B L : Nat} {ts : List Tk} {σ : St} (hok : NamesOk ts) (hnk : NumsOk ts) (hv : LV w B) (hB : B ≤ gp) (hE : EnT ts L) (hL : σ.1 ≤ L) (h : PS2 57 w gp g n cp ts σ) :
    Calls Tryz.prog 84 #[.pointer (some ⟨gp, 0, none⟩)] w (NodPost w gp g n cp ts (nodG ts σ).1 (nodG ts σ).2) := by
  have hgp := blk_lt h.blk
  have hgl := h.tl.lt
  have hLl : L < ts.length := by obtain ⟨t, ht, -⟩ := hE; exact (List.getElem?_eq_some_iff.1 ht).1
  have hsm := h.small
  have hln := h.len
  obtain ⟨R0, hR0⟩ : ∃ z, nodG ts σ = z := ⟨_, rfl⟩
  rw [hR0]
  unfold nodG at hR0
  have H := Lib.hid h
  have HK := Lib.hid (And.intro hok (And.intro hnk (And.intro hv (And.intro hB (And.intro hE (And.intro hL hR0))))))
  clear h hok hnk hv hB hE hL hR0
  go_enter Tryz.func84, Tryz.ntmps84
  go_wp2
  refine scope_fuel (Q := bodyPost Tryz.prog Tryz.f84 (NodPost w gp g n cp ts R0.1 R0.2)) (fun l => .seq .skip (nodX l)) (fun f l a wr => NJ w gp g n cp (w.heap.size + 1) L ts R0 f l a wr) (fun f l a wr h => ?lab) ?first (fun f l a wr h => wp_seq (wp_skip ?pass))
  case lab =>
    rcases h with ⟨rfl, -⟩ | ⟨rfl, -⟩
    · exact nodX0
    · exact nodX1
  case pass =>
    obtain ⟨hok, hnk, hv, hB, hE, hL, hR0⟩ := HK.out
    rcases h with ⟨rfl, φ, op, sv, cs, τ, v0, v1, v2, v3, v4, v5, v6, v7, v8, v9, hfr, hNS, hnb, hp, md, fu, hLt, hbd⟩ | ⟨rfl, φ, op, sv, cs, τ, nd, e0, e1, e2, A, m, c, kv, wv, D, xs, ys, hfr, hNC, hp, md, fu, hLt, hbd, hkd, hsz⟩
    · have hf := frame_node hfr.len hfr.dfr
      rw [hf, hfr.s0, hfr.s2, hfr.s3, hfr.s4]
      exact node_begin hok hnk hv hB hE hgp hgl (Nat.lt_succ_self _) (Nat.le_refl _) hNS hnb hp md fu hLt hbd
    · have hf := frame_node hfr.len hfr.dfr
      rw [hf, hfr.s0, hfr.s2, hfr.s3, hfr.s4]
      exact node_behind hok hnk hv hB hE hgp hgl (Nat.lt_succ_self _) (Nat.le_refl _) hNC hp md fu hLt hbd hkd hsz
  have E := Eq.refl (nodX 0)
  conv at E => rhs; simp only [nodX, nodC, Tryz.f84, findLabel, Nat.reduceBEq, if_true]
  rw [← E]
  clear E
  obtain ⟨W1, hW1⟩ : ∃ W, (w.alloc (.cells #[.int .i64 0, .int .i64 0, .int .i64 0, .string ⟨#[]⟩, .int .i64 0, .int .i64 0, .string ⟨#[]⟩, .slice none 0 0, .slice none 0 0, .slice none 0 0] 47)).alloc (.cells #[.int .i64 0, .int .i64 0, .int .i64 0, .string ⟨#[]⟩, .int .i64 0, .int .i64 0, .string ⟨#[]⟩, .slice none 0 0, .slice none 0 0, .slice none 0 0] 47) = W := ⟨_, rfl⟩
  have t1 : Touch NoB w W1 := by rw [← hW1]; exact ((Touch.refl _ _).alloc _).alloc _
  have b2 : NB W1 w.heap.size (.int .i64 0) (.int .i64 0) (.int .i64 0) (.string ⟨#[]⟩) (.int .i64 0) (.int .i64 0) (.string ⟨#[]⟩) (.slice none 0 0) (.slice none 0 0) (.slice none 0 0) := by rw [← hW1, NB, heap_alloc_old _ _ (by simp only [World.size_alloc]; exact Nat.lt_succ_self _)]; exact NB.new w _ _ _ _ _ _ _ _ _ _ rfl
  have b3 : NB W1 (w.heap.size + 1) (.int .i64 0) (.int .i64 0) (.int .i64 0) (.string ⟨#[]⟩) (.int .i64 0) (.int .i64 0) (.string ⟨#[]⟩) (.slice none 0 0) (.slice none 0 0) (.slice none 0 0) := by rw [← hW1]; exact NB.new _ _ _ _ _ _ _ _ _ _ _ (by simp only [World.size_alloc])
  have HW := Lib.hid (And.intro t1 (And.intro b2 b3))
  clear t1 b2 b3
  go_wp2
  refine wp_label ?_
  rename_i hgo
  refine hgo _ _ ?_
  obtain ⟨hok, hnk, hv, hB, hE, hL, hR0⟩ := HK.out
  refine Go.wp_mono (node_begin (M := 6 * ts.length + 100) (φ := fun _ => 0) (op := []) (sv := .slice none 0 0) (cs := []) hok hnk hv hB hE hgp hgl (Nat.lt_succ_self _) (Nat.le_refl _) ⟨Touch.anyB HW.out.1, HW.out.2.1, World.ownsRow_nil _ _ _ _, (show StAt _ _ _ [] [] from rfl), fun b hb => by simp [Value.ownBlock] at hb, fun b hb => absurd rfl hb⟩ HW.out.2.2 (H.out.touch HW.out.1) hR0 ⟨by omega, fun _ => by simp only [List.length_nil]; omega⟩ hL ⟨by simp only [List.length_nil]; omega, fun p hp => by simp at hp, fun p hp => by simp at hp⟩) (hop_mono (fun l a w' hx => ?_))
  obtain ⟨n', -, hn'⟩ := hx
  exact ⟨n', hn'⟩
end Go.Proofs.YtkmbobfjoaldgaaGreatDoor

/-
  What stands in memory while package tree's program reads. No condition beyond those that each theorem names.
-/
namespace Go.Proofs.YtkmbobfjoaldgaaGreatDoor
open Go.ChangeShapes Go.WideShapes Go.ChangeAt Go.RowKit
set_option maxRecDepth 100000
set_option maxHeartbeats 4000000

theorem info_key' : ∃ i0, Tryz.prog.info? 62 = some i0 ∧ i0.zero = some (.agg #[.string ⟨#[]⟩, .int .i64 0, .bool false]) ∧ i0.size = 3 ∧ i0.bytes = 32 := by
  have h : (Tryz.prog.info? 62).map (fun i => (i.zero, i.size, i.bytes)) = some (some (.agg #[.string ⟨#[]⟩, .int .i64 0, .bool false]), 3, 32) := by kernel_rfl
  cases hi : Tryz.prog.info? 62 with
  | none => rw [hi] at h; cases h
  | some i0 =>
    rw [hi] at h
    simp only [Option.map_some, Option.some.injEq, Prod.mk.injEq] at h
    exact ⟨i0, rfl, h.1, h.2.1, h.2.2⟩
theorem info_dom' : ∃ i0, Tryz.prog.info? 69 = some i0 ∧ i0.zero = some (.agg #[.string ⟨#[]⟩, .slice none 0 0, .slice none 0 0, .slice none 0 0]) ∧ i0.size = 4 ∧ i0.bytes = 88 := by
  have h : (Tryz.prog.info? 69).map (fun i => (i.zero, i.size, i.bytes)) = some (some (.agg #[.string ⟨#[]⟩, .slice none 0 0, .slice none 0 0, .slice none 0 0]), 4, 88) := by kernel_rfl
  cases hi : Tryz.prog.info? 69 with
  | none => rw [hi] at h; cases h
  | some i0 =>
    rw [hi] at h
    simp only [Option.map_some, Option.some.injEq, Prod.mk.injEq] at h
    exact ⟨i0, rfl, h.1, h.2.1, h.2.2⟩
theorem info_tree' : ∃ i0, Tryz.prog.info? 49 = some i0 ∧ i0.zero = some (.agg #[.string ⟨#[]⟩, .int .i64 0, .int .i64 0, .int .i64 0, .string ⟨#[]⟩, .int .i64 0, .int .i64 0, .string ⟨#[]⟩, .slice none 0 0, .slice none 0 0, .slice none 0 0]) ∧ i0.size = 11 ∧ i0.bytes = 160 := by
  have h : (Tryz.prog.info? 49).map (fun i => (i.zero, i.size, i.bytes)) = some (some (.agg #[.string ⟨#[]⟩, .int .i64 0, .int .i64 0, .int .i64 0, .string ⟨#[]⟩, .int .i64 0, .int .i64 0, .string ⟨#[]⟩, .slice none 0 0, .slice none 0 0, .slice none 0 0]), 11, 160) := by kernel_rfl
  cases hi : Tryz.prog.info? 49 with
  | none => rw [hi] at h; cases h
  | some i0 =>
    rw [hi] at h
    simp only [Option.map_some, Option.some.injEq, Prod.mk.injEq] at h
    exact ⟨i0, rfl, h.1, h.2.1, h.2.2⟩
/-- A finished tree's eleven cells. -/
def TrAt (w : World) (Q : Nat → Prop) (t : Tr) (l : List Value) : Prop := ∃ D ys, l = .string (bs t.nm) :: ys ∧ NT w Q D t.root ys
theorem TrAt.touch {w w' : World} {Q F : Nat → Prop} {a : Tr} {l : List Value} (h : TrAt w Q a l) (t : Touch F w w') (hq : ∀ b, Q b → ¬ F b) : TrAt w' Q a l := by
  obtain ⟨D, ys, rfl, h1⟩ := h
  exact ⟨D, ys, rfl, NT.touch t hq _ _ _ h1⟩
theorem TrAt.via {w : World} {Q R : Nat → Prop} {a : Tr} {l : List Value} (h : TrAt w Q a l) (hq : ∀ b, Q b → b < w.heap.size → R b) : TrAt w R a l := by
  obtain ⟨D, ys, rfl, h1⟩ := h
  exact ⟨D, ys, rfl, NT.via hq _ _ _ h1⟩
theorem DmAt.touch {w w' : World} {Q F : Nat → Prop} {a : Dm} {l : List Value} (h : DmAt w Q a l) (t : Touch F w w') (hq : ∀ b, Q b → ¬ F b) : DmAt w' Q a l := by
  obtain ⟨v1, v2, v3, xs, rfl, h1, h2, h3, h4⟩ := h
  exact ⟨v1, v2, v3, xs, rfl, h1.touch t hq, h2.touch t hq, h3.mono (fun x ys hx => hx.touch t hq), h4.touch t hq⟩
theorem DmAt.via {w : World} {Q R : Nat → Prop} {a : Dm} {l : List Value} (h : DmAt w Q a l) (hq : ∀ b, Q b → b < w.heap.size → R b) : DmAt w R a l := by
  obtain ⟨v1, v2, v3, xs, rfl, h1, h2, h3, h4⟩ := h
  exact ⟨v1, v2, v3, xs, rfl, h1.via hq, h2.via hq, h3.mono (fun x ys hx => hx.via hq), h4.via hq⟩
/-- A program that is being read, at block q3; Q: the blocks of its finished trees and domains. -/
structure PM (w wr : World) (gp q3 : Nat) (Q : Nat → Prop) (a : List Ky) (b : List Tr) (c : List Dm) (vk vt vd : Value) (ts ds : List Value) : Prop where
  t : Touch (AtB gp) w wr
  b2 : B3 wr 29 w.heap.size (.slice none 0 0) (.slice none 0 0) (.slice none 0 0)
  b3 : B3 wr 29 q3 vk vt vd
  rk : wr.ownsRow w.heap.size 62 3 vk a.length (kyC a)
  rt : wr.ownsRow w.heap.size 49 11 vt b.length ts
  lt : LsAt (TrAt wr Q) b ts
  rd : wr.ownsRow w.heap.size 69 4 vd c.length ds
  ld : LsAt (DmAt wr Q) c ds
  hQ : ∀ k, Q k → w.heap.size < k ∧ k < wr.heap.size ∧ k ≠ q3 ∧ vk.ownBlock ≠ some k ∧ vt.ownBlock ≠ some k ∧ vd.ownBlock ≠ some k
theorem PM.go {w wr V : World} {gp q3 : Nat} {Q : Nat → Prop} {a : List Ky} {b : List Tr} {c : List Dm} {vk vt vd : Value} {ts ds : List Value} (h : PM w wr gp q3 Q a b c vk vt vd ts ds) (t : Touch (AtB gp) wr V) (hgp : gp < w.heap.size) (hsq : w.heap.size < q3) : PM w V gp q3 Q a b c vk vt vd ts ds := by
  have q : ∀ k, Q k → ¬ AtB gp k := fun k hk f => by have := (h.hQ k hk).1; unfold AtB at f; omega
  exact ⟨h.t.same t, h.b2.go t (by omega), h.b3.go t (by omega), row_go h.rk t hgp, row_go h.rt t hgp, h.lt.mono (fun x ys hx => hx.touch t q), row_go h.rd t hgp, h.ld.mono (fun x ys hx => hx.touch t q),
    fun k hk => ⟨(h.hQ k hk).1, Nat.lt_of_lt_of_le (h.hQ k hk).2.1 t.size, (h.hQ k hk).2.2⟩⟩
/-- What a call has made new is finished. -/
theorem PM.widen {w wr V : World} {gp q3 : Nat} {Q : Nat → Prop} {a : List Ky} {b : List Tr} {c : List Dm} {vk vt vd : Value} {ts ds : List Value} (h : PM w wr gp q3 Q a b c vk vt vd ts ds) (t : Touch (AtB gp) wr V) (hgp : gp < w.heap.size) (hsq : w.heap.size < q3) :
    PM w V gp q3 (fun k => Q k ∨ (wr.heap.size ≤ k ∧ k < V.heap.size)) a b c vk vt vd ts ds := by
  have h3 := h.go t hgp hsq
  have hb2 := blk_lt h.b2
  have hb3 := blk_lt h.b3
  refine ⟨h3.t, h3.b2, h3.b3, h3.rk, h3.rt, h3.lt.mono (fun x ys hx => hx.via (fun k hk _ => .inl hk)), h3.rd, h3.ld.mono (fun x ys hx => hx.via (fun k hk _ => .inl hk)), fun k hk => ?_⟩
  rcases hk with hk | ⟨h1, h2⟩
  · exact h3.hQ k hk
  · exact ⟨by omega, h2, by omega, fun e => by have := (h.rk.lt k e).2; omega, fun e => by have := (h.rt.lt k e).2; omega, fun e => by have := (h.rd.lt k e).2; omega⟩
theorem B3.goR {w w' : World} {T : TypeId} {q : Nat} {a b c v : Value} (h : B3 w T q a b c) (t : Touch (fun b => v.ownBlock = some b) w w') (hne : v.ownBlock ≠ some q) : B3 w' T q a b c := (t.block q (blk_lt h) hne).trans h
section
variable {w w3 wx : World} {gp q3 gd cap : Nat} {Q : Nat → Prop} {a : List Ky} {b : List Tr} {c : List Dm} {vk vt vd : Value} {ts ds : List Value}
theorem PM.addK {v : Ky} (h : PM w w3 gp q3 Q a b c vk vt vd ts ds) (hsq : w.heap.size < q3) (TR : Touch (fun b => vk.ownBlock = some b) w3 wx)
    (hown : wx.ownsRow w.heap.size 62 3 (.slice (some ⟨gd, 0, none⟩) (a.length + 1) cap) (a.length + 1) (kyC a ++ [.string (bs v.nm), .int .i64 (v.kd : Int), .bool v.sh])) (hat : vk.ownBlock = some gd ∨ gd = w3.heap.size + 1) :
    PM w (wx.setCell ⟨q3, 0, none⟩ (.slice (some ⟨gd, 0, none⟩) (a.length + 1) cap)) gp q3 Q (a ++ [v]) b c (.slice (some ⟨gd, 0, none⟩) (a.length + 1) cap) vt vd ts ds := by
  have hb2 := h.b2.goR TR (row_ne h.rk h.b2 (by decide))
  have hb3 := h.b3.goR TR (row_ne h.rk h.b3 (by decide))
  have rt := row_touch h.rt TR (fun k hk f => row_row_ne h.rk h.rt (by decide) f hk)
  have rd := row_touch h.rd TR (fun k hk f => row_row_ne h.rk h.rd (by decide) f hk)
  have tS := (Touch.refl (fun b => b = q3) wx).setCell (p := ⟨q3, 0, none⟩) (.inl rfl) (.slice (some ⟨gd, 0, none⟩) (a.length + 1) cap)
  refine ⟨(h.t.trans TR (fun k hk => .inr (row_base h.rk k hk))).setCell (p := ⟨q3, 0, none⟩) (.inr (by simp only; omega)) _, hb2.aside (by omega), hb3.set0 _, ?_, row_aside rt (row_ne rt hb3 (by decide)), ?_, row_aside rd (row_ne rd hb3 (by decide)), ?_, fun k hk => ?_⟩
  · rw [List.length_append, kyC_snoc]
    exact row_aside hown (row_ne hown hb3 (by decide))
  · exact h.lt.mono (fun x ys hx => (hx.touch TR (fun k hk => (h.hQ k hk).2.2.2.1)).touch tS (fun k hk => (h.hQ k hk).2.2.1))
  · exact h.ld.mono (fun x ys hx => (hx.touch TR (fun k hk => (h.hQ k hk).2.2.2.1)).touch tS (fun k hk => (h.hQ k hk).2.2.1))
  · obtain ⟨q1, q2, q3', q4, q5, q6⟩ := h.hQ k hk
    refine ⟨q1, Nat.lt_of_lt_of_le q2 (Nat.le_trans TR.size tS.size), q3', fun e => ?_, q5, q6⟩
    have e1 : gd = k := by simpa [Value.ownBlock] using e
    subst e1
    rcases hat with e | e
    · exact q4 e
    · omega
theorem PM.addT {v : Tr} {ys : List Value} (h : PM w w3 gp q3 Q a b c vk vt vd ts ds) (hsq : w.heap.size < q3) (hv : TrAt w3 Q v ys) (TR : Touch (fun b => vt.ownBlock = some b) w3 wx)
    (hown : wx.ownsRow w.heap.size 49 11 (.slice (some ⟨gd, 0, none⟩) (b.length + 1) cap) (b.length + 1) (ts ++ ys)) (hat : vt.ownBlock = some gd ∨ gd = w3.heap.size + 1) :
    PM w (wx.setCell ⟨q3, 1, none⟩ (.slice (some ⟨gd, 0, none⟩) (b.length + 1) cap)) gp q3 Q a (b ++ [v]) c vk (.slice (some ⟨gd, 0, none⟩) (b.length + 1) cap) vd (ts ++ ys) ds := by
  have hb2 := h.b2.goR TR (row_ne h.rt h.b2 (by decide))
  have hb3 := h.b3.goR TR (row_ne h.rt h.b3 (by decide))
  have rk := row_touch h.rk TR (fun k hk f => row_row_ne h.rt h.rk (by decide) f hk)
  have rd := row_touch h.rd TR (fun k hk f => row_row_ne h.rt h.rd (by decide) f hk)
  have tS := (Touch.refl (fun b => b = q3) wx).setCell (p := ⟨q3, 1, none⟩) (.inl rfl) (.slice (some ⟨gd, 0, none⟩) (b.length + 1) cap)
  refine ⟨(h.t.trans TR (fun k hk => .inr (row_base h.rt k hk))).setCell (p := ⟨q3, 1, none⟩) (.inr (by simp only; omega)) _, hb2.aside (by omega), hb3.set1 _, row_aside rk (row_ne rk hb3 (by decide)), ?_, ?_, row_aside rd (row_ne rd hb3 (by decide)), ?_, fun k hk => ?_⟩
  · rw [List.length_append]
    exact row_aside hown (row_ne hown hb3 (by decide))
  · exact (LsAt.snoc h.lt hv).mono (fun x ys hx => (hx.touch TR (fun k hk => (h.hQ k hk).2.2.2.2.1)).touch tS (fun k hk => (h.hQ k hk).2.2.1))
  · exact h.ld.mono (fun x ys hx => (hx.touch TR (fun k hk => (h.hQ k hk).2.2.2.2.1)).touch tS (fun k hk => (h.hQ k hk).2.2.1))
  · obtain ⟨q1, q2, q3', q4, q5, q6⟩ := h.hQ k hk
    refine ⟨q1, Nat.lt_of_lt_of_le q2 (Nat.le_trans TR.size tS.size), q3', q4, fun e => ?_, q6⟩
    have e1 : gd = k := by simpa [Value.ownBlock] using e
    subst e1
    rcases hat with e | e
    · exact q5 e
    · omega
theorem PM.addD {v : Dm} {ys : List Value} (h : PM w w3 gp q3 Q a b c vk vt vd ts ds) (hsq : w.heap.size < q3) (hv : DmAt w3 Q v ys) (TR : Touch (fun b => vd.ownBlock = some b) w3 wx)
    (hown : wx.ownsRow w.heap.size 69 4 (.slice (some ⟨gd, 0, none⟩) (c.length + 1) cap) (c.length + 1) (ds ++ ys)) (hat : vd.ownBlock = some gd ∨ gd = w3.heap.size + 1) :
    PM w (wx.setCell ⟨q3, 2, none⟩ (.slice (some ⟨gd, 0, none⟩) (c.length + 1) cap)) gp q3 Q a b (c ++ [v]) vk vt (.slice (some ⟨gd, 0, none⟩) (c.length + 1) cap) ts (ds ++ ys) := by
  have hb2 := h.b2.goR TR (row_ne h.rd h.b2 (by decide))
  have hb3 := h.b3.goR TR (row_ne h.rd h.b3 (by decide))
  have rk := row_touch h.rk TR (fun k hk f => row_row_ne h.rd h.rk (by decide) f hk)
  have rt := row_touch h.rt TR (fun k hk f => row_row_ne h.rd h.rt (by decide) f hk)
  have tS := (Touch.refl (fun b => b = q3) wx).setCell (p := ⟨q3, 2, none⟩) (.inl rfl) (.slice (some ⟨gd, 0, none⟩) (c.length + 1) cap)
  refine ⟨(h.t.trans TR (fun k hk => .inr (row_base h.rd k hk))).setCell (p := ⟨q3, 2, none⟩) (.inr (by simp only; omega)) _, hb2.aside (by omega), hb3.set2 _, row_aside rk (row_ne rk hb3 (by decide)), row_aside rt (row_ne rt hb3 (by decide)), ?_, ?_, ?_, fun k hk => ?_⟩
  · exact h.lt.mono (fun x ys hx => (hx.touch TR (fun k hk => (h.hQ k hk).2.2.2.2.2)).touch tS (fun k hk => (h.hQ k hk).2.2.1))
  · rw [List.length_append]
    exact row_aside hown (row_ne hown hb3 (by decide))
  · exact (LsAt.snoc h.ld hv).mono (fun x ys hx => (hx.touch TR (fun k hk => (h.hQ k hk).2.2.2.2.2)).touch tS (fun k hk => (h.hQ k hk).2.2.1))
  · obtain ⟨q1, q2, q3', q4, q5, q6⟩ := h.hQ k hk
    refine ⟨q1, Nat.lt_of_lt_of_le q2 (Nat.le_trans TR.size tS.size), q3', q4, q5, fun e => ?_⟩
    have e1 : gd = k := by simpa [Value.ownBlock] using e
    subst e1
    rcases hat with e | e
    · exact q6 e
    · omega
end
/-- A program's cells, its lists finished. -/
def PgAt (w : World) (Q : Nat → Prop) (p : Pg) (l : List Value) : Prop := ∃ v1 v2 v3 xs ys, l = [v1, v2, v3] ∧ SlAt w Q v1 p.keys.length (kyC p.keys) ∧ SlAt w Q v2 p.trees.length xs ∧ LsAt (TrAt w Q) p.trees xs ∧ SlAt w Q v3 p.doms.length ys ∧ LsAt (DmAt w Q) p.doms ys
end Go.Proofs.YtkmbobfjoaldgaaGreatDoor
