/-
  What package tree's another does of a pick: a weight is read and put behind the others. Conditions: the table of levels can be read; names and numbers among the tokens are such.
-/
import Derived.Test.YtkmbobfjoaldgaaGreatDoorZa11
import Derived.Deep.AppendLies
import Derived.Deep.DeepCutAuto
import Derived.Deep.RegionWith
namespace Go.Proofs.YtkmbobfjoaldgaaGreatDoor
open Go.ChangeShapes Go.WideShapes Go.ChangeAt Go.RowKit
set_option maxRecDepth 100000
set_option maxHeartbeats 8000000

theorem info_expr' : ∃ i0, Tryz.prog.info? 44 = some i0 ∧ i0.zero = some (.agg #[.int .i64 0, .int .i64 0, .string ⟨#[]⟩, .slice none 0 0]) ∧ i0.size = 4 ∧ i0.bytes = 56 := by
  have h : (Tryz.prog.info? 44).map (fun i => (i.zero, i.size, i.bytes)) = some (some (.agg #[.int .i64 0, .int .i64 0, .string ⟨#[]⟩, .slice none 0 0]), 4, 56) := by kernel_rfl
  cases hi : Tryz.prog.info? 44 with
  | none => rw [hi] at h; cases h
  | some i0 =>
    rw [hi] at h
    simp only [Option.map_some, Option.some.injEq, Prod.mk.injEq] at h
    exact ⟨i0, rfl, h.1, h.2.1, h.2.2⟩
theorem NB.touch {w w' : World} {F : Nat → Prop} {q : Nat} {v0 v1 v2 v3 v4 v5 v6 v7 v8 v9 : Value} (h : NB w q v0 v1 v2 v3 v4 v5 v6 v7 v8 v9) (t : Touch F w w') (hq : ¬ F q) : NB w' q v0 v1 v2 v3 v4 v5 v6 v7 v8 v9 := (t.block q (blk_lt h) hq).trans h
/-- Stores into two blocks, in either order. -/
theorem set_swap (w : World) {g q : Nat} (i j : Nat) (u v : Value) (h : g ≠ q) : (w.setCell ⟨g, i, none⟩ u).setCell ⟨q, j, none⟩ v = (w.setCell ⟨q, j, none⟩ v).setCell ⟨g, i, none⟩ u := by
  unfold World.setCell
  simp only
  congr 1
  apply Array.ext_getElem?
  intro k
  simp only [Array.getElem?_modify]
  by_cases h1 : g = k
  · by_cases h2 : q = k
    · omega
    · simp [h1, h2]
  · by_cases h2 : q = k
    · simp [h1, h2]
    · simp [h1, h2]
theorem pick_far {v : Value} {gd qn k R E N : Nat} (h1 : R ≤ k ∧ k < E) (h2 : k = gd ∨ k = qn) (hO : ∀ k, v.ownBlock = some k → k < N) (hge : v.ownBlock = some gd ∨ E ≤ gd) (hN : N ≤ R) (hq : qn < R) : False := by
  rcases h2 with rfl | rfl
  · rcases hge with z | z
    · have := hO _ z; omega
    · omega
  · omega
theorem pick_touch {w w3 wx V : World} {v : Value} {gd qn gp : Nat} (t1 : Touch (AtB gp) w w3) (t2 : Touch (fun b => v.ownBlock = some b) w3 wx) (t3 : Touch (fun k => k = gd ∨ k = qn) wx V) (hge : v.ownBlock = some gd ∨ w3.heap.size ≤ gd) (h : w.heap.size ≤ w3.heap.size) : Touch (fun k => k = gp ∨ k = qn ∨ v.ownBlock = some k) w V := by
  have a1 : Touch (fun k => k = gp ∨ k = qn ∨ v.ownBlock = some k) w w3 := Touch.trans (Touch.refl _ w) t1 (fun k hk => .inl (.inl hk))
  have a2 := a1.trans t2 (fun k hk => .inl (.inr (.inr hk)))
  refine a2.trans t3 (fun k hk => ?_)
  rcases hk with rfl | rfl
  · rcases hge with z | z
    · exact .inl (.inr (.inr z))
    · exact .inr (by omega)
  · exact .inl (.inr (.inl rfl))
theorem pick_tv (wx : World) (gd qn wn : Nat) (x0 x1 x2 x3 x4 : Value) : Touch (fun k => k = gd ∨ k = qn) wx (((((wx.setCell ⟨gd, wn * 4, none⟩ x0).setCell ⟨gd, wn * 4 + 1, none⟩ x1).setCell ⟨gd, wn * 4 + 2, none⟩ x2).setCell ⟨gd, wn * 4 + 3, none⟩ x3).setCell ⟨qn, 9, none⟩ x4) :=
  (((((Touch.refl (fun k => k = gd ∨ k = qn) wx).setCell (p := ⟨gd, wn * 4, none⟩) (.inl (.inl rfl)) x0).setCell (p := ⟨gd, wn * 4 + 1, none⟩) (.inl (.inl rfl)) x1).setCell (p := ⟨gd, wn * 4 + 2, none⟩) (.inl (.inl rfl)) x2).setCell (p := ⟨gd, wn * 4 + 3, none⟩) (.inl (.inl rfl)) x3).setCell (p := ⟨qn, 9, none⟩) (.inl (.inr rfl)) x4
theorem NB.set9 {w : World} {q : Nat} {v0 v1 v2 v3 v4 v5 v6 v7 v8 v9 : Value} (h : NB w q v0 v1 v2 v3 v4 v5 v6 v7 v8 v9) (x : Value) : NB (w.setCell ⟨q, 9, none⟩ x) q v0 v1 v2 v3 v4 v5 v6 v7 v8 x := set_blk h 9 x
/-- The last place of a row is filled. -/
theorem row_last {w : World} {base gd wn cap : Nat} {e : TypeId} {ys : List Value} {a b c d : Value} (hl : ys.length = wn * 4) (h : w.ownsRow base e 4 (.slice (some ⟨gd, 0, none⟩) (wn + 1) cap) (wn + 1) (ys ++ [a, b, c, d])) (x0 x1 x2 x3 : Value) :
    ((((w.setCell ⟨gd, wn * 4, none⟩ x0).setCell ⟨gd, wn * 4 + 1, none⟩ x1).setCell ⟨gd, wn * 4 + 2, none⟩ x2).setCell ⟨gd, wn * 4 + 3, none⟩ x3).ownsRow base e 4 (.slice (some ⟨gd, 0, none⟩) (wn + 1) cap) (wn + 1) (ys ++ [x0, x1, x2, x3]) := by
  have h1 := (h.stored (wn * 4) x0).1
  have h2 := (h1.stored (wn * 4 + 1) x1).1
  have h3 := (h2.stored (wn * 4 + 2) x2).1
  have h4 := (h3.stored (wn * 4 + 3) x3).1
  have e : ((((ys ++ [a, b, c, d]).set (wn * 4) x0).set (wn * 4 + 1) x1).set (wn * 4 + 2) x2).set (wn * 4 + 3) x3 = ys ++ [x0, x1, x2, x3] := by
    rw [← hl]
    simp
  rw [e] at h4
  exact h4
/-- The world behind the two stores. -/
structure PV (w w3 V : World) (gp g n cp qn base R gd cap2 m kc wn wc : Nat) (kA wA : Option Addr) (ts : List Tk) (ex : Ex) (s1 : St) (v1 v2 v3 v4 v5 v6 v7 : Value) (ys : List Value) (ea eb : Int) (es : ByteArray) (eA : Option Addr) (em ec : Nat) : Prop where
  nb : NB V qn (.int .i64 11) v1 v2 v3 v4 v5 v6 v7 (.slice kA m kc) (.slice (some ⟨gd, 0, none⟩) (wn + 1) cap2)
  row : V.ownsRow base 44 4 (.slice (some ⟨gd, 0, none⟩) (wn + 1) cap2) (wn + 1) (ys ++ [.int .i64 ea, .int .i64 eb, .string es, .slice eA em ec])
  at_ : (Value.slice wA wn wc).ownBlock = some gd ∨ w3.heap.size ≤ gd
  ex : ET V (fun k => R ≤ k ∧ k < w3.heap.size) ex ea eb es eA em ec
  ps : PS2 57 V gp g n cp ts s1
  t : Touch (fun k => k = gp ∨ k = qn ∨ (Value.slice wA wn wc).ownBlock = some k) w V
theorem pick_done {w w3 wx : World} {gp g n cp qn base R gd cap2 m kc wn wc H : Nat} {kA wA : Option Addr} {ts : List Tk} {ex : Ex} {s1 : St} {v1 v2 v3 v4 v5 v6 v7 : Value} {ys : List Value} {ea eb : Int} {es : ByteArray} {eA : Option Addr} {em ec : Nat}
    (hb3 : NB w3 qn (.int .i64 11) v1 v2 v3 v4 v5 v6 v7 (.slice kA m kc) (.slice wA wn wc)) (hr3 : w3.ownsRow base 44 4 (.slice wA wn wc) wn ys) (hp3 : PS2 57 w3 gp g n cp ts s1) (ht3 : Touch (AtB gp) w w3) (he3 : ET w3 (fun k => R ≤ k ∧ k < w3.heap.size) ex ea eb es eA em ec)
    (hO : ∀ k, (Value.slice wA wn wc).ownBlock = some k → k < w.heap.size) (hR : w.heap.size ≤ R) (hqR : qn < R) (hqg : gp < base) (hqb : g < base) (hqn : base ≤ qn) (TR : Touch (fun k9 => (Value.slice wA wn wc).ownBlock = some k9) w3 wx)
    (hown : wx.ownsRow base 44 4 (.slice (some ⟨gd, 0, none⟩) (wn + 1) cap2) (wn + 1) (ys ++ [.int .i64 0, .int .i64 0, .string ⟨#[]⟩, .slice none 0 0])) (hat : (Value.slice wA wn wc).ownBlock = some gd ∨ gd = H) (hH : w3.heap.size ≤ H) :
    ∃ V, (((((wx.setCell ⟨gd, wn * 4, none⟩ (.int .i64 ea)).setCell ⟨gd, wn * 4 + 1, none⟩ (.int .i64 eb)).setCell ⟨gd, wn * 4 + 2, none⟩ (.string es)).setCell ⟨gd, wn * 4 + 3, none⟩ (.slice eA em ec)).setCell ⟨qn, 9, none⟩ (.slice (some ⟨gd, 0, none⟩) (wn + 1) cap2)) = V ∧ (((((wx.setCell ⟨qn, 9, none⟩ (.slice (some ⟨gd, 0, none⟩) (wn + 1) cap2)).setCell ⟨gd, wn * 4, none⟩ (.int .i64 ea)).setCell ⟨gd, wn * 4 + 1, none⟩ (.int .i64 eb)).setCell ⟨gd, wn * 4 + 2, none⟩ (.string es)).setCell ⟨gd, wn * 4 + 3, none⟩ (.slice eA em ec)) = V ∧ (wx.cell? ⟨qn, 9, none⟩ = some (.slice wA wn wc) ∧ wx.frozen? ⟨qn, 9, none⟩ = false) ∧ (wx.frozen? ⟨gd, wn * 4, none⟩ = false ∧ wx.frozen? ⟨gd, wn * 4 + 1, none⟩ = false ∧ wx.frozen? ⟨gd, wn * 4 + 2, none⟩ = false ∧ wx.frozen? ⟨gd, wn * 4 + 3, none⟩ = false) ∧
      (wx.cell? ⟨gd, wn * 4, none⟩ = some (.int .i64 0) ∧ wx.cell? ⟨gd, wn * 4 + 1, none⟩ = some (.int .i64 0) ∧ wx.cell? ⟨gd, wn * 4 + 2, none⟩ = some (.string ⟨#[]⟩) ∧ wx.cell? ⟨gd, wn * 4 + 3, none⟩ = some (.slice none 0 0)) ∧ gd ≠ qn ∧
      PV w w3 V gp g n cp qn base R gd cap2 m kc wn wc kA wA ts ex s1 v1 v2 v3 v4 v5 v6 v7 ys ea eb es eA em ec := by
  have hys : ys.length = wn * 4 := hr3.1
  have hge : (Value.slice wA wn wc).ownBlock = some gd ∨ w3.heap.size ≤ gd := hat.imp (fun e => e) (fun e => by omega)
  have hbx := hb3.touch TR (row_ne hr3 hb3 (by decide))
  have hgq : gd ≠ qn := fun e => row_ne hown hbx (by decide) (by rw [e]; rfl)
  have hgb : base ≤ gd := row_base hown gd rfl
  obtain ⟨V, hV⟩ : ∃ V, (((((wx.setCell ⟨gd, wn * 4, none⟩ (.int .i64 ea)).setCell ⟨gd, wn * 4 + 1, none⟩ (.int .i64 eb)).setCell ⟨gd, wn * 4 + 2, none⟩ (.string es)).setCell ⟨gd, wn * 4 + 3, none⟩ (.slice eA em ec)).setCell ⟨qn, 9, none⟩ (.slice (some ⟨gd, 0, none⟩) (wn + 1) cap2)) = V := ⟨_, rfl⟩
  refine ⟨V, hV, ?_, ⟨cell_blk hbx 9, free_blk hbx 9⟩, ⟨hown.frozenAt _, hown.frozenAt _, hown.frozenAt _, hown.frozenAt _⟩, ⟨?_, ?_, ?_, ?_⟩, hgq, ?_⟩
  · rw [← hV, set_swap _ _ _ _ _ hgq, set_swap _ _ _ _ _ hgq, set_swap _ _ _ _ _ hgq, set_swap _ _ _ _ _ hgq]
  · rw [hown.cellAt _ (by omega), List.getElem?_append_right (by omega), hys]; simp
  · rw [hown.cellAt _ (by omega), List.getElem?_append_right (by omega), hys]; simp
  · rw [hown.cellAt _ (by omega), List.getElem?_append_right (by omega), hys]; simp
  · rw [hown.cellAt _ (by omega), List.getElem?_append_right (by omega), hys]; simp
  · have tV : Touch (fun k => k = gd ∨ k = qn) wx V := by
      rw [← hV]
      exact pick_tv _ _ _ _ _ _ _ _ _
    refine ⟨?_, ?_, hge, ?_, ?_, pick_touch ht3 TR tV hge ht3.size⟩
    · rw [← hV]; exact NB.set9 (NB.aside (NB.aside (NB.aside (NB.aside hbx (fun z => hgq z.symm)) (fun z => hgq z.symm)) (fun z => hgq z.symm)) (fun z => hgq z.symm)) _
    · rw [← hV]; exact row_aside (row_last hys hown _ _ _ _) (fun z => hgq (by simpa [Value.ownBlock] using z))
    · exact (he3.far TR (fun k h1 h2 => by have := hO k h2; omega)).far tV (fun k h1 h2 => pick_far h1 h2 hO hge hR hqR)
    · rw [← hV]; exact PSt.own (PSt.own (PSt.own (PSt.own (PSt.own (hp3.touchR TR (row_base hr3) hqg hqb) (by omega) (by omega)) (by omega) (by omega)) (by omega) (by omega)) (by omega) (by omega)) (by omega) (by omega)
/-- What another of a pick leaves. -/
def PickPost (w : World) (gp g n cp qn base : Nat) (ts : List Tk) (ex : Ex) (st : St) (v1 v2 v3 v4 v5 v6 v7 kv wv : Value) (wn : Nat) (ys : List Value) (x : Ending) (w' : World) : Prop :=
  x = .returned (.bool true) ∧ ∃ (ea eb : Int) (es : ByteArray) (eA : Option Addr) (em ec gd cap : Nat), NB w' qn (.int .i64 11) v1 v2 v3 v4 v5 v6 v7 kv (.slice (some ⟨gd, 0, none⟩) (wn + 1) cap) ∧
    w'.ownsRow base 44 4 (.slice (some ⟨gd, 0, none⟩) (wn + 1) cap) (wn + 1) (ys ++ [.int .i64 ea, .int .i64 eb, .string es, .slice eA em ec]) ∧ (wv.ownBlock = some gd ∨ w.heap.size ≤ gd) ∧
    ET w' (fun k => w.heap.size ≤ k ∧ k ≠ gd) ex ea eb es eA em ec ∧ PS2 57 w' gp g n cp ts st ∧ Touch (fun k => k = gp ∨ k = qn ∨ wv.ownBlock = some k) w w'
theorem pick_end {w w3 V w5 : World} {gp g n cp qn base R gd cap2 m kc wn wc : Nat} {kA wA : Option Addr} {ts : List Tk} {ex : Ex} {s1 s2 : St} {v1 v2 v3 v4 v5 v6 v7 : Value} {ys : List Value} {ea eb : Int} {es : ByteArray} {eA : Option Addr} {em ec : Nat}
    (h : PV w w3 V gp g n cp qn base R gd cap2 m kc wn wc kA wA ts ex s1 v1 v2 v3 v4 v5 v6 v7 ys ea eb es eA em ec) (hT : Touch (AtB gp) V w5) (hp : PS2 57 w5 gp g n cp ts s2) (hR : w.heap.size ≤ R) (hR3 : R ≤ w3.heap.size) (hqR : qn < R) (hqg : gp < base) (hqn : base ≤ qn) (hO : ∀ k, (Value.slice wA wn wc).ownBlock = some k → k < w.heap.size) :
    PickPost w gp g n cp qn base ts ex s2 v1 v2 v3 v4 v5 v6 v7 (.slice kA m kc) (.slice wA wn wc) wn ys (.returned (.bool true)) w5 :=
  ⟨rfl, ea, eb, es, eA, em, ec, gd, cap2, h.nb.go hT (by omega), row_go h.row hT hqg, h.at_.imp (fun e => e) (fun e => by omega), (h.ex.touch hT (h.ps.nox _)).via (fun k h1 _ => ⟨by omega, fun e => pick_far h1 (.inl e) hO h.at_ hR hqR⟩), hp, h.t.trans hT (fun k hk => .inl (.inl hk))⟩
/-- The code behind the look for the closing brace. -/
noncomputable def anoT : Code := match Tryz.f114.body with
  | some (.seq _ (.seq _ (.seq _ (.seq _ (.seq _ t))))) => t
  | _ => .skip
theorem pick_tail {w wr : World} {gp g n cp qn m kc B base wn wc : Nat} {kA wA : Option Addr} {ts : List Tk} {s0 : St} {v1 v2 v3 v4 v5 v6 v7 : Value} {ys : List Value} {u2 u3 u4 u5 u6 u7 u8 u9 u10 u11 u12 u13 u14 u15 u16 u17 u18 u19 u20 u21 u22 u23 u24 u25 u26 u27 u28 u29 u30 u31 u32 u33 u34 u35 u36 u37 u38 u39 u40 u41 u42 u43 u44 u45 u46 u47 u48 u49 u50 u51 u52 u53 u54 u55 u56 u57 u58 u59 u60 u61 u62 u63 : Value} (hok : NamesOk ts) (hnk : NumsOk ts) (hv : LV w B) (hB : B ≤ gp)
    (hb : NB wr qn (.int .i64 11) v1 v2 v3 v4 v5 v6 v7 (.slice kA m kc) (.slice wA wn wc)) (hqg : gp < base) (hqb : g < base) (hbw : base ≤ w.heap.size) (hqn : base ≤ qn) (hrow : wr.ownsRow base 44 4 (.slice wA wn wc) wn ys) (hO : ∀ k, (Value.slice wA wn wc).ownBlock = some k → k < w.heap.size) (hwn : wn ≤ 1000000)
    (h : PS2 57 wr gp g n cp ts s0) (hT : Touch (AtB gp) w wr) :
    anoT.wp Tryz.prog (bodyPost Tryz.prog Tryz.f114 (PickPost w gp g n cp qn base ts (eqV ts s0) (exS ts [58] (eqS ts s0)) v1 v2 v3 v4 v5 v6 v7 (.slice kA m kc) (.slice wA wn wc) wn ys)) ⟨#[.pointer (some ⟨gp, 0, none⟩), .pointer (some ⟨qn, 0, none⟩), u2, u3, u4, u5, u6, u7, u8, u9, u10, u11, u12, u13, u14, u15, u16, u17, u18, u19, u20, u21, u22, u23, u24, u25, u26, u27, u28, u29, u30, u31, u32, u33, u34, u35, u36, u37, u38, u39, u40, u41, u42, u43, u44, u45, u46, u47, u48, u49, u50, u51, u52, u53, u54, u55, u56, u57, u58, u59, u60, u61, u62, u63], []⟩ wr := by
  have hw2 : wc ≤ 2 ^ 63 - 1 := by
    obtain ⟨A, cap, e, -, h2⟩ := row_any hrow
    injection e with _ _ e3
    rw [e3]; exact h2
  obtain ⟨c0, c1, c2, c3, c4, c5, c6, c7, c8, c9, cl⟩ := hb.cells
  have HB := Lib.hid hb
  have HP := Lib.hid h
  have HT := Lib.hid hT
  have HV := Lib.hid (And.intro hv hB)
  have HR := Lib.hid hrow
  have HOW := Lib.hid hO
  obtain ⟨ex, hex⟩ : ∃ z, eqV ts s0 = z := ⟨_, rfl⟩
  obtain ⟨s1, hs1⟩ : ∃ z, eqS ts s0 = z := ⟨_, rfl⟩
  have HQ := Lib.hid (fun (W : World) (q : PS2 57 W gp g n cp ts s0) (hv : LV W B) => expr_st hok hnk hv q)
  unfold EqPost at HQ
  rw [hex, hs1] at HQ
  simp only [hex, hs1]
  obtain ⟨s2, hs2⟩ : ∃ z, exS ts [58] s1 = z := ⟨_, rfl⟩
  have HE : Hid (∀ (W : World), PS2 57 W gp g n cp ts s1 → Calls Tryz.prog 83 #[.pointer (some ⟨gp, 0, none⟩), .string ⟨#[58]⟩] W fun x w' => x = .returned (.tuple #[]) ∧ PS2 57 w' gp g n cp ts s2 ∧ Touch (AtB gp) W w') := Lib.hid (fun W q => by rw [← hs2]; exact expect_st (s := [58]) q)
  simp only [hs2]
  obtain ⟨i0, hi, hz0, hz1', hz2'⟩ := info_expr'
  have e11 : ((11 : Int) == 11) = true := by decide
  clear hs2 hs1 hex hb hv hB hrow h hok hnk hO hT
  simp only [anoT, Tryz.f114]
  have hqs := blk_lt HB.out
  have hT0 := HT.out.size
  obtain ⟨Z, hZ⟩ : ∃ Z, wr.drew.alloc (.cells #[.int .i64 0, .int .i64 0, .string ⟨#[]⟩, .slice none 0 0] 44) = Z := ⟨_, rfl⟩
  have tZ : Touch NoB wr Z := by rw [← hZ]; exact (Touch.refl NoB wr).drew.alloc _
  have td : Touch NoB wr wr.drew := (Touch.refl NoB wr).drew
  have hsd : wr.drew.heap.size = wr.heap.size := rfl
  have hsZ : Z.heap.size = wr.heap.size + 1 := by rw [← hZ]; simp only [World.size_alloc]; rfl
  have hlz : Z.heap[wr.heap.size]? = some (.cells #[.int .i64 0, .int .i64 0, .string ⟨#[]⟩, .slice none 0 0] 44 (0, 0)) := by rw [← hZ]; exact alloc_blk _ _ _ rfl
  have hvr := HV.out.1.touchP HT.out HV.out.2
  have HC1 := Lib.hid (HQ.out wr.drew (HP.out.touch td) (hvr.touch0 td))
  have HC2 := Lib.hid (HQ.out Z (HP.out.touch tZ) (hvr.touch0 tZ))
  have HLZ := Lib.hid hlz
  have HTZ := Lib.hid tZ
  obtain ⟨d0, d1, d2, d3, d4, d5, d6, d7, d8, d9, dl⟩ := (show NB wr.drew qn (.int .i64 11) v1 v2 v3 v4 v5 v6 v7 (.slice kA m kc) (.slice wA wn wc) from HB.out.touch td (fun z => z)).cells
  obtain ⟨y0, y1, y2, y3, y4, y5, y6, y7, y8, y9, yl⟩ := (show NB Z qn (.int .i64 11) v1 v2 v3 v4 v5 v6 v7 (.slice kA m kc) (.slice wA wn wc) from HB.out.touch tZ (fun z => z)).cells
  clear tZ td hlz hvr
  go_wp2_with fail
  go_region_law? (first
    | (go_simp; go_at_call 132
       refine HC1.out.mono ?_
       rintro r w3 ⟨ea, eb, es, eA, em, ec, rfl, het, hp, hT⟩
       have tt := (Touch.refl (AtB gp) wr).drew.same hT
       have HB3 := Lib.hid (HB.out.go tt (by omega))
       have HR3 := Lib.hid (row_go HR.out tt hqg)
       have HX3 := Lib.hid (And.intro hp (And.intro (HT.out.same tt) (het.via (R := fun k => wr.heap.size ≤ k ∧ k < w3.heap.size) (fun k h1 h2 => ⟨h1, h2⟩))))
       have hs3 := tt.size
       have hgt : True := trivial
       obtain ⟨j0, j1, j2, j3, j4, j5, j6, j7, j8, j9, jl⟩ := HB3.out.cells
       clear het hp hT tt)
    | (go_simp; go_at_call 132
       refine HC2.out.mono ?_
       rintro r w3 ⟨ea, eb, es, eA, em, ec, rfl, het, hp, hT⟩
       have tt := (Touch.anyB (F := AtB gp) HTZ.out).same hT
       have HB3 := Lib.hid (HB.out.go tt (by omega))
       have HR3 := Lib.hid (row_go HR.out tt hqg)
       have HX3 := Lib.hid (And.intro hp (And.intro (HT.out.same tt) (het.via (R := fun k => wr.heap.size ≤ k ∧ k < w3.heap.size) (fun k h1 h2 => ⟨by omega, h2⟩))))
       have hs3 := tt.size
       have HLT0 := Lib.hid ((hT.block wr.heap.size (by omega) (by unfold AtB; omega)).trans HLZ.out)
       obtain ⟨j0, j1, j2, j3, j4, j5, j6, j7, j8, j9, jl⟩ := HB3.out.cells
       clear het hp hT tt)
    | (have hl9 := HLT0.out; refine step_append_lies _ rfl (.tmp 51) (.tmp 55) 42 rfl base 44 i0 (.agg #[.int .i64 0, .int .i64 0, .string ⟨#[]⟩, .slice none 0 0]) 4 56 Tryz.underlying42 hi hz0 hz1' hz2' rfl (by decide) (.slice wA wn wc) wn ys (by simp [Act.eval, Act.put]) (by exact HR3.out) ⟨wr.heap.size, 0, none⟩ 1 1 [.int .i64 0, .int .i64 0, .string ⟨#[]⟩, .slice none 0 0] (by simp [Act.eval, Act.put]) rfl (by exact World.news_of_block (cs := #[.int .i64 0, .int .i64 0, .string ⟨#[]⟩, .slice none 0 0]) HLT0.out) (by intro u hu; simp at hu; rcases hu with rfl | rfl | rfl | rfl <;> rfl) (by decide) (by unfold maxLen; omega) (by omega) (by first | omega | (simp only [World.size_alloc]; omega)) w3.heap.size (by simp) ?_
       intro gd cap2 wx hown hgrow hat hlt
       have TR : Touch (fun k9 => (Value.slice wA wn wc).ownBlock = some k9) w3 wx := (Touch.refl _ w3).grown hgrow (fun _ e => .inl e)
       obtain ⟨V, hV, hV2, ⟨k9, m9⟩, ⟨f0, f1, f2, f3⟩, ⟨g0, g1, g2, g3⟩, hgq, hpv⟩ := pick_done HB3.out HR3.out HX3.out.1 HX3.out.2.1 HX3.out.2.2 HOW.out hT0 hqs hqg hqb hqn TR hown hat (by omega)
       have hwi : (wn : Int) < (wn : Int) + 1 := by omega
       have HX := Lib.hid hpv
       clear hown hgrow hat TR hpv)
    | (refine step_append_lies _ rfl (.tmp 51) (.tmp 55) 42 rfl base 44 i0 (.agg #[.int .i64 0, .int .i64 0, .string ⟨#[]⟩, .slice none 0 0]) 4 56 Tryz.underlying42 hi hz0 hz1' hz2' rfl (by decide) (.slice wA wn wc) wn ys (by simp [Act.eval, Act.put]) (by exact (HR3.out.alloc _)) ⟨w3.heap.size, 0, none⟩ 1 1 [.int .i64 0, .int .i64 0, .string ⟨#[]⟩, .slice none 0 0] (by simp [Act.eval, Act.put]) rfl (by exact World.news_of_block (cs := #[.int .i64 0, .int .i64 0, .string ⟨#[]⟩, .slice none 0 0]) (alloc_blk w3 _ 44 rfl)) (by intro u hu; simp at hu; rcases hu with rfl | rfl | rfl | rfl <;> rfl) (by decide) (by unfold maxLen; omega) (by omega) (by first | omega | (simp only [World.size_alloc]; omega)) (w3.heap.size + 1) (by simp) ?_
       intro gd cap2 wx hown hgrow hat hlt
       have TR : Touch (fun k9 => (Value.slice wA wn wc).ownBlock = some k9) w3 wx := ((Touch.refl _ w3).alloc _).grown hgrow (fun _ e => .inl e)
       obtain ⟨V, hV, hV2, ⟨k9, m9⟩, ⟨f0, f1, f2, f3⟩, ⟨g0, g1, g2, g3⟩, hgq, hpv⟩ := pick_done HB3.out HR3.out HX3.out.1 HX3.out.2.1 HX3.out.2.2 HOW.out hT0 hqs hqg hqb hqn TR hown hat (by omega)
       have hwi : (wn : Int) < (wn : Int) + 1 := by omega
       have HX := Lib.hid hpv
       clear hown hgrow hat TR hpv))
  all_goals
    have HC := Lib.hid (HE.out V HX.out.ps)
    go_wp2_with fail
    refine HC.out.mono ?_
    rintro r w5 ⟨rfl, hp, hT⟩
    have HG := Lib.hid (pick_end HX.out hT hp hT0 hs3 hqs hqg hqn HOW.out)
    clear hp hT
    go_wp2
    go_ret
    exact HG.out
theorem another_pick {w : World} {gp g n cp qn m kc B base wn : Nat} {kA : Option Addr} {ts : List Tk} {σ : St} {v1 v2 v3 v4 v5 v6 v7 wv : Value} {ys : List Value} (hok : NamesOk ts) (hnk : NumsOk ts) (hv : LV w B) (hB : B ≤ gp)
    (hb : NB w qn (.int .i64 11) v1 v2 v3 v4 v5 v6 v7 (.slice kA m kc) wv) (hqg : gp < base) (hqb : g < base) (hbw : base ≤ w.heap.size) (hqn : base ≤ qn) (hrow : w.ownsRow base 44 4 wv wn ys) (hwn : wn ≤ 1000000)
    (h : PS2 57 w gp g n cp ts σ) (hm : (decide (0 < m) && isS ts [125] σ) = false) :
    Calls Tryz.prog 114 #[.pointer (some ⟨gp, 0, none⟩), .pointer (some ⟨qn, 0, none⟩)] w (PickPost w gp g n cp qn base ts (eqV ts (if m = 16 then failS 9 σ else σ)) (exS ts [58] (eqS ts (if m = 16 then failS 9 σ else σ))) v1 v2 v3 v4 v5 v6 v7 (.slice kA m kc) wv wn ys) := by
  obtain ⟨wA, wc, rfl, -, -⟩ := row_any hrow
  obtain ⟨c0, c1, c2, c3, c4, c5, c6, c7, c8, c9, cl⟩ := hb.cells
  have HM := Lib.hid (fun w => mostkids_any 11 (by decide) w)
  have hmo : mostL 11 = 16 := rfl
  rw [hmo] at HM
  have HF := Lib.hid (fun (W : World) (q : PS2 57 W gp g n cp ts σ) => fail_st q 9)
  have HB := Lib.hid hb
  have HP := Lib.hid h
  have HR := Lib.hid hrow
  have HA := Lib.hid (fun (hi : isS ts [125] σ = false) => (by have := accept_at (s := [125]) h hi; rwa [acS_no hi] at this : Calls Tryz.prog 80 #[.pointer (some ⟨gp, 0, none⟩), .string ⟨#[125]⟩] w fun x w' => x = .returned (.bool false) ∧ PS2 57 w' gp g n cp ts σ ∧ Touch (AtB gp) w w'))
  obtain ⟨s0, hs0⟩ : ∃ z, (if m = 16 then failS 9 σ else σ) = z := ⟨_, rfl⟩
  have hsF : m = 16 → failS 9 σ = s0 := fun e => by rw [← hs0, if_pos e]
  have hsN : m ≠ 16 → σ = s0 := fun e => by rw [← hs0, if_neg e]
  rw [hs0]
  have HTL := Lib.hid (fun (wr : World) (hb : NB wr qn (.int .i64 11) v1 v2 v3 v4 v5 v6 v7 (.slice kA m kc) (.slice wA wn wc)) (hr : wr.ownsRow base 44 4 (.slice wA wn wc) wn ys) (hp : PS2 57 wr gp g n cp ts s0) (hT : Touch (AtB gp) w wr) (u2 u3 u4 u5 u6 u7 u8 u9 u10 u11 u12 u13 u14 u15 u16 u17 u18 u19 u20 u21 u22 u23 u24 u25 u26 u27 u28 u29 u30 u31 u32 u33 u34 u35 u36 u37 u38 u39 u40 u41 u42 u43 u44 u45 u46 u47 u48 u49 u50 u51 u52 u53 u54 u55 u56 u57 u58 u59 u60 u61 u62 u63 : Value) => (pick_tail hok hnk hv hB hb hqg hqb hbw hqn hr (fun k e => (hrow.lt k e).2) hwn hp hT : anoT.wp Tryz.prog _ ⟨#[.pointer (some ⟨gp, 0, none⟩), .pointer (some ⟨qn, 0, none⟩), u2, u3, u4, u5, u6, u7, u8, u9, u10, u11, u12, u13, u14, u15, u16, u17, u18, u19, u20, u21, u22, u23, u24, u25, u26, u27, u28, u29, u30, u31, u32, u33, u34, u35, u36, u37, u38, u39, u40, u41, u42, u43, u44, u45, u46, u47, u48, u49, u50, u51, u52, u53, u54, u55, u56, u57, u58, u59, u60, u61, u62, u63], []⟩ wr))
  clear hs0 hb hv hB hrow h hok hnk
  have h1 : decide ((16 : Int) ≤ 1) = false := by decide
  have h1' : decide ((16 : Nat) ≤ 1) = false := by decide
  have e11 : ((11 : Int) == 11) = true := by decide
  by_cases h0 : 0 < m
  · have h2 : decide ((0 : Int) < (m : Int)) = true := by simp; omega
    have h2' : decide (0 < m) = true := by simp; omega
    rw [h2', Bool.true_and] at hm
    have HA := Lib.hid (HA.out hm)
    clear hm
    by_cases hmm : m = 16
    · have h3 : ((m : Int) == 16) = true := by rw [hmm]; rfl
      have hsf := hsF hmm
      rw [hsf] at HF
      clear hsF hsN hsf hmm
      go_enter Tryz.func114, Tryz.ntmps114
      have E := Eq.refl anoT
      conv at E => rhs; simp only [anoT, Tryz.f114]
      rw [← E]
      clear E
      go_wp2_with fail
      refine (HM.out _).mono ?_
      rintro x w1 ⟨rfl, rfl⟩
      go_wp2_with fail
      refine HA.out.mono ?_
      rintro x w2 ⟨rfl, p1, p2⟩
      have HF := Lib.hid (HF.out w2 p1)
      have HB := Lib.hid (HB.out.go p2 (by omega))
      have HR := Lib.hid (row_go HR.out p2 hqg)
      have HT := Lib.hid p2
      clear p1 p2 c0 c1 c2 c3 c4 c5 c6 c7 c8 c9 cl
      obtain ⟨c0, c1, c2, c3, c4, c5, c6, c7, c8, c9, cl⟩ := HB.out.cells
      go_wp2_with fail
      refine HF.out.mono ?_
      rintro x wr ⟨rfl, p1, p2⟩
      have HB := Lib.hid (HB.out.go p2 (by omega))
      have HR := Lib.hid (row_go HR.out p2 hqg)
      have HT := Lib.hid (HT.out.same p2)
      have HP := Lib.hid p1
      clear p1 p2 c0 c1 c2 c3 c4 c5 c6 c7 c8 c9 cl
      obtain ⟨c0, c1, c2, c3, c4, c5, c6, c7, c8, c9, cl⟩ := HB.out.cells
      go_wp2
      exact HTL.out wr HB.out HR.out HP.out HT.out _ _ _ _ _ _ _ _ _ _ _ _ _ _ _ _ _ _ _ _ _ _ _ _ _ _ _ _ _ _ _ _ _ _ _ _ _ _ _ _ _ _ _ _ _ _ _ _ _ _ _ _ _ _ _ _ _ _ _ _ _ _
    · have h3 : ((m : Int) == 16) = false := by simp; omega
      have hsf := hsN hmm
      rw [hsf] at HA
      clear hsF hsN hsf hmm HF
      go_enter Tryz.func114, Tryz.ntmps114
      have E := Eq.refl anoT
      conv at E => rhs; simp only [anoT, Tryz.f114]
      rw [← E]
      clear E
      go_wp2_with fail
      refine (HM.out _).mono ?_
      rintro x w1 ⟨rfl, rfl⟩
      go_wp2_with fail
      refine HA.out.mono ?_
      rintro x wr ⟨rfl, p1, p2⟩
      have HB := Lib.hid (HB.out.go p2 (by omega))
      have HR := Lib.hid (row_go HR.out p2 hqg)
      have HT := Lib.hid p2
      have HP := Lib.hid p1
      clear p1 p2 c0 c1 c2 c3 c4 c5 c6 c7 c8 c9 cl
      obtain ⟨c0, c1, c2, c3, c4, c5, c6, c7, c8, c9, cl⟩ := HB.out.cells
      go_wp2
      exact HTL.out wr HB.out HR.out HP.out HT.out _ _ _ _ _ _ _ _ _ _ _ _ _ _ _ _ _ _ _ _ _ _ _ _ _ _ _ _ _ _ _ _ _ _ _ _ _ _ _ _ _ _ _ _ _ _ _ _ _ _ _ _ _ _ _ _ _ _ _ _ _ _
  · have h2 : decide ((0 : Int) < (m : Int)) = false := by simp; omega
    have h2' : decide (0 < m) = false := by simp; omega
    have h3 : ((m : Int) == 16) = false := by simp; omega
    have hsf := hsN (by omega)
    rw [hsf] at HP
    clear hsF hsN hsf HF HA hm
    obtain ⟨wr, hwr⟩ : ∃ z, w = z := ⟨_, rfl⟩
    have HT : Hid (Touch (AtB gp) w wr) := Lib.hid (by rw [← hwr]; exact Touch.refl _ _)
    rw [hwr] at HB HR HP c0 c1 c2 c3 c4 c5 c6 c7 c8 c9 cl
    have E9 : ∀ Q, Calls Tryz.prog 114 #[.pointer (some ⟨gp, 0, none⟩), .pointer (some ⟨qn, 0, none⟩)] wr Q → Calls Tryz.prog 114 #[.pointer (some ⟨gp, 0, none⟩), .pointer (some ⟨qn, 0, none⟩)] w Q := by rw [hwr]; exact fun _ z => z
    refine E9 _ ?_
    clear E9 hwr
    go_enter Tryz.func114, Tryz.ntmps114
    have E := Eq.refl anoT
    conv at E => rhs; simp only [anoT, Tryz.f114]
    rw [← E]
    clear E
    go_wp2_with fail
    refine (HM.out _).mono ?_
    rintro x w1 ⟨rfl, rfl⟩
    go_wp2
    exact HTL.out wr HB.out HR.out HP.out HT.out _ _ _ _ _ _ _ _ _ _ _ _ _ _ _ _ _ _ _ _ _ _ _ _ _ _ _ _ _ _ _ _ _ _ _ _ _ _ _ _ _ _ _ _ _ _ _ _ _ _ _ _ _ _ _ _ _ _ _ _ _ _
end Go.Proofs.YtkmbobfjoaldgaaGreatDoor
