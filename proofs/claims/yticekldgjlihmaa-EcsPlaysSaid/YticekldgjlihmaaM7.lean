/-
  Arguments that are lists of cells, opened to their cells in memory.
-/
import Derived.Test.YticekldgjlihmaaTd
import Derived.Deep.Slices
import Derived.ChangeSame
import Derived.ChangeSlices
import Derived.Carry
import Derived.Test.YticekldgjlihmaaGp
import Derived.Test.YticekldgjlihmaaGn
import Derived.Test.YticekldgjlihmaaEo
namespace Go.Proofs.Yticekldgjlihmaa
open Go.ChangeShapes Go.WideShapes Go.ChangeAt Go.RowKit Go.Deep
set_option maxRecDepth 100000

section
variable {H : Type} {enc : TypeId × Value → H} {P : Program} {w : World} {base : Nat} {spare : Nat → Bool} {held : Bool} {fuel : Nat}
/-- A field of one cell that is an int. -/
theorem field_int {t : TypeId} {k : IntKind} (he : P.underlying t = some (.int k)) (hc : P.cellsOf t = 1) {cs : List Value} {o : Nat} {xs : List (DataW H × List MemPlace)} {i : Nat} (hi : i < xs.length)
    (h : DataW.trod enc P w base spare held fuel t ((cs.drop o).take (P.cellsOf t)) = xs[i]?) : ∃ m, cs[o]? = some (.int k m) ∧ (Lit.int k m).wf = true := by
  rw [List.getElem?_eq_getElem hi, hc] at h
  obtain ⟨m, hm, _, hw⟩ := DataW.trod_int he h
  have h1 := congrArg (fun l => l[0]?) hm
  simp [List.getElem?_drop] at h1
  exact ⟨m, h1, hw⟩
end

/-- The range of a mask. -/
theorem mask_range {m : Int} (h : (Lit.int .u16 m).wf = true) : 0 ≤ m ∧ m < 65536 := by
  have h1 : IntKind.u16.min = 0 := by decide
  have h2 : IntKind.u16.max = 65535 := by decide
  simp [Lit.wf] at h
  rw [h1, h2] at h
  omega
theorem cellsCell : Try.prog.cellsOf 32 = 2 := by kernel_rfl

section
variable {H : Type} {enc : TypeId × Value → H} {w : World} {base : Nat} {spare : Nat → Bool} {held : Bool} {fuel : Nat}
theorem cell_open {cs : List Value} {y : DataW H × List MemPlace} (h : DataW.trod enc Try.prog w base spare held fuel 32 cs = some y) : ∃ i x, cs[0]? = some (.int .i64 i) ∧ cs[1]? = some (.int .i64 x) := by
  obtain ⟨xs, n, _, _, hl, hxl, hf⟩ := DataW.trod_struct Try.underlying32 h
  simp at hxl
  obtain ⟨i, hi, _⟩ := field_int Try.underlying3 cellsInt (by omega) (hf 0 _ rfl)
  obtain ⟨x, hx, _⟩ := field_int Try.underlying3 cellsInt (by omega) (hf 1 _ rfl)
  exact ⟨i, x, hi, hx⟩
theorem open_cells {vs : List Value} {x : DataW H × List MemPlace} (h : DataW.trod enc Try.prog w base (fun _ => true) held fuel 33 vs = some x) :
    ∃ (a : Option Addr) (len cap : Nat) (cl : List (Int × Int)), vs = [.slice a len cap] ∧ cl.length = len ∧ len ≤ cap ∧ cap ≤ 9223372036854775807 ∧ CellsAt w NoB a cl := by
  rcases open_slice Try.underlying33 h with ⟨hcs, _⟩ | ⟨ad, len, cap, m, n, D, Pl, hcs, _, hl, hm, hmm, _, hx⟩
  · exact ⟨none, 0, 0, [], hcs, rfl, Nat.le_refl _, by omega, fun j c v hj => by simp at hj⟩
  · simp only [if_true] at hmm
    subst hmm
    unfold maxLen at hm
    have hspot : 0 < len → ad.spot = none := by
      intro h0
      obtain ⟨cs0, hc0, ht0⟩ := hx 0 (by omega)
      obtain ⟨_, _, d0, _⟩ := cell_open ht0
      obtain ⟨_, _, hat0⟩ := World.cells?_some hc0
      rw [cellsCell] at hat0
      simpa [Addr.add] using World.cell?_spot ((hat0 0 (by omega)).trans d0)
    have each : ∀ i, i < len → ∃ p : Int × Int, w.cell? ⟨ad.block, ad.off + i * 2, none⟩ = some (.int .i64 p.1) ∧ w.cell? ⟨ad.block, ad.off + i * 2 + 1, none⟩ = some (.int .i64 p.2) := by
      intro i hi
      obtain ⟨cs, hc, ht⟩ := hx i (by omega)
      obtain ⟨c, v, d0, d1⟩ := cell_open ht
      obtain ⟨_, _, hat⟩ := World.cells?_some hc
      rw [cellsCell] at hat
      have e0 := (hat 0 (by omega)).trans d0
      have e1 := (hat 1 (by omega)).trans d1
      have hsp := hspot (by omega)
      obtain ⟨b, off, spot⟩ := ad
      simp only at hsp
      subst hsp
      simp only [add_plain] at e0 e1
      exact ⟨(c, v), by simpa using e0, e1⟩
    refine ⟨some ad, len, _, (List.range len).map (fun i => if h : i < len then (each i h).choose else (0, 0)), hcs, by simp, hl, by omega, ?_⟩
    intro j c v hj
    have hjl : j < len := by
      have := (List.getElem?_eq_some_iff.1 hj).1
      simpa using this
    rw [List.getElem?_map, List.getElem?_range hjl] at hj
    simp only [Option.map_some, hjl, dif_pos] at hj
    injection hj with hj
    have hs := (each j hjl).choose_spec
    rw [hj] at hs
    have hsp := hspot (by omega)
    obtain ⟨b, off, spot⟩ := ad
    simp only at hsp
    subst hsp
    exact ⟨b, off, rfl, World.block_lt_of_cell? w _ hs.1, fun e => e, hs.1, hs.2⟩
end
end Go.Proofs.Yticekldgjlihmaa

/-
  EcsPlays: the list of calls opened to its cells (as XFg's, without EcsMaps' walk: import one of the two).
-/
namespace Go.Proofs.Yticekldgjlihmaa
open Go.ChangeShapes Go.WideShapes Go.ChangeAt Go.RowKit Go.Deep
set_option maxRecDepth 100000
set_option maxHeartbeats 1000000

/-- The j-th call of the list. -/
def MActAt (w : World) (b off j : Nat) (way : Int) (made : Bool) (at_ i x c v : Int) (Ac : Option Addr) (n cp : Nat) (all nn : Int) : Prop :=
  w.cell? ⟨b, off + j * 10, none⟩ = some (.int .i64 way) ∧ w.cell? ⟨b, off + j * 10 + 1, none⟩ = some (.bool made) ∧ w.cell? ⟨b, off + j * 10 + 2, none⟩ = some (.int .i64 at_) ∧ w.cell? ⟨b, off + j * 10 + 3, none⟩ = some (.int .i64 i) ∧ w.cell? ⟨b, off + j * 10 + 4, none⟩ = some (.int .i64 x) ∧
  w.cell? ⟨b, off + j * 10 + 5, none⟩ = some (.int .i64 c) ∧ w.cell? ⟨b, off + j * 10 + 6, none⟩ = some (.int .i64 v) ∧ w.cell? ⟨b, off + j * 10 + 7, none⟩ = some (.slice Ac n cp) ∧ w.cell? ⟨b, off + j * 10 + 8, none⟩ = some (.int .u16 all) ∧ w.cell? ⟨b, off + j * 10 + 9, none⟩ = some (.int .u16 nn)

section
variable {H : Type} {enc : TypeId × Value → H} {P : Program} {w : World} {base : Nat} {spare : Nat → Bool} {held : Bool} {fuel : Nat}
/-- A field of one cell that is a bool. -/
theorem field_bool {t : TypeId} (he : P.underlying t = some .bool) (hc : P.cellsOf t = 1) {cs : List Value} {o : Nat} {xs : List (DataW H × List MemPlace)} {i : Nat} (hi : i < xs.length)
    (h : DataW.trod enc P w base spare held fuel t ((cs.drop o).take (P.cellsOf t)) = xs[i]?) : ∃ m, cs[o]? = some (.bool m) := by
  rw [List.getElem?_eq_getElem hi, hc] at h
  obtain ⟨m, hm, _⟩ := DataW.trod_bool he h
  have h1 := congrArg (fun l => l[0]?) hm
  simp [List.getElem?_drop] at h1
  exact ⟨m, h1⟩
end
theorem cellsOfId5 : Try.prog.cellsOf 30 = 2 := by kernel_rfl
theorem cellsOfBool5 : Try.prog.cellsOf 4 = 1 := by kernel_rfl
theorem cellsOfU165 : Try.prog.cellsOf 34 = 1 := by kernel_rfl
theorem cellsOfAct5 : Try.prog.cellsOf 36 = 10 := by kernel_rfl
theorem cellsOfCells5 : Try.prog.cellsOf 33 = 1 := by kernel_rfl

section
variable {H : Type} {enc : TypeId × Value → H} {w : World} {base : Nat} {held : Bool} {fuel : Nat}
theorem open_id5 {cs : List Value} {y : DataW H × List MemPlace} (h : DataW.trod enc Try.prog w base (fun _ => true) held fuel 30 cs = some y) : ∃ i x, cs[0]? = some (.int .i64 i) ∧ cs[1]? = some (.int .i64 x) ∧ I64 i ∧ I64 x := by
  obtain ⟨xs, n, _, _, hl, hxl, hf⟩ := DataW.trod_struct Try.underlying30 h
  simp at hxl
  obtain ⟨i, hi, wi⟩ := field_int Try.underlying3 cellsInt (by omega) (hf 0 _ rfl)
  obtain ⟨x, hx, wx⟩ := field_int Try.underlying3 cellsInt (by omega) (hf 1 _ rfl)
  exact ⟨i, x, hi, hx, wi, wx⟩
theorem open_act5 {cs : List Value} {y : DataW H × List MemPlace} (h : DataW.trod enc Try.prog w base (fun _ => true) held fuel 36 cs = some y) :
    ∃ way made at_ i x c v Ac n cp all nn cl, cs[0]? = some (.int .i64 way) ∧ cs[1]? = some (.bool made) ∧ cs[2]? = some (.int .i64 at_) ∧ cs[3]? = some (.int .i64 i) ∧ cs[4]? = some (.int .i64 x) ∧ cs[5]? = some (.int .i64 c) ∧ cs[6]? = some (.int .i64 v) ∧ cs[7]? = some (.slice Ac n cp) ∧ cs[8]? = some (.int .u16 all) ∧ cs[9]? = some (.int .u16 nn) ∧
      I64 i ∧ I64 x ∧ (0 ≤ all ∧ all < 65536) ∧ (0 ≤ nn ∧ nn < 65536) ∧ n ≤ 9223372036854775807 ∧ cl.length = n ∧ CellsAt w NoB Ac cl := by
  obtain ⟨xs, k, _, _, hl, hxl, hf⟩ := DataW.trod_struct Try.underlying36 h
  simp at hxl
  obtain ⟨way, h0, _⟩ := field_int Try.underlying3 cellsInt (by omega) (hf 0 _ rfl)
  obtain ⟨made, h1⟩ := field_bool Try.underlying4 cellsOfBool5 (by omega) (hf 1 _ rfl)
  obtain ⟨at_, h2, _⟩ := field_int Try.underlying3 cellsInt (by omega) (hf 2 _ rfl)
  have h3 : DataW.trod enc Try.prog w base (fun _ => true) held k 30 ((cs.drop 3).take (Try.prog.cellsOf 30)) = xs[3]? := hf 3 _ rfl
  rw [List.getElem?_eq_getElem (by omega)] at h3
  obtain ⟨i, x, h4, h5, wi, wx⟩ := open_id5 h3
  rw [cellsOfId5] at h4 h5
  simp [List.getElem?_drop] at h4 h5
  have h6 : DataW.trod enc Try.prog w base (fun _ => true) held k 32 ((cs.drop 5).take (Try.prog.cellsOf 32)) = xs[4]? := hf 4 _ rfl
  rw [List.getElem?_eq_getElem (by omega)] at h6
  obtain ⟨c, v, h7, h8⟩ := cell_open h6
  rw [cellsCell] at h7 h8
  simp [List.getElem?_drop] at h7 h8
  have h9 : DataW.trod enc Try.prog w base (fun _ => true) held k 33 ((cs.drop 7).take (Try.prog.cellsOf 33)) = xs[5]? := hf 5 _ rfl
  rw [List.getElem?_eq_getElem (by omega)] at h9
  obtain ⟨Ac, n, cp, cl, hcs, hcl, hle, hcp, hC⟩ := open_cells h9
  rw [cellsOfCells5] at hcs
  have h10 := congrArg (fun l => l[0]?) hcs
  simp [List.getElem?_drop] at h10
  obtain ⟨all, h11, wa⟩ := field_int Try.underlying34 cellsOfU165 (by omega) (hf 6 _ rfl)
  obtain ⟨nn, h12, wn⟩ := field_int Try.underlying34 cellsOfU165 (by omega) (hf 7 _ rfl)
  exact ⟨way, made, at_, i, x, c, v, Ac, n, cp, all, nn, cl, h0, h1, h2, h4, h5, h7, h8, h10, h11, h12, wi, wx, mask_range wa, mask_range wn, by omega, hcl, hC⟩

/-- The list of calls. -/
theorem open_acts {vs : List Value} {x : DataW H × List MemPlace} (h : DataW.trod enc Try.prog w base (fun _ => true) held fuel 22 vs = some x) :
    ∃ (A : Option Addr) (len cap : Nat), vs = [.slice A len cap] ∧ len ≤ 9223372036854775807 ∧ ∀ j, j < len → ∃ b off way made at_ i x c v Ac n cp all nn cl, A = some ⟨b, off, none⟩ ∧ b < w.heap.size ∧ MActAt w b off j way made at_ i x c v Ac n cp all nn ∧
      I64 i ∧ I64 x ∧ (0 ≤ all ∧ all < 65536) ∧ (0 ≤ nn ∧ nn < 65536) ∧ n ≤ 9223372036854775807 ∧ cl.length = n ∧ CellsAt w NoB Ac cl := by
  rcases open_slice Try.underlying22 h with ⟨hcs, _⟩ | ⟨ad, len, cap, k, n, D, Pl, hcs, _, hl, hk, hmm, _, hx⟩
  · exact ⟨none, 0, 0, hcs, by omega, fun j hj => by omega⟩
  · simp only [if_true] at hmm
    subst hmm
    unfold maxLen at hk
    refine ⟨some ad, len, _, hcs, by omega, ?_⟩
    intro j hj
    obtain ⟨cs, hc, ht⟩ := hx j (by omega)
    obtain ⟨way, made, at_, i, x, c, v, Ac, n', cp, all, nn, cl, c0, c1, c2, c3, c4, c5, c6, c7, c8, c9, r⟩ := open_act5 ht
    obtain ⟨_, _, hat⟩ := World.cells?_some hc
    rw [cellsOfAct5] at hat
    have e0 := (hat 0 (by omega)).trans c0
    have e1 := (hat 1 (by omega)).trans c1
    have e2 := (hat 2 (by omega)).trans c2
    have e3 := (hat 3 (by omega)).trans c3
    have e4 := (hat 4 (by omega)).trans c4
    have e5 := (hat 5 (by omega)).trans c5
    have e6 := (hat 6 (by omega)).trans c6
    have e7 := (hat 7 (by omega)).trans c7
    have e8 := (hat 8 (by omega)).trans c8
    have e9 := (hat 9 (by omega)).trans c9
    have hspot : ad.spot = none := by
      obtain ⟨cs0, hc0, ht0⟩ := hx 0 (by omega)
      obtain ⟨_, _, _, _, _, _, _, _, _, _, _, _, _, d0, _⟩ := open_act5 ht0
      obtain ⟨_, _, hat0⟩ := World.cells?_some hc0
      rw [cellsOfAct5] at hat0
      simpa [Addr.add] using World.cell?_spot ((hat0 0 (by omega)).trans d0)
    obtain ⟨b, off, spot⟩ := ad
    simp only at hspot
    subst hspot
    simp only [add_plain] at e0 e1 e2 e3 e4 e5 e6 e7 e8 e9
    exact ⟨b, off, way, made, at_, i, x, c, v, Ac, n', cp, all, nn, cl, rfl, World.block_lt_of_cell? w _ e0, ⟨by simpa using e0, e1, e2, e3, e4, e5, e6, e7, e8, e9⟩, r⟩
end

end Go.Proofs.Yticekldgjlihmaa

/-
  EcsPlays: its memory: the Store, another one, the document's own Store, and the list of identifiers beside them.
-/
namespace Go.Proofs.Yticekldgjlihmaa
open Go.ChangeShapes Go.WideShapes Go.ChangeAt Go.RowKit Go.Maps
set_option maxRecDepth 100000
set_option maxHeartbeats 1000000

/-- w: at the begin; wr: now. The Store's lists and those of the document's own Store may differ: between a call on the one and the same call on the other. -/
structure PM (w wr : World) (g o r : Nat) (room tables : Int) (c : Nat) (F Fo G : Nat → Prop) (ps : List (Int × Bool)) (ds : List Int) (bs : List Tb) (ps' : List (Int × Bool)) (ds' : List Int) (bs' : List Tb) (v : Value) (md : List (Int × Int)) : Prop where
  s : St wr F c g room tables ps ds bs
  oo : ∃ qs es cs, St wr Fo c o 9 9 qs es cs
  r : RSt wr G r room tables ps' ds' bs'
  fs : InW wr w.heap.size F
  fo : InW wr w.heap.size Fo
  fr : InW wr w.heap.size G
  dso : Dis F Fo
  dsr : Dis F G
  dor : Dis Fo G
  row : wr.ownsRow w.heap.size 30 2 v md.length (idc md)
  vs : ∀ b, v.ownBlock = some b → ¬ F b
  vo : ∀ b, v.ownBlock = some b → ¬ Fo b
  vr : ∀ b, v.ownBlock = some b → ¬ G b
  ok : ∀ p ∈ md, I64 p.1 ∧ I64 p.2
  t : Touch NoB w wr

theorem dis_symm {F G : Nat → Prop} (d : Dis F G) : Dis G F := fun b h1 h2 => d b h2 h1
theorem dis_ext {F G : Nat → Prop} {w w' : World} {B : Nat} (d : Dis F G) (hg : InW w B G) : Dis (Ext F w w') G := by
  rintro b (h | h) hG
  · exact d b h hG
  · have := hg b hG; omega
theorem rown_no {v : Value} {w w' : World} {F : Nat → Prop} {base : Nat} {e : TypeId} {s n : Nat} {x : List Value} (hr : w.ownsRow base e s v n x) (hf : ∀ b, v.ownBlock = some b → ¬ F b) : ∀ b, v.ownBlock = some b → ¬ Ext F w w' b := by
  rintro b hb (f | f)
  · exact hf b hb f
  · have := row_lt hr hb; omega
theorem rown_touch {w w' : World} {v : Value} (hg : w.grownBy w' v.ownBlock) : Touch (fun b => v.ownBlock = some b) w w' := (Touch.refl _ w).grown hg (fun _ e => .inl e)
theorem rown_dis {F : Nat → Prop} {v : Value} (hf : ∀ b, v.ownBlock = some b → ¬ F b) : Dis F (fun b => v.ownBlock = some b) := fun b h1 h2 => hf b h2 h1
theorem rown_at {B : Nat} {w : World} {F : Nat → Prop} {v v' : Value} (hi : InW w B F) (hf : ∀ b, v.ownBlock = some b → ¬ F b) (ha : v'.ownBlock = v.ownBlock ∨ v'.ownBlock = some w.heap.size) : ∀ b, v'.ownBlock = some b → ¬ F b := by
  intro b hb f
  rcases ha with e | e
  · rw [e] at hb; exact hf b hb f
  · rw [e] at hb; injection hb with hb; have := hi b f; omega

section
variable {w wr w' : World} {g o r : Nat} {room tables : Int} {c c' : Nat} {F Fo G : Nat → Prop} {ps qs : List (Int × Bool)} {ds es : List Int} {bs cs : List Tb} {ps' : List (Int × Bool)} {ds' : List Int} {bs' : List Tb} {v v' : Value} {md : List (Int × Int)}
theorem PM.quiet (h : PM w wr g o r room tables c F Fo G ps ds bs ps' ds' bs' v md) (t : Touch NoB wr w') : PM w w' g o r room tables c F Fo G ps ds bs ps' ds' bs' v md :=
  ⟨h.s.quiet t, h.oo.imp fun _ x => x.imp fun _ y => y.imp fun _ z => z.quiet t, h.r.quiet t, h.fs.more t.size, h.fo.more t.size, h.fr.more t.size, h.dso, h.dsr, h.dor, row_touch h.row t (fun _ _ e => e), h.vs, h.vo, h.vr, h.ok, h.t.same t⟩
theorem PM.hb (h : PM w wr g o r room tables c F Fo G ps ds bs ps' ds' bs' v md) : w.heap.size ≤ wr.heap.size := h.t.size
theorem PM.callS (h : PM w wr g o r room tables c F Fo G ps ds bs ps' ds' bs' v md) (hS : St w' (Ext F wr w') c' g room tables qs es cs) (t : Touch F wr w') (hc : c ≤ c') : PM w w' g o r room tables c' (Ext F wr w') Fo G qs es cs ps' ds' bs' v md :=
  ⟨hS, h.oo.imp fun _ x => x.imp fun _ y => y.imp fun _ z => (z.keep t (dis_symm h.dso)).more (fun _ e => e) hc, h.r.keep t (dis_symm h.dsr), h.fs.ext t.size h.hb, h.fo.more t.size, h.fr.more t.size, dis_ext h.dso h.fo, dis_ext h.dsr h.fr, h.dor, row_touch h.row t h.vs, rown_no h.row h.vs, h.vo, h.vr, h.ok, h.t.trans t (fun x e => .inr (h.fs x e).1)⟩
theorem PM.callO {qo : List (Int × Bool)} {eo : List Int} {co : List Tb} (h : PM w wr g o r room tables c F Fo G ps ds bs ps' ds' bs' v md) (hS : St w' (Ext Fo wr w') c' o 9 9 qo eo co) (t : Touch Fo wr w') (hc : c ≤ c') : PM w w' g o r room tables c' F (Ext Fo wr w') G ps ds bs ps' ds' bs' v md :=
  ⟨(h.s.keep t h.dso).more (fun _ e => e) hc, ⟨_, _, _, hS⟩, h.r.keep t (dis_symm h.dor), h.fs.more t.size, h.fo.ext t.size h.hb, h.fr.more t.size, dis_symm (dis_ext (dis_symm h.dso) h.fs), h.dsr, dis_ext h.dor h.fr, row_touch h.row t h.vo, h.vs, rown_no h.row h.vo, h.vr, h.ok, h.t.trans t (fun x e => .inr (h.fo x e).1)⟩
theorem PM.callR (h : PM w wr g o r room tables c F Fo G ps ds bs ps' ds' bs' v md) (hR : RSt w' (Ext G wr w') r room tables qs es cs) (t : Touch G wr w') : PM w w' g o r room tables c F Fo (Ext G wr w') ps ds bs qs es cs v md :=
  ⟨h.s.keep t h.dsr, h.oo.imp fun _ x => x.imp fun _ y => y.imp fun _ z => z.keep t h.dor, hR, h.fs.more t.size, h.fo.more t.size, h.fr.ext t.size h.hb, h.dso, dis_symm (dis_ext (dis_symm h.dsr) h.fs), dis_symm (dis_ext (dis_symm h.dor) h.fo), row_touch h.row t h.vr, h.vs, h.vo, rown_no h.row h.vr, h.ok, h.t.trans t (fun x e => .inr (h.fr x e).1)⟩
theorem PM.app (h : PM w wr g o r room tables c F Fo G ps ds bs ps' ds' bs' v md) {i x : Int} (hi : I64 i) (hx : I64 x) (ho : w'.ownsRow w.heap.size 30 2 v' (md.length + 1) (idc md ++ [.int .i64 i, .int .i64 x])) (hg : wr.grownBy w' v.ownBlock) (ha : v'.ownBlock = v.ownBlock ∨ v'.ownBlock = some wr.heap.size) :
    PM w w' g o r room tables c F Fo G ps ds bs ps' ds' bs' v' (md ++ [(i, x)]) :=
  have t := rown_touch hg
  ⟨h.s.keep t (rown_dis h.vs), h.oo.imp fun _ x => x.imp fun _ y => y.imp fun _ z => z.keep t (rown_dis h.vo), h.r.keep t (rown_dis h.vr), h.fs.more t.size, h.fo.more t.size, h.fr.more t.size, h.dso, h.dsr, h.dor, by rw [idc_snoc, List.length_append]; exact ho, rown_at h.fs h.vs ha, rown_at h.fo h.vo ha, rown_at h.fr h.vr ha, fun p hp => by
    rcases List.mem_append.1 hp with e | e
    · exact h.ok p e
    · simp at e; subst e; exact ⟨hi, hx⟩, h.t.trans t (fun x e => .inr (h.row.lt x e).1)⟩
theorem PM.at_ {q n cap a : Nat} {i x : Int} (h : PM w wr g o r room tables c F Fo G ps ds bs ps' ds' bs' (.slice (some ⟨q, 0, none⟩) n cap) md) (hn : md.length = n) (ha : md[a]? = some (i, x)) : wr.cell? ⟨q, a * 2, none⟩ = some (.int .i64 i) ∧ wr.cell? ⟨q, a * 2 + 1, none⟩ = some (.int .i64 x) ∧ q < wr.heap.size := by
  have hal := (List.getElem?_eq_some_iff.1 ha).1
  have hr := h.row
  rw [hn] at hr
  refine ⟨?_, ?_, row_lt hr rfl⟩
  · rw [hr.cellAt (a * 2) (by omega), idc_at0, ha]; rfl
  · rw [hr.cellAt (a * 2 + 1) (by omega), idc_at1, ha]; rfl

end
end Go.Proofs.Yticekldgjlihmaa

/-
  EcsPlays: its memory within a round: the call and the identifier in blocks of their own beside all else; each call in these terms.
-/
namespace Go.Proofs.Yticekldgjlihmaa
open Go.ChangeShapes Go.WideShapes Go.ChangeAt Go.RowKit Go.Maps
set_option maxRecDepth 100000
set_option maxHeartbeats 1000000

/-- A block beside all else. -/
structure KB (wr : World) (F Fo G : Nat → Prop) (v : Value) (b : Nat) (cs : Array Value) (t : TypeId) : Prop where
  h : wr.heap[b]? = some (.cells cs t (0, 0))
  f : ¬ F b
  o : ¬ Fo b
  r : ¬ G b
  v : v.ownBlock ≠ some b
section
variable {w wr w' : World} {F Fo G : Nat → Prop} {v v' : Value} {b : Nat} {cs : Array Value} {t : TypeId}
theorem ext_not (hb : b < wr.heap.size) (h : ¬ F b) : ¬ Ext F wr w' b := by
  rintro (e | e)
  · exact h e
  · omega
theorem KB.quiet (h : KB wr F Fo G v b cs t) (q : Touch NoB wr w') : KB w' F Fo G v b cs t := ⟨(q.block b (blk_lt h.h) (fun e => e)).trans h.h, h.f, h.o, h.r, h.v⟩
theorem KB.callS (h : KB wr F Fo G v b cs t) (q : Touch F wr w') : KB w' (Ext F wr w') Fo G v b cs t := ⟨(q.block b (blk_lt h.h) h.f).trans h.h, ext_not (blk_lt h.h) h.f, h.o, h.r, h.v⟩
theorem KB.callO (h : KB wr F Fo G v b cs t) (q : Touch Fo wr w') : KB w' F (Ext Fo wr w') G v b cs t := ⟨(q.block b (blk_lt h.h) h.o).trans h.h, h.f, ext_not (blk_lt h.h) h.o, h.r, h.v⟩
theorem KB.callR (h : KB wr F Fo G v b cs t) (q : Touch G wr w') : KB w' F Fo (Ext G wr w') v b cs t := ⟨(q.block b (blk_lt h.h) h.r).trans h.h, h.f, h.o, ext_not (blk_lt h.h) h.r, h.v⟩
theorem KB.app (h : KB wr F Fo G v b cs t) (hg : wr.grownBy w' v.ownBlock) (ha : v'.ownBlock = v.ownBlock ∨ v'.ownBlock = some wr.heap.size) : KB w' F Fo G v' b cs t :=
  ⟨((rown_touch hg).block b (blk_lt h.h) (fun e => h.v e)).trans h.h, h.f, h.o, h.r, fun e => by
    rcases ha with x | x
    · exact h.v (x ▸ e)
    · rw [x] at e; injection e with e; have := blk_lt h.h; omega⟩
end

/-- The call at ga, the identifier at gd. -/
structure PQ (w wr : World) (g o r : Nat) (room tables : Int) (c : Nat) (F Fo G : Nat → Prop) (ps : List (Int × Bool)) (ds : List Int) (bs : List Tb) (ps' : List (Int × Bool)) (ds' : List Int) (bs' : List Tb) (v : Value) (md : List (Int × Int)) (ga gd : Nat) (ac : Array Value) (i x : Int) : Prop where
  m : PM w wr g o r room tables c F Fo G ps ds bs ps' ds' bs' v md
  a : KB wr F Fo G v ga ac 36
  d : KB wr F Fo G v gd #[.int .i64 i, .int .i64 x] 30
  n : w.heap.size ≤ gd ∧ ga ≠ gd
section
variable {w wr w' : World} {g o r : Nat} {room tables : Int} {c : Nat} {F Fo G : Nat → Prop} {ps qs : List (Int × Bool)} {ds es : List Int} {bs cs : List Tb} {ps' : List (Int × Bool)} {ds' : List Int} {bs' : List Tb} {v v' : Value} {md : List (Int × Int)} {ga gd : Nat} {ac : Array Value} {i x : Int}
theorem PQ.quiet (h : PQ w wr g o r room tables c F Fo G ps ds bs ps' ds' bs' v md ga gd ac i x) (t : Touch NoB wr w') : PQ w w' g o r room tables c F Fo G ps ds bs ps' ds' bs' v md ga gd ac i x := ⟨h.m.quiet t, h.a.quiet t, h.d.quiet t, h.n⟩
theorem PQ.callS {c' : Nat} (h : PQ w wr g o r room tables c F Fo G ps ds bs ps' ds' bs' v md ga gd ac i x) (hS : St w' (Ext F wr w') c' g room tables qs es cs) (t : Touch F wr w') (hc : c ≤ c') : PQ w w' g o r room tables c' (Ext F wr w') Fo G qs es cs ps' ds' bs' v md ga gd ac i x := ⟨h.m.callS hS t hc, h.a.callS t, h.d.callS t, h.n⟩
theorem PQ.callR (h : PQ w wr g o r room tables c F Fo G ps ds bs ps' ds' bs' v md ga gd ac i x) (hR : RSt w' (Ext G wr w') r room tables qs es cs) (t : Touch G wr w') : PQ w w' g o r room tables c F Fo (Ext G wr w') ps ds bs qs es cs v md ga gd ac i x := ⟨h.m.callR hR t, h.a.callR t, h.d.callR t, h.n⟩
theorem PQ.app (h : PQ w wr g o r room tables c F Fo G ps ds bs ps' ds' bs' v md ga gd ac i x) {i1 x1 : Int} (hi : I64 i1) (hx : I64 x1) (ho : w'.ownsRow w.heap.size 30 2 v' (md.length + 1) (idc md ++ [.int .i64 i1, .int .i64 x1])) (hg : wr.grownBy w' v.ownBlock) (ha : v'.ownBlock = v.ownBlock ∨ v'.ownBlock = some wr.heap.size) :
    PQ w w' g o r room tables c F Fo G ps ds bs ps' ds' bs' v' (md ++ [(i1, x1)]) ga gd ac i x := ⟨h.m.app hi hx ho hg ha, h.a.app hg ha, h.d.app hg ha, h.n⟩

/-- Another block is written. -/
theorem PM.far {K : Nat → Prop} (h : PM w wr g o r room tables c F Fo G ps ds bs ps' ds' bs' v md) (t : Touch K wr w') (f : ∀ b, K b → ¬ F b ∧ ¬ Fo b ∧ ¬ G b ∧ v.ownBlock ≠ some b ∧ w.heap.size ≤ b) : PM w w' g o r room tables c F Fo G ps ds bs ps' ds' bs' v md :=
  ⟨h.s.keep t (fun b a e => (f b e).1 a), h.oo.imp fun _ x => x.imp fun _ y => y.imp fun _ z => z.keep t (fun b a e => (f b e).2.1 a), h.r.keep t (fun b a e => (f b e).2.2.1 a), h.fs.more t.size, h.fo.more t.size, h.fr.more t.size, h.dso, h.dsr, h.dor, row_touch h.row t (fun b a e => (f b e).2.2.2.1 a), h.vs, h.vo, h.vr, h.ok, h.t.trans t (fun x e => .inr (f x e).2.2.2.2)⟩
/-- A new block. -/
theorem kb_new (h : PM w wr g o r room tables c F Fo G ps ds bs ps' ds' bs' v md) {b : Nat} {cs : Array Value} {t : TypeId} (hb : wr.heap.size = b) : KB (wr.alloc (.cells cs t)) F Fo G v b cs t :=
  ⟨alloc_blk wr cs t hb, fun e => by have := (h.fs b e).2; omega, fun e => by have := (h.fo b e).2; omega, fun e => by have := (h.fr b e).2; omega, fun e => by have := row_lt h.row e; omega⟩
/-- The identifier is written. -/
theorem PQ.store (h : PQ w wr g o r room tables c F Fo G ps ds bs ps' ds' bs' v md ga gd ac i x) (i1 x1 : Int) (hw : Touch (fun b => b = gd) wr w') (hb : w'.heap[gd]? = some (.cells #[.int .i64 i1, .int .i64 x1] 30 (0, 0))) : PQ w w' g o r room tables c F Fo G ps ds bs ps' ds' bs' v md ga gd ac i1 x1 :=
  ⟨h.m.far hw (fun b e => by subst e; exact ⟨h.d.f, h.d.o, h.d.r, h.d.v, h.n.1⟩), ⟨(hw.block ga (blk_lt h.a.h) h.n.2).trans h.a.h, h.a.f, h.a.o, h.a.r, h.a.v⟩, ⟨hb, h.d.f, h.d.o, h.d.r, h.d.v⟩, h.n⟩

/-- What a call leaves of the Store; of the document's own. -/
def EndS (w : World) (g o r : Nat) (room tables : Int) (c : Nat) (qs : List (Int × Bool)) (es : List Int) (cs : List Tb) (ps' : List (Int × Bool)) (ds' : List Int) (bs' : List Tb) (v : Value) (md : List (Int × Int)) (ga gd : Nat) (ac : Array Value) (i x : Int) (wr : World) : Prop := ∃ F Fo G, PQ w wr g o r room tables c F Fo G qs es cs ps' ds' bs' v md ga gd ac i x
theorem EndS.quiet (h : EndS w g o r room tables c ps ds bs ps' ds' bs' v md ga gd ac i x wr) (t : Touch NoB wr w') : EndS w g o r room tables c ps ds bs ps' ds' bs' v md ga gd ac i x w' := h.imp fun _ a => a.imp fun _ b => b.imp fun _ h => h.quiet t
theorem EndS.cells (h : EndS w g o r room tables c ps ds bs ps' ds' bs' v md ga gd ac i x wr) : wr.heap[ga]? = some (.cells ac 36 (0, 0)) ∧ wr.heap[gd]? = some (.cells #[.int .i64 i, .int .i64 x] 30 (0, 0)) := by
  obtain ⟨F, Fo, G, h⟩ := h
  exact ⟨h.a.h, h.d.h⟩
theorem EndS.t (h : EndS w g o r room tables c ps ds bs ps' ds' bs' v md ga gd ac i x wr) : Touch NoB w wr := by
  obtain ⟨F, Fo, G, h⟩ := h
  exact h.m.t

/-- Spawn of no cells of the other Store; the call's block stays. -/
theorem pm_other2 (h : PM w wr g o r room tables c F Fo G ps ds bs ps' ds' bs' v md) (ha : KB wr F Fo G v ga ac 36) (hc : c ≤ 900) :
    Calls Try.prog 7 #[.pointer (some ⟨o, 0, none⟩), .slice none 0 0] wr fun e w' => ∃ i x z, e = .returned (.tuple #[.agg #[.int .i64 i, .int .i64 x], .int .i64 z]) ∧ ∃ Fo', PM w w' g o r room tables (c + 2) F Fo' G ps ds bs ps' ds' bs' v md ∧ KB w' F Fo' G v ga ac 36 := by
  obtain ⟨qs, es, cs, hO⟩ := h.oo
  obtain ⟨i, x, z, qs', es', cs', _, h1, _⟩ := pair_spawn hO hc none 0 0 [] rfl (by decide) (fun j c v hj => by simp at hj)
  refine (h1 _ (Touch.refl _ _)).mono ?_
  rintro e w' ⟨rfl, hS, hT⟩
  exact ⟨i, x, z, rfl, _, h.callO hS hT (by omega), ha.callO hT⟩
/-- The identifier is laid. -/
theorem pq_lay (h : PM w wr g o r room tables c F Fo G ps ds bs ps ds bs v md) (ha : KB wr F Fo G v ga ac 36) (hd : wr.heap.size = gd) (i x : Int) : EndS w g o r room tables c ps ds bs ps ds bs v md ga gd ac i x (wr.alloc (.cells #[.int .i64 i, .int .i64 x] 30)) :=
  ⟨F, Fo, G, h.quiet ((Touch.refl _ _).alloc _), ha.quiet ((Touch.refl _ _).alloc _), kb_new h hd, by have := h.hb; omega, by have := blk_lt ha.h; omega⟩

theorem pq_despawn (h : EndS w g o r room tables c ps ds bs ps ds bs v md ga gd ac i x wr) (hc : c ≤ 900) (hi : I64 i) (hx : I64 x) : ∃ z qs es cs,
    (∀ W : World, Touch NoB wr W → Calls Try.prog 10 #[.pointer (some ⟨g, 0, none⟩), .agg #[.int .i64 i, .int .i64 x]] W fun e w' => e = .returned (.int .i64 z) ∧ EndS w g o r room tables (c + 2) qs es cs ps ds bs v md ga gd ac i x w') ∧
    ∀ (W : World) (c' : Nat), EndS w g o r room tables c' qs es cs ps ds bs v md ga gd ac i x W → Calls Try.prog 11 #[.pointer (some ⟨r, 0, none⟩), .agg #[.int .i64 i, .int .i64 x]] W fun e w' => e = .returned (.int .i64 z) ∧ EndS w g o r room tables c' qs es cs qs es cs v md ga gd ac i x w' := by
  obtain ⟨F, Fo, G, h⟩ := h
  obtain ⟨z, qs, es, cs, h1, h2⟩ := pair_despawn h.m.s hc i x hi hx
  refine ⟨z, qs, es, cs, fun W t => (h1 W t).mono ?_, fun W c' hW => ?_⟩
  · rintro e w' ⟨rfl, hS, hT⟩
    exact ⟨rfl, _, _, _, (h.quiet t).callS hS hT (by omega)⟩
  · obtain ⟨F', Fo', G', hW⟩ := hW
    refine (h2 W G' r hW.m.r).mono ?_
    rintro e w' ⟨rfl, hR, hT⟩
    exact ⟨rfl, _, _, _, hW.callR hR hT⟩
theorem pq_put (h : EndS w g o r room tables c ps ds bs ps ds bs v md ga gd ac i x wr) (hc : c ≤ 900) (hi : I64 i) (hx : I64 x) (c2 v2 : Int) : ∃ z cs,
    (∀ W : World, Touch NoB wr W → Calls Try.prog 12 #[.pointer (some ⟨g, 0, none⟩), .agg #[.int .i64 i, .int .i64 x], .agg #[.int .i64 c2, .int .i64 v2]] W fun e w' => e = .returned (.int .i64 z) ∧ EndS w g o r room tables (c + 2) ps ds cs ps ds bs v md ga gd ac i x w') ∧
    ∀ (W : World) (c' : Nat), EndS w g o r room tables c' ps ds cs ps ds bs v md ga gd ac i x W → Calls Try.prog 13 #[.pointer (some ⟨r, 0, none⟩), .agg #[.int .i64 i, .int .i64 x], .agg #[.int .i64 c2, .int .i64 v2]] W fun e w' => e = .returned (.int .i64 z) ∧ EndS w g o r room tables c' ps ds cs ps ds cs v md ga gd ac i x w' := by
  obtain ⟨F, Fo, G, h⟩ := h
  obtain ⟨z, cs, h1, h2⟩ := pair_put h.m.s hc i x c2 v2 hi hx
  refine ⟨z, cs, fun W t => (h1 W t).mono ?_, fun W c' hW => ?_⟩
  · rintro e w' ⟨rfl, hS, hT⟩
    exact ⟨rfl, _, _, _, (h.quiet t).callS hS hT (by omega)⟩
  · obtain ⟨F', Fo', G', hW⟩ := hW
    refine (h2 W G' r hW.m.r).mono ?_
    rintro e w' ⟨rfl, hR, hT⟩
    exact ⟨rfl, _, _, _, hW.callR hR hT⟩
theorem pq_take (h : EndS w g o r room tables c ps ds bs ps ds bs v md ga gd ac i x wr) (hc : c ≤ 900) (hi : I64 i) (hx : I64 x) (c2 : Int) : ∃ y z cs,
    (∀ W : World, Touch NoB wr W → Calls Try.prog 14 #[.pointer (some ⟨g, 0, none⟩), .agg #[.int .i64 i, .int .i64 x], .int .i64 c2] W fun e w' => e = .returned (.tuple #[.int .i64 y, .int .i64 z]) ∧ EndS w g o r room tables (c + 2) ps ds cs ps ds bs v md ga gd ac i x w') ∧
    ∀ (W : World) (c' : Nat), EndS w g o r room tables c' ps ds cs ps ds bs v md ga gd ac i x W → Calls Try.prog 15 #[.pointer (some ⟨r, 0, none⟩), .agg #[.int .i64 i, .int .i64 x], .int .i64 c2] W fun e w' => e = .returned (.tuple #[.int .i64 y, .int .i64 z]) ∧ EndS w g o r room tables c' ps ds cs ps ds cs v md ga gd ac i x w' := by
  obtain ⟨F, Fo, G, h⟩ := h
  obtain ⟨y, z, cs, h1, h2⟩ := pair_take h.m.s hc i x c2 hi hx
  refine ⟨y, z, cs, fun W t => (h1 W t).mono ?_, fun W c' hW => ?_⟩
  · rintro e w' ⟨rfl, hS, hT⟩
    exact ⟨rfl, _, _, _, (h.quiet t).callS hS hT (by omega)⟩
  · obtain ⟨F', Fo', G', hW⟩ := hW
    refine (h2 W G' r hW.m.r).mono ?_
    rintro e w' ⟨rfl, hR, hT⟩
    exact ⟨rfl, _, _, _, hW.callR hR hT⟩
theorem pq_get (h : EndS w g o r room tables c ps ds bs ps ds bs v md ga gd ac i x wr) (hi : I64 i) (hx : I64 x) (c2 : Int) : ∃ y z,
    (∀ W : World, Touch NoB wr W → Calls Try.prog 16 #[.pointer (some ⟨g, 0, none⟩), .agg #[.int .i64 i, .int .i64 x], .int .i64 c2] W fun e w' => e = .returned (.tuple #[.int .i64 y, .int .i64 z]) ∧ EndS w g o r room tables c ps ds bs ps ds bs v md ga gd ac i x w') ∧
    ∀ (W : World), EndS w g o r room tables c ps ds bs ps ds bs v md ga gd ac i x W → Calls Try.prog 17 #[.pointer (some ⟨r, 0, none⟩), .agg #[.int .i64 i, .int .i64 x], .int .i64 c2] W fun e w' => e = .returned (.tuple #[.int .i64 y, .int .i64 z]) ∧ EndS w g o r room tables c ps ds bs ps ds bs v md ga gd ac i x w' := by
  obtain ⟨F, Fo, G, h⟩ := h
  obtain ⟨y, z, h1, h2⟩ := pair_get h.m.s i x c2 hi hx
  refine ⟨y, z, fun W t => (h1 W t).mono ?_, fun W hW => ?_⟩
  · rintro e w' ⟨rfl, hT⟩
    exact ⟨rfl, _, _, _, (h.quiet t).quiet hT⟩
  · obtain ⟨F', Fo', G', hW⟩ := hW
    refine (h2 W G' r hW.m.r).mono ?_
    rintro e w' ⟨rfl, hT⟩
    exact ⟨rfl, _, _, _, hW.quiet hT⟩
theorem far_cells {A : Option Addr} {cl : List (Int × Int)} {K : Nat → Prop} (hC : CellsAt w NoB A cl) (t : Touch NoB w wr) (hK : InW wr w.heap.size K) : CellsAt wr K A cl :=
  hC.move t (fun b hb hk => by have := hK b hk; omega)
theorem pq_spawn (h : EndS w g o r room tables c ps ds bs ps ds bs v md ga gd ac i x wr) (hc : c ≤ 900) (A : Option Addr) (N cap : Nat) (cl : List (Int × Int)) (hN : cl.length = N) (hN2 : N ≤ 1000) (hC : CellsAt w NoB A cl) : ∃ i1 x1 z qs es cs, (I64 i1 ∧ I64 x1) ∧
    (∀ W : World, Touch NoB wr W → Calls Try.prog 7 #[.pointer (some ⟨g, 0, none⟩), .slice A N cap] W fun e w' => e = .returned (.tuple #[.agg #[.int .i64 i1, .int .i64 x1], .int .i64 z]) ∧ EndS w g o r room tables (c + 2) qs es cs ps ds bs v md ga gd ac i x w') ∧
    ∀ (W : World) (c' : Nat) (ks : Array Value) (t : TypeId), EndS w g o r room tables c' qs es cs ps ds bs v md ga gd ac i x W → Calls Try.prog 8 #[.pointer (some ⟨r, 0, none⟩), .slice A N cap] (W.alloc (.cells ks t)) fun e w' => e = .returned (.tuple #[.agg #[.int .i64 i1, .int .i64 x1], .int .i64 z]) ∧ w'.heap[W.heap.size]? = some (.cells ks t (0, 0)) ∧ EndS w g o r room tables c' qs es cs qs es cs v md ga gd ac i x w' := by
  obtain ⟨F, Fo, G, h⟩ := h
  obtain ⟨i1, x1, z, qs, es, cs, hix, h1, h2⟩ := pair_spawn h.m.s hc A N cap cl hN hN2 (far_cells hC h.m.t h.m.fs)
  refine ⟨i1, x1, z, qs, es, cs, hix, fun W t => (h1 W t).mono ?_, fun W c' ks t hW => ?_⟩
  · rintro e w' ⟨rfl, hS, hT⟩
    exact ⟨rfl, _, _, _, (h.quiet t).callS hS hT (by omega)⟩
  · obtain ⟨F', Fo', G', hW⟩ := hW
    have hA := hW.quiet ((Touch.refl NoB W).alloc (.cells ks t))
    refine (h2 _ G' r hA.m.r (far_cells hC hA.m.t hA.m.fr)).mono ?_
    rintro e w' ⟨rfl, hR, hT⟩
    have hb := alloc_blk W ks t rfl
    exact ⟨rfl, (hT.block _ (blk_lt hb) (fun e => by have := (hW.m.fr _ e).2; omega)).trans hb, _, _, _, hA.callR hR hT⟩
theorem pq_same (h : EndS w g o r room tables c ps ds bs ps ds bs v md ga gd ac i x wr) (hc : c ≤ 300) (hi : I64 i) (hx : I64 x) (a0 a1 a2 a3 a4 a5 a6 a7 : Value) (all nn : Int) (W : World) (t : Touch NoB wr W) :
    Calls Try.prog 18 #[.pointer (some ⟨g, 0, none⟩), .pointer (some ⟨r, 0, none⟩), .agg #[.int .i64 i, .int .i64 x], .agg #[a0, a1, a2, a3, a4, a5, a6, a7, .int .u16 all, .int .u16 nn]] W fun e w' => e = .returned (.bool true) ∧ Touch NoB W w' := by
  obtain ⟨F, Fo, G, h⟩ := h
  have h' := h.quiet t
  exact same_any h'.m.s h'.m.r hc i x hi hx a0 a1 a2 a3 a4 a5 a6 a7 all nn
end
end Go.Proofs.Yticekldgjlihmaa
