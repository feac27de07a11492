/-
  A Board in memory: its keys, its sets of cells (a map of maps), the count of changes; what the maps' look-ups, stores and deletions do to it.
-/
import Derived.Test.YteacpfknfbmjkaaKg
import Derived.DeepKeys4
import Derived.MapViews
import Derived.ChangeSame
import Derived.Maps.OwnSet
import Derived.Deep.RegionHeld3
namespace Go.Proofs.Yteacpfknfbmjkaa
open Go.ChangeShapes Go.WideShapes Go.ChangeAt Go.RowKit Go.Maps
set_option maxRecDepth 100000
set_option maxHeartbeats 1000000

attribute [local go_sem] run_equalIn_complex run_store_complex

/-- An int that is one of 64 bits. -/
def I64 (a : Int) : Prop := (Lit.int .i64 a).wf = true
theorem i64_mk {a : Int} (h1 : -9223372036854775808 ≤ a) (h2 : a ≤ 9223372036854775807) : I64 a := WalkArith.wf_i64 ⟨h1, h2⟩

theorem laidOutP : laidOutB Try.prog = true := by kernel_rfl
theorem rowOw : (59 : TypeId) < Try.prog.types.size := of_decide_eq_true (by kernel_rfl)
theorem wideOw : (match Try.prog.underlying 59 with | some (.array _ _) | some (.struct _) => true | _ => false) = true := by rw [Try.underlying59]
theorem deepOw : Try.prog.keyTypeAt (Try.prog.types.size + 1) 59 = true := by kernel_rfl
theorem cellsOw : Try.prog.cellsOf 59 = 3 := by kernel_rfl
theorem cellsId : Try.prog.cellsOf 23 = 2 := by kernel_rfl
theorem cellsInt : Try.prog.cellsOf 3 = 1 := by kernel_rfl
theorem cellsBool : Try.prog.cellsOf 4 = 1 := by kernel_rfl
theorem lawOw : Keyed Try.prog 59 := Keyed.of_law (deep_law_laid laidOutP (m := 4) (by omega) rowOw (by kernel_rfl) wideOw)
theorem lawInt : Keyed Try.prog 3 := int_keyed Try.underlying3

/-- Whom a set of cells belongs to: an identifier, or everyone. -/
structure Ow where
  i : Int
  x : Int
  e : Bool
/-- Its value. -/
def owV (o : Ow) : Value := .agg #[.int .i64 o.i, .int .i64 o.x, .bool o.e]
def OwOk (o : Ow) : Prop := I64 o.i ∧ I64 o.x
/-- What it reads as, as a key. -/
def klO (o : Ow) : Lit := (DataW.agg [.agg [.lit (.int .i64 o.i), .lit (.int .i64 o.x)], .lit (.bool o.e)] : DataW Unit).asKey
theorem key_ow {o : Ow} (h : OwOk o) : keyOf Try.prog 59 (owV o) = some (klO o) := by
  have h0 : ∀ {a : Int}, I64 a → DataW.trod (fun _ => ()) Try.prog default 0 (fun _ => true) true 1 3 [.int .i64 a] = some (.lit (.int .i64 a), []) := by
    intro a ha
    have : (Lit.int .i64 a).wf = true := ha
    simp [DataW.trod, Try.underlying3, this]
  have hb : DataW.trod (fun _ => ()) Try.prog default 0 (fun _ => true) true 2 4 [.bool o.e] = some (.lit (.bool o.e), []) := by
    simp [DataW.trod, Try.underlying4]
  have ht : DataW.trod (fun _ => ()) Try.prog default 0 (fun _ => true) true 2 23 [.int .i64 o.i, .int .i64 o.x] = some (.agg [.lit (.int .i64 o.i), .lit (.int .i64 o.x)], [] ++ []) :=
    trod_struct2_mk (cs := [.int .i64 o.i, .int .i64 o.x]) Try.underlying23 (by rw [cellsId]; rfl) (by simpa [cellsInt] using h0 h.1) (by simpa [cellsInt] using h0 h.2)
  have hu : DataW.trod (fun _ => ()) Try.prog default 0 (fun _ => true) true 3 59 [.int .i64 o.i, .int .i64 o.x, .bool o.e] = some (.agg [.agg [.lit (.int .i64 o.i), .lit (.int .i64 o.x)], .lit (.bool o.e)], ([] ++ []) ++ []) :=
    trod_struct2_mk (cs := [.int .i64 o.i, .int .i64 o.x, .bool o.e]) Try.underlying59 (by rw [cellsOw]; rfl) (by simpa [cellsId] using ht) (by simpa [cellsBool] using hb)
  have hf : (owV o).formed Try.prog 59 = true := by simp [owV, Value.formed, Try.underlying59, cellsOw]
  exact (keyOf_asKey (H := Unit) (enc := fun _ => ()) (w := default) (base := 0) (sp := fun _ => true) (held := true) deepOw wideOw hf ⟨3, by simpa [owV, Value.cells] using hu⟩).1
theorem klO_inj {o p : Ow} (ho : OwOk o) (hp : OwOk p) (h : klO o = klO p) : o = p := by
  have h1 := key_ow ho
  have h2 := key_ow hp
  rw [← h] at h2
  have := lawOw.inj h1 h2
  cases o; cases p
  simpa [owV] using this
theorem klO_key {o : Ow} (h : OwOk o) : WideAt.IsKeyLit (klO o) := lawOw.key (key_ow h)
theorem key_int {i : Nat} (hi : i < 1000) : keyOf Try.prog 3 (.int .i64 i) = some (.int .i64 i) := keyOf_int_mk Try.underlying3 (i64_mk (by omega) (by omega))
theorem int_key {i : Nat} (hi : i < 1000) : WideAt.IsKeyLit (.int .i64 i) := lawInt.key (key_int hi)

/-- The datum of no map, of the map at block b; of a cell. -/
def nd : DataW Unit := .lit (.int .i64 (-1))
def bd (b : Nat) : DataW Unit := .lit (.int .i64 b)
def cd (c : Int × Int) : DataW Unit := .agg [.lit (.int .i64 c.1), .lit (.int .i64 c.2)]
theorem bd_inj {a b : Nat} (h : bd a = bd b) : a = b := by
  unfold bd at h
  injection h with h
  injection h with _ h
  omega
theorem bd_nd {b : Nat} : bd b ≠ nd := by
  intro h
  unfold bd nd at h
  injection h with h
  injection h with _ h
  omega
theorem cd_inj {a b : Int × Int} (h : cd a = cd b) : a = b := by
  unfold cd at h
  simp at h
  exact Prod.ext h.1 h.2

/-- A cell whose value is an int: the number and its stamp. -/
def cellV (c : Int × Int) : Value := .agg #[.int .i64 0, .int .i64 c.1, .int .i64 0, .string ⟨#[]⟩, .complex .f64 0 0, .int .i64 c.2]
/-- How such a cell reads. -/
def cellElem (v : Value) : Option (DataW Unit × List MemPlace) := match v with
  | .agg ⟨[.int .i64 k, .int .i64 n, .int .i64 m, .string s, .complex .f64 a b, .int .i64 t]⟩ => if k = 0 ∧ m = 0 ∧ s.size = 0 ∧ a = 0 ∧ b = 0 then some (cd (n, t), []) else none
  | _ => none
theorem cell_mk (c : Int × Int) : cellElem (cellV c) = some (cd c, []) := by
  unfold cellElem cellV
  rfl
theorem cell_inv {v : Value} {c : Int × Int} {ps : List MemPlace} (h : cellElem v = some (cd c, ps)) : v = cellV c := by
  unfold cellElem at h
  split at h
  · rename_i k n m s a b t
    split at h
    · rename_i hc
      obtain ⟨rfl, rfl, hs, rfl, rfl⟩ := hc
      injection h with h
      injection h with h _
      obtain rfl := cd_inj h
      obtain rfl := toList_empty hs
      rfl
    · cases h
  · cases h
/-- How a map of cells reads. -/
def mapElem (v : Value) : Option (DataW Unit × List MemPlace) := match v with
  | .map none => some (nd, [])
  | .map (some b) => some (bd b, [])
  | _ => none
theorem map_inv {v : Value} {b : Nat} {ps : List MemPlace} (h : mapElem v = some (bd b, ps)) : v = .map (some b) := by
  unfold mapElem at h
  split at h
  · injection h with h
    injection h with h _
    exact absurd h.symm bd_nd
  · injection h with h
    injection h with h _
    rw [bd_inj h]
  · cases h
theorem map_inv0 {v : Value} {ps : List MemPlace} (h : mapElem v = some (nd, ps)) : v = .map none := by
  unfold mapElem at h
  split at h
  · rfl
  · injection h with h
    injection h with h _
    exact absurd h bd_nd
  · cases h
theorem zeroMap (w : World) : (zeroValue 76).run Try.prog w = .ok (.map none) w := by kernel_rfl
theorem zeroCell (w : World) : (zeroValue 63).run Try.prog w = .ok (cellV (0, 0)) w := by kernel_rfl

theorem ownsMap_touch {w w' : World} {P : Program} {k : TypeId} {R : Value → Option (DataW Unit × List MemPlace)} {b n : Nat} {D : DataW Unit} {F : Nat → Prop} (h : w.ownsMap P k R b n D) (t : Touch F w w') (hf : ¬ F b) : w'.ownsMap P k R b n D := by
  obtain ⟨es, clock, hb, r⟩ := h
  exact ⟨es, clock, (t.block b (blk_lt hb) hf).trans hb, r⟩

/-- The set of cells of one owner: none (then each cell is as at first), or a map that tells each. -/
def SetAt (w : World) (F : Nat → Prop) (bo cnt : Nat) (c : Nat → Int × Int) (d : DataW Unit) : Prop :=
  (d = nd ∧ ∀ i : Nat, c i = (0, 0)) ∨ ∃ (b : Nat) (D : DataW Unit), d = bd b ∧ F b ∧ b ≠ bo ∧ w.ownsMap Try.prog 3 cellElem b cnt D ∧ ∀ i : Nat, i < 1000 → D.atKey (.int .i64 i) (cd (0, 0)) = cd (c i)

/-- A Board lies at block g: its keys l, its cells C, the count of changes; every block of it is in F. -/
structure BB (w : World) (F : Nat → Prop) (g : Nat) (l : List Ky) (C : Ow → Nat → Int × Int) (now : Int) (cnt : Nat) (v : Value) (bo : Nat) (D : DataW Unit) : Prop where
  blk : w.heap[g]? = some (.cells #[v, .map (some bo), .int .i64 now] 57 (0, 0))
  row : w.ownsRow 0 30 3 v l.length (kc l)
  nms : ∀ (j : Nat) (k : Ky), l[j]? = some k → k.nm.size ≤ 1000 ∧ k.kd = 0
  map : w.ownsMap Try.prog 59 mapElem bo cnt D
  sets : ∀ o, OwOk o → SetAt w F bo cnt (C o) (D.atKey (klO o) nd)
  ap : ∀ o p b, OwOk o → OwOk p → D.atKey (klO o) nd = bd b → D.atKey (klO p) nd = bd b → o = p
  fg : F g
  fv : ∀ k, v.ownBlock = some k → F k
  fo : F bo
def BD (w : World) (F : Nat → Prop) (g : Nat) (l : List Ky) (C : Ow → Nat → Int × Int) (now : Int) (cnt : Nat) : Prop := ∃ v bo D, BB w F g l C now cnt v bo D

section
variable {w w' : World} {F G : Nat → Prop} {g : Nat} {l : List Ky} {C : Ow → Nat → Int × Int} {now : Int} {cnt : Nat} {v : Value} {bo : Nat} {D : DataW Unit}
theorem SetAt.keep {c : Nat → Int × Int} {d : DataW Unit} (h : SetAt w F bo cnt c d) (t : Touch G w w') (hd : Dis F G) : SetAt w' F bo cnt c d := by
  rcases h with h | ⟨b, E, h1, h2, h3, h4, h5⟩
  · exact .inl h
  · exact .inr ⟨b, E, h1, h2, h3, ownsMap_touch h4 t (fun x => hd b h2 x), h5⟩
theorem SetAt.more {c : Nat → Int × Int} {d : DataW Unit} (h : SetAt w F bo cnt c d) (hF : ∀ b, F b → G b) {cnt' : Nat} (hc : cnt ≤ cnt') : SetAt w G bo cnt' c d := by
  rcases h with h | ⟨b, E, h1, h2, h3, h4, h5⟩
  · exact .inl h
  · exact .inr ⟨b, E, h1, hF b h2, h3, h4.mono hc, h5⟩
theorem BB.keep (h : BB w F g l C now cnt v bo D) (t : Touch G w w') (d : Dis F G) : BB w' F g l C now cnt v bo D :=
  ⟨(t.block g (blk_lt h.blk) (fun x => d g h.fg x)).trans h.blk, row_touch h.row t (fun k hk x => d k (h.fv k hk) x), h.nms, ownsMap_touch h.map t (fun x => d bo h.fo x), fun o ho => (h.sets o ho).keep t d, h.ap, h.fg, h.fv, h.fo⟩
theorem BB.quiet (h : BB w F g l C now cnt v bo D) (t : Touch NoB w w') : BB w' F g l C now cnt v bo D := h.keep t (fun _ _ x => x)
theorem BB.more (h : BB w F g l C now cnt v bo D) (hF : ∀ b, F b → G b) : BB w G g l C now cnt v bo D :=
  ⟨h.blk, h.row, h.nms, h.map, fun o ho => (h.sets o ho).more hF (Nat.le_refl _), h.ap, hF _ h.fg, fun k hk => hF _ (h.fv k hk), hF _ h.fo⟩
theorem BD.keep (h : BD w F g l C now cnt) (t : Touch G w w') (d : Dis F G) : BD w' F g l C now cnt := by
  obtain ⟨v, bo, D, h⟩ := h
  exact ⟨v, bo, D, h.keep t d⟩
theorem BD.quiet (h : BD w F g l C now cnt) (t : Touch NoB w w') : BD w' F g l C now cnt := h.keep t (fun _ _ x => x)
theorem BD.more (h : BD w F g l C now cnt) (hF : ∀ b, F b → G b) : BD w G g l C now cnt := by
  obtain ⟨v, bo, D, h⟩ := h
  exact ⟨v, bo, D, h.more hF⟩
theorem BB.at0 (h : BB w F g l C now cnt v bo D) : w.cell? ⟨g, 0, none⟩ = some v := cell_blk h.blk 0
theorem BB.at1 (h : BB w F g l C now cnt v bo D) : w.cell? ⟨g, 1, none⟩ = some (.map (some bo)) := cell_blk h.blk 1
theorem BB.at2 (h : BB w F g l C now cnt v bo D) : w.cell? ⟨g, 2, none⟩ = some (.int .i64 now) := cell_blk h.blk 2
theorem BB.free (h : BB w F g l C now cnt v bo D) (i : Nat) : w.frozen? ⟨g, i, none⟩ = false := free_blk h.blk i
theorem BB.lt (h : BB w F g l C now cnt v bo D) : g < w.heap.size := blk_lt h.blk
theorem BB.g_bo (h : BB w F g l C now cnt v bo D) : g ≠ bo := by
  intro e
  obtain ⟨es, clock, hb, _⟩ := h.map
  rw [← e, h.blk] at hb
  cases hb
theorem BB.v_bo (h : BB w F g l C now cnt v bo D) : v.ownBlock ≠ some bo := by
  intro e
  obtain ⟨es, clock, hb, _⟩ := h.map
  rcases h.row.2 with ⟨rfl, _⟩ | ⟨q, cap, cur, rfl, _, hq, _⟩
  · simp [Value.ownBlock] at e
  · have e1 : q = bo := by simpa [Value.ownBlock] using e
    subst e1
    rw [hq] at hb
    cases hb
theorem map_g {b n : Nat} {k : TypeId} {R : Value → Option (DataW Unit × List MemPlace)} {E : DataW Unit} {cs : Array Value} {t : TypeId} {fr : Nat × Nat} (h : w.ownsMap Try.prog k R b n E) (hg : w.heap[g]? = some (.cells cs t fr)) : b ≠ g := by
  intro e
  obtain ⟨es, clock, hb, _⟩ := h
  rw [e, hg] at hb
  cases hb
theorem map_row {b n m size base : Nat} {k e : TypeId} {xs : List Value} {R : Value → Option (DataW Unit × List MemPlace)} {E : DataW Unit} (h : w.ownsMap Try.prog k R b n E) (hr : w.ownsRow base e size v m xs) : v.ownBlock ≠ some b := by
  intro he
  obtain ⟨es, clock, hb, _⟩ := h
  rcases hr.2 with ⟨rfl, _⟩ | ⟨q, cap, cur, rfl, _, hq, _⟩
  · simp [Value.ownBlock] at he
  · have e1 : q = b := by simpa [Value.ownBlock] using he
    subst e1
    rw [hq] at hb
    cases hb

/-- The count of changes is set. -/
theorem BB.putNow (h : BB w F g l C now cnt v bo D) (n : Int) : BB (w.setCell ⟨g, 2, none⟩ (.int .i64 n)) F g l C n cnt v bo D := by
  have t : Touch (fun b => b = g) w (w.setCell ⟨g, 2, none⟩ (.int .i64 n)) := (Touch.refl (fun b => b = g) w).setCell (p := ⟨g, 2, none⟩) (.inl rfl) _
  refine ⟨?_, row_touch h.row t (fun k hk e => row_ne h.row h.blk (by decide) (by rw [hk, e])), h.nms, ownsMap_touch h.map t (fun e => h.g_bo e.symm), fun o ho => ?_, h.ap, h.fg, h.fv, h.fo⟩
  · have := set_blk h.blk 2 (.int .i64 n)
    simpa using this
  · rcases h.sets o ho with x | ⟨b, E, h1, h2, h3, h4, h5⟩
    · exact .inl x
    · exact .inr ⟨b, E, h1, h2, h3, ownsMap_touch h4 t (fun e => map_g h4 h.blk e), h5⟩

/-- The i-th cell of o's set is c. -/
def setC (C : Ow → Nat → Int × Int) (o : Ow) (i : Nat) (c : Int × Int) : Ow → Nat → Int × Int := fun p j => if p.i = o.i ∧ p.x = o.x ∧ p.e = o.e ∧ j = i then c else C p j
/-- o's set is as at first. -/
def noC (C : Ow → Nat → Int × Int) (o : Ow) : Ow → Nat → Int × Int := fun p j => if p.i = o.i ∧ p.x = o.x ∧ p.e = o.e then (0, 0) else C p j
theorem ow_ext {o p : Ow} (h : p.i = o.i ∧ p.x = o.x ∧ p.e = o.e) : p = o := by cases o; cases p; simp_all
theorem setC_same (C : Ow → Nat → Int × Int) (o : Ow) (i : Nat) (c : Int × Int) : setC C o i c o i = c := by simp [setC]
theorem setC_idx (C : Ow → Nat → Int × Int) (o : Ow) {i j : Nat} (c : Int × Int) (h : j ≠ i) : setC C o i c o j = C o j := by simp [setC, h]
theorem setC_other (C : Ow → Nat → Int × Int) {o p : Ow} (i : Nat) (c : Int × Int) (h : p ≠ o) : setC C o i c p = C p := by
  funext j
  unfold setC
  rw [if_neg (fun e => h (ow_ext ⟨e.1, e.2.1, e.2.2.1⟩))]
theorem noC_same (C : Ow → Nat → Int × Int) (o : Ow) (j : Nat) : noC C o o j = (0, 0) := by simp [noC]
theorem noC_other (C : Ow → Nat → Int × Int) {o p : Ow} (h : p ≠ o) : noC C o p = C p := by
  funext j
  unfold noC
  rw [if_neg (fun e => h (ow_ext e))]

/-- o's set is struck out of the map of sets. -/
theorem BB.forgot (h : BB w F g l C now cnt v bo D) {o : Ow} (ho : OwOk o) (hm : w'.ownsMap Try.prog 59 mapElem bo cnt (D.del (klO o))) (ht : Touch (fun b => b = bo) w w') : BB w' F g l (noC C o) now cnt v bo (D.del (klO o)) := by
  have hk : ∀ p, OwOk p → p ≠ o → (D.del (klO o)).atKey (klO p) nd = D.atKey (klO p) nd := fun p hp hne => atKey_del_other (fun e => hne (klO_inj hp ho e)) nd
  have hs : (D.del (klO o)).atKey (klO o) nd = nd := atKey_del_same nd
  refine ⟨(ht.block g h.lt (fun e => h.g_bo e)).trans h.blk, row_touch h.row ht (fun k hk e => h.v_bo (by rw [hk, e])), h.nms, hm, fun p hp => ?_, fun p q b hp hq h1 h2 => ?_, h.fg, h.fv, h.fo⟩
  · by_cases e : p = o
    · subst e
      rw [hs]
      exact .inl ⟨rfl, fun i => noC_same C p i⟩
    · rw [hk p hp e, noC_other C e]
      rcases h.sets p hp with x | ⟨b, E, h1, h2, h3, h4, h5⟩
      · exact .inl x
      · exact .inr ⟨b, E, h1, h2, h3, ownsMap_touch h4 ht h3, h5⟩
  · by_cases e1 : p = o
    · subst e1; rw [hs] at h1; exact absurd h1.symm bd_nd
    · by_cases e2 : q = o
      · subst e2; rw [hs] at h2; exact absurd h2.symm bd_nd
      · rw [hk p hp e1] at h1
        rw [hk q hq e2] at h2
        exact h.ap p q b hp hq h1 h2
/-- A new, empty set is laid for o, which had none. -/
theorem BB.opened (h : BB w F g l C now cnt v bo D) {o : Ow} (ho : OwOk o) (hn : D.atKey (klO o) nd = nd) {b : Nat} (hb : ¬ F b) (hG : ∀ k, F k → G k) (hGb : G b)
    (hm : w'.ownsMap Try.prog 59 mapElem bo (cnt + 1) (D.put (klO o) (bd b))) (hi : w'.ownsMap Try.prog 3 cellElem b 0 (.map [])) (ht : Touch (fun k => k = bo) w w') : BB w' G g l C now (cnt + 1) v bo (D.put (klO o) (bd b)) := by
  have hD : IsMap D := h.map.isMap
  have hk : ∀ p, OwOk p → p ≠ o → (D.put (klO o) (bd b)).atKey (klO p) nd = D.atKey (klO p) nd := fun p hp hne => atKey_put_other (fun e => hne (klO_inj hp ho e)) _ nd
  have hs : (D.put (klO o) (bd b)).atKey (klO o) nd = bd b := atKey_put_same hD (klO_key ho) _ nd
  have hfb : ∀ p c, OwOk p → D.atKey (klO p) nd = bd c → F c := by
    intro p c hp hc
    rcases h.sets p hp with x | ⟨c', E, h1, h2, _⟩
    · rw [hc] at x; exact absurd x.1 bd_nd
    · rw [hc] at h1; rw [bd_inj h1]; exact h2
  refine ⟨(ht.block g h.lt (fun e => h.g_bo e)).trans h.blk, row_touch h.row ht (fun k hk e => h.v_bo (by rw [hk, e])), h.nms, hm, fun p hp => ?_, fun p q c hp hq h1 h2 => ?_, hG _ h.fg, fun k hk => hG _ (h.fv k hk), hG _ h.fo⟩
  · by_cases e : p = o
    · subst e
      rw [hs]
      refine .inr ⟨b, _, rfl, hGb, fun e => hb (by rw [e]; exact h.fo), hi.mono (Nat.zero_le _), fun i hi => ?_⟩
      rcases h.sets p hp with x | ⟨c', E, h1, _⟩
      · rw [x.2 i]; rfl
      · rw [hn] at h1; exact absurd h1.symm bd_nd
    · rw [hk p hp e]
      rcases h.sets p hp with x | ⟨b, E, h1, h2, h3, h4, h5⟩
      · exact .inl x
      · exact .inr ⟨b, E, h1, hG _ h2, h3, (ownsMap_touch h4 ht h3).mono (Nat.le_succ _), h5⟩
  · by_cases e1 : p = o
    · subst e1
      rw [hs] at h1
      by_cases e2 : q = p
      · exact e2.symm
      · rw [hk q hq e2] at h2
        exact absurd (hfb q c hq h2) (by rw [← bd_inj h1]; exact hb)
    · rw [hk p hp e1] at h1
      by_cases e2 : q = o
      · subst e2
        rw [hs] at h2
        exact absurd (hfb p c hp h1) (by rw [← bd_inj h2]; exact hb)
      · rw [hk q hq e2] at h2
        exact h.ap p q c hp hq h1 h2
/-- The i-th cell of o's set, which there is, is set. -/
theorem BB.stored (h : BB w F g l C now cnt v bo D) {o : Ow} (ho : OwOk o) {b : Nat} (hb : D.atKey (klO o) nd = bd b) {i : Nat} (hi : i < 1000) (c : Int × Int) {E : DataW Unit} (hE : w.ownsMap Try.prog 3 cellElem b cnt E) (hC : ∀ i : Nat, i < 1000 → E.atKey (.int .i64 i) (cd (0, 0)) = cd (C o i))
    (hm : w'.ownsMap Try.prog 3 cellElem b (cnt + 1) (E.put (.int .i64 i) (cd c))) (ht : Touch (fun k => k = b) w w') : BB w' F g l (setC C o i c) now (cnt + 1) v bo D := by
  have hF : F b ∧ b ≠ bo := by
    rcases h.sets o ho with x | ⟨c', E, h1, h2, h3, _⟩
    · rw [hb] at x; exact absurd x.1 bd_nd
    · rw [hb] at h1; rw [bd_inj h1]; exact ⟨h2, h3⟩
  refine ⟨(ht.block g h.lt (fun e => map_g hE h.blk e.symm)).trans h.blk, row_touch h.row ht (fun k hk e => map_row hE h.row (by rw [hk, e])), h.nms, (ownsMap_touch h.map ht (fun e => hF.2 e.symm)).mono (Nat.le_succ _), fun p hp => ?_, h.ap, h.fg, h.fv, h.fo⟩
  by_cases e : p = o
  · subst e
    rw [hb]
    refine .inr ⟨b, _, rfl, hF.1, hF.2, hm, fun j hj => ?_⟩
    by_cases e2 : j = i
    · subst e2
      rw [atKey_put_same hE.isMap (int_key hi), setC_same]
    · rw [atKey_put_other (fun e => e2 (by injection e with _ e; omega)), hC j hj, setC_idx C p c e2]
  · rw [setC_other C i c e]
    rcases h.sets p hp with x | ⟨b', E', h1, h2, h3, h4, h5⟩
    · exact .inl x
    · exact .inr ⟨b', E', h1, h2, h3, (ownsMap_touch h4 ht (fun e2 => e (h.ap p o b hp ho (by rw [h1, e2]) hb))).mono (Nat.le_succ _), h5⟩

/-- What the look-up of o's set gives, and of a cell in it. -/
theorem BB.look (h : BB w F g l C now cnt v bo D) {o : Ow} (ho : OwOk o) {i : Nat} (hi : i < 1000) :
    ∃ vm ok, (ok = false → C o i = (0, 0)) ∧ ∀ W, Touch NoB w W → (Instr.lookup 55 (.map (some bo)) (owV o) false).run Try.prog W = .ok vm W ∧ (Instr.lookup 76 vm (.int .i64 i) true).run Try.prog W = .ok (.tuple #[cellV (C o i), .bool ok]) W := by
  rcases h.sets o ho with x | ⟨b, E, h1, h2, h3, h4, h5⟩
  · refine ⟨.map none, false, fun _ => x.2 i, fun W t => ?_⟩
    obtain ⟨vm, ps, hrun, hv⟩ := (h.quiet t).map.lookup lawOw Try.underlying55 (zeroMap W) (zd := nd) (zp := []) rfl (key_ow ho)
    rw [x.1] at hv
    obtain rfl := map_inv0 hv
    have hl := Maps.look_nil (w := W) (t := 76) true lawInt Try.underlying76 (zeroCell W) (key_int hi)
    exact ⟨hrun, by rw [x.2 i]; simpa using hl⟩
  · refine ⟨.map (some b), Maps.has E (.int .i64 i), fun hno => ?_, fun W t => ?_⟩
    · have := atKey_of_not_has hno (cd (0, 0))
      rw [h5 i hi] at this
      exact cd_inj this
    · obtain ⟨vm, ps, hrun, hv⟩ := (h.quiet t).map.lookup lawOw Try.underlying55 (zeroMap W) (zd := nd) (zp := []) rfl (key_ow ho)
      rw [h1] at hv
      obtain rfl := map_inv hv
      obtain ⟨u, qs, hr, hu⟩ := (ownsMap_touch h4 t (fun x => x)).look_ok lawInt Try.underlying76 (zeroCell W) (cell_mk (0, 0)) (key_int hi)
      rw [h5 i hi] at hu
      obtain rfl := cell_inv hu
      exact ⟨hrun, hr⟩
end
end Go.Proofs.Yteacpfknfbmjkaa
