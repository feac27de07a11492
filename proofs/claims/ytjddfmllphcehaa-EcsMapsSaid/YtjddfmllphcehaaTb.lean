/-
  What table.Row, place, Get and Set return, and what they leave in memory.
-/
import Derived.Test.YtjddfmllphcehaaTa
namespace Go.Proofs.Ytjddfmllphcehaa
open Go.ChangeShapes Go.WideShapes Go.ChangeAt Go.RowKit Go.Maps

/-- The map D tells of each entity of ids where it stands, and of no other. -/
structure MapIs (D : DataW Unit) (ids : List (Int × Int)) : Prop where
  yes : ∀ (r : Nat) (i x : Int), ids[r]? = some (i, x) → Maps.has D (klI i x) = true ∧ D.atKey (klI i x) (.lit (.int .i64 0)) = .lit (.int .i64 r)
  no : ∀ i x : Int, I64 i → I64 x → (∀ r : Nat, ids[r]? ≠ some (i, x)) → Maps.has D (klI i x) = false

/-- What a look-up at (i, x) gives, in whatever world that has the map. -/
theorem look_id {w : World} {vm : Value} {n : Nat} {D : DataW Unit} (h : MapAt w vm n D) {i x : Int} (hi : I64 i) (hx : I64 x) :
    ∃ c : Int, D.atKey (klI i x) (.lit (.int .i64 0)) = .lit (.int .i64 c) ∧ (Instr.lookup 124 vm (.agg #[.int .i64 i, .int .i64 x]) true).run Try.prog w = .ok (.tuple #[.int .i64 c, .bool (Maps.has D (klI i x))]) w := by
  rcases h with ⟨rfl, rfl⟩ | ⟨b, rfl, hown⟩
  · refine ⟨0, rfl, ?_⟩
    have := Maps.look_nil (w := w) (t := 124) true lawId Try.underlying124 (zeroInt w) (key_id hi hx)
    simpa [Maps.has] using this
  · obtain ⟨v, ps, hrun, hv⟩ := hown.look_ok lawId Try.underlying124 (zeroInt w) (plainElem_int Try.underlying3 (by decide)) (key_id hi hx)
    obtain ⟨c, rfl, hc, _⟩ := plainElem_int_inv Try.underlying3 hv
    exact ⟨c, congrArg Prod.fst hc, hrun⟩

set_option maxHeartbeats 1000000 in
theorem trow_any (g : Nat) (m i x : Int) (ids : List (Int × Int)) (cf : Nat → List Int) (D : DataW Unit) (n : Nat) (F : Nat → Prop) (w : World) (h : TO w F g m ids cf D n) (hD : MapIs D ids) (hi : I64 i) (hx : I64 x) :
    Calls Try.prog 41 #[.pointer (some ⟨g, 0, none⟩), .agg #[.int .i64 i, .int .i64 x]] w fun e w' => e = .returned (.int .i64 (rowV ids (i, x))) ∧ Touch NoB w w' := by
  obtain ⟨vi, vm, vc, cs, hT⟩ := h
  have hl := hT.lt
  have k2 := hT.at2
  have hm1 : MapAt (w.alloc (.cells #[.int .i64 i, .int .i64 x] 30)).drew vm n D := hT.mp.touch (((Touch.refl NoB w).alloc _).drew) (fun _ _ e => e)
  obtain ⟨c, hat, hrun⟩ := look_id hm1 hi hx
  clear hT hm1
  rcases hr : rowOf ids (i, x) with _ | r
  · rw [hD.no i x hi hx (rowOf_none hr)] at hrun
    rw [rowV_none hr]
    clear hat hr hD
    go_enter Try.func41, Try.ntmps41
    go_wp2
    go_region
    go_wp2
    go_ret
    exact ⟨rfl, ((Touch.refl _ _).alloc _).drew⟩
  · obtain ⟨h1, h2⟩ := hD.yes r i x (rowOf_some hr).1
    rw [h1] at hrun
    have hc : c = (r : Int) := by
      have := hat.symm.trans h2
      simpa using this
    subst hc
    rw [rowV_some hr]
    clear hat hr hD h1 h2
    go_enter Try.func41, Try.ntmps41
    go_wp2
    go_region
    go_wp2
    go_ret
    exact ⟨rfl, ((Touch.refl _ _).alloc _).drew⟩

/-- A row is no map. -/
theorem row_ne_map {w : World} {base : Nat} {e : TypeId} {size k : Nat} {v : Value} {xs : List Value} (h : w.ownsRow base e size v k xs) {vm : Value} {n : Nat} {D : DataW Unit} (hm : MapAt w vm n D) {b : Nat} (hb : vm = .map (some b)) : v.ownBlock ≠ some b := by
  rcases hm with ⟨rfl, _⟩ | ⟨b', rfl, es, clock, hh, _⟩
  · cases hb
  · injection hb with hb
    injection hb with hb
    subst hb
    rcases h.2 with ⟨rfl, _⟩ | ⟨g, cap, cur, rfl, _, hg, _⟩
    · simp [Value.ownBlock]
    · intro e
      have : g = b' := by simpa [Value.ownBlock] using e
      subst this
      rw [hh] at hg
      cases hg
/-- A block of cells is no map. -/
theorem blk_ne_map {w : World} {g : Nat} {cs : Array Value} {t : TypeId} {fr : Nat × Nat} (h : w.heap[g]? = some (.cells cs t fr)) {vm : Value} {n : Nat} {D : DataW Unit} (hm : MapAt w vm n D) {b : Nat} (hb : vm = .map (some b)) : b ≠ g := by
  rcases hm with ⟨rfl, _⟩ | ⟨b', rfl, es, clock, hh, _⟩
  · cases hb
  · injection hb with hb
    injection hb with hb
    subst hb
    rintro rfl
    rw [hh] at h
    cases h

/-- One column's slice is another. -/
def valSet (vc : Nat → Value) (c : Nat) (v : Value) : Nat → Value := fun d => if d = c then v else vc d
theorem valSet_same (vc : Nat → Value) (c : Nat) (v : Value) : valSet vc c v c = v := by simp [valSet]
theorem valSet_other (vc : Nat → Value) {c d : Nat} (h : d ≠ c) (v : Value) : valSet vc c v d = vc d := by simp [valSet, h]

section
variable {w w' w1 : World} {F G : Nat → Prop} {g : Nat} {m : Int} {ids : List (Int × Int)} {cf : Nat → List Int} {D : DataW Unit} {n : Nat} {vi vm : Value} {vc : Nat → Value} {cs : Array Value}

theorem set_touch (w : World) (g j : Nat) (u : Value) : Touch (fun b => b = g) w (w.setCell ⟨g, j, none⟩ u) := (Touch.refl (fun b => b = g) w).setCell (p := ⟨g, j, none⟩) (.inl rfl) u
theorem get_set {cs : Array Value} (hs : cs.size = 19) {j : Nat} (hj : j < 19) (u : Value) : (cs.setIfInBounds j u)[j]? = some u := by
  rw [Array.getElem?_setIfInBounds_self_of_lt (by omega)]
theorem get_set_ne {cs : Array Value} {j k : Nat} (hjk : j ≠ k) (u : Value) : (cs.setIfInBounds j u)[k]? = cs[k]? := by
  rw [Array.getElem?_setIfInBounds_ne hjk]

/-- The list of entities is laid anew: what its row's block was may have changed, and the header. -/
theorem TG.put1 (h : TG w F g m ids cf D n vi vm vc cs) (t : Touch (fun b => vi.ownBlock = some b) w w1) {vi' : Value} {ids' : List (Int × Int)} (hr : w1.ownsRow 0 30 2 vi' ids'.length (idc ids')) (hF : ∀ k, F k → G k) (hv : ∀ k, vi'.ownBlock = some k → G k) :
    TG (w1.setCell ⟨g, 1, none⟩ vi') G g m ids' cf D n vi' vm vc (cs.setIfInBounds 1 vi') := by
  have hg1 : w1.heap[g]? = some (.cells cs 127 (0, 0)) := (t.block g h.lt (row_ne h.ri h.blk (by decide))).trans h.blk
  have s := set_touch w1 g 1 vi'
  have rc1 : ∀ c, c < 16 → w1.ownsRow 0 3 1 (vc c) (cf c).length (ic (cf c)) := fun c hc => row_touch (h.rc c hc) t (fun k hk e => row_row_ne h.ri (h.rc c hc) (by decide) e hk)
  have mp1 : MapAt w1 vm n D := h.mp.touch t (fun b hb e => row_ne_map h.ri h.mp hb e)
  refine ⟨by simpa using set_blk hg1 1 vi', by simpa using h.size, by rw [get_set_ne (by decide)]; exact h.c0, get_set h.size (by decide) _, by rw [get_set_ne (by decide)]; exact h.c2, fun c hc => by rw [get_set_ne (by omega)]; exact h.cc c hc,
    row_touch hr s (fun k hk (e : k = g) => row_ne hr hg1 (by decide) (e ▸ hk)), fun c hc => row_touch (rc1 c hc) s (fun k hk (e : k = g) => row_ne (rc1 c hc) hg1 (by decide) (e ▸ hk)), mp1.touch s (fun b hb (e : b = g) => blk_ne_map hg1 mp1 hb e), h.ap, hF _ h.fg, hv, fun c hc k hk => hF _ (h.fc c hc k hk), fun b hb => hF _ (h.fm b hb)⟩

/-- A column is laid anew. -/
theorem TG.putc (h : TG w F g m ids cf D n vi vm vc cs) {c : Nat} (hc : c < 16) (t : Touch (fun b => (vc c).ownBlock = some b) w w1) {v' : Value} {l' : List Int} (hr : w1.ownsRow 0 3 1 v' l'.length (ic l')) (hF : ∀ k, F k → G k) (hv : ∀ k, v'.ownBlock = some k → G k)
    (hat : ∀ k, v'.ownBlock = some k → (vc c).ownBlock = some k ∨ w.heap.size ≤ k) :
    TG (w1.setCell ⟨g, 3 + c, none⟩ v') G g m ids (colSet cf c l') D n vi vm (valSet vc c v') (cs.setIfInBounds (3 + c) v') := by
  have hg1 : w1.heap[g]? = some (.cells cs 127 (0, 0)) := (t.block g h.lt (row_ne (h.rc c hc) h.blk (by decide))).trans h.blk
  have s := set_touch w1 g (3 + c) v'
  have ri1 : w1.ownsRow 0 30 2 vi ids.length (idc ids) := row_touch h.ri t (fun k hk e => row_row_ne (h.rc c hc) h.ri (by decide) e hk)
  have rc1 : ∀ d, d < 16 → w1.ownsRow 0 3 1 (valSet vc c v' d) (colSet cf c l' d).length (ic (colSet cf c l' d)) := by
    intro d hd
    by_cases e : d = c
    · subst e
      rw [valSet_same, colSet_same]
      exact hr
    · rw [valSet_other vc e, colSet_other cf e]
      exact row_touch (h.rc d hd) t (fun k hk x => h.ap c d hc hd (fun y => e y.symm) k x hk)
  have mp1 : MapAt w1 vm n D := h.mp.touch t (fun b hb e => row_ne_map (h.rc c hc) h.mp hb e)
  refine ⟨by simpa using set_blk hg1 (3 + c) v', by simpa using h.size, by rw [get_set_ne (by omega)]; exact h.c0, by rw [get_set_ne (by omega)]; exact h.c1, by rw [get_set_ne (by omega)]; exact h.c2, ?_,
    row_touch ri1 s (fun k hk (e : k = g) => row_ne ri1 hg1 (by decide) (e ▸ hk)), fun d hd => row_touch (rc1 d hd) s (fun k hk (e : k = g) => row_ne (rc1 d hd) hg1 (by decide) (e ▸ hk)), mp1.touch s (fun b hb (e : b = g) => blk_ne_map hg1 mp1 hb e), ?_, hF _ h.fg, fun k hk => hF _ (h.fi k hk), ?_, fun b hb => hF _ (h.fm b hb)⟩
  · intro d hd
    by_cases e : d = c
    · subst e
      rw [valSet_same, get_set h.size (by omega)]
    · rw [valSet_other vc e, get_set_ne (by omega)]
      exact h.cc d hd
  · have key : ∀ d, d < 16 → d ≠ c → ∀ k, v'.ownBlock = some k → (vc d).ownBlock ≠ some k := by
      intro d hd e k hk hk2
      rcases hat k hk with x | x
      · exact h.ap c d hc hd (fun y => e y.symm) k x hk2
      · have := row_lt (h.rc d hd) hk2; omega
    intro a b ha hb hab k hk hk2
    by_cases ea : a = c
    · subst ea
      rw [valSet_same] at hk
      rw [valSet_other vc (fun y => hab y.symm)] at hk2
      exact key b hb (fun y => hab y.symm) k hk hk2
    · rw [valSet_other vc ea] at hk
      by_cases eb : b = c
      · subst eb
        rw [valSet_same] at hk2
        exact key a ha ea k hk2 hk
      · rw [valSet_other vc eb] at hk2
        exact h.ap a b ha hb hab k hk hk2
  · intro d hd k hk
    by_cases e : d = c
    · subst e
      rw [valSet_same] at hk
      exact hv k hk
    · rw [valSet_other vc e] at hk
      exact hF _ (h.fc d hd k hk)

/-- A value is stored into a column. -/
theorem TG.setc (h : TG w F g m ids cf D n vi vm vc cs) {c : Nat} (hc : c < 16) {gp L cap : Nat} (hv : vc c = .slice (some ⟨gp, 0, none⟩) L cap) (hL : (cf c).length = L) (r : Nat) (x : Int) :
    TG (w.setCell ⟨gp, r, none⟩ (.int .i64 x)) F g m ids (colSet cf c ((cf c).set r x)) D n vi vm vc cs := by
  have hrc := h.rc c hc
  have hob : (vc c).ownBlock = some gp := by rw [hv]; rfl
  have s := set_touch w gp r (.int .i64 x)
  refine ⟨(s.block g h.lt (fun (e : g = gp) => row_ne hrc h.blk (by decide) (e ▸ hob))).trans h.blk, h.size, h.c0, h.c1, h.c2, h.cc, row_touch h.ri s (fun k hk (e : k = gp) => row_row_ne hrc h.ri (by decide) hob (e ▸ hk)), ?_, h.mp.touch s (fun b hb (e : b = gp) => row_ne_map hrc h.mp hb (e ▸ hob)), h.ap, h.fg, h.fi, h.fc, h.fm⟩
  intro d hd
  by_cases e : d = c
  · subst e
    rw [colSet_same]
    have h1 := hrc
    rw [hL, hv] at h1
    have h2 := (h1.stored r (.int .i64 x)).1
    rw [hv, List.length_set, hL]
    have e1 : ic ((cf d).set r x) = (ic (cf d)).set r (.int .i64 x) := by simp [ic, List.map_set]
    rw [e1]
    exact h2
  · rw [colSet_other cf e]
    exact row_touch (h.rc d hd) s (fun k hk (x : k = gp) => h.ap c d hc hd (fun y => e y.symm) gp hob (x ▸ hk))

/-- The map's block has changed. -/
theorem TG.putm (h : TG w F g m ids cf D n vi vm vc cs) {b n' : Nat} {D' : DataW Unit} (hb : vm = .map (some b)) (hg : w.grownBy w' (some b)) (ho : w'.ownsMap Try.prog 30 (plainElem Try.prog 3) b n' D') :
    TG w' F g m ids cf D' n' vi vm vc cs := by
  have s : Touch (fun x => x = b) w w' := (Touch.refl (fun x => x = b) w).grown hg (fun k e => by injection e with e; exact .inl e.symm)
  exact ⟨(s.block g h.lt (fun (e : g = b) => blk_ne_map h.blk h.mp hb e.symm)).trans h.blk, h.size, h.c0, h.c1, h.c2, h.cc, row_touch h.ri s (fun k hk (e : k = b) => row_ne_map h.ri h.mp hb (e ▸ hk)), fun c hc => row_touch (h.rc c hc) s (fun k hk (e : k = b) => row_ne_map (h.rc c hc) h.mp hb (e ▸ hk)), .inr ⟨b, hb, ho⟩, h.ap, h.fg, h.fi, h.fc, h.fm⟩

/-- The header of the map is another. -/
theorem TG.put2 (h : TG w F g m ids cf D n vi vm vc cs) {vm' : Value} {n' : Nat} {D' : DataW Unit} (hm : MapAt w vm' n' D') (hF : ∀ k, F k → G k) (hv : ∀ b, vm' = .map (some b) → G b) :
    TG (w.setCell ⟨g, 2, none⟩ vm') G g m ids cf D' n' vi vm' vc (cs.setIfInBounds 2 vm') := by
  have s := set_touch w g 2 vm'
  exact ⟨by simpa using set_blk h.blk 2 vm', by simpa using h.size, by rw [get_set_ne (by decide)]; exact h.c0, by rw [get_set_ne (by decide)]; exact h.c1, get_set h.size (by decide) _, fun c hc => by rw [get_set_ne (by omega)]; exact h.cc c hc,
    row_touch h.ri s (fun k hk (e : k = g) => row_ne h.ri h.blk (by decide) (e ▸ hk)), fun c hc => row_touch (h.rc c hc) s (fun k hk (e : k = g) => row_ne (h.rc c hc) h.blk (by decide) (e ▸ hk)), hm.touch s (fun b hb (e : b = g) => blk_ne_map h.blk hm hb e), h.ap, hF _ h.fg, fun k hk => hF _ (h.fi k hk), fun c hc k hk => hF _ (h.fc c hc k hk), hv⟩
end
end Go.Proofs.Ytjddfmllphcehaa
