/-
  Make of the document's own Ids, by what the next identifier is; Spawn of the document's own Store.
-/
import Derived.Test.YticekldgjlihmaaGb
namespace Go.Proofs.Yticekldgjlihmaa
open Go.ChangeShapes Go.WideShapes Go.ChangeAt Go.RowKit Go.Maps
set_option maxRecDepth 100000
set_option maxHeartbeats 2000000

section
variable {w : World} {F : Nat → Prop} {g cnt : Nat} {room : Int} {ps ps' : List (Int × Bool)} {ds ds' : List Int} {id : Int × Int}
theorem rmake_none (hO : ROwn w F g room ps ds) (h : PInv cnt room ps ds) (hm : makeS room ps ds = none) :
    Calls Try.prog 30 #[.pointer (some ⟨g, 0, none⟩)] w fun e w' => e = .returned (.tuple #[.agg #[.int .i64 0, .int .i64 0], .int .i64 10]) ∧ Touch NoB w w' := by
  obtain ⟨rfl, hr⟩ := make_nothing hm h
  exact rmake_full g room ps F w hO hr
theorem rmake_some (hO : ROwn w F g room ps ds) (hF : InW w 0 F) (h : PInv cnt room ps ds) (hm : makeS room ps ds = some (id, ps', ds')) (hc : cnt ≤ 1000) :
    Calls Try.prog 30 #[.pointer (some ⟨g, 0, none⟩)] w fun e w' => e = .returned (.tuple #[.agg #[.int .i64 id.1, .int .i64 id.2], .int .i64 0]) ∧ ROwn w' (Ext F w w') g room ps' ds' ∧ Touch F w w' := by
  rcases make_ways h hm with ⟨k, y, rfl, hk, rfl, rfl⟩ | ⟨rfl, rfl, hlt, rfl, rfl⟩
  · have hy := h.gen k y false hk
    exact (rmake_pop g k room y false ps ds' F w hO hF hk (by omega) (by omega)).mono fun e w' ⟨a, b, c⟩ => ⟨a, b.more ext_self, c⟩
  · exact rmake_new g room ps F w hO hF hlt h.rm.2
end

theorem rright_any (c : Int) (w : World) :
    Calls Try.prog 28 #[.int .i64 c] w fun e w' => e = .returned (.bool (isC c)) ∧ w = w' := by
  by_cases h1 : 0 ≤ c <;> by_cases h2 : c < 16
  all_goals
    go_enter Try.func28, Try.ntmps28
    go_wp2
    go_ret
    exact ⟨by simp [isC, h1, h2], rfl⟩

/-- The document's own Store at block g, with the tables bs; all its blocks are in F. -/
def RSt (w : World) (F : Nat → Prop) (g : Nat) (room most : Int) (ps : List (Int × Bool)) (ds : List Int) (bs : List Tb) : Prop :=
  ∃ φ gi ts vl, RSG w φ g gi room most ps ds ts vl ∧ ts.map RTb.b = bs ∧ ∀ b, φ b ≠ 0 → F b
theorem RSt.keep {w w' : World} {F G : Nat → Prop} {g : Nat} {room most : Int} {ps : List (Int × Bool)} {ds : List Int} {bs : List Tb} (h : RSt w F g room most ps ds bs) (t : Touch G w w') (d : Dis F G) : RSt w' F g room most ps ds bs := by
  obtain ⟨φ, gi, ts, vl, h1, h2, h3⟩ := h
  exact ⟨φ, gi, ts, vl, h1.keep t (fun b hb hg => d b (h3 b hb) hg), h2, h3⟩
theorem RSt.quiet {w w' : World} {F : Nat → Prop} {g : Nat} {room most : Int} {ps : List (Int × Bool)} {ds : List Int} {bs : List Tb} (h : RSt w F g room most ps ds bs) (t : Touch NoB w w') : RSt w' F g room most ps ds bs := h.keep t (fun _ _ e => e)

section
variable {w w' : World} {φ : Nat → Int} {g gi : Nat} {room most : Int} {ps ps' : List (Int × Bool)} {ds ds' : List Int} {ts : List RTb} {vl : Value} {m0 : Int}
/-- A call on the Ids. -/
theorem RSG.putIds (h : RSG w φ g gi room most ps ds ts vl) (t : Touch (fun b => φ b = 2) w w') (ho : ROwn w' (Ext (fun b => φ b = 2) w w') gi room ps' ds') : RSG w' (relab φ w w' 2) g gi room most ps' ds' ts vl := by
  have hold : ∀ c, c ≠ 0 → ∀ b, φ b = c → relab φ w w' 2 b = c := fun c hc => relab_old h.wf hc
  refine ⟨(t.block g (blk_lt h.blk) (fun e => by have := h.l1; omega)).trans h.blk, hold 1 (by decide) g h.l1, ho.more (fun b hb => relab_new b hb), row_touch h.row t (fun k hk e => by have := h.rowL k hk; omega), fun k hk => hold 3 (by decide) k (h.rowL k hk), fun j x hx => ?_, h.m0, relab_wf h.wf t.size, h.asc⟩
  have hm := h.m0 j x hx
  exact ((h.tab j x hx).keep t (fun b (h1 : φ b = 4 + x.m) (h2 : φ b = 2) => by omega)).more (fun b hb => hold _ (by omega) b hb)
/-- A call on the j-th table. -/
theorem RSG.putTab (h : RSG w φ g gi room most ps ds ts vl) {j : Nat} {x : RTb} (hx : ts[j]? = some x) (t : Touch (fun b => φ b = 4 + x.m) w w') {l : List Rw} (ho : RT w' (Ext (fun b => φ b = 4 + x.m) w w') x.g x.m l) : RSG w' (relab φ w w' (4 + x.m)) g gi room most ps ds (ts.set j ⟨x.g, x.m, l⟩) vl := by
  have hmx := h.m0 j x hx
  have hold : ∀ c, c ≠ 0 → ∀ b, φ b = c → relab φ w w' (4 + x.m) b = c := fun c hc => relab_old h.wf hc
  have hrm : rm (ts.set j ⟨x.g, x.m, l⟩) = rm ts := by
    unfold rm
    rw [List.map_set]
    refine List.ext_getElem? fun i => ?_
    rw [List.getElem?_set]
    by_cases e : j = i
    · subst e
      rw [if_pos rfl, if_pos (by rw [List.length_map]; exact (List.getElem?_eq_some_iff.1 hx).1), List.getElem?_map, hx]
      rfl
    · rw [if_neg e]
  refine ⟨(t.block g (blk_lt h.blk) (fun e => by have := h.l1; omega)).trans h.blk, hold 1 (by decide) g h.l1, (h.own.keep t (fun b (h1 : φ b = 2) (h2 : φ b = 4 + x.m) => by omega)).more (fun b hb => hold 2 (by decide) b hb), ?_, fun k hk => hold 3 (by decide) k (h.rowL k hk), fun i y hy => ?_, fun i y hy => ?_, relab_wf h.wf t.size, by rw [hrm]; exact h.asc⟩
  · rw [hrm, List.length_set]
    exact row_touch h.row t (fun k hk e => by have := h.rowL k hk; omega)
  · rcases set_get hy with ⟨rfl, rfl, _⟩ | ⟨hne, hy⟩
    · exact ho.more (fun b hb => relab_new b hb)
    · have hm := h.m0 i y hy
      have hd : y.m ≠ x.m := by
        intro e
        have h1 : (rm ts)[i]? = some (y.g, y.m) := by rw [rm_get, hy]; rfl
        have h2 : (rm ts)[j]? = some (x.g, x.m) := by rw [rm_get, hx]; rfl
        rcases Nat.lt_trichotomy i j with h5 | h' | h'
        · have := h.asc i j _ _ h5 h1 h2; simp at this; omega
        · exact hne h'
        · have := h.asc j i _ _ h' h2 h1; simp at this; omega
      exact ((h.tab i y hy).keep t (fun b (h1 : φ b = 4 + y.m) (h2 : φ b = 4 + x.m) => by omega)).more (fun b hb => hold _ (by omega) b hb)
  · rcases set_get hy with ⟨rfl, rfl, _⟩ | ⟨hne, hy⟩
    · exact hmx
    · exact h.m0 i y hy

theorem openR (hh : hasL (rm ts) m0 = false) (gn : Nat) : (insT ts (posL (rm ts) m0) ⟨gn, m0, []⟩).map RTb.b = openB (ts.map RTb.b) m0 := by
  unfold openB
  rw [rhasB, if_neg (by rw [hh]; decide), rposB]
  simp [insT, RTb.b, colsOf_nil, List.map_take, List.map_drop]
/-- table, whether the table is there or is made. -/
theorem rs_table (h : RSG w φ g gi room most ps ds ts vl) (m : Int) (hm : 0 ≤ m ∧ m < 65536) (hf : (hasB (ts.map RTb.b) m || decide (((ts.map RTb.b).length : Int) < most)) = true) (hl : ts.length ≤ 1000) :
    Calls Try.prog 31 #[.pointer (some ⟨g, 0, none⟩), .int .u16 m] w fun e w' => ∃ φ' ts' vl' t, e = .returned (.pointer (some ⟨RTb.g t, 0, none⟩)) ∧ RSG w' φ' g gi room most ps ds ts' vl' ∧ ts'.map RTb.b = openB (ts.map RTb.b) m ∧ ts'[posB (ts.map RTb.b) m]? = some t ∧ t.m = m ∧ (∀ b, φ' b ≠ 0 → φ b ≠ 0 ∨ w.heap.size ≤ b) ∧ Touch (fun b => φ b = 1) w w' := by
  cases hh : hasL (rm ts) m
  · rw [rhasB, hh, Bool.false_or, List.length_map] at hf
    refine (rs_table_new h m hm hh (by simpa using hf) hl).mono ?_
    rintro e w' ⟨φ', vl', rfl, h1, h2, h3⟩
    refine ⟨φ', _, vl', ⟨w.heap.size, m, []⟩, rfl, h1, openR hh _, ?_, rfl, h2, h3⟩
    rw [rposB]
    exact insT_at _ (by rw [← rm_length]; exact posL_le _ _)
  · obtain ⟨a, ha⟩ := hasL_true hh
    obtain ⟨t, ht, e⟩ := rm_some ha
    injection e with e1 e2
    refine (rs_table_old h m hh ht).mono ?_
    rintro e w' ⟨rfl, rfl⟩
    refine ⟨φ, ts, vl, t, rfl, h, ?_, by rw [rposB]; exact ht, e2.symm, fun b hb => .inl hb, Touch.refl _ _⟩
    unfold openB
    rw [rhasB, if_pos hh]
/-- An entity enters its table: as columns. -/
theorem enteredR {ts' : List RTb} {bs : List Tb} {m : Int} {t : RTb} (ho : ts'.map RTb.b = openB bs m) (ht : ts'[posB bs m]? = some t) (i x : Int) (cl : List (Int × Int)) :
    (ts'.set (posB bs m) ⟨t.g, t.m, t.l ++ [((i, x), newVals t.m cl)]⟩).map RTb.b = enterB bs m (i, x) cl := by
  have h1 : (openB bs m)[posB bs m]? = some t.b := by rw [← ho, List.getElem?_map, ht]; rfl
  unfold enterB modB
  rw [h1]
  simp only
  rw [List.map_set, ho]
  congr 1
  unfold RTb.b addB
  simp only [List.map_append, List.map_cons, List.map_nil]
  rw [cols_add]
end
end Go.Proofs.Yticekldgjlihmaa
