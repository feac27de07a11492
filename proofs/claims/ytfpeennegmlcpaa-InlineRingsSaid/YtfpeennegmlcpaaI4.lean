/-
  Package nest's Copier.Both over a zero expression with no weights. Conditions: those that each theorem names.
-/
import Derived.Test.YtfpeennegmlcpaaI3
import Derived.Deep.MidRow
namespace Go.Proofs.Ytfpeennegmlcpaa
open Go.ChangeShapes Go.WideShapes Go.ChangeAt Go.RowKit
set_option maxRecDepth 100000
set_option maxHeartbeats 4000000

/-- The load and the store of a whole expression: closed to the walk's simp. -/
def LoadE (v : Value) : Sem Value := Instr.loadAt 27 v
theorem loadE_of (v : Value) : Instr.loadAt 27 v = LoadE v := rfl
def StoreE (x y : Value) : Sem Unit := Instr.storeAt 27 x y
theorem storeE_of (x y : Value) : Instr.storeAt 27 x y = StoreE x y := rfl
theorem isRow_e : (Try.prog.underlying 27).map TypeDesc.isRow = some true := by kernel_rfl
theorem size_e : (Try.prog.info? 27).map (·.size) = some 4 := by kernel_rfl
theorem run_LoadE (W : World) (b o : Nat) (cs : List Value) (hl : cs.length = 4) (hc : W.rangeAt b o cs) : (LoadE (.pointer (some ⟨b, o, none⟩))).run Try.prog W = .ok (.agg cs.toArray) W := by
  cases hu : Try.prog.underlying 27 with
  | none => have := isRow_e; rw [hu] at this; cases this
  | some d =>
    have h := isRow_e
    rw [hu] at h
    exact run_loadAt_mid W b o _ cs d hc hu (by injection h) (by rw [hl]; exact size_e)
theorem touch_setCells (b : Nat) : ∀ (vs : List Value) (o : Nat) (w0 w : World), Touch (fun k => k = b) w0 w → Touch (fun k => k = b) w0 (w.setCells b o vs)
  | [], _, _, _, h => h
  | v :: r, o, w0, w, h => by
    rw [World.setCells]
    exact touch_setCells b r (o + 1) w0 _ (h.setCell (p := ⟨b, o, none⟩) (.inl rfl) v)
theorem run_StoreE (W : World) (b : Nat) (cs : List Value) (hl : cs.length = 4) (h1 : ∀ v ∈ cs, v.oneCell' = true) {us : Array Value} {T : TypeId} (hb : W.heap[b]? = some (.cells us T (0, 0))) (hu : us.size = 4) :
    ∃ W', (StoreE (.pointer (some ⟨b, 0, none⟩)) (.agg cs.toArray)).run Try.prog W = .ok () W' ∧ W'.rangeAt b 0 cs ∧ Touch (fun k => k = b) W W' := by
  have ht : W.there b 0 cs.length := fun j hj => ⟨by rw [Lib.cell_of_heap hb]; simp; omega, free_blk hb _⟩
  refine ⟨_, ?_, World.rangeAt_setCells_same W b 0 cs ht, touch_setCells b cs 0 W W (Touch.refl _ _)⟩
  have := run_storeAt_mid W b 0 27 cs.toArray (by simpa using ht) (P := Try.prog) (by rw [List.size_toArray, hl]; exact size_e) (all_oneCell_toArray h1)
  have e : cs.toArray.toList = cs := by simp
  rw [e] at this
  exact this
theorem range4 {W : World} {b : Nat} {cs : List Value} (hl : cs.length = 4) (h : ∀ j, j < 4 → W.cell? ⟨b, j, none⟩ = cs[j]?) : W.rangeAt b 0 cs := by
  intro j v hj
  have hj4 : j < 4 := by have := (List.getElem?_eq_some_iff.1 hj).1; omega
  rw [Nat.zero_add, h j hj4]
  exact hj
theorem range_blk {W : World} {b : Nat} {us : Array Value} {T : TypeId} (hb : W.heap[b]? = some (.cells us T (0, 0))) (ht : us.toList.take 4 = zE) : W.rangeAt b 0 zE :=
  range4 rfl fun j hj => (cell_blk hb j).trans (by rw [← Array.getElem?_toList, ← List.getElem?_take_of_lt hj, ht])
/-- A block of four zero cells and more, at its head. -/
def ZK (W : World) (g : Nat) : Prop := ∃ us T, W.heap[g]? = some (.cells us T (0, 0)) ∧ us.toList.take 4 = zE
theorem ZK.keep {W W' : World} {g : Nat} {F : Nat → Prop} (h : ZK W g) (t : Touch F W W') (hF : ¬ F g) : ZK W' g := by
  obtain ⟨us, T, h1, h2⟩ := h
  exact ⟨us, T, (t.block g (blk_lt h1) hF).trans h1, h2⟩
theorem ZK.load {W : World} {g : Nat} (h : ZK W g) : (LoadE (.pointer (some ⟨g, 0, none⟩))).run Try.prog W = .ok (.agg #[.int .i64 0, .int .i64 0, .string ⟨#[]⟩, .slice none 0 0]) W := by
  obtain ⟨us, T, h1, h2⟩ := h
  exact run_LoadE W g 0 zE rfl (range_blk h1 h2)
theorem anew_one' (W : World) (b : Nat) (c : Nat) (h : ZK W b) : Calls Try.prog 96 #[.slice (some ⟨b, 0, none⟩) 1 c] W fun e w' => ∃ g cap, e = .returned (.slice (some ⟨g, 0, none⟩) 1 cap) ∧ W.heap.size ≤ g ∧ ZK w' g ∧ Touch NoB W w' := by
  obtain ⟨us, T, hb, hcs⟩ := h
  refine (anew_one W b c hb hcs).mono ?_
  rintro r w' ⟨g, cap, rfl, hg, hown, hT⟩
  refine ⟨g, cap, rfl, hg, ?_, hT⟩
  rcases hown.2 with ⟨h, -⟩ | ⟨g', cap', cur, hv, hB, hg, hn, hm, hs, ht⟩
  · cases h
  · injection hv with h1 h2 h3
    injection h1 with h1
    injection h1 with h1
    subst h1
    exact ⟨cur, _, hg, by simpa using ht⟩
attribute [local go_sem ↓] loadE_of storeE_of
/-- A zero expression with no weights, in new memory. -/
theorem both_bare {w : World} {eb ox : Nat} {cs : Array Value} {ty : TypeId} (x : Nat) (hb : w.heap[eb]? = some (.cells cs ty (0, 0))) (h1 : cs[ox]? = some (.int .i64 (x : Int))) (hx : x ≤ 100000) :
    Calls Try.prog 66 #[.pointer (some ⟨eb, ox, none⟩), .agg #[.int .i64 0, .int .i64 0, .string ⟨#[]⟩, .slice none 0 0], .slice none 0 0] w fun e w' => e = .returned (.tuple #[.agg #[.int .i64 0, .int .i64 0, .string ⟨#[]⟩, .slice none 0 0], .slice none 0 0, .bool true]) ∧ w'.heap[eb]? = some (.cells (cs.setIfInBounds ox (.int .i64 ((x + 1 : Nat) : Int))) ty (0, 0)) ∧ Touch (fun b => b = eb) w w' := by
  have hel := blk_lt hb
  go_enter Try.func66, Try.ntmps66
  obtain ⟨W0, hW0⟩ : ∃ W0, (w.alloc (.cells #[.int .i64 0, .int .i64 0, .string ⟨#[]⟩, .slice none 0 0] 27)).alloc (.cells #[.int .i64 0, .int .i64 0, .string ⟨#[]⟩, .slice none 0 0] 27) = W0 := ⟨_, rfl⟩
  have t0 : Touch NoB w W0 := hW0 ▸ ((Touch.refl NoB w).alloc _).alloc _
  have z0 : W0.heap[w.heap.size]? = some (.cells zE.toArray 27 (0, 0)) := hW0 ▸ (((Touch.refl NoB (w.alloc (.cells zE.toArray 27))).alloc (.cells zE.toArray 27)).block w.heap.size (by simp) (fun f => f)).trans (mk_blk w zE.toArray _ rfl)
  have z1 : W0.heap[w.heap.size + 1]? = some (.cells zE.toArray 27 (0, 0)) := hW0 ▸ mk_blk (w.alloc _) zE.toArray _ (by simp)
  have r0 := ZK.load ⟨_, _, z0, rfl⟩
  have HY := Lib.hid (And.intro z1 (And.intro z0 t0))
  have HF := Lib.hid (fit_bare (w := W0) x ((t0.block eb hel (fun f => f)).trans hb) h1 hx)
  clear z0 z1 t0
  go_wp2_with fail
  refine HF.out.mono ?_
  rintro r w4 ⟨rfl, hb4, t4⟩
  have hxe : ¬ w.heap.size = eb := by omega
  have hre : ¬ w.heap.size + 1 = eb := by omega
  have zx4 := (t4.block w.heap.size (blk_lt HY.out.2.1) hxe).trans HY.out.2.1
  have zr4 := (t4.block (w.heap.size + 1) (blk_lt HY.out.1) hre).trans HY.out.1
  have r4 := ZK.load (W := w4.drew) ⟨_, _, zx4, rfl⟩
  have HT4 := Lib.hid (And.intro hb4 (And.intro ((HY.out.2.2.mono (fun _ f => f.elim)).same t4) zr4))
  have HC1 := Lib.hid (anew_one' (w4.alloc (.cells #[.int .i64 0, .int .i64 0, .string ⟨#[]⟩, .slice none 0 0] 27)).drew w4.heap.size 1 ⟨_, _, mk_blk w4 zE.toArray 27 rfl, rfl⟩)
  have hell := blk_lt hb4
  clear hb4 t4 zx4 zr4 r0
  go_wp2_with fail
  (go_region_law? (first
    | (go_simp; go_at_call 96
       with_reducible change Calls _ _ #[.slice none _ _] _ _
       refine (anew_nil _).mono ?_
       rintro r w6 ⟨rfl, t6⟩
       have r6 := (HZ5.out.keep t6 (fun f => f)).load
       have t46 := HT5.out.same t6
       obtain ⟨w7, hrun0, hr7, t7⟩ := run_StoreE w6 (w.heap.size + 1) zE rfl (by intro u hu; simp only [zE, List.mem_cons, List.not_mem_nil, or_false] at hu; rcases hu with rfl | rfl | rfl | rfl <;> rfl) ((t46.block (w.heap.size + 1) (blk_lt HT4.out.2.2) (fun f => f)).trans HT4.out.2.2) rfl
       have hrun : (StoreE (.pointer (some ⟨w.heap.size + 1, 0, none⟩)) (.agg #[.int .i64 0, .int .i64 0, .string ⟨#[]⟩, .slice none 0 0])).run Try.prog w6 = .ok () w7 := hrun0
       have c0 : w7.cell? ⟨w.heap.size + 1, 0, none⟩ = some (.int .i64 0) := hr7 0 _ rfl
       have c1 : w7.cell? ⟨w.heap.size + 1, 1, none⟩ = some (.int .i64 0) := hr7 1 _ rfl
       have c2 : w7.cell? ⟨w.heap.size + 1, 2, none⟩ = some (.string ⟨#[]⟩) := hr7 2 _ rfl
       have c3 : w7.cell? ⟨w.heap.size + 1, 3, none⟩ = some (.slice none 0 0) := hr7 3 _ rfl
       have HT6 := Lib.hid (And.intro t46 t7)
       clear t6 t46 hr7 t7 hrun0)
    | (go_simp; go_at_call 96
       refine HC1.out.mono ?_
       rintro r w5 ⟨g, cap, rfl, hg, hz, t5⟩
       have t45 : Touch NoB w4 w5 := Touch.same (by repeat (first | with_reducible exact Touch.refl NoB _ | with_reducible refine Touch.drewN ?_ _ | with_reducible refine Touch.drew ?_ | with_reducible refine Touch.alloc ?_ _)) t5
       have r5 := hz.load
       have HZ5 := Lib.hid hz
       have HT5 := Lib.hid t45
       clear t5 t45 hz)))
  all_goals
    go_wp2
    refine bodyPost_ret (v := .tuple #[.agg #[.int .i64 0, .int .i64 0, .string ⟨#[]⟩, .slice none 0 0], .slice none 0 0, .bool true]) (by simp [results, Try.results66, go_sem, c0, c1, c2, c3]) rfl ?_
    have hl4 := blk_lt HT4.out.1
    have t47 : Touch (fun b => b = w.heap.size + 1) w4 w7 := (HT6.out.1.mono (fun _ f => f.elim)).same HT6.out.2
    exact ⟨rfl, (t47.block eb hl4 (by omega)).trans HT4.out.1, HT4.out.2.1.trans t47 (fun b hb => .inr (by omega))⟩
end Go.Proofs.Ytfpeennegmlcpaa
