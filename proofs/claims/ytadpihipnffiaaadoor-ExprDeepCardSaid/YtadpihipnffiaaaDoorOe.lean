/-
  What the tied variables hold, as the walks want it; the heap that the door's own run leaves meets the condition.
-/
import Derived.Test.YtadpihipnffiaaaDoorRows
import Derived.Test.YtadpihipnffiaaaDoorOb
import Derived.LaidMore
import Derived.LaidHandle
import Derived.LaidLaws
import Derived.Stop.LaidErr
import Derived.MakeChecks
import Derived.Lib.LaidTab
import Derived.ChangeSlices
namespace Go.Proofs.YtadpihipnffiaaaDoor
open Go.ChangeShapes Go.WideShapes Go.ChangeAt Go.RowKit
set_option maxRecDepth 100000

theorem own : ownKnob Tryd.prog.godebug = none := by kernel_rfl
def laid5 : List (String × DataW Unit) := [("math/bits.deBruijn32tab", Rows.laid_math_bits_deBruijn32tab), ("math/bits.deBruijn64tab", Rows.laid_math_bits_deBruijn64tab), ("internal/strconv.uint64pow10", Rows.laid_internal_strconv_uint64pow10), ("puppeteer/expr.levels", Rows.laid_puppeteer_expr_levels)]
/-- The door's own heap meets the condition: closed facts. -/
theorem door_met (os : Os) (args : Array Value) : laidMetH Tryd.prog laid5 ((World.doorLaid Tryd.prog 100 os).forCall (fun _ _ => 0) ⟨#[], args, []⟩).memory :=
  laidMetH_of_parts3 (fuel := 8) (laidMet_of_run' 8 (by kernel_rfl) (by kernel_rfl)) (by kernel_rfl) (by kernel_rfl)
theorem cells_int : Tryd.prog.cellsOf 3 = 1 := by kernel_rfl
theorem cells_sli : Tryd.prog.cellsOf 42 = 1 := by kernel_rfl
theorem lits_inj {H : Type} {k : IntKind} : ∀ {l m : List Int}, (lits k l : List (DataW H)) = lits k m → l = m
  | [], [], _ => rfl
  | a :: r, b :: q, h => by
    simp only [lits, List.map_cons, List.cons.injEq, DataW.lit.injEq, Lit.int.injEq, true_and] at h
    rw [h.1, lits_inj (k := k) (H := H) h.2]
  | [], b :: q, h => by simp [lits] at h
  | a :: r, [], h => by simp [lits] at h
theorem one_slice {H : Type} {enc : TypeId × Value → H} {W : World} {fuel : Nat} {cs : List Value} {held : Bool} {ops : List Int} {p : List MemPlace} (hne : ops ≠ [])
    (h : DataW.trod enc Tryd.prog W 0 (fun _ => true) held fuel 42 cs = some (.slice (lits .i64 ops) [], p)) :
    ∃ b o cap, cs = [.slice (some ⟨b, o, none⟩) ops.length cap] ∧ b < W.heap.size ∧ ∀ (i : Nat) (k : Int), ops[i]? = some k → W.cell? ⟨b, o + i, none⟩ = some (.int .i64 k) := by
  rcases open_ints Tryd.underlying42 Tryd.underlying3 cells_int h with ⟨_, hx⟩ | ⟨ad, len, cap, zs, rfl, _, hl, hmx, hz, hx, hcell, _⟩
  · simp at hx
  · simp only [Prod.mk.injEq, DataW.slice.injEq] at hx
    obtain ⟨⟨h1, h2⟩, -⟩ := hx
    have e1 := lits_inj h1
    have e2 : zs.drop len = [] := by
      cases hd : zs.drop len with
      | nil => rfl
      | cons a r => rw [hd] at h2; simp [lits] at h2
    have hzs : zs = ops := by rw [e1, ← List.append_nil (zs.take len), ← e2, List.take_append_drop]
    have hlen : len = ops.length := by
      have := congrArg List.length e1
      rw [List.length_take] at this
      simp only [if_true] at hz
      omega
    subst hzs
    have hpos : 0 < zs.length := List.length_pos_iff.2 hne
    obtain ⟨b, off, spot⟩ := ad
    have hspot : spot = none := by simpa [Addr.add] using World.cell?_spot (hcell 0 hpos)
    subst hspot
    have hc : ∀ (i : Nat) (k : Int), zs[i]? = some k → W.cell? ⟨b, off + i, none⟩ = some (.int .i64 k) := by
      intro i k hi
      have hil := (List.getElem?_eq_some_iff.1 hi).1
      have := hcell i hil
      rw [add_plain] at this
      rw [this, List.getD_eq_getElem?_getD, hi]
      rfl
    refine ⟨b, off, cap, by rw [hlen], ?_, hc⟩
    exact World.block_lt_of_cell? W ⟨b, off + 0, none⟩ (hc 0 _ (List.getElem?_eq_getElem hpos))
theorem levels_laid : (Rows.laid_puppeteer_expr_levels : DataW Unit) = .agg (lvs.map fun ops => .slice (lits .i64 ops) []) := rfl
theorem lv_of_laid {W : World} (h : laidMet Tryd.prog [("puppeteer/expr.levels", Rows.laid_puppeteer_expr_levels)] W) : LV W W.heap.size := by
  obtain ⟨ps, ⟨g', t', cs, fuel, p, q, hg', ht', hvar, hd, _, _⟩, _⟩ := h
  obtain rfl : 0 = g' := Option.some.inj ((show Tryd.prog.globalNamed "puppeteer/expr.levels" = some 0 by kernel_rfl).symm.trans hg')
  obtain rfl : 122 = t' := Option.some.inj ((show (Tryd.prog.globals[0]?).map (·.type) = some 122 by kernel_rfl).symm.trans ht')
  have hcell : ∀ i, W.cell? ⟨0, i, none⟩ = cs[i]? := fun i => by simpa using World.var?_cell (g := 0) (by kernel_rfl) hvar i
  rw [levels_laid] at hd
  cases fuel with
  | zero => simp [DataW.trod] at hd
  | succ fuel =>
    have hct : Tryd.prog.cellsOf 122 = 5 := by kernel_rfl
    simp only [DataW.trod, Tryd.underlying122, cells_sli, hct, Nat.mul_one] at hd
    split at hd
    · rename_i hl
      obtain ⟨xs, hm, hx⟩ := Option.map_eq_some_iff.1 hd
      have hxs : xs.map (·.1) = lvs.map fun ops => (.slice (lits .i64 ops) [] : DataW Unit) := by
        have := congrArg Prod.fst hx
        simpa using this
      have hall : ∀ (lv : Nat) (ops : List Int), lvs[lv]? = some ops → ∃ b o c, W.cell? ⟨0, lv, none⟩ = some (.slice (some ⟨b, o, none⟩) ops.length c) ∧ b < W.heap.size ∧ ∀ (i : Nat) (k : Int), ops[i]? = some k → W.cell? ⟨b, o + i, none⟩ = some (.int .i64 k) := by
        intro lv ops hlv
        have hlt : lv < 5 := (List.getElem?_eq_some_iff.1 hlv).1
        have hne : ops ≠ [] := by
          have : ∀ l ∈ lvs, l ≠ [] := by decide
          exact this ops (List.mem_of_getElem? hlv)
        obtain ⟨y, hb, hf⟩ := Lib.mapM_at hm lv lv (by simp [hlt])
        have h2 : (xs.map (·.1))[lv]? = some y.1 := by simp [hb]
        rw [hxs, List.getElem?_map, hlv] at h2
        simp only [Option.map_some, Option.some.injEq] at h2
        obtain ⟨y1, y2⟩ := y
        simp only at h2
        subst h2
        obtain ⟨b, o, cap, he, h3, h4⟩ := one_slice hne hf
        refine ⟨b, o, cap, ?_, h3, h4⟩
        rw [hcell, ← Array.getElem?_toList]
        have := congrArg (·[0]?) he
        simpa [List.getElem?_take, List.getElem?_drop] using this
      refine ⟨?_, Nat.le_refl _, hall⟩
      obtain ⟨b, o, c, h1, -, -⟩ := hall 0 [13] rfl
      exact Nat.lt_of_le_of_lt (Nat.zero_le _) (World.block_lt_of_cell? W ⟨0, 0, none⟩ h1)
    · cases hd
/-- What the condition gives the walks. -/
theorem en_of_laid {W : World} (h : laidMetH Tryd.prog laid5 W) : EN W := by
  rw [MakeChecks.laidMetH_plain _ _ _ (by kernel_rfl)] at h
  have h2 := h.tail.tail
  refine ⟨⟨W.heap.size, lv_of_laid h2.tail⟩, ?_⟩
  exact Lib.tabIs_of_head (g := 1) (t := 162) (e := 143) (n := 20) (by kernel_rfl) (by kernel_rfl) (by kernel_rfl) (by kernel_rfl) (by kernel_rfl) (by kernel_rfl) h2
end Go.Proofs.YtadpihipnffiaaaDoor
