/-
  Arguments that are lists of cells, opened to their cells in memory.
-/
import Derived.Test.YtjddfmllphcehaaTd
import Derived.Deep.Slices
import Derived.ChangeSame
import Derived.ChangeSlices
import Derived.Carry
namespace Go.Proofs.Ytjddfmllphcehaa
open Go.ChangeShapes Go.WideShapes Go.ChangeAt Go.RowKit Go.Deep
set_option maxRecDepth 100000

section
variable {H : Type} {enc : TypeId × Value → H} {P : Program} {w : World} {base : Nat} {spare : Nat → Bool} {held : Bool} {fuel : Nat}
/-- A field of one cell that is an int. -/
theorem field_int {t : TypeId} {k : IntKind} (he : P.underlying t = some (.int k)) (hc : P.cellsOf t = 1) {cs : List Value} {o : Nat} {xs : List (DataW H × List MemPlace)} {i : Nat} (hi : i < xs.length)
    (h : DataW.trod enc P w base spare held fuel t ((cs.drop o).take (P.cellsOf t)) = xs[i]?) : ∃ m, cs[o]? = some (.int k m) ∧ (Lit.int k m).wf = true := by
  rw [List.getElem?_eq_getElem hi, hc] at h
  obtain ⟨m, hm, _, hw⟩ := DataW.trod_int he h
  have h1 := congrArg (fun l => l[0]?) hm
  simp [List.getElem?_drop] at h1
  exact ⟨m, h1, hw⟩
end

/-- The range of a mask. -/
theorem mask_range {m : Int} (h : (Lit.int .u16 m).wf = true) : 0 ≤ m ∧ m < 65536 := by
  have h1 : IntKind.u16.min = 0 := by decide
  have h2 : IntKind.u16.max = 65535 := by decide
  simp [Lit.wf] at h
  rw [h1, h2] at h
  omega
theorem cellsCell : Try.prog.cellsOf 32 = 2 := by kernel_rfl

section
variable {H : Type} {enc : TypeId × Value → H} {w : World} {base : Nat} {spare : Nat → Bool} {held : Bool} {fuel : Nat}
theorem cell_open {cs : List Value} {y : DataW H × List MemPlace} (h : DataW.trod enc Try.prog w base spare held fuel 32 cs = some y) : ∃ i x, cs[0]? = some (.int .i64 i) ∧ cs[1]? = some (.int .i64 x) := by
  obtain ⟨xs, n, _, _, hl, hxl, hf⟩ := DataW.trod_struct Try.underlying32 h
  simp at hxl
  obtain ⟨i, hi, _⟩ := field_int Try.underlying3 cellsInt (by omega) (hf 0 _ rfl)
  obtain ⟨x, hx, _⟩ := field_int Try.underlying3 cellsInt (by omega) (hf 1 _ rfl)
  exact ⟨i, x, hi, hx⟩
theorem open_cells {vs : List Value} {x : DataW H × List MemPlace} (h : DataW.trod enc Try.prog w base (fun _ => true) held fuel 33 vs = some x) :
    ∃ (a : Option Addr) (len cap : Nat) (cl : List (Int × Int)), vs = [.slice a len cap] ∧ cl.length = len ∧ len ≤ cap ∧ cap ≤ 9223372036854775807 ∧ CellsAt w NoB a cl := by
  rcases open_slice Try.underlying33 h with ⟨hcs, _⟩ | ⟨ad, len, cap, m, n, D, Pl, hcs, _, hl, hm, hmm, _, hx⟩
  · exact ⟨none, 0, 0, [], hcs, rfl, Nat.le_refl _, by omega, fun j c v hj => by simp at hj⟩
  · simp only [if_true] at hmm
    subst hmm
    unfold maxLen at hm
    have hspot : 0 < len → ad.spot = none := by
      intro h0
      obtain ⟨cs0, hc0, ht0⟩ := hx 0 (by omega)
      obtain ⟨_, _, d0, _⟩ := cell_open ht0
      obtain ⟨_, _, hat0⟩ := World.cells?_some hc0
      rw [cellsCell] at hat0
      simpa [Addr.add] using World.cell?_spot ((hat0 0 (by omega)).trans d0)
    have each : ∀ i, i < len → ∃ p : Int × Int, w.cell? ⟨ad.block, ad.off + i * 2, none⟩ = some (.int .i64 p.1) ∧ w.cell? ⟨ad.block, ad.off + i * 2 + 1, none⟩ = some (.int .i64 p.2) := by
      intro i hi
      obtain ⟨cs, hc, ht⟩ := hx i (by omega)
      obtain ⟨c, v, d0, d1⟩ := cell_open ht
      obtain ⟨_, _, hat⟩ := World.cells?_some hc
      rw [cellsCell] at hat
      have e0 := (hat 0 (by omega)).trans d0
      have e1 := (hat 1 (by omega)).trans d1
      have hsp := hspot (by omega)
      obtain ⟨b, off, spot⟩ := ad
      simp only at hsp
      subst hsp
      simp only [add_plain] at e0 e1
      exact ⟨(c, v), by simpa using e0, e1⟩
    refine ⟨some ad, len, _, (List.range len).map (fun i => if h : i < len then (each i h).choose else (0, 0)), hcs, by simp, hl, by omega, ?_⟩
    intro j c v hj
    have hjl : j < len := by
      have := (List.getElem?_eq_some_iff.1 hj).1
      simpa using this
    rw [List.getElem?_map, List.getElem?_range hjl] at hj
    simp only [Option.map_some, hjl, dif_pos] at hj
    injection hj with hj
    have hs := (each j hjl).choose_spec
    rw [hj] at hs
    have hsp := hspot (by omega)
    obtain ⟨b, off, spot⟩ := ad
    simp only at hsp
    subst hsp
    exact ⟨b, off, rfl, World.block_lt_of_cell? w _ hs.1, fun e => e, hs.1, hs.2⟩
end
end Go.Proofs.Ytjddfmllphcehaa
