/-
  EcsMaps: the ways out, and the list of calls opened to its cells.
-/
import Derived.Test.YtjddfmllphcehaaFf
import Derived.Test.YtjddfmllphcehaaTo
namespace Go.Proofs.Ytjddfmllphcehaa
open Go.ChangeShapes Go.WideShapes Go.ChangeAt Go.RowKit Go.Deep
set_option maxRecDepth 100000
set_option maxHeartbeats 1000000

theorem maps_out (A : Option Addr) (N cap : Nat) (w : World) (hN : N ≤ 9223372036854775807) (h : 60 < N) :
    Calls Try.prog 4 #[.slice A N cap] w fun e w' => e = .returned (.bool true) ∧ Touch NoB w w' := by
  go_enter Try.func4, Try.ntmps4
  go_wp2_with fail
  refine (ealive_any w).mono ?_
  rintro e w1 ⟨rfl, hT⟩
  have HT := Lib.hid hT
  clear hT
  go_wp2
  go_ret
  exact ⟨rfl, HT.out⟩

section
variable {H : Type} {enc : TypeId × Value → H} {P : Program} {w : World} {base : Nat} {spare : Nat → Bool} {held : Bool} {fuel : Nat}
/-- A field of one cell that is a bool. -/
theorem field_bool {t : TypeId} (he : P.underlying t = some .bool) (hc : P.cellsOf t = 1) {cs : List Value} {o : Nat} {xs : List (DataW H × List MemPlace)} {i : Nat} (hi : i < xs.length)
    (h : DataW.trod enc P w base spare held fuel t ((cs.drop o).take (P.cellsOf t)) = xs[i]?) : ∃ m, cs[o]? = some (.bool m) := by
  rw [List.getElem?_eq_getElem hi, hc] at h
  obtain ⟨m, hm, _⟩ := DataW.trod_bool he h
  have h1 := congrArg (fun l => l[0]?) hm
  simp [List.getElem?_drop] at h1
  exact ⟨m, h1⟩
end
theorem cellsOfId5 : Try.prog.cellsOf 30 = 2 := by kernel_rfl
theorem cellsOfBool5 : Try.prog.cellsOf 4 = 1 := by kernel_rfl
theorem cellsOfU165 : Try.prog.cellsOf 34 = 1 := by kernel_rfl
theorem cellsOfAct5 : Try.prog.cellsOf 36 = 10 := by kernel_rfl
theorem cellsOfCells5 : Try.prog.cellsOf 33 = 1 := by kernel_rfl

section
variable {H : Type} {enc : TypeId × Value → H} {w : World} {base : Nat} {held : Bool} {fuel : Nat}
theorem open_id5 {cs : List Value} {y : DataW H × List MemPlace} (h : DataW.trod enc Try.prog w base (fun _ => true) held fuel 30 cs = some y) : ∃ i x, cs[0]? = some (.int .i64 i) ∧ cs[1]? = some (.int .i64 x) ∧ I64 i ∧ I64 x := by
  obtain ⟨xs, n, _, _, hl, hxl, hf⟩ := DataW.trod_struct Try.underlying30 h
  simp at hxl
  obtain ⟨i, hi, wi⟩ := field_int Try.underlying3 cellsInt (by omega) (hf 0 _ rfl)
  obtain ⟨x, hx, wx⟩ := field_int Try.underlying3 cellsInt (by omega) (hf 1 _ rfl)
  exact ⟨i, x, hi, hx, wi, wx⟩
theorem open_act5 {cs : List Value} {y : DataW H × List MemPlace} (h : DataW.trod enc Try.prog w base (fun _ => true) held fuel 36 cs = some y) :
    ∃ way made at_ i x c v Ac n cp all nn cl, cs[0]? = some (.int .i64 way) ∧ cs[1]? = some (.bool made) ∧ cs[2]? = some (.int .i64 at_) ∧ cs[3]? = some (.int .i64 i) ∧ cs[4]? = some (.int .i64 x) ∧ cs[5]? = some (.int .i64 c) ∧ cs[6]? = some (.int .i64 v) ∧ cs[7]? = some (.slice Ac n cp) ∧ cs[8]? = some (.int .u16 all) ∧ cs[9]? = some (.int .u16 nn) ∧
      I64 i ∧ I64 x ∧ (0 ≤ all ∧ all < 65536) ∧ (0 ≤ nn ∧ nn < 65536) ∧ n ≤ 9223372036854775807 ∧ cl.length = n ∧ CellsAt w NoB Ac cl := by
  obtain ⟨xs, k, _, _, hl, hxl, hf⟩ := DataW.trod_struct Try.underlying36 h
  simp at hxl
  obtain ⟨way, h0, _⟩ := field_int Try.underlying3 cellsInt (by omega) (hf 0 _ rfl)
  obtain ⟨made, h1⟩ := field_bool Try.underlying4 cellsOfBool5 (by omega) (hf 1 _ rfl)
  obtain ⟨at_, h2, _⟩ := field_int Try.underlying3 cellsInt (by omega) (hf 2 _ rfl)
  have h3 : DataW.trod enc Try.prog w base (fun _ => true) held k 30 ((cs.drop 3).take (Try.prog.cellsOf 30)) = xs[3]? := hf 3 _ rfl
  rw [List.getElem?_eq_getElem (by omega)] at h3
  obtain ⟨i, x, h4, h5, wi, wx⟩ := open_id5 h3
  rw [cellsOfId5] at h4 h5
  simp [List.getElem?_drop] at h4 h5
  have h6 : DataW.trod enc Try.prog w base (fun _ => true) held k 32 ((cs.drop 5).take (Try.prog.cellsOf 32)) = xs[4]? := hf 4 _ rfl
  rw [List.getElem?_eq_getElem (by omega)] at h6
  obtain ⟨c, v, h7, h8⟩ := cell_open h6
  rw [cellsCell] at h7 h8
  simp [List.getElem?_drop] at h7 h8
  have h9 : DataW.trod enc Try.prog w base (fun _ => true) held k 33 ((cs.drop 7).take (Try.prog.cellsOf 33)) = xs[5]? := hf 5 _ rfl
  rw [List.getElem?_eq_getElem (by omega)] at h9
  obtain ⟨Ac, n, cp, cl, hcs, hcl, hle, hcp, hC⟩ := open_cells h9
  rw [cellsOfCells5] at hcs
  have h10 := congrArg (fun l => l[0]?) hcs
  simp [List.getElem?_drop] at h10
  obtain ⟨all, h11, wa⟩ := field_int Try.underlying34 cellsOfU165 (by omega) (hf 6 _ rfl)
  obtain ⟨nn, h12, wn⟩ := field_int Try.underlying34 cellsOfU165 (by omega) (hf 7 _ rfl)
  exact ⟨way, made, at_, i, x, c, v, Ac, n, cp, all, nn, cl, h0, h1, h2, h4, h5, h7, h8, h10, h11, h12, wi, wx, mask_range wa, mask_range wn, by omega, hcl, hC⟩

/-- The list of calls. -/
theorem open_acts {vs : List Value} {x : DataW H × List MemPlace} (h : DataW.trod enc Try.prog w base (fun _ => true) held fuel 22 vs = some x) :
    ∃ (A : Option Addr) (len cap : Nat), vs = [.slice A len cap] ∧ len ≤ 9223372036854775807 ∧ ∀ j, j < len → ∃ b off way made at_ i x c v Ac n cp all nn cl, A = some ⟨b, off, none⟩ ∧ b < w.heap.size ∧ MActAt w b off j way made at_ i x c v Ac n cp all nn ∧
      I64 i ∧ I64 x ∧ (0 ≤ all ∧ all < 65536) ∧ (0 ≤ nn ∧ nn < 65536) ∧ n ≤ 9223372036854775807 ∧ cl.length = n ∧ CellsAt w NoB Ac cl := by
  rcases open_slice Try.underlying22 h with ⟨hcs, _⟩ | ⟨ad, len, cap, k, n, D, Pl, hcs, _, hl, hk, hmm, _, hx⟩
  · exact ⟨none, 0, 0, hcs, by omega, fun j hj => by omega⟩
  · simp only [if_true] at hmm
    subst hmm
    unfold maxLen at hk
    refine ⟨some ad, len, _, hcs, by omega, ?_⟩
    intro j hj
    obtain ⟨cs, hc, ht⟩ := hx j (by omega)
    obtain ⟨way, made, at_, i, x, c, v, Ac, n', cp, all, nn, cl, c0, c1, c2, c3, c4, c5, c6, c7, c8, c9, r⟩ := open_act5 ht
    obtain ⟨_, _, hat⟩ := World.cells?_some hc
    rw [cellsOfAct5] at hat
    have e0 := (hat 0 (by omega)).trans c0
    have e1 := (hat 1 (by omega)).trans c1
    have e2 := (hat 2 (by omega)).trans c2
    have e3 := (hat 3 (by omega)).trans c3
    have e4 := (hat 4 (by omega)).trans c4
    have e5 := (hat 5 (by omega)).trans c5
    have e6 := (hat 6 (by omega)).trans c6
    have e7 := (hat 7 (by omega)).trans c7
    have e8 := (hat 8 (by omega)).trans c8
    have e9 := (hat 9 (by omega)).trans c9
    have hspot : ad.spot = none := by
      obtain ⟨cs0, hc0, ht0⟩ := hx 0 (by omega)
      obtain ⟨_, _, _, _, _, _, _, _, _, _, _, _, _, d0, _⟩ := open_act5 ht0
      obtain ⟨_, _, hat0⟩ := World.cells?_some hc0
      rw [cellsOfAct5] at hat0
      simpa [Addr.add] using World.cell?_spot ((hat0 0 (by omega)).trans d0)
    obtain ⟨b, off, spot⟩ := ad
    simp only at hspot
    subst hspot
    simp only [add_plain] at e0 e1 e2 e3 e4 e5 e6 e7 e8 e9
    exact ⟨b, off, way, made, at_, i, x, c, v, Ac, n', cp, all, nn, cl, rfl, World.block_lt_of_cell? w _ e0, ⟨by simpa using e0, e1, e2, e3, e4, e5, e6, e7, e8, e9⟩, r⟩
end

theorem maps_any {H : Type} (a : Option Addr) (len cap : Nat) (d : DataW H) (p : List MemPlace) (w : World) (enc : TypeId × Value → H) (h : DataW.Trod enc Try.prog w 0 (fun _ => true) true 22 (.slice a len cap) d p) :
    Calls Try.prog 4 #[.slice a len cap] w fun e w' => e = .returned (.bool true) ∧ Touch NoB w w' := by
  obtain ⟨fuel, hf⟩ := h
  obtain ⟨A, N, C, hcs, hN, hz⟩ := open_acts hf
  simp [Value.cells] at hcs
  obtain ⟨rfl, rfl, rfl⟩ := hcs
  by_cases h : 60 < len
  · exact maps_out _ len _ w hN h
  · refine maps_in _ len _ w (by omega) fun j hj => ?_
    obtain ⟨b, off, way, made, at_, i, x, c, v, Ac, n, cp, all, nn, cl, h1, h2, h3, _⟩ := hz j hj
    exact ⟨b, off, way, made, at_, i, x, c, v, Ac, n, cp, all, nn, h1, h2, h3⟩
end Go.Proofs.Ytjddfmllphcehaa
