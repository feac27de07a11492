/-
  TablePlays: the ways out, and the list of calls opened to its cells.
-/
import Derived.Test.YtmafhcfdamhejaaTr
import Derived.Test.YtmafhcfdamhejaaTo
namespace Go.Proofs.Ytmafhcfdamhejaa
open Go.ChangeShapes Go.WideShapes Go.ChangeAt Go.RowKit Go.Deep

set_option maxHeartbeats 1000000 in
set_option maxRecDepth 100000 in
theorem tablePlays_out (m : Int) (A : Option Addr) (N cap : Nat) (w : World) (hN : N ≤ 9223372036854775807) (h : 80 < N) :
    Calls Try.prog 4 #[.int .u16 m, .slice A N cap] w fun e w' => e = .returned (.bool true) ∧ Touch NoB w w' := by
  go_enter Try.func4, Try.ntmps4
  go_wp2_with fail
  refine (talive_any w).mono ?_
  rintro e w1 ⟨rfl, hT⟩
  have HT := Lib.hid hT
  clear hT
  go_wp2
  go_ret
  exact ⟨rfl, HT.out⟩

theorem cellsOfId : Try.prog.cellsOf 30 = 2 := by kernel_rfl
theorem cellsOfAct : Try.prog.cellsOf 53 = 7 := by kernel_rfl
theorem cellsOfCells : Try.prog.cellsOf 51 = 1 := by kernel_rfl

section
variable {H : Type} {enc : TypeId × Value → H} {w : World} {base : Nat} {held : Bool} {fuel : Nat}
theorem open_id {cs : List Value} {y : DataW H × List MemPlace} (h : DataW.trod enc Try.prog w base (fun _ => true) held fuel 30 cs = some y) : ∃ i x, cs[0]? = some (.int .i64 i) ∧ cs[1]? = some (.int .i64 x) ∧ I64 i ∧ I64 x := by
  obtain ⟨xs, n, _, _, hl, hxl, hf⟩ := DataW.trod_struct Try.underlying30 h
  simp at hxl
  obtain ⟨i, hi, wi⟩ := field_int Try.underlying3 cellsInt (by omega) (hf 0 _ rfl)
  obtain ⟨x, hx, wx⟩ := field_int Try.underlying3 cellsInt (by omega) (hf 1 _ rfl)
  exact ⟨i, x, hi, hx, wi, wx⟩
theorem open_act {cs : List Value} {y : DataW H × List MemPlace} (h : DataW.trod enc Try.prog w base (fun _ => true) held fuel 53 cs = some y) :
    ∃ way row comp val i x Ac n cp cl, cs[0]? = some (.int .i64 way) ∧ cs[1]? = some (.int .i64 row) ∧ cs[2]? = some (.int .i64 comp) ∧ cs[3]? = some (.int .i64 val) ∧ cs[4]? = some (.int .i64 i) ∧ cs[5]? = some (.int .i64 x) ∧ cs[6]? = some (.slice Ac n cp) ∧
      I64 i ∧ I64 x ∧ n ≤ 9223372036854775807 ∧ cl.length = n ∧ CellsAt w NoB Ac cl := by
  obtain ⟨xs, k, _, _, hl, hxl, hf⟩ := DataW.trod_struct Try.underlying53 h
  simp at hxl
  obtain ⟨way, h0, _⟩ := field_int Try.underlying3 cellsInt (by omega) (hf 0 _ rfl)
  obtain ⟨row, h1, _⟩ := field_int Try.underlying3 cellsInt (by omega) (hf 1 _ rfl)
  obtain ⟨comp, h2, _⟩ := field_int Try.underlying3 cellsInt (by omega) (hf 2 _ rfl)
  obtain ⟨val, h3, _⟩ := field_int Try.underlying3 cellsInt (by omega) (hf 3 _ rfl)
  have h4 : DataW.trod enc Try.prog w base (fun _ => true) held k 30 ((cs.drop 4).take (Try.prog.cellsOf 30)) = xs[4]? := hf 4 _ rfl
  rw [List.getElem?_eq_getElem (by omega)] at h4
  obtain ⟨i, x, h5, h6, wi, wx⟩ := open_id h4
  rw [cellsOfId] at h5 h6
  simp [List.getElem?_drop] at h5 h6
  have h7 : DataW.trod enc Try.prog w base (fun _ => true) held k 51 ((cs.drop 6).take (Try.prog.cellsOf 51)) = xs[5]? := hf 5 _ rfl
  rw [List.getElem?_eq_getElem (by omega)] at h7
  obtain ⟨Ac, n, cp, cl, hcs, hcl, hle, hcp, hC⟩ := open_cells h7
  rw [cellsOfCells] at hcs
  have h8 := congrArg (fun l => l[0]?) hcs
  simp [List.getElem?_drop] at h8
  exact ⟨way, row, comp, val, i, x, Ac, n, cp, cl, h0, h1, h2, h3, h5, h6, h8, wi, wx, by omega, hcl, hC⟩
end

theorem tablePlays_any {H : Type} (m : Int) (hm : 0 ≤ m) (hm2 : m < 65536) (a : Option Addr) (len cap : Nat) (d : DataW H) (p : List MemPlace) (w : World) (enc : TypeId × Value → H) (h : DataW.Trod enc Try.prog w 0 (fun _ => true) true 46 (.slice a len cap) d p) :
    Calls Try.prog 4 #[.int .u16 m, .slice a len cap] w fun e w' => e = .returned (.bool true) ∧ Touch NoB w w' := by
  obtain ⟨fuel, hf⟩ := h
  rcases open_slice Try.underlying46 hf with ⟨hcs, _⟩ | ⟨ad, len', cap', k, n, D, Pl, hcs, _, hl, hk, hmm, _, hx⟩
  · simp [Value.cells] at hcs
    obtain ⟨rfl, rfl, rfl⟩ := hcs
    exact tablePlays_in m none 0 0 w hm hm2 (by omega) (fun j hj => by omega)
  · simp [Value.cells] at hcs
    obtain ⟨rfl, rfl, rfl⟩ := hcs
    simp only [if_true] at hmm
    subst hmm
    unfold maxLen at hk
    by_cases h : 80 < len
    · exact tablePlays_out m _ len _ w (by omega) h
    · refine tablePlays_in m _ len _ w hm hm2 (by omega) ?_
      intro j hj
      obtain ⟨cs, hc, ht⟩ := hx j (by omega)
      obtain ⟨way, row, comp, val, i, x, Ac, n', cp, cl, c0, c1, c2, c3, c4, c5, c6, wi, wx, hn, hcl, hC⟩ := open_act ht
      obtain ⟨_, _, hat⟩ := World.cells?_some hc
      rw [cellsOfAct] at hat
      have e0 := (hat 0 (by omega)).trans c0
      have e1 := (hat 1 (by omega)).trans c1
      have e2 := (hat 2 (by omega)).trans c2
      have e3 := (hat 3 (by omega)).trans c3
      have e4 := (hat 4 (by omega)).trans c4
      have e5 := (hat 5 (by omega)).trans c5
      have e6 := (hat 6 (by omega)).trans c6
      have hspot : ad.spot = none := by
        obtain ⟨cs0, hc0, ht0⟩ := hx 0 (by omega)
        obtain ⟨_, _, _, _, _, _, _, _, _, _, d0, _⟩ := open_act ht0
        obtain ⟨_, _, hat0⟩ := World.cells?_some hc0
        rw [cellsOfAct] at hat0
        simpa [Addr.add] using World.cell?_spot ((hat0 0 (by omega)).trans d0)
      obtain ⟨b, off, spot⟩ := ad
      simp only at hspot
      subst hspot
      simp only [add_plain] at e0 e1 e2 e3 e4 e5 e6
      exact ⟨b, off, way, row, comp, val, i, x, Ac, n', cp, cl, rfl, World.block_lt_of_cell? w _ e0, ⟨by simpa using e0, e1, e2, e3, e4, e5, e6⟩, wi, wx, hn, hcl, hC⟩
end Go.Proofs.Ytmafhcfdamhejaa
