/-
  IdsPlay: the ways out, and the list of calls opened to its cells.
-/
import Derived.Test.YtmafhcfdamhejaaIq
import Derived.Deep.Slices
import Derived.ChangeSame
import Derived.ChangeSlices
import Derived.Carry
namespace Go.Proofs.Ytmafhcfdamhejaa
open Go.ChangeShapes Go.WideShapes Go.ChangeAt Go.RowKit Go.Deep

set_option maxHeartbeats 1000000 in
set_option maxRecDepth 100000 in
theorem idsPlay_out (room : Int) (A : Option Addr) (N cap : Nat) (w : World) (hN : N ≤ 9223372036854775807) (h : 100 < N) :
    Calls Try.prog 3 #[.int .i64 room, .slice A N cap] w fun e w' => e = .returned (.bool true) ∧ Touch NoB w w' := by
  go_enter Try.func3, Try.ntmps3
  go_wp2_with fail
  refine (alive_any w).mono ?_
  rintro e w1 ⟨rfl, hT⟩
  have HT := Lib.hid hT
  clear hT
  go_wp2
  go_ret
  exact ⟨rfl, HT.out⟩

section
variable {H : Type} {enc : TypeId × Value → H} {P : Program} {w : World} {base : Nat} {spare : Nat → Bool} {held : Bool} {fuel : Nat}
/-- A field of one cell that is an int. -/
theorem part_int {t : TypeId} {k : IntKind} (he : P.underlying t = some (.int k)) (hc : P.cellsOf t = 1) {cs : List Value} {o : Nat} {xs : List (DataW H × List MemPlace)} {i : Nat} (hi : i < xs.length)
    (h : DataW.trod enc P w base spare held fuel t ((cs.drop o).take (P.cellsOf t)) = xs[i]?) : ∃ m, cs[o]? = some (.int k m) := by
  rw [List.getElem?_eq_getElem hi, hc] at h
  obtain ⟨m, hm, _, _⟩ := DataW.trod_int he h
  have h1 := congrArg (fun l => l[0]?) hm
  simp [List.getElem?_drop] at h1
  exact ⟨m, h1⟩
theorem part_bool {t : TypeId} (he : P.underlying t = some .bool) (hc : P.cellsOf t = 1) {cs : List Value} {o : Nat} {xs : List (DataW H × List MemPlace)} {i : Nat} (hi : i < xs.length)
    (h : DataW.trod enc P w base spare held fuel t ((cs.drop o).take (P.cellsOf t)) = xs[i]?) : ∃ b, cs[o]? = some (.bool b) := by
  rw [List.getElem?_eq_getElem hi, hc] at h
  obtain ⟨m, hm, _⟩ := DataW.trod_bool he h
  have h1 := congrArg (fun l => l[0]?) hm
  simp [List.getElem?_drop] at h1
  exact ⟨m, h1⟩
end

theorem cellsOf_int : Try.prog.cellsOf 3 = 1 := by kernel_rfl
theorem cellsOf_bool : Try.prog.cellsOf 4 = 1 := by kernel_rfl
theorem cellsOf_id : Try.prog.cellsOf 30 = 2 := by kernel_rfl
theorem cellsOf_act : Try.prog.cellsOf 35 = 5 := by kernel_rfl

section
variable {H : Type} {enc : TypeId × Value → H} {w : World} {base : Nat} {spare : Nat → Bool} {held : Bool} {fuel : Nat}
theorem id_open {cs : List Value} {y : DataW H × List MemPlace} (h : DataW.trod enc Try.prog w base spare held fuel 30 cs = some y) : ∃ i x, cs[0]? = some (.int .i64 i) ∧ cs[1]? = some (.int .i64 x) := by
  obtain ⟨xs, n, _, _, hl, hxl, hf⟩ := DataW.trod_struct Try.underlying30 h
  simp at hxl
  obtain ⟨i, hi⟩ := part_int Try.underlying3 cellsOf_int (by omega) (hf 0 _ rfl)
  obtain ⟨x, hx⟩ := part_int Try.underlying3 cellsOf_int (by omega) (hf 1 _ rfl)
  exact ⟨i, x, hi, hx⟩
theorem act_open {cs : List Value} {y : DataW H × List MemPlace} (h : DataW.trod enc Try.prog w base spare held fuel 35 cs = some y) :
    ∃ dr mk i x n, cs[0]? = some (.bool dr) ∧ cs[1]? = some (.bool mk) ∧ cs[2]? = some (.int .i64 i) ∧ cs[3]? = some (.int .i64 x) ∧ cs[4]? = some (.int .i64 n) := by
  obtain ⟨xs, n, _, _, hl, hxl, hf⟩ := DataW.trod_struct Try.underlying35 h
  simp at hxl
  obtain ⟨dr, h0⟩ := part_bool Try.underlying4 cellsOf_bool (by omega) (hf 0 _ rfl)
  obtain ⟨mk, h1⟩ := part_bool Try.underlying4 cellsOf_bool (by omega) (hf 1 _ rfl)
  obtain ⟨m, h4⟩ := part_int Try.underlying3 cellsOf_int (by omega) (hf 3 _ rfl)
  have h2 : DataW.trod enc Try.prog w base spare held n 30 ((cs.drop 2).take (Try.prog.cellsOf 30)) = xs[2]? := hf 2 _ rfl
  rw [List.getElem?_eq_getElem (by omega)] at h2
  obtain ⟨i, x, h5, h6⟩ := id_open h2
  rw [cellsOf_id] at h5 h6
  simp [List.getElem?_drop] at h5 h6
  exact ⟨dr, mk, i, x, m, h0, h1, h5, h6, h4⟩
end

theorem idsPlay_any {H : Type} (room : Int) (a : Option Addr) (len cap : Nat) (d : DataW H) (p : List MemPlace) (w : World) (enc : TypeId × Value → H) (h : DataW.Trod enc Try.prog w 0 (fun _ => true) true 22 (.slice a len cap) d p) :
    Calls Try.prog 3 #[.int .i64 room, .slice a len cap] w fun e w' => e = .returned (.bool true) ∧ Touch NoB w w' := by
  obtain ⟨fuel, hf⟩ := h
  rcases open_slice Try.underlying22 hf with ⟨hcs, _⟩ | ⟨ad, len', cap', m, n, D, Pl, hcs, _, hl, hm, hmm, _, hx⟩
  · simp [Value.cells] at hcs
    obtain ⟨rfl, rfl, rfl⟩ := hcs
    exact idsPlay_in room none 0 0 w (by omega) (fun j hj => by omega)
  · simp [Value.cells] at hcs
    obtain ⟨rfl, rfl, rfl⟩ := hcs
    simp only [if_true] at hmm
    subst hmm
    unfold maxLen at hm
    by_cases h : 100 < len
    · exact idsPlay_out room _ len _ w (by omega) h
    · refine idsPlay_in room _ len _ w (by omega) ?_
      intro j hj
      obtain ⟨cs, hc, ht⟩ := hx j (by omega)
      obtain ⟨dr, mk, i, x, n, c0, c1, c2, c3, c4⟩ := act_open ht
      obtain ⟨_, _, hat⟩ := World.cells?_some hc
      rw [cellsOf_act] at hat
      have e0 := (hat 0 (by omega)).trans c0
      have e1 := (hat 1 (by omega)).trans c1
      have e2 := (hat 2 (by omega)).trans c2
      have e3 := (hat 3 (by omega)).trans c3
      have e4 := (hat 4 (by omega)).trans c4
      have hspot : ad.spot = none := by
        obtain ⟨cs0, hc0, ht0⟩ := hx 0 (by omega)
        obtain ⟨_, _, _, _, _, d0, _⟩ := act_open ht0
        obtain ⟨_, _, hat0⟩ := World.cells?_some hc0
        rw [cellsOf_act] at hat0
        simpa [Addr.add] using World.cell?_spot ((hat0 0 (by omega)).trans d0)
      obtain ⟨b, off, spot⟩ := ad
      simp only at hspot
      subst hspot
      simp only [add_plain] at e0 e1 e2 e3 e4
      exact ⟨b, off, dr, mk, i, x, n, rfl, World.block_lt_of_cell? w _ e0, by simpa using e0, e1, e2, e3, e4⟩
end Go.Proofs.Ytmafhcfdamhejaa
