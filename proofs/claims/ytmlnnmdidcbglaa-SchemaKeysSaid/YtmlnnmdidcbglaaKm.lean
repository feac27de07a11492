/-
  The list of keys of SchemaKeys opened to its cells in memory.
-/
import Derived.Test.YtmlnnmdidcbglaaKk
import Derived.Test.YtmlnnmdidcbglaaKl
import Derived.Deep.Slices
import Derived.ChangeSame
import Derived.ChangeSlices
import Derived.Carry
namespace Go.Proofs.Ytmlnnmdidcbglaa
open Go.ChangeShapes Go.WideShapes Go.ChangeAt Go.RowKit Go.Deep
set_option maxRecDepth 100000
set_option maxHeartbeats 1000000

theorem cellsOfInt7 : Try.prog.cellsOf 3 = 1 := by kernel_rfl
theorem cellsOfBool7 : Try.prog.cellsOf 4 = 1 := by kernel_rfl
theorem cellsOfString7 : Try.prog.cellsOf 9 = 1 := by kernel_rfl
theorem cellsOfKey7 : Try.prog.cellsOf 35 = 3 := by kernel_rfl

section
variable {H : Type} {enc : TypeId × Value → H} {w : World} {base : Nat} {held : Bool} {fuel : Nat}
theorem key_open {cs : List Value} {y : DataW H × List MemPlace} (h : DataW.trod enc Try.prog w base (fun _ => true) held fuel 35 cs = some y) : ∃ k : Ky, cs[0]? = some (.string k.nm) ∧ cs[1]? = some (.int .i64 k.kd) ∧ cs[2]? = some (.bool k.sh) ∧ k.nm.size ≤ 9223372036854775807 := by
  obtain ⟨xs, n, _, _, hl, hxl, hf⟩ := DataW.trod_struct Try.underlying35 h
  simp at hxl
  have h0 : DataW.trod enc Try.prog w base (fun _ => true) held n 9 ((cs.drop 0).take (Try.prog.cellsOf 9)) = xs[0]? := hf 0 _ rfl
  have h1 : DataW.trod enc Try.prog w base (fun _ => true) held n 3 ((cs.drop 1).take (Try.prog.cellsOf 3)) = xs[1]? := hf 1 _ rfl
  have h2 : DataW.trod enc Try.prog w base (fun _ => true) held n 4 ((cs.drop 2).take (Try.prog.cellsOf 4)) = xs[2]? := hf 2 _ rfl
  rw [List.getElem?_eq_getElem (by omega), cellsOfString7] at h0
  rw [List.getElem?_eq_getElem (by omega), cellsOfInt7] at h1
  rw [List.getElem?_eq_getElem (by omega), cellsOfBool7] at h2
  obtain ⟨s, hs, _, hss⟩ := DataW.trod_string Try.underlying9 h0
  obtain ⟨m, hm, _, _⟩ := DataW.trod_int Try.underlying3 h1
  obtain ⟨b, hb, _⟩ := DataW.trod_bool Try.underlying4 h2
  have g0 := congrArg (fun l => l[0]?) hs
  have g1 := congrArg (fun l => l[0]?) hm
  have g2 := congrArg (fun l => l[0]?) hb
  simp [List.getElem?_drop] at g0 g1 g2
  unfold maxLen at hss
  exact ⟨⟨s, m, b⟩, g0, g1, g2, by simpa using hss⟩
theorem open_keys {vs : List Value} {x : DataW H × List MemPlace} (h : DataW.trod enc Try.prog w base (fun _ => true) held fuel 22 vs = some x) :
    vs = [.slice none 0 0] ∨ ∃ (ad : Addr) (len cap : Nat) (l : List Ky), vs = [.slice (some ad) len cap] ∧ l.length = len ∧ len ≤ cap ∧ cap ≤ 9223372036854775807 ∧ KAt w NoB (some ad) l := by
  rcases open_slice Try.underlying22 h with ⟨hcs, _⟩ | ⟨ad, len, cap, m, n, D, Pl, hcs, _, hl, hm, hmm, _, hx⟩
  · exact .inl hcs
  · simp only [if_true] at hmm
    subst hmm
    unfold maxLen at hm
    have hspot : 0 < len → ad.spot = none := by
      intro h0
      obtain ⟨cs0, hc0, ht0⟩ := hx 0 (by omega)
      obtain ⟨_, d0, _⟩ := key_open ht0
      obtain ⟨_, _, hat0⟩ := World.cells?_some hc0
      rw [cellsOfKey7] at hat0
      simpa [Addr.add] using World.cell?_spot ((hat0 0 (by omega)).trans d0)
    have each : ∀ i, i < len → ∃ k : Ky, k.nm.size ≤ 9223372036854775807 ∧ w.cell? ⟨ad.block, ad.off + i * 3, none⟩ = some (.string k.nm) ∧ w.cell? ⟨ad.block, ad.off + i * 3 + 1, none⟩ = some (.int .i64 k.kd) ∧ w.cell? ⟨ad.block, ad.off + i * 3 + 2, none⟩ = some (.bool k.sh) := by
      intro i hi
      obtain ⟨cs, hc, ht⟩ := hx i (by omega)
      obtain ⟨k, d0, d1, d2, hs⟩ := key_open ht
      obtain ⟨_, _, hat⟩ := World.cells?_some hc
      rw [cellsOfKey7] at hat
      have e0 := (hat 0 (by omega)).trans d0
      have e1 := (hat 1 (by omega)).trans d1
      have e2 := (hat 2 (by omega)).trans d2
      have hsp := hspot (by omega)
      obtain ⟨b, off, spot⟩ := ad
      simp only at hsp
      subst hsp
      simp only [add_plain] at e0 e1 e2
      exact ⟨k, hs, by simpa using e0, e1, e2⟩
    refine .inr ⟨ad, len, _, (List.range len).map (fun i => if h : i < len then (each i h).choose else ⟨⟨#[]⟩, 0, false⟩), hcs, by simp, hl, by omega, ?_⟩
    intro j k hj
    have hjl : j < len := by
      have := (List.getElem?_eq_some_iff.1 hj).1
      simpa using this
    rw [List.getElem?_map, List.getElem?_range hjl] at hj
    simp only [Option.map_some, hjl, dif_pos] at hj
    injection hj with hj
    have hs := (each j hjl).choose_spec
    rw [hj] at hs
    have hsp := hspot (by omega)
    obtain ⟨b, off, spot⟩ := ad
    simp only at hsp
    subst hsp
    exact ⟨hs.1, b, off, rfl, World.block_lt_of_cell? w _ hs.2.1, fun e => e, hs.2.1, hs.2.2.1, hs.2.2.2⟩
end

theorem keys_any {H : Type} (a : Option Addr) (len cap : Nat) (d : DataW H) (p : List MemPlace) (s : ByteArray) (at_ : Int) (w : World) (enc : TypeId × Value → H) (hs : s.size ≤ 9223372036854775807) (h : DataW.Trod enc Try.prog w 0 (fun _ => true) true 22 (.slice a len cap) d p) :
    Calls Try.prog 3 #[.slice a len cap, .string s, .int .i64 at_] w fun e w' => e = .returned (.bool true) ∧ Touch NoB w w' := by
  obtain ⟨fuel, hf⟩ := h
  rcases open_keys hf with hcs | ⟨ad, N, C, l, hcs, hl, hN, hC, hK⟩
  · simp [Value.cells] at hcs
    obtain ⟨rfl, rfl, rfl⟩ := hcs
    by_cases h6 : s.size ≤ 60
    · exact keys_nil s at_ w h6
    · exact keys_out none 0 0 s at_ w (by decide) hs (.inr (by omega))
  · simp [Value.cells] at hcs
    obtain ⟨rfl, rfl, rfl⟩ := hcs
    by_cases h6 : len ≤ 120 ∧ s.size ≤ 60
    · exact keys_some ad len cap l s at_ w hl h6.1 h6.2 hN hC hK
    · exact keys_out _ len cap s at_ w (by omega) hs (by omega)
end Go.Proofs.Ytmlnnmdidcbglaa
