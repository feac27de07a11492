/-
  CheckKinds: its arguments opened to their cells in memory.
-/
import Derived.Test.YtblcmgahgpnjmaaCk
import Derived.Deep.Slices
import Derived.ChangeSame
import Derived.ChangeSlices
namespace Go.Proofs.Ytblcmgahgpnjmaa
open Go.ChangeShapes Go.WideShapes Go.ChangeAt Go.RowKit Go.Deep
set_option maxRecDepth 100000
set_option maxHeartbeats 1000000

section
variable {H : Type} {enc : TypeId × Value → H} {w : World} {base : Nat} {held : Bool} {fuel : Nat}
theorem key_openW {cs : List Value} {y : DataW H × List MemPlace} (h : DataW.trod enc Try.prog w base (fun _ => true) held fuel 29 cs = some y) : ∃ k : KyG, cs[0]? = some (.string k.nm) ∧ cs[1]? = some (.int .i64 k.kd) ∧ cs[2]? = some (.bool k.sh) ∧ k.nm.size ≤ 9223372036854775807 ∧ W64 k.kd := by
  obtain ⟨xs, n, _, _, hl, hxl, hf⟩ := DataW.trod_struct Try.underlying29 h
  simp at hxl
  have h0 : DataW.trod enc Try.prog w base (fun _ => true) held n 9 ((cs.drop 0).take (Try.prog.cellsOf 9)) = xs[0]? := hf 0 _ rfl
  have h1 : DataW.trod enc Try.prog w base (fun _ => true) held n 3 ((cs.drop 1).take (Try.prog.cellsOf 3)) = xs[1]? := hf 1 _ rfl
  have h2 : DataW.trod enc Try.prog w base (fun _ => true) held n 4 ((cs.drop 2).take (Try.prog.cellsOf 4)) = xs[2]? := hf 2 _ rfl
  rw [List.getElem?_eq_getElem (by omega), cellsGString] at h0
  rw [List.getElem?_eq_getElem (by omega), cellsGInt] at h1
  rw [List.getElem?_eq_getElem (by omega), cellsGBool] at h2
  obtain ⟨s, hs, _, hss⟩ := DataW.trod_string Try.underlying9 h0
  obtain ⟨m, hm, _, hmw⟩ := DataW.trod_int Try.underlying3 h1
  obtain ⟨b, hb, _⟩ := DataW.trod_bool Try.underlying4 h2
  have g0 := congrArg (fun l => l[0]?) hs
  have g1 := congrArg (fun l => l[0]?) hm
  have g2 := congrArg (fun l => l[0]?) hb
  simp [List.getElem?_drop] at g0 g1 g2
  unfold maxLen at hss
  exact ⟨⟨s, m, b⟩, g0, g1, g2, by simpa using hss, w64_of hmw⟩
theorem open_keysW {vs : List Value} {x : DataW H × List MemPlace} (h : DataW.trod enc Try.prog w base (fun _ => true) held fuel 25 vs = some x) :
    vs = [.slice none 0 0] ∨ ∃ (ad : Addr) (len cap : Nat) (l : List KyG), vs = [.slice (some ad) len cap] ∧ l.length = len ∧ len ≤ cap ∧ cap ≤ 9223372036854775807 ∧ (∀ k ∈ l, W64 k.kd) ∧ KAtG w NoB (some ad) l := by
  rcases open_slice Try.underlying25 h with ⟨hcs, _⟩ | ⟨ad, len, cap, m, n, D, Pl, hcs, _, hl, hm, hmm, _, hx⟩
  · exact .inl hcs
  · simp only [if_true] at hmm
    subst hmm
    unfold maxLen at hm
    have hspot : 0 < len → ad.spot = none := by
      intro h0
      obtain ⟨cs0, hc0, ht0⟩ := hx 0 (by omega)
      obtain ⟨_, d0, _⟩ := key_openW ht0
      obtain ⟨_, _, hat0⟩ := World.cells?_some hc0
      rw [cellsGKey] at hat0
      simpa [Addr.add] using World.cell?_spot ((hat0 0 (by omega)).trans d0)
    have each : ∀ i, i < len → ∃ k : KyG, W64 k.kd ∧ k.nm.size ≤ 9223372036854775807 ∧ w.cell? ⟨ad.block, ad.off + i * 3, none⟩ = some (.string k.nm) ∧ w.cell? ⟨ad.block, ad.off + i * 3 + 1, none⟩ = some (.int .i64 k.kd) ∧ w.cell? ⟨ad.block, ad.off + i * 3 + 2, none⟩ = some (.bool k.sh) := by
      intro i hi
      obtain ⟨cs, hc, ht⟩ := hx i (by omega)
      obtain ⟨k, d0, d1, d2, hs, hkw⟩ := key_openW ht
      obtain ⟨_, _, hat⟩ := World.cells?_some hc
      rw [cellsGKey] at hat
      have e0 := (hat 0 (by omega)).trans d0
      have e1 := (hat 1 (by omega)).trans d1
      have e2 := (hat 2 (by omega)).trans d2
      have hsp := hspot (by omega)
      obtain ⟨b, off, spot⟩ := ad
      simp only at hsp
      subst hsp
      simp only [add_plain] at e0 e1 e2
      exact ⟨k, hkw, hs, by simpa using e0, e1, e2⟩
    refine .inr ⟨ad, len, _, (List.range len).map (fun i => if h : i < len then (each i h).choose else ⟨⟨#[]⟩, 0, false⟩), hcs, by simp, hl, by omega, ?_, ?_⟩
    · intro k hk
      rw [List.mem_map] at hk
      obtain ⟨i, hi, rfl⟩ := hk
      rw [List.mem_range] at hi
      rw [dif_pos hi]
      exact (each i hi).choose_spec.1
    intro j k hj
    have hjl : j < len := by
      have := (List.getElem?_eq_some_iff.1 hj).1
      simpa using this
    rw [List.getElem?_map, List.getElem?_range hjl] at hj
    simp only [Option.map_some, hjl, dif_pos] at hj
    injection hj with hj
    have hs := (each j hjl).choose_spec
    rw [hj] at hs
    have hsp := hspot (by omega)
    obtain ⟨b, off, spot⟩ := ad
    simp only at hsp
    subst hsp
    exact ⟨hs.2.1, b, off, rfl, World.block_lt_of_cell? w _ hs.2.2.1, fun e => e, hs.2.2.1, hs.2.2.2.1, hs.2.2.2.2⟩
end


theorem kinds_arg {H : Type} (v0 : Value) (K : Option Addr) (len cap : Nat) (d0 d1 : DataW H) (p0 p1 : List MemPlace) (w : World) (enc : TypeId × Value → H) (hv : ∃ cs, v0 = .agg cs) (h0 : DataW.Trod enc Try.prog w 0 (fun _ => true) true 24 v0 d0 p0) (h1 : DataW.Trod enc Try.prog w 0 (fun _ => true) true 25 (.slice K len cap) d1 p1) :
    Calls Try.prog 3 #[v0, .slice K len cap] w fun e w' => e = .returned (.bool true) ∧ Touch NoB w w' := by
  obtain ⟨cs, rfl⟩ := hv
  obtain ⟨fuel, hf⟩ := h0
  obtain ⟨x, a, b, s, A, m, c, hcs, hmc, -, hx⟩ := open_ge fuel hf
  have e : cs = #[.int .i64 a, .int .i64 b, .string s, .slice A m c] := by
    apply Array.toList_inj.1
    simpa [Value.cells] using hcs
  subst e
  obtain ⟨fuel2, hf2⟩ := h1
  rcases open_keysW hf2 with hk | ⟨ad, N, C, l, hk, hl, hN, hC, hw, hK⟩
  · simp [Value.cells] at hk
    obtain ⟨rfl, rfl, rfl⟩ := hk
    exact kinds_any x w fuel hx hmc (ks := []) rfl (by omega) (fun k hk => by cases hk) (fun j k hj => by simp at hj)
  · simp [Value.cells] at hk
    obtain ⟨rfl, rfl, rfl⟩ := hk
    exact kinds_any x w fuel hx hmc hl (by omega) hw hK
end Go.Proofs.Ytblcmgahgpnjmaa
