/-
  Expressions of any shape, as plain data and in memory; an argument that is one, opened. No condition beyond those that each theorem names.
-/
import Derived.Test.YtblcmgahgpnjmaaRows
import Derived.Test.YtblcmgahgpnjmaaIm
import Derived.WalkKit
import Derived.ProofKit
import Derived.OpenShut
import Derived.OwnWalk
import Derived.WalkLawsBesides
import Derived.KernelRfl
import Derived.Lib.Hide
import Derived.RegionTactic
import Derived.Deep.QuietTactic
import Derived.BigQuiet
import Derived.Deep.RegionLaw
import Derived.Deep.Slices
import Derived.ChangeSame
import Derived.ChangeSlices
import Derived.ChangeArms
import Derived.Carry
namespace Go.Proofs.Ytblcmgahgpnjmaa
open Go.ChangeShapes Go.WideShapes Go.ChangeAt Go.RowKit Go.Deep
set_option maxRecDepth 100000
set_option maxHeartbeats 1000000

/-- An expression of any shape. -/
inductive GE where
  | mk : Int → Int → ByteArray → List GE → GE
def GE.kd : GE → Int | .mk k _ _ _ => k
def GE.nn : GE → Int | .mk _ n _ _ => n
def GE.nm : GE → ByteArray | .mk _ _ s _ => s
def GE.kids : GE → List GE | .mk _ _ _ l => l
def W64 (a : Int) : Prop := -9223372036854775808 ≤ a ∧ a ≤ 9223372036854775807
theorem w64_of {m : Int} (h : (Lit.int .i64 m).wf = true) : W64 m := by
  have h1 : IntKind.i64.min = -9223372036854775808 := by decide
  have h2 : IntKind.i64.max = 9223372036854775807 := by decide
  simp only [Lit.wf, h1, h2] at h
  simp at h
  exact h
theorem w64_wf {m : Int} (h : W64 m) : (Lit.int .i64 m).wf = true := by
  have h1 : IntKind.i64.min = -9223372036854775808 := by decide
  have h2 : IntKind.i64.max = 9223372036854775807 := by decide
  simp only [Lit.wf, h1, h2]
  simp
  exact h
/-- The fields a, b, s and the list of m at A are those of an expression that is less than d deep. -/
def GAt (w : World) : Nat → GE → Int → Int → ByteArray → Option Addr → Nat → Prop
  | 0, _, _, _, _, _, _ => False
  | d + 1, .mk k n t l, a, b, s, A, m => a = k ∧ b = n ∧ s = t ∧ l.length = m ∧ W64 k ∧ W64 n ∧ s.size ≤ 9223372036854775807 ∧ m ≤ 9223372036854775807 ∧
      ∀ (i : Nat) (y : GE), l[i]? = some y → ∃ g o a1 b1 s1 A1 m1 c1, A = some ⟨g, o, none⟩ ∧ g < w.heap.size ∧ w.cell? ⟨g, o + i * 4, none⟩ = some (.int .i64 a1) ∧ w.cell? ⟨g, o + i * 4 + 1, none⟩ = some (.int .i64 b1) ∧
        w.cell? ⟨g, o + i * 4 + 2, none⟩ = some (.string s1) ∧ w.cell? ⟨g, o + i * 4 + 3, none⟩ = some (.slice A1 m1 c1) ∧ m1 ≤ c1 ∧ GAt w d y a1 b1 s1 A1 m1
theorem GAt.touch {w w' : World} (t : Touch NoB w w') : ∀ {d : Nat} {x : GE} {a b : Int} {s : ByteArray} {A : Option Addr} {m : Nat}, GAt w d x a b s A m → GAt w' d x a b s A m
  | 0, _, _, _, _, _, _, h => h
  | d + 1, .mk k n q l, a, b, s, A, m, h => by
    obtain ⟨h1, h2, h3, h4, h5, h6, h7, h8, h9⟩ := h
    refine ⟨h1, h2, h3, h4, h5, h6, h7, h8, fun i y hy => ?_⟩
    obtain ⟨g, o, a1, b1, s1, A1, m1, c1, e1, e2, e3, e4, e5, e6, e7, e8⟩ := h9 i y hy
    have q : ∀ j, w'.cell? ⟨g, j, none⟩ = w.cell? ⟨g, j, none⟩ := fun j => t.cell (p := ⟨g, j, none⟩) e2 (fun f => f)
    exact ⟨g, o, a1, b1, s1, A1, m1, c1, e1, Nat.lt_of_lt_of_le e2 t.size, (q _).trans e3, (q _).trans e4, (q _).trans e5, (q _).trans e6, e7, GAt.touch t e8⟩

theorem GAt.more {w : World} : ∀ {d e : Nat} {x : GE} {a b : Int} {s : ByteArray} {A : Option Addr} {m : Nat}, d ≤ e → GAt w d x a b s A m → GAt w e x a b s A m
  | 0, _, _, _, _, _, _, _, _, h => h.elim
  | d + 1, 0, _, _, _, _, _, _, hd, _ => by omega
  | d + 1, e + 1, .mk k n q l, a, b, s, A, m, hd, h => by
    obtain ⟨h1, h2, h3, h4, h5, h6, h7, h8, h9⟩ := h
    refine ⟨h1, h2, h3, h4, h5, h6, h7, h8, fun i y hy => ?_⟩
    obtain ⟨g, o, a1, b1, s1, A1, m1, c1, e1, e2, e3, e4, e5, e6, e7, e8⟩ := h9 i y hy
    exact ⟨g, o, a1, b1, s1, A1, m1, c1, e1, e2, e3, e4, e5, e6, e7, GAt.more (by omega) e8⟩

theorem cellsGInt : Try.prog.cellsOf 3 = 1 := by kernel_rfl
theorem cellsGString : Try.prog.cellsOf 9 = 1 := by kernel_rfl
theorem cellsGExpr : Try.prog.cellsOf 24 = 4 := by kernel_rfl
theorem cellsGExprs : Try.prog.cellsOf 22 = 1 := by kernel_rfl

section
variable {H : Type} {enc : TypeId × Value → H} {P : Program} {w : World} {base : Nat} {spare : Nat → Bool} {held : Bool} {fuel : Nat}
theorem gfield_int {t : TypeId} {k : IntKind} (he : P.underlying t = some (.int k)) (hc : P.cellsOf t = 1) {cs : List Value} {o : Nat} {xs : List (DataW H × List MemPlace)} {i : Nat} (hi : i < xs.length)
    (h : DataW.trod enc P w base spare held fuel t ((cs.drop o).take (P.cellsOf t)) = xs[i]?) : ∃ m, cs[o]? = some (.int k m) ∧ (Lit.int k m).wf = true := by
  rw [List.getElem?_eq_getElem hi, hc] at h
  obtain ⟨m, hm, _, hw⟩ := DataW.trod_int he h
  have h1 := congrArg (fun l => l[0]?) hm
  simp [List.getElem?_drop] at h1
  exact ⟨m, h1, hw⟩
theorem gfield_string {t : TypeId} (he : P.underlying t = some .string) (hc : P.cellsOf t = 1) {cs : List Value} {o : Nat} {xs : List (DataW H × List MemPlace)} {i : Nat} (hi : i < xs.length)
    (h : DataW.trod enc P w base spare held fuel t ((cs.drop o).take (P.cellsOf t)) = xs[i]?) : ∃ s, cs[o]? = some (.string s) ∧ s.size ≤ 9223372036854775807 := by
  rw [List.getElem?_eq_getElem hi, hc] at h
  obtain ⟨s, hs, _, hss⟩ := DataW.trod_string he h
  have h1 := congrArg (fun l => l[0]?) hs
  simp [List.getElem?_drop] at h1
  unfold maxLen at hss
  exact ⟨s, h1, by simpa using hss⟩
end

section
variable {H : Type} {enc : TypeId × Value → H} {w : World} {base : Nat} {spare : Nat → Bool} {held : Bool}
/-- What a list of n elements gives, where each is read by 'trod' with less fuel. -/
theorem gslice {t e : TypeId} {fuel : Nat} {cs : List Value} {x : DataW H × List MemPlace} {P : Program} (ht : P.underlying t = some (.slice e)) (h : DataW.trod enc P w base spare held fuel t cs = some x) :
    cs = [.slice none 0 0] ∨ ∃ (a : Addr) (len cap n : Nat), fuel = n + 1 ∧ cs = [.slice (some a) len cap] ∧ len ≤ cap ∧ cap ≤ 9223372036854775807 ∧
      ∀ i, i < len → ∃ cs' y, w.cells? base (a.add (i * P.cellsOf e)) (P.cellsOf e) = some cs' ∧ DataW.trod enc P w base spare held n e cs' = some y := by
  rcases DataW.trod_slice ht h with h0 | ⟨a, len, cap, elems, rest, n, hf, hcs, -, -, hl, hm, hlen, hel, -, -⟩
  · exact .inl h0.1
  · unfold maxLen at hm
    refine .inr ⟨a, len, cap, n, hf, hcs, hl, by simpa using hm, fun i hi => ?_⟩
    have h1 := hel i hi
    rw [List.getElem?_eq_getElem (by omega)] at h1
    obtain ⟨cs', h2, h3⟩ := Option.bind_eq_some_iff.1 h1
    exact ⟨cs', _, h2, h3⟩
/-- An expression that is read as data. -/
theorem open_ge : ∀ (fuel : Nat) {cs : List Value} {y : DataW H × List MemPlace}, DataW.trod enc Try.prog w base spare held fuel 24 cs = some y →
    ∃ (x : GE) (a b : Int) (s : ByteArray) (A : Option Addr) (m c : Nat), cs = [.int .i64 a, .int .i64 b, .string s, .slice A m c] ∧ m ≤ c ∧ c ≤ 9223372036854775807 ∧ GAt w fuel x a b s A m := by
  intro fuel
  induction fuel using Nat.strongRecOn with
  | ind fuel ih =>
    intro cs y h
    obtain ⟨xs, n, hn, _, hl, hxl, hf⟩ := DataW.trod_struct Try.underlying24 h
    subst hn
    simp at hxl
    rw [cellsGExpr] at hl
    obtain ⟨a, h0, wa⟩ := gfield_int Try.underlying3 cellsGInt (by omega) (hf 0 _ rfl)
    obtain ⟨b, h1, wb⟩ := gfield_int Try.underlying3 cellsGInt (by omega) (hf 1 _ rfl)
    obtain ⟨s, h2, ws⟩ := gfield_string Try.underlying9 cellsGString (by omega) (hf 2 _ rfl)
    have h3 : DataW.trod enc Try.prog w base spare held n 22 ((cs.drop 3).take (Try.prog.cellsOf 22)) = xs[3]? := hf 3 _ rfl
    rw [List.getElem?_eq_getElem (by omega), cellsGExprs] at h3
    have hcs : ∀ v, cs[3]? = some v → cs = [.int .i64 a, .int .i64 b, .string s, v] := by
      intro v hv
      apply List.ext_getElem?
      intro i
      rcases i with _ | _ | _ | _ | i
      · exact h0
      · exact h1
      · exact h2
      · exact hv
      · rw [List.getElem?_eq_none (by omega)]; rfl
    rcases gslice Try.underlying22 h3 with h4 | ⟨ad, len, cap, n', hn', h4, hlc, hcap, each⟩
    · have h5 := congrArg (fun l => l[0]?) h4
      simp [List.getElem?_drop] at h5
      exact ⟨.mk a b s [], a, b, s, none, 0, 0, hcs _ h5, by omega, by omega, rfl, rfl, rfl, rfl, w64_of wa, w64_of wb, ws, by omega, fun i y hy => by simp at hy⟩
    · have h5 := congrArg (fun l => l[0]?) h4
      simp [List.getElem?_drop] at h5
      subst hn'
      have each2 : ∀ i, i < len → ∃ (q : GE), ∃ a1 b1 s1 A1 m1 c1, ad.spot = none ∧ ad.block < w.heap.size ∧ w.cell? ⟨ad.block, ad.off + i * 4, none⟩ = some (.int .i64 a1) ∧ w.cell? ⟨ad.block, ad.off + i * 4 + 1, none⟩ = some (.int .i64 b1) ∧
          w.cell? ⟨ad.block, ad.off + i * 4 + 2, none⟩ = some (.string s1) ∧ w.cell? ⟨ad.block, ad.off + i * 4 + 3, none⟩ = some (.slice A1 m1 c1) ∧ m1 ≤ c1 ∧ GAt w n' q a1 b1 s1 A1 m1 := by
        intro i hi
        obtain ⟨cs', y', hc, ht⟩ := each i hi
        obtain ⟨q, a1, b1, s1, A1, m1, c1, hcs', hm1, _, hq⟩ := ih n' (by omega) ht
        obtain ⟨_, _, hat⟩ := World.cells?_some hc
        rw [cellsGExpr, hcs'] at hat
        have e0 := hat 0 (by omega)
        have e1 := hat 1 (by omega)
        have e2 := hat 2 (by omega)
        have e3 := hat 3 (by omega)
        have hspot : ad.spot = none := by
          obtain ⟨cs0, y0, hc0, ht0⟩ := each 0 (by omega)
          obtain ⟨q0, a0, b0, s0, A0, m0, c0, hcs0, -, -, -⟩ := ih n' (by omega) ht0
          obtain ⟨_, _, hat0⟩ := World.cells?_some hc0
          rw [cellsGExpr, hcs0] at hat0
          have d0 : w.cell? ((ad.add (0 * 4)).add 0) = some (.int .i64 a0) := hat0 0 (by omega)
          simpa [Addr.add] using World.cell?_spot d0
        obtain ⟨bk, off, spot⟩ := ad
        simp only at hspot
        subst hspot
        simp only [add_plain] at e0 e1 e2 e3
        exact ⟨q, a1, b1, s1, A1, m1, c1, rfl, World.block_lt_of_cell? w ⟨bk, off + i * 4 + 0, none⟩ (u := .int .i64 a1) e0, by simpa using e0, e1, e2, e3, hm1, hq⟩
      refine ⟨.mk a b s ((List.range len).map (fun i => if h : i < len then (each2 i h).choose else .mk 0 0 ⟨#[]⟩ [])), a, b, s, some ad, len, cap, hcs _ h5, hlc, hcap, rfl, rfl, rfl, by simp, w64_of wa, w64_of wb, ws, by omega, ?_⟩
      intro i q hq
      have hil : i < len := by
        have := (List.getElem?_eq_some_iff.1 hq).1
        simpa using this
      rw [List.getElem?_map, List.getElem?_range hil] at hq
      simp only [Option.map_some, hil, dif_pos] at hq
      injection hq with hq
      have hs := (each2 i hil).choose_spec
      rw [hq] at hs
      obtain ⟨a1, b1, s1, A1, m1, c1, hsp, r⟩ := hs
      obtain ⟨bk, off, spot⟩ := ad
      simp only at hsp
      subst hsp
      exact ⟨bk, off, a1, b1, s1, A1, m1, c1, rfl, r.1, r.2.1, r.2.2.1, r.2.2.2.1, r.2.2.2.2.1, r.2.2.2.2.2.1, GAt.more (by omega) r.2.2.2.2.2.2⟩
end
end Go.Proofs.Ytblcmgahgpnjmaa
