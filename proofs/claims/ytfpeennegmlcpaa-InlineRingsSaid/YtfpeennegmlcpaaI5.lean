/-
  A map from names to places in memory, as package inline's placesOf makes it: a look-up, a store. Conditions: those that each theorem names.
-/
import Derived.Test.YtfpeennegmlcpaaRows
import Derived.Test.YtfpeennegmlcpaaIm
import Derived.WalkKit
import Derived.ProofKit
import Derived.OpenShut
import Derived.OwnWalk
import Derived.WalkLawsBesides
import Derived.KernelRfl
import Derived.Lib.Hide
import Derived.Maps.OwnSet
import Derived.Carry
namespace Go.Proofs.Ytfpeennegmlcpaa
open Go.ChangeShapes Go.WideShapes Go.ChangeAt Go.RowKit Go.Maps
set_option maxRecDepth 100000
set_option maxHeartbeats 4000000

abbrev NmP := ByteArray × Nat
theorem i64_wf {m : Nat} (h : (m : Int) ≤ 9223372036854775807) : (Lit.int .i64 (m : Int)).wf = true := by
  have h1 : IntKind.i64.min = -9223372036854775808 := by decide
  have h2 : IntKind.i64.max = 9223372036854775807 := by decide
  simp only [Lit.wf, h1, h2]
  simp
  omega
/-- Are two strings one? -/
def eqN (a b : ByteArray) : Bool := a.data.toList == b.data.toList
/-- The kind of the first key of a name. -/
def kdN : List NmP → ByteArray → Option Nat
  | [], _ => none
  | k :: r, s => if eqN k.1 s = true then some k.2 else kdN r s
theorem kdN_snoc : ∀ (l : List NmP) (k : NmP) (s : ByteArray), kdN (l ++ [k]) s = match kdN l s with | some x => some x | none => if eqN k.1 s = true then some k.2 else none
  | [], k, s => rfl
  | x :: r, k, s => by
    show (if eqN x.1 s = true then some x.2 else kdN (r ++ [k]) s) = _
    rw [kdN_snoc r k s, show kdN (x :: r) s = if eqN x.1 s = true then some x.2 else kdN r s from rfl]
    split <;> rfl
theorem eqN_iff {a b : ByteArray} : eqN a b = true ↔ a = b := by
  unfold eqN
  constructor
  · intro h
    have h1 : a.data.toList = b.data.toList := by simpa using h
    cases a; cases b
    congr
    exact Array.toList_inj.1 h1
  · rintro rfl; simp
/-- The key of a name in a map. -/
def klN (s : ByteArray) : Lit := .string s.data.toList
theorem klN_ne {a b : ByteArray} (h : eqN a b = false) : klN b ≠ klN a := by
  intro e
  unfold klN at e
  injection e with e
  have : eqN a b = true := by unfold eqN; rw [e]; simp
  rw [h] at this; cases this
theorem key_strN {s : ByteArray} (h : s.size ≤ 9223372036854775807) : keyOf Try.prog 9 (.string s) = some (klN s) := WideMaps.keyOf_string_mk Try.underlying9 (by unfold maxLen; omega)
theorem lawStrN : Keyed Try.prog 9 := string_keyed Try.underlying9
theorem zeroN (w : World) : (zeroValue 3).run Try.prog w = .ok (.int .i64 0) w := by kernel_rfl
def zdN : DataW Unit := .lit (.int .i64 0)
theorem zdN_int : plainElem (H := Unit) Try.prog 3 (.int .i64 0) = some (zdN, []) := plainElem_int Try.underlying3 (by decide)
/-- The map at block mb tells the kinds of the keys l. -/
def PK (w : World) (mb n : Nat) (l : List NmP) : Prop := ∃ D : DataW Unit, w.ownsMap Try.prog 9 (plainElem Try.prog 3) mb n D ∧ ∀ s : ByteArray, Maps.has D (klN s) = (kdN l s).isSome ∧ ∀ k, kdN l s = some k → D.atKey (klN s) zdN = .lit (.int .i64 (k : Int))
theorem PK.touch {w w' : World} {mb n : Nat} {l : List NmP} {F : Nat → Prop} (h : PK w mb n l) (t : Touch F w w') (hf : ¬ F mb) : PK w' mb n l := by
  obtain ⟨D, ⟨es, clock, hb, r⟩, r2⟩ := h
  exact ⟨D, ⟨es, clock, (t.block mb (blk_lt hb) hf).trans hb, r⟩, r2⟩
theorem PK.made (w : World) : PK (w.alloc (.map #[] 0)) w.heap.size 0 [] := ⟨.map [], World.ownsMap_made _ _ _ _, fun s => ⟨rfl, fun k h => by cases h⟩⟩
theorem PK.lt {w : World} {mb n : Nat} {l : List NmP} (h : PK w mb n l) : mb < w.heap.size := by obtain ⟨D, h, _⟩ := h; exact h.lt
/-- A look-up. -/
theorem PK.look {w : World} {mb n : Nat} {l : List NmP} (h : PK w mb n l) {s : ByteArray} (hs : s.size ≤ 9223372036854775807) :
    ∃ c : Int, (Instr.lookup 69 (.map (some mb)) (.string s) true).run Try.prog w = .ok (.tuple #[.int .i64 c, .bool (kdN l s).isSome]) w ∧ ∀ k, kdN l s = some k → c = (k : Int) := by
  obtain ⟨D, hown, hD⟩ := h
  obtain ⟨v, ps, hrun, hv⟩ := hown.look_ok lawStrN Try.underlying69 (zeroN w) zdN_int (key_strN hs)
  obtain ⟨c, rfl, hc, -⟩ := plainElem_int_inv Try.underlying3 hv
  refine ⟨c, by rw [← (hD s).1]; exact hrun, fun k hk => ?_⟩
  have h1 := congrArg Prod.fst hc
  rw [(hD s).2 k hk] at h1
  simp at h1
  exact h1.symm
/-- A store of a name that is not there. -/
theorem PK.store {w : World} {mb n : Nat} {l : List NmP} (h : PK w mb n l) (hn : n < 9223372036854775807) {k : NmP} (hs : k.1.size ≤ 9223372036854775807) (hk : (k.2 : Int) ≤ 9223372036854775807) (hno : kdN l k.1 = none) :
    ∃ w', (Instr.mapUpdate 69 (.map (some mb)) (.string k.1) (.int .i64 (k.2 : Int))).run Try.prog w = .ok () w' ∧ PK w' mb (n + 1) (l ++ [k]) ∧ Touch (fun b => b = mb) w w' := by
  obtain ⟨D, hown, hD⟩ := h
  obtain ⟨w', hrun, hown', ht⟩ := hown.store lawStrN Try.underlying69 (by unfold maxLen; omega) (key_strN hs) (plainElem_int Try.underlying3 (i64_wf hk))
  have hmp := hown.isMap
  have hkl : WideAt.IsKeyLit (klN k.1) := lawStrN.key (key_strN hs)
  refine ⟨w', hrun, ⟨_, hown', fun s => ?_⟩, (Touch.refl _ _).grown ht.grown (fun b e => by cases e; exact .inl rfl)⟩
  rw [kdN_snoc]
  cases he : eqN k.1 s with
  | true =>
    have e := eqN_iff.1 he
    subst e
    rw [hno]
    exact ⟨has_put_same hmp hkl _, fun x hx => by simp at hx; subst hx; exact atKey_put_same hmp hkl _ _⟩
  | false =>
    rw [has_put_other (klN_ne he), atKey_put_other (klN_ne he), (hD s).1]
    cases hx : kdN l s with
    | none => exact ⟨rfl, fun x hx => by simp at hx⟩
    | some y => exact ⟨rfl, fun x h2 => by simp at h2; subst h2; exact (hD s).2 _ hx⟩
theorem PK.same {w : World} {mb n m : Nat} {l l' : List NmP} (h : PK w mb n l) (hm : n ≤ m) (he : ∀ s, kdN l' s = kdN l s) : PK w mb m l' := by
  obtain ⟨D, hown, hD⟩ := h
  exact ⟨D, hown.mono hm, fun s => by rw [he s]; exact hD s⟩
end Go.Proofs.Ytfpeennegmlcpaa
