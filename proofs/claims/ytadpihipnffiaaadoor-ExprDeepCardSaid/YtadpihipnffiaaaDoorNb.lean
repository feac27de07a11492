/-
  The document's own token, said of lists: a number, a sign; what signs returns. Conditions: those that each theorem names.
-/
import Derived.Test.YtadpihipnffiaaaDoorNa
import Derived.Test.YtadpihipnffiaaaDoorLy
namespace Go.Proofs.YtadpihipnffiaaaDoor
open Go.ChangeShapes Go.WideShapes Go.ChangeAt Go.RowKit
set_option maxRecDepth 100000
set_option maxHeartbeats 4000000

/-- A number, or none, by the run of letters and digits. -/
theorem tok_word {b : Bs} {a k : Nat} {c : UInt8} (h : b[a]? = some c) (hl : bD c = true) (hr : Run bW b a k) (he : ∀ d, b[k]? = some d → bW d = false) :
    tokL a (b.drop a) = if (cut b a k).all bD = true ∧ valL (cut b a k) ≤ 9223372036854775807 ∧ ¬ (c.toNat = 48 ∧ 1 < k - a) then some (⟨3, valL (cut b a k), a, []⟩, k - a) else none := by
  have hw := hr.end he
  have hn := hr.len
  rw [drop_at h] at hw
  rw [drop_at h]
  rw [tokL]
  rw [if_pos hl, hw, ← drop_at h]
  unfold cut
  rw [hn]
theorem cut_succ {b : Bs} {a i : Nat} {d : UInt8} (ha : a ≤ i) (h : b[i]? = some d) : cut b a (i + 1) = cut b a i ++ [d] := by
  unfold cut
  have e : (b.drop a)[i - a]? = some d := by rw [List.getElem?_drop, show a + (i - a) = i from by omega]; exact h
  rw [show i + 1 - a = (i - a) + 1 from by omega, List.take_add_one, e]
  rfl
theorem cut_same (b : Bs) (a : Nat) : cut b a a = [] := by unfold cut; simp
theorem cut_more {b : Bs} {a i k : Nat} (h1 : a ≤ i) (h2 : i ≤ k) : cut b a k = cut b a i ++ cut b i k := by
  unfold cut
  rw [show k - a = (i - a) + (k - i) from by omega, List.take_add, List.drop_drop, show a + (i - a) = i from by omega]
theorem val_more (x y : Bs) : valL x ≤ valL (x ++ y) := by
  have : valL (x ++ y) = fold10 (valL x) y := by unfold valL fold10; rw [List.foldl_append]
  rw [this]
  exact fold_ge y _

/-- The signs, in the document's order. -/
def sgS : List Bs := [[58, 61], [60, 61], [62, 61], [61, 61], [123], [125], [40], [41], [59], [58], [61], [60], [43], [45], [42], [47], [44], [39]]
def tstB (n : Nat) (q : Bool) (l : Bs) : Bool := match l with
  | [x] => n == x.toNat
  | [x, _] => n == x.toNat && q
  | _ => false
def sgnB (n : Nat) (q : Bool) : Nat :=
  if (n = 58 ∨ n = 60 ∨ n = 62 ∨ n = 61) ∧ q = true then 2
  else if n = 123 ∨ n = 125 ∨ n = 40 ∨ n = 41 ∨ n = 59 ∨ n = 58 ∨ n = 61 ∨ n = 60 ∨ n = 43 ∨ n = 45 ∨ n = 42 ∨ n = 47 ∨ n = 44 ∨ n = 39 then 1 else 0
theorem sgn_tab : ∀ n, n < 256 → ∀ q : Bool, (sgS.find? (tstB n q)).map List.length = (if sgnB n q = 0 then none else some (sgnB n q)) := by decide +kernel
theorem eqB_nat (x y : UInt8) : (x == y) = (x.toNat == y.toNat) := by
  rw [Bool.eq_iff_iff, beq_iff_eq, beq_iff_eq]
  exact ⟨fun h => by rw [h], fun h => UInt8.toNat_inj.1 h⟩
theorem beg_tst {b : Bs} {a : Nat} {c : UInt8} (h : b[a]? = some c) : ∀ l ∈ sgS, begB b a l = tstB c.toNat (equal1 (b.drop (a + 1))) l := by
  have h1 : ∀ x : UInt8, begB b a [x] = (c.toNat == x.toNat) := fun x => by
    unfold begB cut
    rw [show a + ([x] : Bs).length - a = 1 from by simp, drop_at h, List.take_succ_cons, List.take_zero, ← eqB_nat, Bool.eq_iff_iff]
    simp
  have h2 : ∀ x : UInt8, begB b a [x, 61] = (c.toNat == x.toNat && equal1 (b.drop (a + 1))) := fun x => by
    unfold begB cut
    rw [show a + ([x, 61] : Bs).length - a = 2 from by simp, drop_at h, List.take_succ_cons, ← eqB_nat]
    cases b.drop (a + 1) with
    | nil => simp [equal1]
    | cons d r =>
      simp only [List.take_succ_cons, List.take_zero, equal1]
      have e : decide (d.toNat = 61) = (d == 61) := by
        rw [eqB_nat]; rw [Bool.eq_iff_iff]; simp
      rw [e, Bool.eq_iff_iff]
      simp
  intro l hl
  simp only [sgS, List.mem_cons, List.not_mem_nil, or_false] at hl
  rcases hl with rfl | rfl | rfl | rfl | rfl | rfl | rfl | rfl | rfl | rfl | rfl | rfl | rfl | rfl | rfl | rfl | rfl | rfl
  all_goals first | exact h2 _ | exact h1 _
theorem sgn_b (c : UInt8) (r : Bs) : sgnL c r = sgnB c.toNat (equal1 r) := rfl
/-- The first sign that stands here, if any, is the sign that the lexer on lists finds. -/
theorem sign_first {b : Bs} {a : Nat} {c : UInt8} (h : b[a]? = some c) (h1 : bL c = false) (h2 : bD c = false) {i : Nat} {l : Bs} (hi : sgS[i]? = some l) (hyes : begB b a l = true) (hno : ∀ (j : Nat) (m : Bs), j < i → sgS[j]? = some m → begB b a m = false) :
    tokL a (b.drop a) = some (⟨4, 0, a, l⟩, l.length) := by
  have ht := sgn_tab c.toNat (by have := c.toNat_lt; omega) (equal1 (b.drop (a + 1)))
  have hf : sgS.find? (tstB c.toNat (equal1 (b.drop (a + 1)))) = some l := by
    rw [List.find?_eq_some_iff_getElem]
    obtain ⟨hil, hie⟩ := List.getElem?_eq_some_iff.1 hi
    refine ⟨by rw [← beg_tst h l (List.mem_of_getElem? hi)]; exact hyes, i, hil, hie, fun j hj => ?_⟩
    have hjl : j < sgS.length := by omega
    have := hno j sgS[j] hj (List.getElem?_eq_getElem hjl)
    rw [beg_tst h _ (List.getElem_mem hjl)] at this
    simp [this]
  rw [hf, ← sgn_b] at ht
  rw [tok_sign h h1 h2]
  have hlpos : l.length ≠ 0 := by
    have : ∀ x ∈ sgS, x.length ≠ 0 := by decide
    exact this l (List.mem_of_getElem? hi)
  by_cases e : sgnL c (b.drop (a + 1)) = 0
  · rw [if_pos e] at ht; cases ht
  · rw [if_neg e] at ht ⊢
    simp only [Option.map_some, Option.some.injEq] at ht
    rw [← ht]
    have : cut b a (a + l.length) = l := beq_iff_eq.1 hyes
    rw [this]
theorem sign_none {b : Bs} {a : Nat} {c : UInt8} (h : b[a]? = some c) (h1 : bL c = false) (h2 : bD c = false) (hno : ∀ (j : Nat) (m : Bs), sgS[j]? = some m → begB b a m = false) : tokL a (b.drop a) = none := by
  have ht := sgn_tab c.toNat (by have := c.toNat_lt; omega) (equal1 (b.drop (a + 1)))
  have hf : sgS.find? (tstB c.toNat (equal1 (b.drop (a + 1)))) = none := by
    rw [List.find?_eq_none]
    intro x hx
    obtain ⟨j, hj⟩ := List.mem_iff_getElem?.1 hx
    rw [← beg_tst h x hx, hno j x hj]
    simp
  rw [hf, ← sgn_b] at ht
  rw [tok_sign h h1 h2]
  by_cases e : sgnL c (b.drop (a + 1)) = 0
  · rw [if_pos e]
  · rw [if_neg e] at ht; cases ht

def sgA : Array Value := (sgS.map fun b => Value.string (bs b)).toArray
theorem sgS_len : sgS.length = 18 := by decide
theorem signs_any' (w : World) : Calls Tryd.prog 41 #[] w fun e w' => ∃ g, e = .returned (.slice (some ⟨g, 0, none⟩) 18 18) ∧ (w.heap.size ≤ g ∧ g < w'.heap.size) ∧ (∀ (j : Nat) (l : Bs), sgS[j]? = some l → w'.cell? ⟨g, j, none⟩ = some (.string (bs l))) ∧ Touch NoB w w' := by
  go_enter Tryd.func41, Tryd.ntmps41
  go_wp2
  go_ret
  refine ⟨_, rfl, ⟨Nat.le_refl _, by simp⟩, fun j l hj => ?_, (Touch.refl _ _).alloc _⟩
  show (w.alloc (.cells sgA 9 (0, 0))).cell? _ = _
  rw [cell_of_row _ _ _ _ _ _ (heap_alloc_new w (.cells sgA 9 (0, 0)))]
  unfold sgA
  rw [List.getElem?_toArray, List.getElem?_map, hj]
  rfl
end Go.Proofs.YtadpihipnffiaaaDoor
