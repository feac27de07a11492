/-
  The row of the lists that are around, in memory: its last one; without it; behind a count. No program is named here. Conditions: those that each theorem names.
-/
import Derived.Test.YtfpeennegmlcpaaN4
import Derived.Test.YtfpeennegmlcpaaN6
namespace Go.Proofs.Ytfpeennegmlcpaa
open Go.RowKit
set_option maxRecDepth 100000
set_option maxHeartbeats 1000000

/-- A visit's four cells. -/
def vis (e : En) (c : Nat) : List Value := [.slice (some e.p.1) e.p.2 c, .int .i64 (e.i : Int), .int .i64 (e.cnt : Int), .int .i64 (e.dep : Int)]
def PathC : List En → List Value → Prop
  | [], xs => xs = []
  | e :: es, xs => ∃ ys c, PathC es ys ∧ xs = ys ++ vis e c
theorem pathc_len : ∀ {es : List En} {xs : List Value}, PathC es xs → xs.length = es.length * 4
  | [], xs, h => by unfold PathC at h; subst h; rfl
  | e :: es, xs, ⟨ys, c, h, e1⟩ => by
    have := pathc_len h
    subst e1
    rw [List.length_append, this, List.length_cons]
    simp only [vis, List.length_cons, List.length_nil]
    omega
def PathAt (W : World) (B : Nat) (T : TypeId) (v : Value) (es : List En) (xs : List Value) : Prop := W.ownsRow B T 4 v es.length xs ∧ PathC es xs
/-- The row's block, laid open at its last visit. -/
def TopAt (W : World) (B : Nat) (T : TypeId) (g cap : Nat) (cur : Array Value) (e : En) (es : List En) (ys : List Value) (c : Nat) : Prop :=
  B ≤ g ∧ es.length + 1 ≤ cap ∧ cap ≤ maxLen ∧ W.heap[g]? = some (.cells cur T (0, 0)) ∧ cur.size = cap * 4 ∧ PathC es ys ∧ cur.toList.take (es.length * 4) = ys ∧
    cur[es.length * 4]? = some (.slice (some e.p.1) e.p.2 c) ∧ cur[es.length * 4 + 1]? = some (.int .i64 (e.i : Int)) ∧ cur[es.length * 4 + 2]? = some (.int .i64 (e.cnt : Int)) ∧ cur[es.length * 4 + 3]? = some (.int .i64 (e.dep : Int))
theorem path_open {W : World} {B : Nat} {T : TypeId} {v : Value} {e : En} {es : List En} {xs : List Value} (h : PathAt W B T v (e :: es) xs) :
    ∃ g cap cur ys c, v = .slice (some ⟨g, 0, none⟩) (es.length + 1) cap ∧ TopAt W B T g cap cur e es ys c := by
  obtain ⟨⟨h0, h1⟩, ys, c, hc, rfl⟩ := h
  have hl := pathc_len hc
  rcases h1 with ⟨-, h1⟩ | ⟨g, cap, cur, rfl, hB, hg, hn, hm, hs, ht⟩
  · simp at h1
  · rw [List.length_cons] at ht hn
    have hk : ∀ j, j < 4 → cur[es.length * 4 + j]? = (vis e c)[j]? := by
      intro j hj
      have e1 : cur[es.length * 4 + j]? = (cur.toList.take ((es.length + 1) * 4))[es.length * 4 + j]? := by
        rw [List.getElem?_take_of_lt (by omega), Array.getElem?_toList]
      rw [e1, ht, List.getElem?_append_right (by omega), hl]
      congr 1
      omega
    refine ⟨g, cap, cur, ys, c, rfl, hB, hn, hm, hg, hs, hc, ?_, hk 0 (by omega), hk 1 (by omega), hk 2 (by omega), hk 3 (by omega)⟩
    have e2 : cur.toList.take (es.length * 4) = (cur.toList.take ((es.length + 1) * 4)).take (es.length * 4) := by
      rw [List.take_take, Nat.min_eq_left (by omega)]
    rw [e2, ht, List.take_append_of_le_length (by omega), List.take_of_length_le (by omega)]
theorem take_four {l : List Value} {n : Nat} {a b c d : Value} (h0 : l[n]? = some a) (h1 : l[n + 1]? = some b) (h2 : l[n + 2]? = some c) (h3 : l[n + 3]? = some d) : l.take (n + 4) = l.take n ++ [a, b, c, d] := by
  rw [show n + 4 = n + 3 + 1 by omega, List.take_add_one, show n + 3 = n + 2 + 1 by omega, List.take_add_one, show n + 2 = n + 1 + 1 by omega, List.take_add_one, List.take_add_one]
  rw [h0, h1, show n + 1 + 1 = n + 2 by omega, h2, show n + 2 + 1 = n + 3 by omega, h3]
  simp
theorem path_shut {W : World} {B : Nat} {T : TypeId} {g cap : Nat} {cur : Array Value} {e : En} {es : List En} {ys : List Value} {c : Nat} (h : TopAt W B T g cap cur e es ys c) : PathAt W B T (.slice (some ⟨g, 0, none⟩) (es.length + 1) cap) (e :: es) (ys ++ vis e c) := by
  obtain ⟨hB, hn, hm, hg, hs, hc, ht, k0, k1, k2, k3⟩ := h
  have hl := pathc_len hc
  refine ⟨⟨?_, .inr ⟨g, cap, cur, rfl, hB, hg, hn, hm, hs, ?_⟩⟩, ys, c, hc, rfl⟩
  · rw [List.length_append, hl, List.length_cons]
    simp only [vis, List.length_cons, List.length_nil]
    omega
  · rw [List.length_cons, show (es.length + 1) * 4 = es.length * 4 + 4 by omega, take_four (by rw [Array.getElem?_toList]; exact k0) (by rw [Array.getElem?_toList]; exact k1) (by rw [Array.getElem?_toList]; exact k2) (by rw [Array.getElem?_toList]; exact k3), ht]
    rfl
/-- Without the last visit. -/
theorem path_pop {W : World} {B : Nat} {T : TypeId} {g cap : Nat} {cur : Array Value} {e : En} {es : List En} {ys : List Value} {c : Nat} (h : TopAt W B T g cap cur e es ys c) : PathAt W B T (.slice (some ⟨g, 0, none⟩) es.length cap) es ys := by
  obtain ⟨hB, hn, hm, hg, hs, hc, ht, -⟩ := h
  exact ⟨⟨pathc_len hc, .inr ⟨g, cap, cur, rfl, hB, hg, by omega, hm, hs, ht⟩⟩, hc⟩
theorem addRow_take (cur : Array Value) (o : Nat) (a c d : Int) : (addRow cur o a c d).toList.take o = cur.toList.take o := by
  apply List.ext_getElem?
  intro i
  by_cases hi : i < o
  · rw [List.getElem?_take_of_lt hi, List.getElem?_take_of_lt hi, Array.getElem?_toList, Array.getElem?_toList]
    unfold addRow
    rw [Array.getElem?_setIfInBounds_ne (by omega), Array.getElem?_setIfInBounds_ne (by omega), Array.getElem?_setIfInBounds_ne (by omega)]
  · rw [List.getElem?_eq_none (by simp; omega), List.getElem?_eq_none (by simp; omega)]
/-- Behind a count. -/
theorem path_add {W W' : World} {B : Nat} {T : TypeId} {g cap : Nat} {cur : Array Value} {e : En} {es : List En} {ys : List Value} {c : Nat} (h : TopAt W B T g cap cur e es ys c) {x y : Int} (hx : x = (e.next.cnt : Int)) (hy : y = (e.next.dep : Int))
    (hg' : W'.heap[g]? = some (.cells (addRow cur (es.length * 4) ((e.i : Int) + 1) x y) T (0, 0))) : TopAt W' B T g cap (addRow cur (es.length * 4) ((e.i : Int) + 1) x y) e.next es ys c := by
  obtain ⟨hB, hn, hm, hg, hs, hc, ht, k0, k1, k2, k3⟩ := h
  subst hx hy
  refine ⟨hB, hn, hm, hg', ?_, hc, (addRow_take ..).trans ht, ?_, ?_, ?_, ?_⟩
  · unfold addRow; simp only [Array.size_setIfInBounds]; exact hs
  · unfold addRow
    rw [Array.getElem?_setIfInBounds_ne (by omega), Array.getElem?_setIfInBounds_ne (by omega), Array.getElem?_setIfInBounds_ne (by omega)]
    exact k0
  · unfold addRow
    rw [Array.getElem?_setIfInBounds_self_of_lt (by simp only [Array.size_setIfInBounds]; omega)]
    unfold En.next
    simp
  · unfold addRow
    rw [Array.getElem?_setIfInBounds_ne (by omega), Array.getElem?_setIfInBounds_ne (by omega), Array.getElem?_setIfInBounds_self_of_lt (by omega)]
  · unfold addRow
    rw [Array.getElem?_setIfInBounds_ne (by omega), Array.getElem?_setIfInBounds_self_of_lt (by simp only [Array.size_setIfInBounds]; omega)]
end Go.Proofs.Ytfpeennegmlcpaa
