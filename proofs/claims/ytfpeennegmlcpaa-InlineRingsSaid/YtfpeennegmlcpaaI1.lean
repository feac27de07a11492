/-
  Package nest's moved, anew, Size of an empty list, over expressions that are zero: a list of one zero expression, a list of none. Conditions: those that each theorem names.
-/
import Derived.Test.YtfpeennegmlcpaaN4
import Derived.Lib.AppendZeros
namespace Go.Proofs.Ytfpeennegmlcpaa
open Go.ChangeShapes Go.WideShapes Go.ChangeAt Go.RowKit
set_option maxRecDepth 100000
set_option maxHeartbeats 1000000

/-- The four cells of a zero expression. -/
def zE : List Value := [.int .i64 0, .int .i64 0, .string ⟨#[]⟩, .slice none 0 0]
theorem info_expr : ∃ i0, Try.prog.info? 27 = some i0 ∧ i0.zero = some (.agg #[.int .i64 0, .int .i64 0, .string ⟨#[]⟩, .slice none 0 0]) ∧ i0.size = 4 ∧ i0.bytes = 56 := by
  have h : (Try.prog.info? 27).map (fun i => (i.zero, i.size, i.bytes)) = some (some (.agg #[.int .i64 0, .int .i64 0, .string ⟨#[]⟩, .slice none 0 0]), 4, 56) := by kernel_rfl
  cases hi : Try.prog.info? 27 with
  | none => rw [hi] at h; cases h
  | some i0 =>
    rw [hi] at h
    simp only [Option.map_some, Option.some.injEq, Prod.mk.injEq] at h
    exact ⟨i0, rfl, h.1, h.2.1, h.2.2⟩
theorem sizex_nil (w : World) : Calls Try.prog 115 #[.slice none 0 0, .func (.func 116) #[] #[]] w fun e w' => e = .returned (.tuple #[.int .i64 0, .int .i64 0]) ∧ w = w' := by
  go_enter Try.func115, Try.ntmps115
  go_wp2
  go_ret2
  exact ⟨rfl, rfl⟩
theorem moved_nil (w : World) : Calls Try.prog 117 #[.slice none 0 0] w fun e w' => e = .returned (.slice none 0 0) ∧ w = w' := by
  go_enter Try.func117, Try.ntmps117
  go_wp2
  go_ret
  exact ⟨rfl, rfl⟩
theorem zE_at {w : World} {b : Nat} {T : TypeId} {cs : Array Value} (hb : w.heap[b]? = some (.cells cs T (0, 0))) (hcs : cs.toList.take 4 = zE) : ∀ j u, zE[j]? = some u → w.cell? ((⟨b, 0, none⟩ : Addr).add j) = some u := by
  intro j u hj
  have hj4 : j < 4 := (List.getElem?_eq_some_iff.1 hj).1
  rw [← hcs, List.getElem?_take_of_lt hj4, Array.getElem?_toList] at hj
  rw [show ((⟨b, 0, none⟩ : Addr).add j) = ⟨b, j, none⟩ by rcases j with _ | j <;> simp [Addr.add]]
  exact (cell_blk hb j).trans hj
theorem moved_one (w : World) (b : Nat) (c : Nat) {T : TypeId} {cs : Array Value} (hb : w.heap[b]? = some (.cells cs T (0, 0))) (hcs : cs.toList.take 4 = zE) : Calls Try.prog 117 #[.slice (some ⟨b, 0, none⟩) 1 c] w fun e w' => ∃ g cap, e = .returned (.slice (some ⟨g, 0, none⟩) 1 cap) ∧ w.heap.size ≤ g ∧ w'.ownsRow w.heap.size 27 4 (.slice (some ⟨g, 0, none⟩) 1 cap) 1 zE ∧ Touch NoB w w' := by
  obtain ⟨i0, hi, hz0, hz1, hz2⟩ := info_expr
  go_enter Try.func117, Try.ntmps117
  go_wp2_with (at_builtin; refine wpList_append_lies _ rfl (.const (.slice none 0 0)) (.tmp 3) 25 rfl w.heap.size 27 i0 (.agg #[.int .i64 0, .int .i64 0, .string ⟨#[]⟩, .slice none 0 0]) 4 56 Try.underlying25 hi hz0 hz1 hz2 rfl (by decide) (.slice none 0 0) 0 [] rfl ?c0 ⟨b, 0, none⟩ 1 c zE rfl rfl ?c1 ?c2 (by decide) ?c3 ?c4 ?c5 w.heap.size ?c6 ?go)
  case c0 => exact ⟨rfl, .inl ⟨rfl, rfl⟩⟩
  case c1 => exact zE_at hb hcs
  case c2 => intro u hu; simp only [zE, List.mem_cons, List.not_mem_nil, or_false] at hu; rcases hu with rfl | rfl | rfl | rfl <;> rfl
  case c3 => unfold maxLen; omega
  case c4 => omega
  case c5 => exact Nat.le_refl _
  case c6 => rfl
  case go =>
    intro g cap w' hown hgrow hat hlt
    have hg : g = w.heap.size := by rcases hat with h | h; · simp [Value.ownBlock] at h
                                    · exact h
    have hT : Touch NoB w w' := (Touch.refl NoB w).grown (w' := w') hgrow (fun k e => by simp [Value.ownBlock] at e)
    have HO := Lib.hid (And.intro hown hT)
    have HG := Lib.hid hg
    clear hown hgrow hat hT hg
    go_wp2
    go_ret
    exact ⟨g, cap, rfl, Nat.le_of_eq HG.out.symm, HO.out.1, HO.out.2⟩
end Go.Proofs.Ytfpeennegmlcpaa
