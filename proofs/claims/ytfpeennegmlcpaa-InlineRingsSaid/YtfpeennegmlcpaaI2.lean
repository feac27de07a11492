/-
  Package nest's anew over a list of one zero expression, and over none. Conditions: those that each theorem names.
-/
import Derived.Test.YtfpeennegmlcpaaI1
import Derived.Deep.LoopGhost
namespace Go.Proofs.Ytfpeennegmlcpaa
open Go.ChangeShapes Go.WideShapes Go.ChangeAt Go.RowKit
set_option maxRecDepth 100000
set_option maxHeartbeats 1000000

/-- The row of lists that are still to be looked at, and the list itself. -/
def AwRel (w : World) (g cap : Nat) (k : Nat) (v : Value) (wr : World) : Prop :=
  k ≤ 1 ∧ ∃ rb, v = .slice (some ⟨rb, 0, none⟩) k 1 ∧ rb < wr.heap.size ∧ rb ≠ g ∧ wr.cell? ⟨rb, 0, none⟩ = some (.slice (some ⟨g, 0, none⟩) 1 cap) ∧ wr.ownsRow w.heap.size 27 4 (.slice (some ⟨g, 0, none⟩) 1 cap) 1 zE ∧ Touch NoB w wr
theorem anew_one (w : World) (b : Nat) (c : Nat) {T : TypeId} {cs : Array Value} (hb : w.heap[b]? = some (.cells cs T (0, 0))) (hcs : cs.toList.take 4 = zE) : Calls Try.prog 96 #[.slice (some ⟨b, 0, none⟩) 1 c] w fun e w' => ∃ g cap, e = .returned (.slice (some ⟨g, 0, none⟩) 1 cap) ∧ w.heap.size ≤ g ∧ w'.ownsRow w.heap.size 27 4 (.slice (some ⟨g, 0, none⟩) 1 cap) 1 zE ∧ Touch NoB w w' := by
  go_enter Try.func96, Try.ntmps96
  go_wp2_with fail
  refine (moved_one w b c hb hcs).mono ?_
  rintro r w1 ⟨g, cap, rfl, hg, hown, hT⟩
  have HO := Lib.hid (And.intro hown hT)
  clear hown hT
  go_wp2
  go_loopg [3] 1 (fun k v3 wr => AwRel w g cap k v3 wr)
  case atStart =>
    have h1 := HO.out.2.size
    have h2 := (HO.out.1.lt g rfl).2
    refine ⟨Nat.le_refl _, w1.heap.size, rfl, by simp, by omega, ?_, row_touch HO.out.1 ((Touch.refl NoB w1).alloc _) (fun _ _ f => f), HO.out.2.alloc _⟩
    exact (cell_blk (mk_blk w1 #[.slice (some ⟨g, 0, none⟩) 1 cap] _ rfl) 0)
  case round =>
    obtain ⟨hk, rb, rfl, hrb, hne, hc0, hown, hT⟩ := hrel
    have HR := Lib.hid (And.intro hown hT)
    clear hown hT
    have hgs := HR.out.1
    by_cases h0 : gk = 0
    · subst h0
      clear hgs
      go_wp2
      go_ret
      exact ⟨g, cap, rfl, by omega, HR.out.1, HR.out.2⟩
    · have h1 : gk = 1 := by omega
      subst h1
      clear hk h0 hgs
      go_wp2
      obtain ⟨wo, rfl⟩ : ∃ x, x = wr := ⟨_, rfl⟩
      go_loopg [3, 27] 1 (fun k v3 v27 w2 => k ≤ 1 ∧ v3 = .slice (some ⟨rb, 0, none⟩) 0 1 ∧ v27 = .int .i64 (1 - k : Int) ∧ w2.ownsRow w.heap.size 27 4 (.slice (some ⟨g, 0, none⟩) 1 cap) 1 zE ∧ Touch NoB w w2 ∧ rb < w2.heap.size ∧ w2.cell? ⟨rb, 0, none⟩ = some (.slice (some ⟨g, 0, none⟩) 1 cap))
      case atStart => exact ⟨Nat.le_refl _, rfl, rfl, HR.out.1, HR.out.2, hrb, hc0⟩
      case round =>
        obtain ⟨hk, rfl, rfl, hown, hT, hrb2, hc2⟩ := hrel
        have HR2 := Lib.hid (And.intro hown hT)
        clear hT hc0 hrb
        by_cases h0 : gk = 0
        · subst h0
          have HREL : AwRel w g cap 0 (.slice (some ⟨rb, 0, none⟩) 0 1) wr := ⟨by omega, rb, rfl, hrb2, hne, hc2, HR2.out.1, HR2.out.2⟩
          have HREL := Lib.hid HREL
          clear hown hc2 hrb2
          go_wp2
          go_roundg 0
          case measure => omega
          case rel => exact HREL.out
        · have h1 : gk = 1 := by omega
          subst h1
          clear hk h0
          obtain ⟨cur, hg1, hcap, hm, hs, ht⟩ : ∃ cur, wr.heap[g]? = some (.cells cur 27 (0, 0)) ∧ 1 ≤ cap ∧ cap ≤ maxLen ∧ cur.size = cap * 4 ∧ cur.toList.take 4 = zE := by
            rcases hown.2 with ⟨h, -⟩ | ⟨g', cap', cur, hv, hB, hg, hn, hm, hs, ht⟩
            · cases h
            · injection hv with h1 h2 h3
              injection h1 with h1
              injection h1 with h1
              subst h1 h3
              exact ⟨cur, hg, hn, hm, hs, by simpa using ht⟩
          have k3 := (cell_blk hg1 3).trans (show cur[3]? = some (.slice none 0 0) by rw [← Array.getElem?_toList, ← List.getElem?_take_of_lt (show 3 < 4 by omega), ht]; rfl)
          have f3 := free_blk hg1 3
          have hgl := blk_lt hg1
          have HS := Lib.hid (And.intro hg1 (And.intro hs ht))
          clear hown hg1 hs ht hm
          go_wp2_with fail
          refine (moved_nil wr).mono ?_
          rintro r w4 ⟨rfl, rfl⟩
          obtain ⟨W1, hW1⟩ : ∃ W1, wr.setCell ⟨g, 0 + 3, none⟩ (.slice none 0 0) = W1 := ⟨_, rfl⟩
          have hb1 : W1.heap[g]? = some (.cells (cur.setIfInBounds 3 (.slice none 0 0)) 27 (0, 0)) := hW1 ▸ set_blk HS.out.1 3 _
          have hT1 : Touch NoB w W1 := hW1 ▸ HR2.out.2.setCell (p := ⟨g, 3, none⟩) (.inr hg) _
          have z3 : W1.cell? ⟨g, 3, none⟩ = some (.slice none 0 0) := (cell_blk hb1 3).trans (Array.getElem?_setIfInBounds_self_of_lt (by rw [HS.out.2.1]; omega))
          have hT2 : Touch (fun x => x = g) wr W1 := hW1 ▸ ((Touch.refl (fun x => x = g) wr).setCell (p := ⟨g, 3, none⟩) (.inl rfl) _)
          have zr : W1.cell? ⟨rb, 0, none⟩ = some (.slice (some ⟨g, 0, none⟩) 1 cap) := (hT2.cell (p := ⟨rb, 0, none⟩) hrb2 hne).trans hc2
          have hrow : W1.ownsRow w.heap.size 27 4 (.slice (some ⟨g, 0, none⟩) 1 cap) 1 zE := by
            refine ⟨rfl, .inr ⟨g, cap, cur.setIfInBounds 3 (.slice none 0 0), rfl, hg, hb1, hcap, ?_, by rw [Array.size_setIfInBounds]; exact HS.out.2.1, ?_⟩⟩
            · rcases HR2.out.1.2 with ⟨h, -⟩ | ⟨g', cap', cur', hv, hB, hg', hn, hm, hs, ht⟩
              · cases h
              · injection hv with h1 h2 h3
                rw [h3]; exact hm
            · have h4 := HS.out.2.2
              apply List.ext_getElem?
              intro i
              by_cases hi : i < 4
              · rw [List.getElem?_take_of_lt (by omega), Array.getElem?_toList, ← h4, List.getElem?_take_of_lt hi, Array.getElem?_toList]
                by_cases h3 : i = 3
                · subst h3
                  rw [Array.getElem?_setIfInBounds_self_of_lt (by rw [HS.out.2.1]; omega)]
                  have := congrArg (fun l => l[3]?) h4
                  simp only [List.getElem?_take_of_lt (show 3 < 4 by omega), Array.getElem?_toList] at this
                  rw [this]; rfl
                · rw [Array.getElem?_setIfInBounds_ne (by omega)]
              · rw [List.getElem?_eq_none (by simp; omega), List.getElem?_eq_none (by simp [zE]; omega)]
          have HF := Lib.hid (And.intro hrow (And.intro hT1 (And.intro (Nat.lt_of_lt_of_le hrb2 hT2.size) zr)))
          clear hrow hT1 hT2 zr hb1 hc2 hrb2
          go_wp2
          go_roundg 0
          case measure => omega
          case rel => exact ⟨by omega, rfl, by simp, HF.out.1, HF.out.2.1, HF.out.2.2.1, HF.out.2.2.2⟩
end Go.Proofs.Ytfpeennegmlcpaa
