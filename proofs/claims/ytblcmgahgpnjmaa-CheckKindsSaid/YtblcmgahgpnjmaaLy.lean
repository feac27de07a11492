/-
  What the document's own word and Name return; LexNames: which texts are names. Conditions: the library's own variable can be read.
-/
import Derived.Test.YtblcmgahgpnjmaaLk
namespace Go.Proofs.Ytblcmgahgpnjmaa
open Go.ChangeShapes Go.WideShapes Go.ChangeAt Go.RowKit
set_option maxRecDepth 100000
set_option maxHeartbeats 4000000

def kwA : Array Value := (kw.map fun b => Value.string (bs b)).toArray
theorem kwA_at (j : Nat) (b : Bs) (h : kw[j]? = some b) : kwA[j]? = some (.string (bs b)) := by
  unfold kwA
  rw [List.getElem?_toArray, List.getElem?_map, h]
  rfl
theorem kw_len : kw.length = 42 := by decide
def WdRel (s : ByteArray) (W : World) (v4 : Value) (wr : World) : Prop := ∃ i : Nat, i ≤ 42 ∧ v4 = .int .i64 i ∧ (∀ (j : Nat) (b : Bs), j < i → kw[j]? = some b → (b == s.toList) = false) ∧ wr = W

theorem rword_any (s : ByteArray) (w : World) : Calls Try.prog 59 #[.string s] w fun e w' => e = .returned (.bool (wrd s)) ∧ Touch NoB w w' := by
  go_enter Try.func59, Try.ntmps59
  go_upto_region 2 with fail
  obtain ⟨W, hW⟩ : ∃ W, W = w.alloc (.cells kwA 9 (0, 0)) := ⟨_, rfl⟩
  show Code.wp _ _ _ _ (w.alloc (.cells kwA 9 (0, 0)))
  have hcell : ∀ (j : Nat) (b : Bs), kw[j]? = some b → W.cell? ⟨w.heap.size, j, none⟩ = some (.string (bs b)) := fun j b h => by
    rw [hW, cell_of_row _ _ _ _ _ _ (heap_alloc_new w (.cells kwA 9 (0, 0)))]
    exact kwA_at j b h
  have hT : Touch NoB w W := by rw [hW]; exact (Touch.refl _ _).alloc _
  rw [← hW]
  have HC := Lib.hid hcell
  have HT := Lib.hid hT
  clear hW hcell hT
  obtain ⟨N, hN⟩ : ∃ N, w.heap.size = N := ⟨_, rfl⟩
  rw [hN] at HC ⊢
  clear hN
  go_wp2
  go_loopw [4] (fun v4 wr => WdRel s W v4 wr) (fun v4 _ => 42 - (intOf v4).toNat)
  case atStart => exact ⟨0, by omega, rfl, fun j b hj => by omega, rfl⟩
  case round =>
    obtain ⟨i, hi, rfl, hno, rfl⟩ := hrel
    by_cases hlt : i < 42
    · obtain ⟨b, hb⟩ : ∃ b, kw[i]? = some b := ⟨kw[i]'(by rw [kw_len]; exact hlt), List.getElem?_eq_getElem _⟩
      have hc := HC.out i b hb
      have hbl : (bs b).toList = b := bs_toList b
      have HB := Lib.hid (And.intro hb (And.intro hno hbl))
      obtain ⟨sb, hsb⟩ : ∃ sb, bs b = sb := ⟨_, rfl⟩
      rw [hsb] at hc HB
      clear hb hno hbl hsb
      cases he : (sb.toList == s.toList)
      · have HEQ := Lib.hid he
        go_wp2
        go_roundw
        case rel =>
          refine ⟨i + 1, by omega, by go_num, fun j b' hj hb' => ?_, rfl⟩
          by_cases e : j = i
          · subst e
            have := HB.out.1.symm.trans hb'
            injection this with this
            subst this
            rw [← HB.out.2.2]; exact HEQ.out
          · exact HB.out.2.1 j b' (by omega) hb'
        case measure => simp [intOf]; omega
      · have HEQ := Lib.hid he
        go_wp2
        go_ret
        refine ⟨ret_bool ?_, HT.out⟩
        symm
        unfold wrd
        rw [List.contains_iff_mem]
        have h1 := HEQ.out
        rw [HB.out.2.2] at h1
        rw [← beq_iff_eq.1 h1]
        exact List.mem_of_getElem? HB.out.1
    · obtain rfl : i = 42 := by omega
      have HNO := Lib.hid hno
      clear hno
      go_wp2
      go_ret
      refine ⟨ret_bool ?_, HT.out⟩
      symm
      unfold wrd
      rw [Bool.eq_false_iff]
      intro h
      rw [List.contains_iff_mem] at h
      obtain ⟨j, hj⟩ := List.mem_iff_getElem?.1 h
      have hjl := (List.getElem?_eq_some_iff.1 hj).1
      rw [kw_len] at hjl
      have := HNO.out j _ hjl hj
      simp at this
theorem rname_any (s : ByteArray) (hs : s.size ≤ 9223372036854775807) (w : World) : Calls Try.prog 41 #[.string s] w fun e w' => e = .returned (.bool (nameB s && !wrd s)) ∧ Touch NoB w w' := by
  have HL := Lib.hid (fun w => named_any s hs w)
  have HD := Lib.hid (fun w => rword_any s w)
  cases hl : nameB s <;> cases hd : wrd s
  all_goals
    rw [hl] at HL
    rw [hd] at HD
    go_enter Try.func41, Try.ntmps41
    go_wp2_with fail
    refine (HL.out _).mono ?_
    rintro e w' ⟨rfl, rfl⟩
    first
    | (go_wp2_with fail
       refine (HD.out _).mono ?_
       rintro e w1 ⟨rfl, hT⟩
       have HT := Lib.hid hT
       clear hT
       go_wp2
       go_ret
       exact ⟨ret_bool rfl, HT.out⟩)
    | (go_wp2
       go_ret
       exact ⟨ret_bool rfl, Touch.refl _ _⟩)
/-- A name is one token. -/
theorem name_lex {l : Bs} (hn : nameB (bs l) = true) (hw : wrd (bs l) = false) : lexL l = .good [⟨1, 0, 0, l⟩, ⟨0, 0, l.length, []⟩] := by
  unfold nameB at hn
  simp only [Bool.and_eq_true, decide_eq_true_eq, List.all_eq_true, List.mem_range, bs_size] at hn
  obtain ⟨⟨⟨h1, h2⟩, h3⟩, h4⟩ := hn
  cases l with
  | nil => simp at h1
  | cons c r =>
    rw [bt_bs (c :: r) 0 c rfl, letB_b] at h3
    have hall : (c :: r).all bW = true := by
      rw [List.all_eq_true]
      intro x hx
      obtain ⟨i, hi⟩ := List.mem_iff_getElem?.1 hx
      have := h4 i (List.getElem?_eq_some_iff.1 hi).1
      rw [bt_bs _ i x hi, okB_b] at this
      exact this
    rw [wrd_bs] at hw
    exact lex_name hall h3 hw h2

end Go.Proofs.Ytblcmgahgpnjmaa
