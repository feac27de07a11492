/-
  What isLetter, isDigit and Name return; Right of a symbol with a name.
-/
import Derived.Test.YteacpfknfbmjkaaVa
namespace Go.Proofs.Yteacpfknfbmjkaa
open Go.ChangeShapes Go.WideShapes Go.ChangeAt Go.RowKit
set_option maxRecDepth 100000
set_option maxHeartbeats 1000000
attribute [local go_sem] run_equalIn_complex run_store_complex

def letB (c : Int) : Bool := decide (97 ≤ c ∧ c ≤ 122) || decide (65 ≤ c ∧ c ≤ 90)
def digB (c : Int) : Bool := decide (48 ≤ c ∧ c ≤ 57)
def okB (c : Int) : Bool := letB c || digB c || c == 95
/-- The byte at place i. -/
def bt (s : ByteArray) (i : Nat) : Int := if h : i < s.size then ((s[i]'h).toNat : Int) else 0
def nameB (s : ByteArray) : Bool := decide (1 ≤ s.size ∧ s.size ≤ 24) && letB (bt s 0) && (List.range s.size).all fun i => okB (bt s i)

theorem bt_run {P : Program} {t : TypeId} (ht : P.underlying t = some .string) (s : ByteArray) (i : Nat) (h : i < s.size) (w : World) : (Instr.index t (.string s) (.int .i64 (i : Int))).run P w = .ok (.int .u8 (bt s i)) w := by
  rw [run_index_string w t s .i64 i ht, dif_pos ⟨by omega, by omega⟩]
  unfold bt
  rw [dif_pos h]
  simp

theorem ret_bool {a b : Bool} (h : a = b) : Ending.returned (.bool a) = .returned (.bool b) := by rw [h]
theorem letter_any (c : Int) (w : World) : Calls Try.prog 29 #[.int .u8 c] w fun e w' => e = .returned (.bool (letB c)) ∧ w = w' := by
  by_cases h1 : 97 ≤ c <;> by_cases h2 : c ≤ 122 <;> by_cases h3 : 65 ≤ c <;> by_cases h4 : c ≤ 90
  all_goals
    go_enter Try.func29, Try.ntmps29
    go_wp2
    all_goals
      go_ret
      exact ⟨ret_bool (by unfold letB; simp [h1, h2, h3, h4]), rfl⟩
theorem digit_any (c : Int) (w : World) : Calls Try.prog 30 #[.int .u8 c] w fun e w' => e = .returned (.bool (digB c)) ∧ w = w' := by
  by_cases h1 : 48 ≤ c <;> by_cases h2 : c ≤ 57
  all_goals
    go_enter Try.func30, Try.ntmps30
    go_wp2
    all_goals
      go_ret
      exact ⟨ret_bool (by unfold digB; simp [h1, h2]), rfl⟩

theorem toList_empty {s : ByteArray} (h : s.size = 0) : s = ⟨#[]⟩ := by
  obtain ⟨a⟩ := s
  have : a = #[] := Array.eq_empty_of_size_eq_zero h
  rw [this]
theorem toList_ne {s : ByteArray} (h : 0 < s.size) : s.toList.isEmpty = false := by
  rw [ByteArray.toList_eq]
  obtain ⟨⟨x⟩⟩ := s
  cases x with
  | nil => exact absurd h (by decide)
  | cons a l => rfl

def NmRel (w : World) (s : ByteArray) (v19 : Value) (wr : World) : Prop := ∃ i : Nat, i ≤ s.size ∧ v19 = .int .i64 i ∧ (∀ j, j < i → okB (bt s j) = true) ∧ wr = w

theorem name_any (s : ByteArray) (hs : s.size ≤ 9223372036854775807) (w : World) : Calls Try.prog 24 #[.string s] w fun e w' => e = .returned (.bool (nameB s)) ∧ w = w' := by
  by_cases h0 : s.size = 0
  · obtain rfl := toList_empty h0
    go_enter Try.func24, Try.ntmps24
    go_wp2
    go_ret
    exact ⟨ret_bool (by unfold nameB; rfl), rfl⟩
  · have e0 := toList_ne (s := s) (by omega)
    by_cases h1 : 24 < s.size
    · have d1 : decide (24 < (s.size : Int)) = true := by simp; omega
      go_enter Try.func24, Try.ntmps24
      go_wp2
      go_ret
      exact ⟨ret_bool (by unfold nameB; rw [show decide (1 ≤ s.size ∧ s.size ≤ 24) = false from by simp; omega]; rfl), rfl⟩
    · have d1 : decide (24 < (s.size : Int)) = false := by simp; omega
      have h00 : 0 < s.size := by omega
      obtain ⟨c0, hc0⟩ : ∃ c, bt s 0 = c := ⟨_, rfl⟩
      have hb0 : ((s[0]'h00).toNat : Int) = c0 := by rw [← hc0]; unfold bt; rw [dif_pos h00]
      have HL := Lib.hid (fun w => letter_any c0 w)
      cases hl : letB c0
      · rw [hl] at HL
        go_enter Try.func24, Try.ntmps24
        go_wp2_with fail
        refine (HL.out _).mono ?_
        rintro e w' ⟨rfl, rfl⟩
        go_wp2
        go_ret
        exact ⟨ret_bool (by unfold nameB; rw [hc0, hl]; simp), rfl⟩
      · rw [hl] at HL
        have H0 := Lib.hid (And.intro hc0 hl)
        clear hc0 hl
        go_enter Try.func24, Try.ntmps24
        go_wp2_with fail
        refine (HL.out _).mono ?_
        rintro e w' ⟨rfl, rfl⟩
        clear hb0 e0 d1 HL
        go_wp2
        go_loopw [19] (fun v19 wr => NmRel w s v19 wr) (fun v19 _ => s.size - (intOf v19).toNat)
        case atStart => exact ⟨0, Nat.zero_le _, rfl, fun j hj => by omega, rfl⟩
        case round =>
          obtain ⟨i, hi, rfl, hok, rfl⟩ := hrel
          have HOK := Lib.hid hok
          clear hok
          by_cases hlt : i < s.size
          · obtain ⟨c, hc⟩ : ∃ c, bt s i = c := ⟨_, rfl⟩
            have hbi : ((s[i]'hlt).toNat : Int) = c := by rw [← hc]; unfold bt; rw [dif_pos hlt]
            have HLi := Lib.hid (fun w => letter_any c w)
            have HDi := Lib.hid (fun w => digit_any c w)
            have HC := Lib.hid hc
            clear hc
            have hfalse : okB c = false → nameB s = false := fun h => by
              unfold nameB
              rw [show (List.range s.size).all (fun i => okB (bt s i)) = false from by
                rw [List.all_eq_false]
                exact ⟨i, List.mem_range.2 hlt, by rw [HC.out, h]; decide⟩, Bool.and_false]
            have HFalse := Lib.hid hfalse
            clear hfalse
            cases hl : letB c
            · rw [hl] at HLi
              cases hd : digB c
              · rw [hd] at HDi
                by_cases h95 : c = 95
                · have k95 : (c != 95) = false := by simp [h95]
                  have hnext : okB c = true := by unfold okB; rw [hl, hd, h95]; rfl
                  have HNext := Lib.hid hnext
                  clear hl hd h95 hnext
                  go_wp2_with fail
                  refine (HLi.out _).mono ?_
                  rintro e w' ⟨rfl, rfl⟩
                  go_wp2_with fail
                  refine (HDi.out _).mono ?_
                  rintro e w' ⟨rfl, rfl⟩
                  go_wp2
                  go_roundw
                  case rel => exact ⟨i + 1, by omega, by go_num, fun j hj => by
                    by_cases e : j = i
                    · rw [e, HC.out]; exact HNext.out
                    · exact HOK.out j (by omega), rfl⟩
                  case measure => simp [intOf]; omega
                · have k95 : (c != 95) = true := by simpa using h95
                  have hno := HFalse.out (by unfold okB; rw [hl, hd]; simpa using h95)
                  have HNo := Lib.hid hno
                  clear hl hd h95 hno
                  go_wp2_with fail
                  refine (HLi.out _).mono ?_
                  rintro e w' ⟨rfl, rfl⟩
                  go_wp2_with fail
                  refine (HDi.out _).mono ?_
                  rintro e w' ⟨rfl, rfl⟩
                  go_wp2
                  go_ret
                  exact ⟨ret_bool HNo.out.symm, rfl⟩
              · rw [hd] at HDi
                have hnext : okB c = true := by unfold okB; rw [hl, hd]; rfl
                have HNext := Lib.hid hnext
                clear hl hd hnext
                go_wp2_with fail
                refine (HLi.out _).mono ?_
                rintro e w' ⟨rfl, rfl⟩
                go_wp2_with fail
                refine (HDi.out _).mono ?_
                rintro e w' ⟨rfl, rfl⟩
                go_wp2
                go_roundw
                case rel => exact ⟨i + 1, by omega, by go_num, fun j hj => by
                  by_cases e : j = i
                  · rw [e, HC.out]; exact HNext.out
                  · exact HOK.out j (by omega), rfl⟩
                case measure => simp [intOf]; omega
            · rw [hl] at HLi
              have hnext : okB c = true := by unfold okB; rw [hl]; rfl
              have HNext := Lib.hid hnext
              clear hl hnext
              go_wp2_with fail
              refine (HLi.out _).mono ?_
              rintro e w' ⟨rfl, rfl⟩
              go_wp2
              go_roundw
              case rel => exact ⟨i + 1, by omega, by go_num, fun j hj => by
                by_cases e : j = i
                · rw [e, HC.out]; exact HNext.out
                · exact HOK.out j (by omega), rfl⟩
              case measure => simp [intOf]; omega
          · obtain rfl : i = s.size := by omega
            have hyes : nameB s = true := by
              unfold nameB
              rw [show decide (1 ≤ s.size ∧ s.size ≤ 24) = true from by simp; omega, H0.out.1, H0.out.2]
              simp only [Bool.true_and, List.all_eq_true]
              exact fun j hj => HOK.out j (List.mem_range.1 hj)
            have HYes := Lib.hid hyes
            clear hyes
            go_wp2
            go_ret
            exact ⟨ret_bool HYes.out.symm, rfl⟩
end Go.Proofs.Yteacpfknfbmjkaa
