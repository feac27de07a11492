/-
  Right of a symbol with a name; the walk of ValueNames.
-/
import Derived.Test.YtfeodhhcclmcmaaDoorVc
import Derived.Test.YtfeodhhcclmcmaaDoorVb
namespace Go.Proofs.YtfeodhhcclmcmaaDoor
open Go.ChangeShapes Go.WideShapes Go.ChangeAt Go.RowKit
set_option maxRecDepth 100000
set_option maxHeartbeats 4000000
attribute [local go_sem] run_equalIn_complex run_store_complex

theorem name_size {s : ByteArray} (h : nameB s = true) : 1 ≤ s.size ∧ s.size ≤ 24 := by
  unfold nameB at h
  simp only [Bool.and_eq_true, decide_eq_true_eq] at h
  exact h.1.1
theorem right_name (s : ByteArray) (h : nameB s = true) (w : World) :
    Calls Tryd.prog 7 #[val 3 0 0 s] w fun e w' => e = .returned (.bool true) ∧ Touch NoB w w' := by
  have hs := name_size h
  have HS := Lib.hid (fun w => same_val 3 0 0 s w)
  have HN := Lib.hid (fun w => name_any s (by omega) w)
  rw [h] at HN
  have e0 := toList_ne (s := s) (by omega)
  clear h
  unfold val at HS
  unfold val
  go_enter Tryd.func7, Tryd.ntmps7
  go_wp2_with fail
  refine (HN.out _).mono ?_
  rintro e w' ⟨rfl, rfl⟩
  go_wp2_with fail
  refine (HS.out _).mono ?_
  rintro e w2 ⟨rfl, hT2⟩
  have HT2 := Lib.hid (((Touch.refl NoB w).alloc _).same hT2)
  clear hT2
  go_wp2
  go_ret
  exact ⟨rfl, HT2.out⟩

/-- What ValueNames asks of the byte at place j. -/
def vok (s : ByteArray) (j : Nat) : Bool := letB (bt s j) || ((digB (bt s j) || bt s j == 95) && decide (0 < (j : Int)))
def vokAll (s : ByteArray) (i : Nat) : Bool := decide (1 ≤ s.size ∧ s.size ≤ 24) && (List.range i).all (vok s)
theorem vok_succ (s : ByteArray) (i : Nat) : vokAll s (i + 1) = (vokAll s i && vok s i) := by
  unfold vokAll
  rw [List.range_succ, List.all_append, Bool.and_assoc]
  simp
theorem vok_eq (s : ByteArray) : vokAll s s.size = nameB s := by
  unfold vokAll nameB
  by_cases h : 1 ≤ s.size ∧ s.size ≤ 24
  · rw [show decide (1 ≤ s.size ∧ s.size ≤ 24) = true from by simpa using h, Bool.true_and, Bool.true_and]
    obtain ⟨n, hn⟩ : ∃ n, s.size = n + 1 := ⟨s.size - 1, by omega⟩
    rw [hn]
    cases hl : letB (bt s 0)
    · rw [Bool.false_and, List.all_eq_false]
      refine ⟨0, List.mem_range.2 (by omega), ?_⟩
      unfold vok
      rw [hl]
      simp
    · rw [Bool.true_and]
      refine Bool.eq_iff_iff.2 ?_
      simp only [List.all_eq_true, List.mem_range]
      refine forall_congr' fun j => imp_congr_right fun _ => ?_
      unfold vok okB
      by_cases hj : j = 0
      · subst hj; rw [hl]; simp
      · rw [show decide (0 < (j : Int)) = true from by simp; omega, Bool.and_true, Bool.or_assoc]
  · rw [show decide (1 ≤ s.size ∧ s.size ≤ 24) = false from by simpa using h]
    rfl

def VnRel (w : World) (s : ByteArray) (v4 v5 : Value) (wr : World) : Prop := ∃ i : Nat, i ≤ s.size ∧ v5 = .int .i64 i ∧ v4 = .bool (vokAll s i) ∧ wr = w
theorem val_bool {a b : Bool} (h : a = b) : Value.bool a = .bool b := by rw [h]

theorem names_out (s : ByteArray) (hs : 60 < s.size) (w : World) :
    Calls Tryd.prog 4 #[.string s] w fun e w' => e = .returned (.bool true) ∧ Touch NoB w w' := by
  have d1 : decide (60 < (s.size : Int)) = true := by simp; omega
  go_enter Tryd.func4, Tryd.ntmps4
  go_wp2_with fail
  refine (valive_any _).mono ?_
  rintro e w1 ⟨rfl, hT1⟩
  have HT1 := Lib.hid hT1
  clear hT1
  go_wp2
  go_ret
  exact ⟨rfl, HT1.out⟩

theorem names_in (s : ByteArray) (hs : s.size ≤ 60) (w : World) :
    Calls Tryd.prog 4 #[.string s] w fun e w' => e = .returned (.bool true) ∧ Touch NoB w w' := by
  have d1 : decide (60 < (s.size : Int)) = false := by simp; omega
  have hcases : (¬ (1 : Int) ≤ (s.size : Int) ∧ vokAll s 0 = false) ∨ (((1 : Int) ≤ (s.size : Int) ∧ ¬ (s.size : Int) ≤ 24) ∧ vokAll s 0 = false) ∨ (((1 : Int) ≤ (s.size : Int) ∧ (s.size : Int) ≤ 24) ∧ vokAll s 0 = true) := by
    by_cases h : 1 ≤ s.size ∧ s.size ≤ 24
    · exact .inr (.inr ⟨by omega, by unfold vokAll; rw [show decide (1 ≤ s.size ∧ s.size ≤ 24) = true from by simpa using h]; rfl⟩)
    · have hf : vokAll s 0 = false := by unfold vokAll; rw [show decide (1 ≤ s.size ∧ s.size ≤ 24) = false from by simpa using h]; rfl
      by_cases h1 : s.size < 1
      · exact .inl ⟨by omega, hf⟩
      · exact .inr (.inl ⟨by omega, hf⟩)
  have HN := Lib.hid (fun w => name_any s (by omega) w)
  go_enter Tryd.func4, Tryd.ntmps4
  go_wp2_with fail
  refine (valive_any _).mono ?_
  rintro e w1 ⟨rfl, hT1⟩
  have HT1 := Lib.hid hT1
  clear hT1
  rcases hcases with ⟨g1, hv⟩ | ⟨⟨g1, g2⟩, hv⟩ | ⟨⟨g1, g2⟩, hv⟩
  all_goals
    have HV := Lib.hid hv
    clear hv
    go_wp2
    go_loopw [4, 5] (fun v4 v5 wr => VnRel w1 s v4 v5 wr) (fun _ v5 _ => s.size - (intOf v5).toNat)
    case atStart => exact ⟨0, Nat.zero_le _, rfl, val_bool (by first | exact HV.out.symm | (rw [HV.out]; simp; omega)), rfl⟩
    case round =>
      clear HV
      obtain ⟨i, hi, rfl, rfl, rfl⟩ := hrel
      by_cases hlt : i < s.size
      · obtain ⟨c, hc⟩ : ∃ c, bt s i = c := ⟨_, rfl⟩
        have hbi : ((s[i]'hlt).toNat : Int) = c := by rw [← hc]; unfold bt; rw [dif_pos hlt]
        have HC := Lib.hid hc
        obtain ⟨b0, hb0⟩ : ∃ b, vokAll s i = b := ⟨_, rfl⟩
        rw [hb0]
        have HB := Lib.hid hb0
        clear hc hb0 g1
        (try clear g2)
        cases b0
        · have hnx : vokAll s (i + 1) = false := by rw [vok_succ, HB.out]; rfl
          have HX := Lib.hid hnx
          clear hnx
          by_cases f1 : 97 ≤ c <;> by_cases f2 : c ≤ 122 <;> by_cases f3 : 65 ≤ c <;> by_cases f4 : c ≤ 90 <;> by_cases f5 : 48 ≤ c <;> by_cases f6 : c ≤ 57 <;> by_cases f7 : c = 95 <;> first | (exfalso; omega) | skip
          all_goals
            have d7 : (c == 95) = decide (c = 95) := by by_cases e : c = 95 <;> simp [e]
            simp only [f7, decide_true, decide_false] at d7
            go_wp2
            all_goals
              go_roundw
              case rel => exact ⟨i + 1, by omega, by go_num, val_bool HX.out.symm, rfl⟩
              case measure => simp [intOf]; omega
        · by_cases hi0 : (0 : Int) < (i : Int)
          · have hin : 0 < i := by omega
            have hnx : vokAll s (i + 1) = (letB c || ((digB c || c == 95) && true)) := by
              rw [vok_succ, HB.out, Bool.true_and]; unfold vok; rw [HC.out, show decide ((0 : Int) < (i : Int)) = true from by simpa using hi0]
            have HX := Lib.hid hnx
            clear hnx
            by_cases f1 : 97 ≤ c <;> by_cases f2 : c ≤ 122 <;> by_cases f3 : 65 ≤ c <;> by_cases f4 : c ≤ 90 <;> by_cases f5 : 48 ≤ c <;> by_cases f6 : c ≤ 57 <;> by_cases f7 : c = 95 <;> first | (exfalso; omega) | skip
            all_goals
              have d7 : (c == 95) = decide (c = 95) := by by_cases e : c = 95 <;> simp [e]
              simp only [f7, decide_true, decide_false] at d7
              go_wp2
              all_goals
                go_roundw
                case rel => exact ⟨i + 1, by omega, by go_num, val_bool (by rw [HX.out]; unfold letB digB; first | (simp [f1, f2, f3, f4, f5, f6, f7]; done) | (simp [f1, f2, f3, f4, f5, f6, f7]; omega)), rfl⟩
                case measure => simp [intOf]; omega
          · have hin2 : ¬ 0 < i := by omega
            have hnx : vokAll s (i + 1) = (letB c || ((digB c || c == 95) && false)) := by
              rw [vok_succ, HB.out, Bool.true_and]; unfold vok; rw [HC.out, show decide ((0 : Int) < (i : Int)) = false from by simpa using hi0]
            have HX := Lib.hid hnx
            clear hnx
            by_cases f1 : 97 ≤ c <;> by_cases f2 : c ≤ 122 <;> by_cases f3 : 65 ≤ c <;> by_cases f4 : c ≤ 90 <;> by_cases f5 : 48 ≤ c <;> by_cases f6 : c ≤ 57 <;> by_cases f7 : c = 95 <;> first | (exfalso; omega) | skip
            all_goals
              have d7 : (c == 95) = decide (c = 95) := by by_cases e : c = 95 <;> simp [e]
              simp only [f7, decide_true, decide_false] at d7
              go_wp2
              all_goals
                go_roundw
                case rel => exact ⟨i + 1, by omega, by go_num, val_bool (by rw [HX.out]; unfold letB digB; first | (simp [f1, f2, f3, f4, f5, f6, f7]; done) | (simp [f1, f2, f3, f4, f5, f6, f7]; omega)), rfl⟩
                case measure => simp [intOf]; omega
      · obtain rfl : i = s.size := by omega
        rw [vok_eq]
        cases hn : nameB s
        · rw [hn] at HN
          clear hn
          go_wp2_with fail
          refine (HN.out _).mono ?_
          rintro e w' ⟨rfl, rfl⟩
          go_wp2
          go_ret
          exact ⟨rfl, HT1.out⟩
        · have HR := Lib.hid (fun w => right_name s hn w)
          rw [hn] at HN
          unfold val at HR
          clear hn
          go_wp2_with fail
          refine (HN.out _).mono ?_
          rintro e w' ⟨rfl, rfl⟩
          go_wp2_with fail
          refine (HR.out _).mono ?_
          rintro e w2 ⟨rfl, hT2⟩
          have HT2 := Lib.hid (HT1.out.same hT2)
          clear hT2
          go_wp2
          go_ret
          exact ⟨rfl, HT2.out⟩
end Go.Proofs.YtfeodhhcclmcmaaDoor
