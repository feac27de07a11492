/-
  What the predicates on bytes return, of package lex, of package value and the document's own; what Name of package value, Named, isWord and Name of package lex return; no condition beyond those that each theorem names.
-/
import Derived.Test.YtnphaaahdlkmhaaGreatRows
import Derived.Test.YtnphaaahdlkmhaaGreatZs1
import Derived.Test.YtnphaaahdlkmhaaGreatZs2
import Derived.WalkKit
import Derived.ProofKit
import Derived.OpenShut
import Derived.OwnWalk
import Derived.WalkLawsBesides
import Derived.KernelRfl
import Derived.Lib.Hide
import Derived.RegionTactic
import Derived.Deep.QuietTactic
import Derived.BigQuiet
namespace Go.Proofs.YtnphaaahdlkmhaaGreat
open Go.ChangeShapes Go.WideShapes Go.ChangeAt Go.RowKit
set_option maxRecDepth 100000
set_option maxHeartbeats 4000000

theorem alloc_blk (W : World) (cs : Array Value) (t : TypeId) {N : Nat} (hN : W.heap.size = N) : (W.alloc (.cells cs t)).heap[N]? = some (.cells cs t (0, 0)) := by
  subst hN; exact heap_alloc_new W _
def letB (c : Int) : Bool := decide (97 ≤ c ∧ c ≤ 122) || decide (65 ≤ c ∧ c ≤ 90)
def digB (c : Int) : Bool := decide (48 ≤ c ∧ c ≤ 57)
def okB (c : Int) : Bool := letB c || digB c || c == 95
/-- The byte at place i. -/
def bt (s : ByteArray) (i : Nat) : Int := if h : i < s.size then ((s[i]'h).toNat : Int) else 0
def nameB (s : ByteArray) : Bool := decide (1 ≤ s.size ∧ s.size ≤ 24) && letB (bt s 0) && (List.range s.size).all fun i => okB (bt s i)

theorem ret_bool {a b : Bool} (h : a = b) : Ending.returned (.bool a) = .returned (.bool b) := by rw [h]
theorem letter_any (c : Int) (w : World) : Calls Tryz.prog 96 #[.int .u8 c] w fun e w' => e = .returned (.bool (letB c)) ∧ w = w' := by
  by_cases h1 : 97 ≤ c <;> by_cases h2 : c ≤ 122 <;> by_cases h3 : 65 ≤ c <;> by_cases h4 : c ≤ 90
  all_goals
    go_enter Tryz.func96, Tryz.ntmps96
    go_wp2
    all_goals
      go_ret
      exact ⟨ret_bool (by unfold letB; simp [h1, h2, h3, h4]), rfl⟩
theorem digit_any (c : Int) (w : World) : Calls Tryz.prog 97 #[.int .u8 c] w fun e w' => e = .returned (.bool (digB c)) ∧ w = w' := by
  by_cases h1 : 48 ≤ c <;> by_cases h2 : c ≤ 57
  all_goals
    go_enter Tryz.func97, Tryz.ntmps97
    go_wp2
    all_goals
      go_ret
      exact ⟨ret_bool (by unfold digB; simp [h1, h2]), rfl⟩

theorem toList_empty {s : ByteArray} (h : s.size = 0) : s = ⟨#[]⟩ := by
  obtain ⟨a⟩ := s
  have : a = #[] := Array.eq_empty_of_size_eq_zero h
  rw [this]
theorem toList_ne {s : ByteArray} (h : 0 < s.size) : s.toList.isEmpty = false := by
  rw [ByteArray.toList_eq]
  obtain ⟨⟨x⟩⟩ := s
  cases x with
  | nil => exact absurd h (by decide)
  | cons a l => rfl

def NmRel (w : World) (s : ByteArray) (v19 : Value) (wr : World) : Prop := ∃ i : Nat, i ≤ s.size ∧ v19 = .int .i64 i ∧ (∀ j, j < i → okB (bt s j) = true) ∧ wr = w

theorem name_any (s : ByteArray) (hs : s.size ≤ 9223372036854775807) (w : World) : Calls Tryz.prog 81 #[.string s] w fun e w' => e = .returned (.bool (nameB s)) ∧ w = w' := by
  by_cases h0 : s.size = 0
  · obtain rfl := toList_empty h0
    go_enter Tryz.func81, Tryz.ntmps81
    go_wp2
    go_ret
    exact ⟨ret_bool (by unfold nameB; rfl), rfl⟩
  · have e0 := toList_ne (s := s) (by omega)
    by_cases h1 : 24 < s.size
    · have d1 : decide (24 < (s.size : Int)) = true := by simp; omega
      go_enter Tryz.func81, Tryz.ntmps81
      go_wp2
      go_ret
      exact ⟨ret_bool (by unfold nameB; rw [show decide (1 ≤ s.size ∧ s.size ≤ 24) = false from by simp; omega]; rfl), rfl⟩
    · have d1 : decide (24 < (s.size : Int)) = false := by simp; omega
      have h00 : 0 < s.size := by omega
      obtain ⟨c0, hc0⟩ : ∃ c, bt s 0 = c := ⟨_, rfl⟩
      have hb0 : ((s[0]'h00).toNat : Int) = c0 := by rw [← hc0]; unfold bt; rw [dif_pos h00]
      have HL := Lib.hid (fun w => letter_any c0 w)
      cases hl : letB c0
      · rw [hl] at HL
        go_enter Tryz.func81, Tryz.ntmps81
        go_wp2_with fail
        refine (HL.out _).mono ?_
        rintro e w' ⟨rfl, rfl⟩
        go_wp2
        go_ret
        exact ⟨ret_bool (by unfold nameB; rw [hc0, hl]; simp), rfl⟩
      · rw [hl] at HL
        have H0 := Lib.hid (And.intro hc0 hl)
        clear hc0 hl
        go_enter Tryz.func81, Tryz.ntmps81
        go_wp2_with fail
        refine (HL.out _).mono ?_
        rintro e w' ⟨rfl, rfl⟩
        clear hb0 e0 d1 HL
        go_wp2
        go_loopw [19] (fun v19 wr => NmRel w s v19 wr) (fun v19 _ => s.size - (intOf v19).toNat)
        case atStart => exact ⟨0, Nat.zero_le _, rfl, fun j hj => by omega, rfl⟩
        case round =>
          obtain ⟨i, hi, rfl, hok, rfl⟩ := hrel
          have HOK := Lib.hid hok
          clear hok
          by_cases hlt : i < s.size
          · obtain ⟨c, hc⟩ : ∃ c, bt s i = c := ⟨_, rfl⟩
            have hbi : ((s[i]'hlt).toNat : Int) = c := by rw [← hc]; unfold bt; rw [dif_pos hlt]
            have HLi := Lib.hid (fun w => letter_any c w)
            have HDi := Lib.hid (fun w => digit_any c w)
            have HC := Lib.hid hc
            clear hc
            have hfalse : okB c = false → nameB s = false := fun h => by
              unfold nameB
              rw [show (List.range s.size).all (fun i => okB (bt s i)) = false from by
                rw [List.all_eq_false]
                exact ⟨i, List.mem_range.2 hlt, by rw [HC.out, h]; decide⟩, Bool.and_false]
            have HFalse := Lib.hid hfalse
            clear hfalse
            cases hl : letB c
            · rw [hl] at HLi
              cases hd : digB c
              · rw [hd] at HDi
                by_cases h95 : c = 95
                · have k95 : (c != 95) = false := by simp [h95]
                  have hnext : okB c = true := by unfold okB; rw [hl, hd, h95]; rfl
                  have HNext := Lib.hid hnext
                  clear hl hd h95 hnext
                  go_wp2_with fail
                  refine (HLi.out _).mono ?_
                  rintro e w' ⟨rfl, rfl⟩
                  go_wp2_with fail
                  refine (HDi.out _).mono ?_
                  rintro e w' ⟨rfl, rfl⟩
                  go_wp2
                  go_roundw
                  case rel => exact ⟨i + 1, by omega, by go_num, fun j hj => by
                    by_cases e : j = i
                    · rw [e, HC.out]; exact HNext.out
                    · exact HOK.out j (by omega), rfl⟩
                  case measure => simp [intOf]; omega
                · have k95 : (c != 95) = true := by simpa using h95
                  have hno := HFalse.out (by unfold okB; rw [hl, hd]; simpa using h95)
                  have HNo := Lib.hid hno
                  clear hl hd h95 hno
                  go_wp2_with fail
                  refine (HLi.out _).mono ?_
                  rintro e w' ⟨rfl, rfl⟩
                  go_wp2_with fail
                  refine (HDi.out _).mono ?_
                  rintro e w' ⟨rfl, rfl⟩
                  go_wp2
                  go_ret
                  exact ⟨ret_bool HNo.out.symm, rfl⟩
              · rw [hd] at HDi
                have hnext : okB c = true := by unfold okB; rw [hl, hd]; rfl
                have HNext := Lib.hid hnext
                clear hl hd hnext
                go_wp2_with fail
                refine (HLi.out _).mono ?_
                rintro e w' ⟨rfl, rfl⟩
                go_wp2_with fail
                refine (HDi.out _).mono ?_
                rintro e w' ⟨rfl, rfl⟩
                go_wp2
                go_roundw
                case rel => exact ⟨i + 1, by omega, by go_num, fun j hj => by
                  by_cases e : j = i
                  · rw [e, HC.out]; exact HNext.out
                  · exact HOK.out j (by omega), rfl⟩
                case measure => simp [intOf]; omega
            · rw [hl] at HLi
              have hnext : okB c = true := by unfold okB; rw [hl]; rfl
              have HNext := Lib.hid hnext
              clear hl hnext
              go_wp2_with fail
              refine (HLi.out _).mono ?_
              rintro e w' ⟨rfl, rfl⟩
              go_wp2
              go_roundw
              case rel => exact ⟨i + 1, by omega, by go_num, fun j hj => by
                by_cases e : j = i
                · rw [e, HC.out]; exact HNext.out
                · exact HOK.out j (by omega), rfl⟩
              case measure => simp [intOf]; omega
          · obtain rfl : i = s.size := by omega
            have hyes : nameB s = true := by
              unfold nameB
              rw [show decide (1 ≤ s.size ∧ s.size ≤ 24) = true from by simp; omega, H0.out.1, H0.out.2]
              simp only [Bool.true_and, List.all_eq_true]
              exact fun j hj => HOK.out j (List.mem_range.1 hj)
            have HYes := Lib.hid hyes
            clear hyes
            go_wp2
            go_ret
            exact ⟨ret_bool HYes.out.symm, rfl⟩

/-- What Named asks of the byte at place j. -/
def nok (s : ByteArray) (j : Nat) : Bool := letB (bt s j) || ((digB (bt s j) || bt s j == 95) && decide (0 < j))
theorem named_yes {s : ByteArray} (h : ∀ j, j < s.size → nok s j = true) : nameB s = decide (1 ≤ s.size ∧ s.size ≤ 24) := by
  unfold nameB
  by_cases h1 : 1 ≤ s.size ∧ s.size ≤ 24
  · have h0 := h 0 (by omega)
    unfold nok at h0
    simp at h0
    rw [h0, show (List.range s.size).all (fun i => okB (bt s i)) = true from by
      rw [List.all_eq_true]
      intro j hj
      have := h j (List.mem_range.1 hj)
      unfold nok at this
      unfold okB
      cases hl : letB (bt s j)
      · rw [hl] at this; simp at this; simpa using this.1
      · rfl]
    simp
  · rw [show decide (1 ≤ s.size ∧ s.size ≤ 24) = false from by simpa using h1]
    rfl

/-! ### package lex: bytes -/
def spcB (c : Int) : Bool := c == 32 || c == 9 || c == 10 || c == 13
theorem letB_b (c : UInt8) : letB (c.toNat : Int) = bL c := by
  unfold letB bL
  congr 1 <;> simp only [decide_eq_decide] <;> omega
theorem digB_b (c : UInt8) : digB (c.toNat : Int) = bD c := by
  unfold digB bD
  simp only [decide_eq_decide]; omega
theorem okB_b (c : UInt8) : okB (c.toNat : Int) = bW c := by
  unfold okB bW
  rw [letB_b, digB_b]
  congr 1
  by_cases h : c.toNat = 95
  · simp [h]
  · have : ¬ (c.toNat : Int) = 95 := by omega
    simp [h, this]
theorem spcB_b (c : UInt8) : spcB (c.toNat : Int) = bB c := by
  unfold spcB bB
  have e : ∀ n : Nat, ((c.toNat : Int) == (n : Int)) = decide (c.toNat = n) := fun n => by
    by_cases h : c.toNat = n
    · simp [h]
    · have : ¬ (c.toNat : Int) = n := by omega
      simp [h, this]
  have := e 32; have := e 9; have := e 10; have := e 13
  simp_all [Bool.or_assoc]

/-! ### words -/
def wrd (s : ByteArray) : Bool := kw.contains s.toList
theorem isword_any (s : ByteArray) (w : World) : Calls Tryz.prog 104 #[.string s] w fun e w' => e = .returned (.bool (wrd s)) ∧ w = w' := by
  go_enter Tryz.func104, Tryz.ntmps104
  go_wp2
  all_goals
    go_ret
    refine ⟨ret_bool ?_, rfl⟩
    unfold wrd kw
    first
    | (simp only [List.contains_cons, *, Bool.true_or, Bool.or_true, Bool.false_or, List.contains_nil]; done)
    | (exfalso; simp_all; done)
theorem lname_any (s : ByteArray) (hs : s.size ≤ 9223372036854775807) (w : World) : Calls Tryz.prog 101 #[.string s] w fun e w' => e = .returned (.bool (nameB s && !wrd s)) ∧ w = w' := by
  have HL := Lib.hid (fun w => name_any s hs w)
  have HD := Lib.hid (fun w => isword_any s w)
  cases hl : nameB s <;> cases hd : wrd s
  all_goals
    rw [hl] at HL
    rw [hd] at HD
    go_enter Tryz.func101, Tryz.ntmps101
    go_wp2_with (first
      | (go_at_call 81; refine (HL.out _).mono ?_; rintro e w' ⟨rfl, rfl⟩)
      | (go_at_call 104; refine (HD.out _).mono ?_; rintro e w' ⟨rfl, rfl⟩))
    all_goals
      go_ret
      exact ⟨ret_bool rfl, rfl⟩
end Go.Proofs.YtnphaaahdlkmhaaGreat
