/-
  What package expr's word and operator return. Conditions: the table of levels can be read; those that each theorem names.
-/
import Derived.Test.YtkmbobfjoaldgaaGreatDoorQh
import Derived.Deep.RegionLaw
namespace Go.Proofs.YtkmbobfjoaldgaaGreatDoor
open Go.ChangeShapes Go.WideShapes Go.ChangeAt Go.RowKit
set_option maxRecDepth 100000
set_option maxHeartbeats 4000000

/-- The word or sign of a kind. -/
def wordB : Int → Bs
  | 4 => [115, 101, 108, 102]
  | 5 => [116, 105, 109, 101]
  | 6 => [43]
  | 7 => [45]
  | 8 => [42]
  | 9 => [47]
  | 10 => [61, 61]
  | 11 => [60]
  | 12 => [97, 110, 100]
  | 13 => [111, 114]
  | 14 => [110, 111, 116]
  | 16 => [114, 101]
  | 17 => [105, 109]
  | 18 => [116, 117, 114, 110]
  | 19 => [102, 97, 114]
  | _ => []
theorem word_kd (k : Int) (h : 4 ≤ k ∧ k ≤ 19) (w : World) : Calls Tryz.prog 165 #[.int .i64 k] w fun e w' => e = .returned (.string (bs (wordB k))) ∧ w = w' := by
  have hk : k = 4 ∨ k = 5 ∨ k = 6 ∨ k = 7 ∨ k = 8 ∨ k = 9 ∨ k = 10 ∨ k = 11 ∨ k = 12 ∨ k = 13 ∨ k = 14 ∨ k = 15 ∨ k = 16 ∨ k = 17 ∨ k = 18 ∨ k = 19 := by omega
  clear h
  rcases hk with rfl | rfl | rfl | rfl | rfl | rfl | rfl | rfl | rfl | rfl | rfl | rfl | rfl | rfl | rfl | rfl
  all_goals
    go_enter Tryz.func165, Tryz.ntmps165
    go_wp2
    go_ret
    exact ⟨rfl, rfl⟩

/-- The kinds of each level. -/
def lvs : List (List Int) := [[13], [12], [10, 11], [6, 7], [8, 9]]
/-- The table of levels lies below B. -/
structure LV (w : World) (B : Nat) : Prop where
  lt : 6 < B
  le : B ≤ w.heap.size
  at_ : ∀ (lv : Nat) (ops : List Int), lvs[lv]? = some ops → ∃ b o c, w.cell? ⟨6, lv, none⟩ = some (.slice (some ⟨b, o, none⟩) ops.length c) ∧ b < B ∧ ∀ (i : Nat) (k : Int), ops[i]? = some k → w.cell? ⟨b, o + i, none⟩ = some (.int .i64 k)
theorem LV.touch {w w' : World} {B : Nat} {F : Nat → Prop} (h : LV w B) (t : Touch F w w') (hF : ∀ b, F b → B ≤ b) : LV w' B := by
  refine ⟨h.lt, Nat.le_trans h.le t.size, fun lv ops hl => ?_⟩
  obtain ⟨b, o, c, h1, h2, h3⟩ := h.at_ lv ops hl
  have hb := h.le
  refine ⟨b, o, c, ?_, h2, fun i k hi => ?_⟩
  · rw [t.cell (p := ⟨6, lv, none⟩) (Nat.lt_of_lt_of_le h.lt hb) (fun f => by have h1 : B ≤ 6 := hF _ f; have := h.lt; omega)]; exact h1
  · rw [t.cell (p := ⟨b, o + i, none⟩) (Nat.lt_of_lt_of_le h2 hb) (fun f => by have h1 : B ≤ b := hF _ f; omega)]; exact h3 i k hi
theorem LV.touch0 {w w' : World} {B : Nat} (h : LV w B) (t : Touch NoB w w') : LV w' B := h.touch t (fun _ x => x.elim)
theorem LV.touchP {w w' : World} {B gp : Nat} (h : LV w B) (t : Touch (AtB gp) w w') (hg : B ≤ gp) : LV w' B := h.touch t (fun b x => by unfold AtB at x; omega)

/-- The first of these kinds whose word comes. -/
def firstK (ts : List Tk) (k e : Nat) (ops : List Int) : Option Int := ops.find? (fun kd => acc (nxt ts k e) (wordB kd))
theorem opk_first (ts : List Tk) (lv k : Nat) (ops : List Int) (h : lvs[lv]? = some ops) : opk ts lv k = firstK ts k 0 ops := by
  have hl : lv < 5 := (List.getElem?_eq_some_iff.1 h).1
  have hc : lv = 0 ∨ lv = 1 ∨ lv = 2 ∨ lv = 3 ∨ lv = 4 := by omega
  rcases hc with rfl | rfl | rfl | rfl | rfl <;> (simp only [lvs, List.getElem?_cons_zero, List.getElem?_cons_succ, Option.some.injEq] at h; subst h; unfold opk firstK; simp only [acc_ok, List.find?, wordB]) <;> repeat' split
  all_goals simp_all
theorem first_bad {ts : List Tk} {k e : Nat} (he : e ≠ 0) (ops : List Int) : firstK ts k e ops = none := by
  unfold firstK
  rw [List.find?_eq_none]
  intro x _
  rw [acc_bad he]
  decide
theorem prek_first (ts : List Tk) (k : Nat) : prek ts k = firstK ts k 0 [14, 16, 17, 18] := by
  unfold prek firstK
  simp only [acc_ok, List.find?, wordB]
  repeat' split
  all_goals simp_all
theorem first_at {ts : List Tk} {k e : Nat} {ops : List Int} {i : Nat} {kd : Int} (hi : ops[i]? = some kd) (hno : ∀ (j : Nat) (q : Int), j < i → ops[j]? = some q → acc (nxt ts k e) (wordB q) = false) (hy : acc (nxt ts k e) (wordB kd) = true) : firstK ts k e ops = some kd := by
  unfold firstK
  induction ops generalizing i with
  | nil => cases hi
  | cons a r ih =>
    cases i with
    | zero => simp only [List.getElem?_cons_zero, Option.some.injEq] at hi; subst hi; simp [List.find?, hy]
    | succ i =>
      have h0 := hno 0 a (by omega) rfl
      simp only [List.find?, h0]
      exact ih (by simpa using hi) (fun j q hj hq => hno (j + 1) q (by omega) (by simpa using hq))
theorem first_none {ts : List Tk} {k e : Nat} {ops : List Int} (hno : ∀ (j : Nat) (q : Int), j < ops.length → ops[j]? = some q → acc (nxt ts k e) (wordB q) = false) : firstK ts k e ops = none := by
  unfold firstK
  rw [List.find?_eq_none]
  intro x hx
  obtain ⟨j, hj⟩ := List.mem_iff_getElem?.1 hx
  rw [hno j x (List.getElem?_eq_some_iff.1 hj).1 hj]
  decide
theorem first_lt {ts : List Tk} {k e : Nat} {ops : List Int} {kd : Int} (h : firstK ts k e ops = some kd) : acc (nxt ts k e) (wordB kd) = true := by
  unfold firstK at h
  exact List.find?_some (p := fun kd => acc (nxt ts k e) (wordB kd)) h

def OpPost (w : World) (gp g n cp : Nat) (ts : List Tk) (k e : Nat) (r : Option Int) (x : Ending) (w' : World) : Prop := match r with
  | some kd => x = .returned (.tuple #[.int .i64 kd, .bool true]) ∧ PS w' gp g n cp ts (k + 1) e ∧ Touch (AtB gp) w w'
  | none => x = .returned (.tuple #[.int .i64 0, .bool false]) ∧ PS w' gp g n cp ts k e ∧ Touch NoB w w'
def OpRel (ts : List Tk) (k e m : Nat) (ops : List Int) (w : World) (v12 : Value) (wr : World) : Prop := ∃ i : Nat, i ≤ m ∧ v12 = .int .i64 i ∧ (∀ (j : Nat) (q : Int), j < i → ops[j]? = some q → acc (nxt ts k e) (wordB q) = false) ∧ Touch NoB w wr
theorem operator_any {w : World} {gp g n cp B : Nat} {ts : List Tk} {k e : Nat} (h : PS w gp g n cp ts k e) (hv : LV w B) {lv : Nat} {ops : List Int} (hl : lvs[lv]? = some ops) :
    Calls Tryz.prog 173 #[.pointer (some ⟨gp, 0, none⟩), .int .i64 (lv : Int)] w (OpPost w gp g n cp ts k e (firstK ts k e ops)) := by
  obtain ⟨b, o, c, h1, h2, h3⟩ := hv.at_ lv ops hl
  have hlv : lv < 5 := (List.getElem?_eq_some_iff.1 hl).1
  have h0 : 6 < w.heap.size := Nat.lt_of_lt_of_le hv.lt hv.le
  have hbl : b < w.heap.size := Nat.lt_of_lt_of_le h2 hv.le
  have hops : ∀ q ∈ ops, 4 ≤ q ∧ q ≤ 19 := by
    have : ∀ l ∈ lvs, ∀ q ∈ l, 4 ≤ q ∧ q ≤ 19 := by decide
    exact this ops (List.mem_of_getElem? hl)
  have HO := Lib.hid hops
  have HC := Lib.hid h3
  have HP := Lib.hid h
  obtain ⟨m, hm⟩ : ∃ m, ops.length = m := ⟨_, rfl⟩
  rw [hm] at h1
  have HM := Lib.hid hm
  have hm3 : m ≤ 2 := by
    have : ∀ l ∈ lvs, l.length ≤ 2 := by decide
    have := this ops (List.mem_of_getElem? hl)
    omega
  clear h hv hl h3 hops hm h2
  go_enter Tryz.func173, Tryz.ntmps173
  go_wp2
  go_loopw [12] (fun v12 wr => OpRel ts k e m ops w v12 wr) (fun v12 _ => m - (intOf v12).toNat)
  case atStart => exact ⟨0, Nat.zero_le _, rfl, fun j q hj => by omega, Touch.refl _ _⟩
  case round =>
    obtain ⟨i, hi, rfl, hno, hTr⟩ := hrel
    by_cases hlt : i < m
    · obtain ⟨kd, hkd⟩ : ∃ kd, ops[i]? = some kd := ⟨ops[i]'(by rw [HM.out]; exact hlt), List.getElem?_eq_getElem _⟩
      have hcell : wr.cell? ⟨b, o + i, none⟩ = some (.int .i64 kd) := (hTr.cell (p := ⟨b, o + i, none⟩) hbl (fun x => x)).trans (HC.out i kd hkd)
      have HW := Lib.hid (fun w => word_kd kd (HO.out kd (List.mem_of_getElem? hkd)) w)
      have HPr := Lib.hid (HP.out.touch hTr)
      have HNo := Lib.hid (And.intro hno (And.intro hkd hTr))
      have hblr : b < wr.heap.size := Nat.lt_of_lt_of_le hbl hTr.size
      clear hno hkd hTr
      cases ha : acc (nxt ts k e) (wordB kd)
      · have HA := Lib.hid (fun (W : World) (t : Touch NoB wr W) => accept_no (HPr.out.touch t) ha)
        have HX := Lib.hid ha
        clear ha
        go_wp2_with fail
        go_region_law
          (first
            | (go_simp; go_at_call 165
               refine (HW.out _).mono ?_
               rintro x w1 ⟨rfl, rfl⟩)
            | (go_simp; go_at_call 80
               refine (HA.out _ (Touch.refl _ _).drew).mono ?_
               rintro x w2 ⟨rfl, h1, h2⟩
               have HT := Lib.hid (HNo.out.2.2.same ((Touch.refl _ wr).drew.same h2))
               clear h1 h2))
        all_goals
          go_wp2
          go_roundw
          case rel =>
            refine ⟨i + 1, by omega, by go_num, fun j q hj hq => ?_, HT.out⟩
            by_cases ej : j = i
            · subst ej
              have := HNo.out.2.1.symm.trans hq
              injection this with this
              subst this
              exact HX.out
            · exact HNo.out.1 j q (by omega) hq
          case measure => simp [intOf]; omega
      · have HA := Lib.hid (fun (W : World) (t : Touch NoB wr W) => accept_yes (HPr.out.touch t) ha)
        have HX := Lib.hid (first_at HNo.out.2.1 HNo.out.1 ha)
        clear ha
        go_wp2_with fail
        go_region_law
          (first
            | (go_simp; go_at_call 165
               refine (HW.out _).mono ?_
               rintro x w1 ⟨rfl, rfl⟩)
            | (go_simp; go_at_call 80
               refine (HA.out _ (Touch.refl _ _).drew).mono ?_
               rintro x w2 ⟨rfl, h1, h2⟩
               have HT := Lib.hid (And.intro h1 ((Touch.anyB (HNo.out.2.2.same (Touch.refl _ wr).drew)).same h2))
               clear h1 h2))
        all_goals
          go_wp2
          exact bodyPost_ret (v := .tuple #[.int .i64 kd, .bool true]) (by simp [results, Tryz.results173, go_sem]) rfl (by rw [HX.out]; exact ⟨rfl, HT.out.1, HT.out.2⟩)
    · obtain rfl : i = m := by omega
      have HX : Hid (firstK ts k e ops = none) := Lib.hid (first_none (fun j q hj hq => hno j q (by rw [HM.out] at hj; exact hj) hq))
      have HT := Lib.hid (And.intro (HP.out.touch hTr) hTr)
      clear hno hTr
      go_wp2
      exact bodyPost_ret (v := .tuple #[.int .i64 0, .bool false]) (by simp [results, Tryz.results173, go_sem]) rfl (by rw [HX.out]; exact ⟨rfl, HT.out.1, HT.out.2⟩)
end Go.Proofs.YtkmbobfjoaldgaaGreatDoor
