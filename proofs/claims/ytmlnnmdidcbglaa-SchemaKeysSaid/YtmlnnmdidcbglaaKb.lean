/-
  What the document's own Named and CheckKeys return.
-/
import Derived.Test.YtmlnnmdidcbglaaKa
namespace Go.Proofs.Ytmlnnmdidcbglaa
open Go.ChangeShapes Go.WideShapes Go.ChangeAt Go.RowKit
set_option maxRecDepth 100000
set_option maxHeartbeats 4000000

/-- What Named asks of the byte at place j. -/
def nok (s : ByteArray) (j : Nat) : Bool := letB (bt s j) || ((digB (bt s j) || bt s j == 95) && decide (0 < j))
theorem named_no {s : ByteArray} {j : Nat} (hj : j < s.size) (h : nok s j = false) : nameB s = false := by
  unfold nok at h
  unfold nameB
  cases hl : letB (bt s j)
  · rw [hl] at h
    by_cases h0 : 0 < j
    · rw [Bool.and_eq_false_iff]; right
      rw [List.all_eq_false]
      refine ⟨j, List.mem_range.2 hj, ?_⟩
      unfold okB
      simp [h0] at h
      simp [hl, h.1, h.2]
    · obtain rfl : j = 0 := by omega
      rw [hl]; simp
  · rw [hl] at h; simp at h
theorem named_yes {s : ByteArray} (h : ∀ j, j < s.size → nok s j = true) : nameB s = decide (1 ≤ s.size ∧ s.size ≤ 24) := by
  unfold nameB
  by_cases h1 : 1 ≤ s.size ∧ s.size ≤ 24
  · have h0 := h 0 (by omega)
    unfold nok at h0
    simp at h0
    rw [h0, show (List.range s.size).all (fun i => okB (bt s i)) = true from by
      rw [List.all_eq_true]
      intro j hj
      have := h j (List.mem_range.1 hj)
      unfold nok at this
      unfold okB
      cases hl : letB (bt s j)
      · rw [hl] at this; simp at this; simpa using this.1
      · rfl]
    simp
  · rw [show decide (1 ≤ s.size ∧ s.size ≤ 24) = false from by simpa using h1]
    rfl

def NdRel (w : World) (s : ByteArray) (v3 : Value) (wr : World) : Prop := ∃ i : Nat, i ≤ s.size ∧ v3 = .int .i64 i ∧ (∀ j, j < i → nok s j = true) ∧ wr = w
theorem named_any (s : ByteArray) (hs : s.size ≤ 9223372036854775807) (w : World) :
    Calls Try.prog 17 #[.string s] w fun e w' => e = .returned (.bool (nameB s)) ∧ w = w' := by
  go_enter Try.func17, Try.ntmps17
  go_wp2
  go_loopw [3] (fun v3 wr => NdRel w s v3 wr) (fun v3 _ => s.size - (intOf v3).toNat)
  case atStart => exact ⟨0, Nat.zero_le _, rfl, fun j hj => by omega, rfl⟩
  case round =>
    obtain ⟨i, hi, rfl, hok, rfl⟩ := hrel
    have HOK := Lib.hid hok
    clear hok
    by_cases hlt : i < s.size
    · obtain ⟨c, hc⟩ : ∃ c, bt s i = c := ⟨_, rfl⟩
      have hbi : ((s[i]'hlt).toNat : Int) = c := by rw [← hc]; unfold bt; rw [dif_pos hlt]
      have hnx : nok s i = (letB c || ((digB c || c == 95) && decide (0 < i))) := by unfold nok; rw [hc]
      have HX := Lib.hid hnx
      clear hnx hc
      by_cases hi0 : i = 0
      · subst hi0
        by_cases f1 : 97 ≤ c <;> by_cases f2 : c ≤ 122 <;> by_cases f3 : 65 ≤ c <;> by_cases f4 : c ≤ 90 <;> first | (exfalso; omega) | skip
        all_goals
          go_wp2
          first
          | (go_roundw
             case rel => exact ⟨0 + 1, by omega, by go_num, fun j hj => by
               obtain rfl : j = 0 := by omega
               rw [HX.out]; unfold letB; simp [f1, f2, f3, f4], rfl⟩
             case measure => simp [intOf]; omega)
          | (go_ret
             exact ⟨ret_bool (named_no hlt (by rw [HX.out]; unfold letB; simp [f1, f2, f3, f4])).symm, rfl⟩)
      · have d0 : ((i : Int) == 0) = false := by simp; omega
        have hip : 0 < i := by omega
        by_cases f1 : 97 ≤ c <;> by_cases f2 : c ≤ 122 <;> by_cases f3 : 65 ≤ c <;> by_cases f4 : c ≤ 90 <;> by_cases f5 : c < 48 <;> by_cases f6 : 57 < c <;> by_cases f7 : c = 95 <;> first | (exfalso; omega) | skip
        all_goals
          have d7 : (c != 95) = !decide (c = 95) := by by_cases e : c = 95 <;> simp [e]
          simp only [f7, decide_true, decide_false, Bool.not_true, Bool.not_false] at d7
          go_wp2
          first
          | (go_roundw
             case rel => exact ⟨i + 1, by omega, by go_num, fun j hj => by
               by_cases e : j = i
               · subst e; rw [HX.out]; unfold letB digB; first | (simp [f1, f2, f3, f4, f7, hip]; done) | (simp [f1, f2, f3, f4, f7, hip]; omega)
               · exact HOK.out j (by omega), rfl⟩
             case measure => simp [intOf]; omega)
          | (go_ret
             exact ⟨ret_bool (named_no hlt (by rw [HX.out]; unfold letB digB; first | (simp [f1, f2, f3, f4, f7, hip]; done) | (simp [f1, f2, f3, f4, f7, hip]; omega))).symm, rfl⟩)
    · obtain rfl : i = s.size := by omega
      by_cases g1 : (1 : Int) ≤ (s.size : Int) <;> by_cases g2 : (s.size : Int) ≤ 24
      all_goals
        go_wp2
        go_ret
        exact ⟨ret_bool (by rw [named_yes HOK.out]; simp; omega), rfl⟩

def CkRel (w : World) (l : List Ky) (v4 : Value) (wr : World) : Prop := ∃ i : Nat, i ≤ l.length ∧ v4 = .int .i64 i ∧ errI l i = errI l 0 ∧ Touch NoB w wr
/-- What CheckKeys returns: where, and the error. -/
def CkPost (w : World) (x : Int) (e : Ending) (w' : World) : Prop := ∃ p : Int, e = .returned (.tuple #[.int .i64 p, .int .i64 x]) ∧ Touch NoB w w'
theorem quiet_same {P : Program} {f : FuncId} {args : Array Value} {w : World} {n : Nat} {v : Value}
    (h : Calls P f args (w.drewN n) fun e w' => e = .returned v ∧ w.drewN n = w') : Calls P f args (w.drewN n) fun e w'' => e = .returned v ∧ ∃ m, w'' = w.drewN m :=
  h.mono fun _ _ ⟨he, hm⟩ => ⟨he, n, hm.symm⟩
theorem checkkeys_any (A : Option Addr) (n cap : Nat) (l : List Ky) (w : World) (hn : l.length = n) (hn2 : n ≤ 1000000) (hnc : n ≤ cap) (hcap : cap ≤ 9223372036854775807) (h : KAt w NoB A l) :
    Calls Try.prog 8 #[.slice A n cap] w (CkPost w (errK l)) := by
  by_cases h100 : 100 < n
  · have e9 : errK l = 9 := by unfold errK; rw [if_pos (by omega)]
    rw [e9]
    go_enter Try.func8, Try.ntmps8
    go_wp2
    exact bodyPost_ret (v := .tuple #[.int .i64 0, .int .i64 9]) (by simp [results, Try.results8, go_sem]) rfl ⟨_, rfl, Touch.refl _ _⟩
  · have e9 : errK l = errI l 0 := by unfold errK; rw [if_neg (by omega), errI_zero]
    rw [e9]
    clear e9
    have HK := Lib.hid h
    have HN := Lib.hid hn
    clear h hn
    go_enter Try.func8, Try.ntmps8
    go_wp2
    go_loopw [4] (fun v4 wr => CkRel w l v4 wr) (fun v4 _ => n - (intOf v4).toNat)
    case atStart => exact ⟨0, Nat.zero_le _, rfl, rfl, Touch.refl _ _⟩
    case round =>
      obtain ⟨i, hi, rfl, herr, hT⟩ := hrel
      by_cases hlt : i < n
      · obtain ⟨k, hk⟩ : ∃ k, l[i]? = some k := ⟨l[i]'(by have := HN.out; omega), List.getElem?_eq_getElem _⟩
        have hst := errI_step l i k hk
        rw [herr] at hst
        have hKr := HK.out.touch hT
        obtain ⟨hsz, b, off, rfl, hb, -, c0, c1, -⟩ := hKr i k hk
        have HF := Lib.hid (fun w' (t : Touch NoB wr w') => findkey_any (some ⟨b, off, none⟩) i cap (l.take i) k.nm NoB w' (by rw [List.length_take]; omega) (by omega) ((hKr.take i).touch t))
        have HD := Lib.hid (fun w' => named_any k.nm hsz w')
        obtain ⟨nm, kd, sh⟩ := k
        simp only at c0 c1 HF HD hst
        have HT := Lib.hid hT
        have HE := Lib.hid herr
        clear hT herr hKr hk hsz
        cases hb1 : nameB nm
        · have e5 : errI l 0 = 5 := by rw [hst]; unfold errAt; simp [hb1]
          rw [hb1] at HD
          have H5 := Lib.hid e5
          clear e5 hst hb1 HF
          go_wp2_with fail
          refine (HD.out _).mono ?_
          rintro e w' ⟨rfl, rfl⟩
          go_wp2
          rw [H5.out]
          exact bodyPost_ret (v := .tuple #[.int .i64 i, .int .i64 5]) (by simp [results, Try.results8, go_sem]) rfl ⟨_, rfl, HT.out⟩
        · rw [hb1] at HD
          by_cases k0 : kd < 0
          · have e7 : errI l 0 = 7 := by rw [hst]; unfold errAt kindB; simp [hb1]; omega
            have H7 := Lib.hid e7
            clear e7 hst hb1 HF
            go_wp2_with fail
            refine (HD.out _).mono ?_
            rintro e w' ⟨rfl, rfl⟩
            go_wp2
            rw [H7.out]
            exact bodyPost_ret (v := .tuple #[.int .i64 i, .int .i64 7]) (by simp [results, Try.results8, go_sem]) rfl ⟨_, rfl, HT.out⟩
          · by_cases k4 : 4 < kd
            · have e7 : errI l 0 = 7 := by rw [hst]; unfold errAt kindB; simp [hb1]; omega
              have H7 := Lib.hid e7
              clear e7 hst hb1 HF
              go_wp2_with fail
              refine (HD.out _).mono ?_
              rintro e w' ⟨rfl, rfl⟩
              go_wp2
              rw [H7.out]
              exact bodyPost_ret (v := .tuple #[.int .i64 i, .int .i64 7]) (by simp [results, Try.results8, go_sem]) rfl ⟨_, rfl, HT.out⟩
            · have hkb : kindB kd = true := by unfold kindB; simp; omega
              cases hf : findK (l.take i) nm
              · have e0 : errI l 0 = errI l (i + 1) := by rw [hst]; unfold errAt; simp [hb1, hkb, hf]
                rw [hf] at HF
                have H0 := Lib.hid e0
                clear e0 hst hb1 hkb hf
                go_wp2_with fail
                refine (HD.out _).mono ?_
                rintro e w' ⟨rfl, rfl⟩
                go_wp2
                go_quiet (first | (go_at_call 11; exact quiet_same (HF.out _ ((Touch.refl _ _).drewN _))))
                go_wp2
                go_roundw
                case rel => exact ⟨i + 1, by have := HN.out; omega, by go_num, H0.out.symm, HT.out.drewN _⟩
                case measure => simp [intOf]; omega
              · have e6 : errI l 0 = 6 := by rw [hst]; unfold errAt; simp [hb1, hkb, hf]
                rw [hf] at HF
                have H6 := Lib.hid e6
                clear e6 hst hb1 hkb hf
                go_wp2_with fail
                refine (HD.out _).mono ?_
                rintro e w' ⟨rfl, rfl⟩
                go_wp2
                go_quiet (first | (go_at_call 11; exact quiet_same (HF.out _ ((Touch.refl _ _).drewN _))))
                go_wp2
                rw [H6.out]
                exact bodyPost_ret (v := .tuple #[.int .i64 i, .int .i64 6]) (by simp [results, Try.results8, go_sem]) rfl ⟨_, rfl, HT.out.drewN _⟩
      · have hin : i = n := by have := HN.out; omega
        subst hin
        have e0 : errI l 0 = 0 := by rw [← herr]; exact errI_end l i (by have := HN.out; omega)
        have HT := Lib.hid hT
        clear hT herr
        go_wp2
        rw [e0]
        exact bodyPost_ret (v := .tuple #[.int .i64 0, .int .i64 0]) (by simp [results, Try.results8, go_sem]) rfl ⟨_, rfl, HT.out⟩
end Go.Proofs.Ytmlnnmdidcbglaa
