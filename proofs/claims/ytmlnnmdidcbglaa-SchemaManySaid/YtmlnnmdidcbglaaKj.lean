/-
  The walk of SchemaMany.
-/
import Derived.Test.YtmlnnmdidcbglaaKi
import Derived.Test.YtmlnnmdidcbglaaKf
import Derived.Deep.DeepCutAuto
import Derived.Deep.RegionHeld3
namespace Go.Proofs.Ytmlnnmdidcbglaa
open Go.ChangeShapes Go.WideShapes Go.ChangeAt Go.RowKit
set_option maxRecDepth 100000
set_option maxHeartbeats 8000000

theorem own_len (n : Nat) : (nmsB false (kysK n)).length = (n + 1) / 2 ∧ (nmsB true (kysK n)).length = n / 2 := by
  induction n with
  | zero => exact ⟨rfl, rfl⟩
  | succ n ih =>
    rw [kysK_succ, nms_snoc, nms_snoc, List.length_append, List.length_append, ih.1, ih.2]
    unfold kyK
    rcases Nat.mod_two_eq_zero_or_one n with h | h
    · simp [h]; omega
    · simp [h]; omega

theorem own_cnt (g : Nat) (l : List Ky) (F : Nat → Prop) (w : World) (h : SK w F g l) (hl : l.length ≤ 1000) {n : Nat} (hn : (nmsB false l).length = n) :
    Calls Try.prog 13 #[.pointer (some ⟨g, 0, none⟩)] w fun e w' => ∃ (A : Option Addr) (cap : Nat), e = .returned (.slice A n cap) ∧ Touch NoB w w' := by
  subst hn
  refine (own_any g l F w h hl).mono ?_
  rintro e w' ⟨v, rfl, hr, hT⟩
  obtain ⟨A, cap, rfl, _, _⟩ := row_any hr
  exact ⟨A, cap, rfl, hT⟩
theorem shared_cnt (g : Nat) (l : List Ky) (F : Nat → Prop) (w : World) (h : SK w F g l) (hl : l.length ≤ 1000) {n : Nat} (hn : (nmsB true l).length = n) :
    Calls Try.prog 14 #[.pointer (some ⟨g, 0, none⟩)] w fun e w' => ∃ (A : Option Addr) (cap : Nat), e = .returned (.slice A n cap) ∧ Touch NoB w w' := by
  subst hn
  refine (shared_any g l F w h hl).mono ?_
  rintro e w' ⟨v, rfl, hr, hT⟩
  obtain ⟨A, cap, rfl, _, _⟩ := row_any hr
  exact ⟨A, cap, rfl, hT⟩

def MkRel (w1 : World) (n : Nat) (v4 v5 : Value) (wr : World) : Prop := ∃ k : Nat, k ≤ n ∧ v5 = .int .i64 k ∧ wr.ownsRow w1.heap.size 35 3 v4 k (kc (kysK k)) ∧ Touch NoB w1 wr
def FnRel (w1 : World) (n : Nat) (v8 : Value) (wr : World) : Prop := ∃ k : Nat, k ≤ n ∧ v8 = .int .i64 k ∧ Touch NoB w1 wr

theorem many_out (k : Int) (hk : k < 0 ∨ 110 < k) (w : World) :
    Calls Try.prog 5 #[.int .i64 k] w fun e w' => e = .returned (.bool true) ∧ Touch NoB w w' := by
  have h1 : k < 0 ∨ (¬ k < 0 ∧ (110 : Int) < k) := by omega
  clear hk
  rcases h1 with h0 | ⟨h0, h1⟩
  all_goals
    go_enter Try.func5, Try.ntmps5
    go_wp2_with fail
    refine (alive_any _).mono ?_
    rintro e w1 ⟨rfl, hT1⟩
    have HT1 := Lib.hid hT1
    clear hT1
    go_wp2
    go_ret
    exact ⟨rfl, HT1.out⟩

theorem many_in (n : Nat) (hn : n ≤ 110) (w : World) :
    Calls Try.prog 5 #[.int .i64 n] w fun e w' => e = .returned (.bool true) ∧ Touch NoB w w' := by
  obtain ⟨i0, hi, hz0, hz1, hz2⟩ := info_parts info_key
  have g0 : ¬ (n : Int) < 0 := by omega
  have g1 : ¬ 110 < (n : Int) := by omega
  go_enter Try.func5, Try.ntmps5
  go_wp2_with fail
  refine (alive_any _).mono ?_
  rintro e w1 ⟨rfl, hT1⟩
  have HT1 := Lib.hid hT1
  clear hT1
  go_wp2
  go_loopw [4, 5] (fun v4 v5 wr => MkRel w1 n v4 v5 wr) (fun _ v5 _ => n - (intOf v5).toNat)
  case atStart => exact ⟨0, Nat.zero_le _, rfl, World.ownsRow_nil _ _ _ _, Touch.refl _ _⟩
  case round =>
    obtain ⟨k, hk, rfl, hown, hT⟩ := hrel
    by_cases hlt : k < n
    · have HD := Lib.hid (fun w => dec_any k (by omega) w)
      have hsz : ¬ 9223372036854775807 < (⟨#[107]⟩ : ByteArray).size + (dec3 k).size := by have := dec3_size k; have : (⟨#[107]⟩ : ByteArray).size = 1 := rfl; omega
      have hm : ((k : Int) % 2 == 1) = (k % 2 == 1) := by
        rcases Nat.mod_two_eq_zero_or_one k with h | h
        · rw [h, show ((k : Int) % 2) = 0 by omega]; rfl
        · rw [h, show ((k : Int) % 2) = 1 by omega]; rfl
      have Ho := Lib.hid hown
      have HT := Lib.hid hT
      have HM := Lib.hid hm
      clear hown hT hm
      go_wp2_with fail
      refine (HD.out _).mono ?_
      rintro e w' ⟨rfl, rfl⟩
      go_wp2_with (at_builtin; refine wpList_append_own_at _ rfl (.tmp 28) (.tmp 36) 22 rfl w1.heap.size 35 i0 _ 3 32 Try.underlying22 hi hz0 hz1 hz2 rfl (by decide) _ k (kc (kysK k)) rfl ?o1 ⟨wr.heap.size, 0, none⟩ 1 1 [.string (nmK k), .int .i64 0, .bool ((k : Int) % 2 == 1)] rfl rfl ?c1 ?c2 ?c3 ?c4 ?c5 ?go)
      case o1 => exact Ho.out.alloc _
      case c1 => exact World.news_of_block (cs := #[.string (nmK k), .int .i64 0, .bool ((k : Int) % 2 == 1)]) (alloc_blk wr _ 35 rfl)
      case c2 => intro u hu; simp at hu; rcases hu with rfl | rfl | rfl <;> rfl
      case c3 => unfold maxLen; omega
      case c4 => omega
      case c5 => have := HT.out.size; simp; omega
      case go =>
      intro v2 w2 hown1 hgrow _ _
      have hT2 : Touch NoB w1 w2 := (HT.out.alloc _).grown hgrow (fun b e => .inr (Ho.out.lt b e).1)
      have Ho1 := Lib.hid hown1
      have HT2 := Lib.hid hT2
      clear hown1 hgrow hT2
      go_wp2
      go_roundw
      case rel =>
        refine ⟨k + 1, by omega, by go_num, ?_, HT2.out⟩
        rw [kysK_succ, kc_snoc, show (kyK k).sh = ((k : Int) % 2 == 1) from HM.out.symm]
        exact Ho1.out
      case measure => simp [intOf]; omega
    · have hin : k = n := by omega
      subst hin
      obtain ⟨A, cap, rfl, hc1, hc2⟩ := row_any hown
      have hK : KAt wr NoB A (kysK k) := row_kat hown (kysK_len k) (fun j x hx => by obtain ⟨_, rfl⟩ := kysK_of hx; have := nmK_size j; simp only [kyK]; omega)
      unfold maxLen at hc2
      have HK := Lib.hid hK
      have HT := Lib.hid hT
      clear hown hT hK
      by_cases h100 : 100 < k
      · have HN := Lib.hid (new_no A k cap (kysK k) wr (kysK_len k) (by omega) HK.out (kysK_many h100) (by decide))
        go_wp2_with fail
        refine HN.out.mono ?_
        rintro e w3 ⟨rfl, hT3⟩
        have HT3 := Lib.hid (HT1.out.same (HT.out.same hT3))
        clear hT3
        go_wp2_with fail
        refine (num_any _ _).mono ?_
        rintro e w' ⟨rfl, rfl⟩
        go_wp2
        go_ret
        exact ⟨rfl, HT3.out⟩
      · have HN := Lib.hid (new_yes A k cap (kysK k) wr (kysK_len k) (by omega) HK.out (kysK_err (by omega)))
        have q1 : ((k : Int) + 1) / 2 = (((k + 1) / 2 : Nat) : Int) := by omega
        have q2 : (k : Int) / 2 = ((k / 2 : Nat) : Int) := by omega
        have hl := own_len k
        obtain ⟨p, hp⟩ : ∃ p, (k + 1) / 2 = p := ⟨_, rfl⟩
        obtain ⟨q, hq⟩ : ∃ q, k / 2 = q := ⟨_, rfl⟩
        rw [hp] at q1 hl
        rw [hq] at q2 hl
        have HL := Lib.hid hl
        clear hl hp hq
        go_wp2_with fail
        refine HN.out.mono ?_
        rintro e w3 ⟨g, rfl, hS, hT3⟩
        have HS := Lib.hid hS
        have HK3 := Lib.hid (HK.out.touch hT3)
        have HT3 := Lib.hid (HT1.out.same (HT.out.same hT3))
        have HQ := Lib.hid (Touch.refl NoB w3)
        clear hT3 hS
        go_wp2_with fail
        refine (num_any _ _).mono ?_
        rintro e w' ⟨rfl, rfl⟩
        go_wp2_with fail
        refine (own_cnt g (kysK k) _ _ HS.out (by rw [kysK_len]; omega) HL.out.1).mono ?_
        rintro e w4 ⟨A4, cap4, rfl, hT4⟩
        have HQ := Lib.hid hT4
        clear hT4
        go_wp2_with fail
        refine (shared_cnt g (kysK k) _ _ (HS.out.quiet HQ.out) (by rw [kysK_len]; omega) HL.out.2).mono ?_
        rintro e w5 ⟨A5, cap5, rfl, hT5⟩
        have HT5 := Lib.hid (HQ.out.same hT5)
        clear hT5 HQ
        go_wp2
        go_loopw [8] (fun v8 wr => FnRel w5 k v8 wr) (fun v8 _ => k - (intOf v8).toNat)
        case atStart => exact ⟨0, Nat.zero_le _, rfl, Touch.refl _ _⟩
        case round =>
          obtain ⟨m, hm, rfl, hT⟩ := hrel
          by_cases hlt2 : m < k
          · obtain ⟨hsz, b, off, rfl, hb, -, c0, -, -⟩ := (HK3.out.touch (HT5.out.same hT)) m (kyK m) (kysK_at hlt2)
            have HF := Lib.hid (find_any g (kysK k) (nmK m) _ wr (HS.out.quiet (HT5.out.same hT)) (by rw [kysK_len]; omega))
            rw [kysK_find (by omega) hlt2] at HF
            unfold fndV at HF
            simp only [kyK] at c0
            have HT6 := Lib.hid hT
            clear hT hsz
            go_wp2_with fail
            refine HF.out.mono ?_
            rintro e w7 ⟨rfl, hT7⟩
            have HT7 := Lib.hid (HT6.out.same hT7)
            clear hT7
            go_wp2
            go_roundw
            case rel => exact ⟨m + 1, by omega, by go_num, HT7.out⟩
            case measure => simp [intOf]; omega
          · have HT6 := Lib.hid (HT3.out.same (HT5.out.same hT))
            clear hT
            go_wp2
            go_ret
            exact ⟨rfl, HT6.out⟩
theorem many_any (k : Int) (w : World) :
    Calls Try.prog 5 #[.int .i64 k] w fun e w' => e = .returned (.bool true) ∧ Touch NoB w w' := by
  by_cases h : 0 ≤ k ∧ k ≤ 110
  · obtain ⟨n, rfl⟩ := Int.eq_ofNat_of_zero_le h.1
    exact many_in n (by omega) w
  · exact many_out k (by omega) w
end Go.Proofs.Ytmlnnmdidcbglaa
