/-
  What the document's own letter, digit, begins, skip and signs return. Conditions: at most 65536 bytes; those that each theorem names.
-/
import Derived.Test.YtadpihipnffiaaaDoorLu
import Derived.Test.YtadpihipnffiaaaDoorLk
namespace Go.Proofs.YtadpihipnffiaaaDoor
open Go.ChangeShapes Go.WideShapes Go.ChangeAt Go.RowKit
set_option maxRecDepth 100000
set_option maxHeartbeats 4000000

theorem rdigit_any (c : Int) (w : World) : Calls Tryd.prog 39 #[.int .u8 c] w fun e w' => e = .returned (.bool (digB c)) ∧ w = w' := by
  by_cases h1 : 48 ≤ c <;> by_cases h2 : c ≤ 57
  all_goals
    go_enter Tryd.func39, Tryd.ntmps39
    go_wp2
    all_goals
      go_ret
      exact ⟨ret_bool (by unfold digB; simp [h1, h2]), rfl⟩
theorem rletter_any (c : Int) (w : World) : Calls Tryd.prog 38 #[.int .u8 c] w fun e w' => e = .returned (.bool (okB c)) ∧ w = w' := by
  have HD := Lib.hid (fun w => rdigit_any c w)
  cases hd : digB c <;> cases h5 : c == 95 <;> by_cases h1 : 97 ≤ c <;> by_cases h2 : c ≤ 122 <;> by_cases h3 : 65 ≤ c <;> by_cases h4 : c ≤ 90
  all_goals
    rw [hd] at HD
    have HH := Lib.hid hd
    have H5 := Lib.hid h5
    clear hd
    go_enter Tryd.func38, Tryd.ntmps38
    go_wp2_with (first | (go_at_call 39; refine (HD.out _).mono ?_; rintro e w' ⟨rfl, rfl⟩))
    all_goals
      go_ret
      exact ⟨ret_bool (by unfold okB; rw [HH.out, H5.out]; unfold letB; simp [h1, h2, h3, h4]), rfl⟩

/-- Does l stand at place a of b? -/
def begB (b : Bs) (a : Nat) (l : Bs) : Bool := cut b a (a + l.length) == l
theorem begins_any {A : Option Addr} {n cap : Nat} {b : Bs} {w : World} (hn : b.length = n) (hcap : n ≤ cap) (hmax : n ≤ 65536) (hb : BAt w A b) {a : Nat} (ha : a ≤ n) {l : Bs} (hl : l.length ≤ 100) :
    Calls Tryd.prog 37 #[.slice A n cap, .int .i64 a, .string (bs l)] w fun e w' => e = .returned (.bool (begB b a l)) ∧ w = w' := by
  have hsz : (bs l).size = l.length := bs_size l
  obtain ⟨q, hq⟩ : ∃ q, n - a = q := ⟨_, rfl⟩
  have d3 : IntKind.i64.wrap ((n : Int) - (a : Int)) = (q : Int) := by
    rw [show (n : Int) - (a : Int) = (q : Int) from by omega]; exact IntWalk.i64_in _ (by omega)
  have hLL : (bs l).toList = l := bs_toList l
  obtain ⟨s, hs⟩ : ∃ s, bs l = s := ⟨_, rfl⟩
  rw [hs] at hsz hLL
  rw [hs]
  by_cases hlt : l.length ≤ q
  · obtain ⟨v, hv, hc⟩ := win_text (l := a) (h := a + l.length) hb hn hcap (by omega) (by omega)
    have hc0 := hc w (Touch.refl _ _)
    have hv0 := hv w
    have HB : Hid (begB b a l = ((bs (cut b a (a + l.length))).toList == s.toList)) := Lib.hid (by rw [bs_toList, hLL]; rfl)
    obtain ⟨x, hx⟩ : ∃ x, bs (cut b a (a + l.length)) = x := ⟨_, rfl⟩
    rw [hx] at hc0 HB
    obtain ⟨ln, hln⟩ : ∃ ln, l.length = ln := ⟨_, rfl⟩
    obtain ⟨hh, hhh⟩ : ∃ hh, a + ln = hh := ⟨_, rfl⟩
    rw [hln] at hsz hlt hl hv0
    rw [hhh] at hv0
    have d5 : IntKind.i64.wrap ((a : Int) + (ln : Int)) = (hh : Int) := by
      rw [show (a : Int) + (ln : Int) = (hh : Int) from by omega]; exact IntWalk.i64_in _ (by omega)
    have d4 : decide ((ln : Int) ≤ (q : Int)) = true := by simp; omega
    rw [HB.out]
    clear hv hc hb hn hs hx hln hhh hq hLL
    go_enter Tryd.func37, Tryd.ntmps37
    go_wp2
    go_ret
    exact ⟨rfl, rfl⟩
  · have HB : Hid (begB b a l = false) := Lib.hid (by
      unfold begB
      rw [Bool.eq_false_iff]
      intro h
      have := congrArg List.length (beq_iff_eq.1 h)
      unfold cut at this
      rw [List.length_take, List.length_drop] at this
      omega)
    obtain ⟨ln, hln⟩ : ∃ ln, l.length = ln := ⟨_, rfl⟩
    rw [hln] at hsz hlt hl
    have d4 : decide ((ln : Int) ≤ (q : Int)) = false := by simp; omega
    rw [HB.out]
    clear hb hn hs hln hq hLL
    go_enter Tryd.func37, Tryd.ntmps37
    go_wp2
    go_ret
    exact ⟨rfl, rfl⟩

/-! ### what stands between tokens -/
theorem sk_blank {b : Bs} {a : Nat} {c : UInt8} (h : b[a]? = some c) (hc : bB c = true) : skipL false (b.drop a) = skipL false (b.drop (a + 1)) := by
  rw [drop_at h, skipL, if_pos hc]
theorem sk_within {b : Bs} {a : Nat} {c : UInt8} (h : b[a]? = some c) (hc : ¬ c.toNat = 10) : skipL true (b.drop a) = skipL true (b.drop (a + 1)) := by
  rw [drop_at h, skipL, if_neg hc]
theorem sk_shut {b : Bs} {a : Nat} {c : UInt8} (h : b[a]? = some c) (hc : c.toNat = 10) : skipL true (b.drop a) = skipL false (b.drop a) := by
  have hb : bB c = true := by simp [bB, hc]
  rw [sk_blank h hb, drop_at h, skipL, if_pos hc]
theorem sk_remark {b : Bs} {a : Nat} {c : UInt8} (h : b[a]? = some c) (hc : c.toNat = 47) (hs : slash (b.drop (a + 1)) = true) : skipL false (b.drop a) = skipL true (b.drop a) := by
  have hb : bB c = false := by simp [bB, hc]
  rw [sk_within h (by omega), drop_at h, skipL, if_neg (by simp [hb]), if_pos ⟨hc, hs⟩]
theorem sk_end (s : Bool) (b : Bs) : skipL s (b.drop b.length) = [] := by rw [List.drop_length]; cases s <;> rfl
/-- Where what is left of b begins. -/
def skAt (b : Bs) (a : Nat) : Nat := b.length - (skipL false (b.drop a)).length
theorem beg_slash {b : Bs} {a : Nat} {c : UInt8} (h : b[a]? = some c) : begB b a [47, 47] = true ↔ c.toNat = 47 ∧ slash (b.drop (a + 1)) = true := by
  unfold begB cut
  rw [show a + ([47, 47] : Bs).length - a = 2 from by simp, drop_at h, List.take_succ_cons, beq_iff_eq]
  cases hr : b.drop (a + 1) with
  | nil => simp [slash]
  | cons d r =>
    simp only [List.take_succ_cons, List.take_zero, List.cons.injEq, and_true, slash, decide_eq_true_eq]
    have e : ∀ x : UInt8, x = 47 ↔ x.toNat = 47 := fun x => ⟨fun h => by subst h; rfl, fun h => UInt8.toNat_inj.1 (by rw [h]; rfl)⟩
    rw [e, e]
def SkRel (b : Bs) (a0 : Nat) (w : World) (v1 : Value) (wr : World) : Prop := ∃ k : Nat, k ≤ b.length ∧ v1 = .int .i64 k ∧ skipL false (b.drop k) = skipL false (b.drop a0) ∧ wr = w
def SkIn (b : Bs) (a0 k0 : Nat) (w : World) (v1 : Value) (wr : World) : Prop := ∃ k : Nat, k0 ≤ k ∧ k ≤ b.length ∧ v1 = .int .i64 k ∧ skipL true (b.drop k) = skipL false (b.drop a0) ∧ wr = w
theorem skip_any {A : Option Addr} {n cap : Nat} {b : Bs} {w : World} (hn : b.length = n) (hcap : n ≤ cap) (hmax : n ≤ 65536) (hb : BAt w A b) {a0 : Nat} (ha : a0 ≤ n) :
    Calls Tryd.prog 25 #[.slice A n cap, .int .i64 a0] w fun e w' => e = .returned (.int .i64 (skAt b a0)) ∧ w = w' := by
  have HN := Lib.hid hn
  have HB := Lib.hid hb
  have HBG := Lib.hid (fun (a : Nat) (ha : a ≤ n) => begins_any (l := [47, 47]) hn hcap hmax hb ha (by decide))
  clear hn hb
  go_enter Tryd.func25, Tryd.ntmps25
  go_wp2
  go_loopw [1] (fun v1 wr => SkRel b a0 w v1 wr) (fun v1 _ => n - (intOf v1).toNat)
  case atStart => exact ⟨a0, by rw [HN.out]; exact ha, rfl, rfl, rfl⟩
  case round =>
    obtain ⟨k, hk, rfl, hsk, hwr⟩ := hrel
    subst hwr
    rw [HN.out] at hk
    by_cases hlt : k < n
    · obtain ⟨blk, off, rfl, hblk, ⟨c, hc, hcell⟩, -⟩ := bat_at HB.out (by rw [HN.out]; exact hlt)
      obtain ⟨x, hx⟩ : ∃ x, (c.toNat : Int) = x := ⟨_, rfl⟩
      have hbB : bB c = (x == 32 || x == 9 || x == 10 || x == 13) := by rw [← hx, ← spcB_b]; rfl
      have HC := Lib.hid (And.intro hc (And.intro hx hbB))
      have HSK := Lib.hid hsk
      have hbs := beg_slash hc
      have HBS := Lib.hid hbs
      rw [hx] at hcell
      clear hsk hc hx hbs hbB
      cases h1 : x == 32 <;> cases h2 : x == 9 <;> cases h3 : x == 10 <;> cases h4 : x == 13
      case false.false.false.false =>
        have HNB : Hid (bB c = false) := Lib.hid (by rw [HC.out.2.2, h1, h2, h3, h4]; rfl)
        go_wp2_with fail
        refine (HBG.out k hk).mono ?_
        rintro e w' ⟨rfl, rfl⟩
        cases hbg : begB b k [47, 47]
        · have HNS : Hid (¬ (c.toNat = 47 ∧ slash (b.drop (k + 1)) = true)) := Lib.hid (fun e => by have := HBS.out.2 e; rw [hbg] at this; cases this)
          clear hbg
          go_wp2
          go_ret
          refine ⟨ret_int ?_, rfl⟩
          unfold skAt
          rw [← HSK.out, drop_at HC.out.1, skip_stay HNB.out HNS.out, ← drop_at HC.out.1, List.length_drop, HN.out]
          omega
        · have HYS : Hid (c.toNat = 47 ∧ slash (b.drop (k + 1)) = true) := Lib.hid (HBS.out.1 hbg)
          clear hbg
          obtain ⟨wo, hwo⟩ : ∃ wo, wo = wr := ⟨_, rfl⟩
          subst hwo
          go_wp2
          go_loopw [1] (fun v1 wr => SkIn b a0 k wo v1 wr) (fun v1 _ => n - (intOf v1).toNat)
          case atStart => exact ⟨k, Nat.le_refl _, by rw [HN.out]; exact hk, rfl, by rw [← sk_remark HC.out.1 HYS.out.1 HYS.out.2]; exact HSK.out, rfl⟩
          case round =>
            obtain ⟨j, hj0, hj, rfl, hsj, hwj⟩ := hrel
            subst hwj
            rw [HN.out] at hj
            by_cases hltj : j < n
            · obtain ⟨_, _, e0, -, ⟨cj, hcj, hcellj⟩, -⟩ := bat_at HB.out (by rw [HN.out]; exact hltj)
              injection e0 with e0
              injection e0 with e1 e2
              subst e1
              subst e2
              obtain ⟨y, hy⟩ : ∃ y, (cj.toNat : Int) = y := ⟨_, rfl⟩
              have HCJ := Lib.hid (And.intro hcj (And.intro hy hsj))
              rw [hy] at hcellj
              clear hcj hy hsj
              cases h10 : y != 10
              · have HY10 : Hid (cj.toNat = 10) := Lib.hid (by have := HCJ.out.2.1; simp at h10; omega)
                have hjk : k < j := by
                  rcases Nat.lt_or_ge k j with h | h
                  · exact h
                  · obtain rfl : k = j := by omega
                    have e := HC.out.1.symm.trans HCJ.out.1
                    injection e with e
                    have := HYS.out.1
                    have := HY10.out
                    rw [e] at *
                    omega
                go_wp2
                go_roundw
                case rel => exact ⟨j, by rw [HN.out]; omega, rfl, by rw [← sk_shut HCJ.out.1 HY10.out]; exact HCJ.out.2.2, rfl⟩
                case measure => simp [intOf]; omega
              · have HY10 : Hid (¬ cj.toNat = 10) := Lib.hid (by have := HCJ.out.2.1; simp at h10; omega)
                go_wp2
                go_roundw
                case rel => exact ⟨j + 1, by omega, by rw [HN.out]; omega, by go_num, by rw [← sk_within HCJ.out.1 HY10.out]; exact HCJ.out.2.2, rfl⟩
                case measure => simp [intOf]; omega
            · obtain rfl : j = n := by omega
              have HSJ := Lib.hid hsj
              clear hsj
              go_wp2
              go_roundw
              case rel => exact ⟨j, by rw [HN.out]; omega, rfl, by have := HSJ.out; rw [← HN.out, sk_end] at this; rw [← HN.out, sk_end]; exact this, rfl⟩
              case measure => simp [intOf]; omega
      all_goals
        have HYB : Hid (bB c = true) := Lib.hid (by rw [HC.out.2.2, h1, h2, h3, h4]; rfl)
        go_wp2
        go_roundw
        case rel => exact ⟨k + 1, by rw [HN.out]; omega, by go_num, by rw [← sk_blank HC.out.1 HYB.out]; exact HSK.out, rfl⟩
        case measure => simp [intOf]; omega
    · obtain rfl : k = n := by omega
      have HSK := Lib.hid hsk
      clear hsk
      go_wp2
      go_ret
      refine ⟨ret_int ?_, rfl⟩
      unfold skAt
      rw [← HSK.out, ← HN.out, sk_end]
      simp
end Go.Proofs.YtadpihipnffiaaaDoor

/-
  What the document's own word and Name return; LexNames: which texts are names. Conditions: the library's own variable can be read.
-/
namespace Go.Proofs.YtadpihipnffiaaaDoor
open Go.ChangeShapes Go.WideShapes Go.ChangeAt Go.RowKit
set_option maxRecDepth 100000
set_option maxHeartbeats 4000000

def kwA : Array Value := (kw.map fun b => Value.string (bs b)).toArray
theorem kwA_at (j : Nat) (b : Bs) (h : kw[j]? = some b) : kwA[j]? = some (.string (bs b)) := by
  unfold kwA
  rw [List.getElem?_toArray, List.getElem?_map, h]
  rfl
theorem kw_len : kw.length = 42 := by decide
def WdRel (s : ByteArray) (W : World) (v4 : Value) (wr : World) : Prop := ∃ i : Nat, i ≤ 42 ∧ v4 = .int .i64 i ∧ (∀ (j : Nat) (b : Bs), j < i → kw[j]? = some b → (b == s.toList) = false) ∧ wr = W

theorem word_any (s : ByteArray) (w : World) : Calls Tryd.prog 40 #[.string s] w fun e w' => e = .returned (.bool (wrd s)) ∧ Touch NoB w w' := by
  go_enter Tryd.func40, Tryd.ntmps40
  go_upto_region 2 with fail
  obtain ⟨W, hW⟩ : ∃ W, W = w.alloc (.cells kwA 9 (0, 0)) := ⟨_, rfl⟩
  show Code.wp _ _ _ _ (w.alloc (.cells kwA 9 (0, 0)))
  have hcell : ∀ (j : Nat) (b : Bs), kw[j]? = some b → W.cell? ⟨w.heap.size, j, none⟩ = some (.string (bs b)) := fun j b h => by
    rw [hW, cell_of_row _ _ _ _ _ _ (heap_alloc_new w (.cells kwA 9 (0, 0)))]
    exact kwA_at j b h
  have hT : Touch NoB w W := by rw [hW]; exact (Touch.refl _ _).alloc _
  rw [← hW]
  have HC := Lib.hid hcell
  have HT := Lib.hid hT
  clear hW hcell hT
  obtain ⟨N, hN⟩ : ∃ N, w.heap.size = N := ⟨_, rfl⟩
  rw [hN] at HC ⊢
  clear hN
  go_wp2
  go_loopw [4] (fun v4 wr => WdRel s W v4 wr) (fun v4 _ => 42 - (intOf v4).toNat)
  case atStart => exact ⟨0, by omega, rfl, fun j b hj => by omega, rfl⟩
  case round =>
    obtain ⟨i, hi, rfl, hno, rfl⟩ := hrel
    by_cases hlt : i < 42
    · obtain ⟨b, hb⟩ : ∃ b, kw[i]? = some b := ⟨kw[i]'(by rw [kw_len]; exact hlt), List.getElem?_eq_getElem _⟩
      have hc := HC.out i b hb
      have hbl : (bs b).toList = b := bs_toList b
      have HB := Lib.hid (And.intro hb (And.intro hno hbl))
      obtain ⟨sb, hsb⟩ : ∃ sb, bs b = sb := ⟨_, rfl⟩
      rw [hsb] at hc HB
      clear hb hno hbl hsb
      cases he : (sb.toList == s.toList)
      · have HEQ := Lib.hid he
        go_wp2
        go_roundw
        case rel =>
          refine ⟨i + 1, by omega, by go_num, fun j b' hj hb' => ?_, rfl⟩
          by_cases e : j = i
          · subst e
            have := HB.out.1.symm.trans hb'
            injection this with this
            subst this
            rw [← HB.out.2.2]; exact HEQ.out
          · exact HB.out.2.1 j b' (by omega) hb'
        case measure => simp [intOf]; omega
      · have HEQ := Lib.hid he
        go_wp2
        go_ret
        refine ⟨ret_bool ?_, HT.out⟩
        symm
        unfold wrd
        rw [List.contains_iff_mem]
        have h1 := HEQ.out
        rw [HB.out.2.2] at h1
        rw [← beq_iff_eq.1 h1]
        exact List.mem_of_getElem? HB.out.1
    · obtain rfl : i = 42 := by omega
      have HNO := Lib.hid hno
      clear hno
      go_wp2
      go_ret
      refine ⟨ret_bool ?_, HT.out⟩
      symm
      unfold wrd
      rw [Bool.eq_false_iff]
      intro h
      rw [List.contains_iff_mem] at h
      obtain ⟨j, hj⟩ := List.mem_iff_getElem?.1 h
      have hjl := (List.getElem?_eq_some_iff.1 hj).1
      rw [kw_len] at hjl
      have := HNO.out j _ hjl hj
      simp at this
/-- A name is one token. -/
theorem name_lex {l : Bs} (hn : nameB (bs l) = true) (hw : wrd (bs l) = false) : lexL l = .good [⟨1, 0, 0, l⟩, ⟨0, 0, l.length, []⟩] := by
  unfold nameB at hn
  simp only [Bool.and_eq_true, decide_eq_true_eq, List.all_eq_true, List.mem_range, bs_size] at hn
  obtain ⟨⟨⟨h1, h2⟩, h3⟩, h4⟩ := hn
  cases l with
  | nil => simp at h1
  | cons c r =>
    rw [bt_bs (c :: r) 0 c rfl, letB_b] at h3
    have hall : (c :: r).all bW = true := by
      rw [List.all_eq_true]
      intro x hx
      obtain ⟨i, hi⟩ := List.mem_iff_getElem?.1 hx
      have := h4 i (List.getElem?_eq_some_iff.1 hi).1
      rw [bt_bs _ i x hi, okB_b] at this
      exact this
    rw [wrd_bs] at hw
    exact lex_name hall h3 hw h2

end Go.Proofs.YtadpihipnffiaaaDoor
