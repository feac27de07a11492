/-
  The example of the document; what a text's expression is, as the statements read it. Conditions: the listed variables read as they are laid.
-/
import Derived.Test.YtadpihipnffiaaaDoorOa
import Derived.Test.YtadpihipnffiaaaDoorQs
import Derived.Test.YtadpihipnffiaaaDoorNf
namespace Go.Proofs.YtadpihipnffiaaaDoor
open Go.ChangeShapes Go.WideShapes Go.ChangeAt Go.RowKit
set_option maxRecDepth 100000
set_option maxHeartbeats 4000000

/-- What the walks want of the listed variables. -/
def EN (w : World) : Prop := (∃ B, LV w B) ∧ Lib.TabIs Tryd.prog w "internal/strconv.uint64pow10" .u64 Lib.pow10Tab
theorem EN.touch {w w' : World} (h : EN w) (t : Touch NoB w w') : EN w' := by
  obtain ⟨⟨B, hB⟩, ht⟩ := h
  exact ⟨⟨B, hB.touch0 t⟩, ((Lib.tabBelow_of_tabIs ht).on (t.belowB (Nat.le_refl _))).here⟩
/-! ### tokens of a text -/
def tokOk (t : Tk) : Prop := (t.kd = 1 → okN t.tx = true) ∧ (t.kd = 3 → t.n ≤ 9223372036854775807) ∧ t.tx.length ≤ 100000
theorem kwS_len : ∀ {s : Bs}, s ∈ kw → s.length ≤ 6 := by decide
theorem sgnL_le (c : UInt8) (r : Bs) : sgnL c r ≤ 2 := by
  unfold sgnL
  repeat' split
  all_goals omega
theorem tok_ok {a n : Nat} {l : Bs} {t : Tk} (h : tokL a l = some (t, n)) : tokOk t := by
  cases l with
  | nil => simp [tokL] at h
  | cons c r =>
    simp only [tokL] at h
    split at h
    · split at h
      · rename_i h2
        injection h with h; injection h with h _; subst h
        exact ⟨fun e => by simp at e, fun _ => h2.2.1, by simp⟩
      · cases h
    · split at h
      · rename_i hl
        split at h
        · rename_i hkw
          injection h with h; injection h with h _; subst h
          exact ⟨fun e => by simp at e, fun e => by simp at e, Nat.le_trans (kwS_len (List.contains_iff_mem.1 hkw)) (show 6 ≤ 100000 by decide)⟩
        · split at h
          · rename_i hk h24
            injection h with h; injection h with h _; subst h
            refine ⟨fun _ => ?_, fun e => by simp at e, Nat.le_trans h24 (show 24 ≤ 100000 by decide)⟩
            have hW : bW c = true := bW_L hl
            have h0 : (List.takeWhile bW (c :: r))[0]? = some c := by rw [List.takeWhile_cons, if_pos hW]; rfl
            have hall : (List.takeWhile bW (c :: r)).all bW = true := List.all_takeWhile
            unfold okN
            rw [name_bs h0 hl hall, wrd_bs]
            simp only [Bool.and_eq_true, decide_eq_true_eq, Bool.not_eq_true']
            exact ⟨h24, by simpa using hk⟩
          · cases h
      · split at h
        · cases h
        · injection h with h; injection h with h _; subst h
          exact ⟨fun e => by simp at e, fun e => by simp at e, Nat.le_trans (List.length_take_le _ _) (Nat.le_trans (sgnL_le c r) (show 2 ≤ 100000 by decide))⟩
theorem toks_ok : ∀ (f a : Nat) (l : Bs) (ts : List Tk), toksL f a l = .good ts → ∀ t ∈ ts, tokOk t
  | 0, a, l, ts, h => by simp [toksL] at h
  | f + 1, a, l, ts, h => by
    unfold toksL at h
    split at h
    · injection h with h; subst h
      intro t ht
      simp at ht
      subst ht
      exact ⟨fun e => by simp at e, fun e => by simp at e, by simp⟩
    · rename_i c r _
      split at h
      · cases h
      · rename_i t n ht
        cases hr : toksL f (a + (l.length - (c :: r).length) + n) ((c :: r).drop n) with
        | bad p => rw [hr] at h; simp [Lx.cons] at h
        | good us =>
          rw [hr] at h
          simp only [Lx.cons, Lx.good.injEq] at h
          subst h
          intro q hq
          rcases List.mem_cons.1 hq with rfl | hq
          · exact tok_ok ht
          · exact toks_ok f _ _ us hr q hq
theorem lex_oks {l : Bs} {ts : List Tk} (h : lexL l = .good ts) : NamesOk ts ∧ NumsOk ts := by
  have hh := toks_ok _ _ _ _ h
  refine ⟨?_, ?_, fun t ht => (hh t ht).2.2⟩
  · intro k s hs
    unfold nameAt at hs
    split at hs
    · cases hs
    · rename_i t ht
      split at hs
      · rename_i h1; injection hs with hs; subst hs
        exact (hh t (List.mem_of_getElem? ht)).1 h1
      · cases hs
  · intro k m hs
    unfold numAt at hs
    split at hs
    · cases hs
    · rename_i t ht
      split at hs
      · rename_i h1; injection hs with hs; subst hs
        exact (hh t (List.mem_of_getElem? ht)).2.1 h1
      · cases hs
theorem rtoks_good {A : Option Addr} {n cap m : Nat} {b : Bs} {w : World} {ts : List Tk} (h : lexL b = .good ts) (hm : ts.length = m) (hn : b.length = n) (hmax : n ≤ 65536) (hcap : n ≤ cap) (hb : BAt w A b) :
    Calls Tryd.prog 13 #[.slice A n cap] w fun e w' => ∃ g cp, e = .returned (.tuple #[.slice (some ⟨g, 0, none⟩) m cp, .int .i64 n, .int .i64 0]) ∧ TL w' g ts ∧ Touch NoB w w' := by
  refine (rtokens_any A n cap b w hn hcap hb).mono ?_
  intro e w' hP
  unfold TokPost at hP
  rw [if_pos (by omega), h] at hP
  obtain ⟨hT, vl, rfl, ho⟩ := hP
  have hpos : 0 < ts.length := by
    cases ts with
    | nil => exact (lex_places h).elim
    | cons t r => simp
  obtain ⟨g, cp, rfl, hTL⟩ := TL.of_row ho hpos
  exact ⟨g, cp, by rw [hn, hm], hTL, hT⟩

theorem num_any (n : Int) (w : World) : Calls Tryd.prog 17 #[.int .i64 n] w fun e w' => e = .returned (.int .i64 n) ∧ w = w' := by
  go_enter Tryd.func17, Tryd.ntmps17
  go_wp2
  go_ret
  exact ⟨rfl, rfl⟩
def exA : Ex := .two 6 (.leaf 0 1 []) (.leaf 0 2 [])
theorem exA_prt : prt exA = [40, 49, 32, 43, 32, 50, 41] := by
  have h1 : Lib.itoa 1 = [49] := by unfold Lib.itoa; rw [if_neg (by decide), Lib.decDigits, dif_pos (by decide)]; rfl
  have h2 : Lib.itoa 2 = [50] := by unfold Lib.itoa; rw [if_neg (by decide), Lib.decDigits, dif_pos (by decide)]; rfl
  simp [exA, prt, ahd, btw, wordB, h1, h2]
theorem exA_v : vE exA := ⟨.inl ⟨by decide, by decide⟩, .inl ⟨rfl, by decide, by decide, rfl⟩, .inl ⟨rfl, by decide, by decide, rfl⟩⟩
theorem alive_any (w : World) (hev : EN w) : Calls Tryd.prog 12 #[] w fun e w' => e = .returned (.bool true) ∧ Touch NoB w w' := by
  obtain ⟨W1, hW1⟩ : ∃ W, w.alloc (.cells #[.int .i64 0, .int .i64 1, .string ⟨#[]⟩, .slice none 0 0, .int .i64 0, .int .i64 2, .string ⟨#[]⟩, .slice none 0 0] 29) = W := ⟨_, rfl⟩
  obtain ⟨W2, hW2⟩ : ∃ W, W1.alloc (.cells #[.int .i64 6, .int .i64 0, .string ⟨#[]⟩, .slice (some ⟨w.heap.size, 0, none⟩) 2 2] 29) = W := ⟨_, rfl⟩
  have het1 : ET W1 (fun _ => True) exA 6 0 ⟨#[]⟩ (some ⟨w.heap.size, 0, none⟩) 2 2 := by
    rw [← hW1]
    exact ET.mk2 (Q := fun _ => True) (x := .leaf 0 1 []) (y := .leaf 0 2 []) ⟨rfl, rfl, rfl, rfl, rfl, rfl⟩ ⟨rfl, rfl, rfl, rfl, rfl, rfl⟩ 6 rfl trivial
  have t1 : Touch NoB w W1 := by rw [← hW1]; exact (Touch.refl _ _).alloc _
  have t2 : Touch NoB W1 W2 := by rw [← hW2]; exact (Touch.refl _ _).alloc _
  have het := het1.touch0 t2
  have hs1 : W1.heap.size = w.heap.size + 1 := by rw [← hW1]; simp only [World.size_alloc]
  have hx2 : XB W2 (w.heap.size + 1) 6 0 ⟨#[]⟩ (some ⟨w.heap.size, 0, none⟩) 2 2 := by rw [← hW2]; exact XB.new _ _ _ _ _ _ _ hs1
  have hpr := print_any (x := exA) (by decide) exA_v (by rw [exA_prt]; decide) W2 (hev.touch (t1.same t2)).2 het
  rw [exA_prt] at hpr
  have HPR := Lib.hid hpr
  have HR := Lib.hid (fun W (t : Touch NoB W2 W) => Right_any (x := exA) (by decide) exA_v W (het.touch0 t))
  have HN := Lib.hid (fun w => Right_neg w)
  have HT := Lib.hid (t1.same t2)
  have HX := Lib.hid hx2
  obtain ⟨z0, z1, z2, z3, z4⟩ := hx2.cells
  clear het1 t1 t2 het hx2 hpr hev
  go_enter Tryd.func12, Tryd.ntmps12
  go_wp2_with fail
  refine HPR.out.mono ?_
  rintro r w3 ⟨rfl, hT3⟩
  have hx3 : XB w3 (w.heap.size + 1) 6 0 ⟨#[]⟩ (some ⟨w.heap.size, 0, none⟩) 2 2 := (hT3.block _ (blk_lt HX.out) (fun x => x)).trans HX.out
  obtain ⟨y0, y1, y2, y3, y4⟩ := hx3.cells
  have heq : ((bs [40, 49, 32, 43, 32, 50, 41]).toList == [40, 49, 32, 43, 32, 50, 41]) = true := by rw [bs_toList]; decide
  obtain ⟨sx, hsx⟩ : ∃ sx, bs [40, 49, 32, 43, 32, 50, 41] = sx := ⟨_, rfl⟩
  rw [hsx] at heq
  have HC := Lib.hid (HR.out w3 hT3)
  have HT3 := Lib.hid (HT.out.same hT3)
  clear hT3 hx3
  try rw [hsx]
  clear hsx
  go_wp2_with fail
  refine HC.out.mono ?_
  rintro r w4 ⟨rfl, hT4⟩
  have HT4 := Lib.hid (HT3.out.same hT4)
  clear hT4
  go_wp2_with fail
  refine (HN.out _).mono ?_
  rintro r w5 ⟨rfl, hT5⟩
  have HT5 := Lib.hid (HT4.out.same hT5)
  clear hT5
  go_wp2
  go_ret
  exact ⟨rfl, HT5.out⟩
end Go.Proofs.YtadpihipnffiaaaDoor
