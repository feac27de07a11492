/-
  What the document's own token and Tokens return: what the lexer on lists of bytes comes to. No condition beyond those that each theorem names.
-/
import Derived.Test.YtadpihipnffiaaaDoorZar2
import Derived.Test.YtadpihipnffiaaaDoorOa
import Derived.Test.YtadpihipnffiaaaDoorQs
import Derived.Test.YtadpihipnffiaaaDoorRows
import Derived.LaidMore
import Derived.LaidHandle
import Derived.LaidLaws
import Derived.Stop.LaidErr
import Derived.MakeChecks
import Derived.Lib.LaidTab
import Derived.ChangeSlices
import Derived.Test.YtadpihipnffiaaaDoorQk
import Derived.Deep.QuietTactic
import Derived.BigQuiet
namespace Go.Proofs.YtadpihipnffiaaaDoor
open Go.ChangeShapes Go.WideShapes Go.ChangeAt Go.RowKit
set_option maxRecDepth 100000
set_option maxHeartbeats 4000000

theorem rtoken_any {A : Option Addr} {n cap : Nat} {b : Bs} {w : World} (hn : b.length = n) (hcap : n ≤ cap) (hmax : n ≤ 65536) (hb : BAt w A b) {a : Nat} (ha : a < n) :
    Calls Tryd.prog 26 #[.slice A n cap, .int .i64 a] w (TnPost w b a) := by
  obtain ⟨c, hc⟩ : ∃ c, b[a]? = some c := ⟨b[a]'(by rw [hn]; exact ha), List.getElem?_eq_getElem _⟩
  cases hD : bD c
  · cases hL : bL c
    · exact token_sign hn hcap hmax hb ha hc hL hD
    · exact token_letter hn hcap hmax hb ha hc hL
  · exact token_digit hn hcap hmax hb ha hc hD

theorem sk_drop (b : Bs) {a : Nat} (ha : a ≤ b.length) : b.drop (skAt b a) = skipL false (b.drop a) ∧ a ≤ skAt b a ∧ skAt b a ≤ b.length := by
  have h := skip_suffix (b.drop a) false
  have hl := skip_len (b.drop a) false
  rw [List.length_drop] at h hl
  unfold skAt
  refine ⟨?_, by omega, by omega⟩
  conv => rhs; rw [h]
  rw [List.drop_drop, show a + (b.length - a - (skipL false (b.drop a)).length) = b.length - (skipL false (b.drop a)).length from by omega]
theorem sk_idem (l : Bs) : skipL false (skipL false l) = skipL false l := by
  cases h : skipL false l with
  | nil => rfl
  | cons c r =>
    obtain ⟨h1, h2⟩ := skip_head l false c r h
    exact skip_stay h1 h2
theorem sk_fix (b : Bs) {a : Nat} (ha : a ≤ b.length) : skipL false (b.drop (skAt b a)) = b.drop (skAt b a) := by
  rw [(sk_drop b ha).1, sk_idem]
theorem from_sk (b : Bs) {a : Nat} (ha : a ≤ b.length) : fromS false b (skAt b a) = fromS false b a := by
  unfold fromS
  rw [sk_fix b ha, (sk_drop b ha).1]
theorem at_token {b : Bs} {a : Nat} {c : UInt8} (h : b[a]? = some c) (hs : skipL false (b.drop a) = b.drop a) : bB c = false ∧ ¬ (c.toNat = 47 ∧ slash (b.drop (a + 1)) = true) := by
  rw [drop_at h] at hs
  exact skip_head (c :: b.drop (a + 1)) false c _ hs

def RkRel (w : World) (b : Bs) (v5 v6 : Value) (wr : World) : Prop := ∃ (ts : List Tk) (a : Nat), a ≤ b.length ∧ v6 = .int .i64 a ∧ wr.ownsRow w.heap.size 59 4 v5 ts.length (tkC ts) ∧ Lx.pre ts (fromS false b a) = lexL b ∧ skipL false (b.drop a) = b.drop a ∧ ts.length ≤ a ∧ Touch NoB w wr

theorem rtokens_any (A : Option Addr) (n cap : Nat) (b : Bs) (w : World) (hn : b.length = n) (hcap : n ≤ cap) (hb : BAt w A b) :
    Calls Tryd.prog 13 #[.slice A n cap] w (TokPost w b) := by
  by_cases h : n ≤ 65536
  · have hd : decide ((65536 : Int) < (n : Int)) = false := by simp; omega
    have HP : Hid (∀ e w', LxPost w n (lexL b) e w' → TokPost w b e w') := Lib.hid (fun e w' x => by unfold TokPost; rw [hn, if_pos h]; exact x)
    have HN := Lib.hid hn
    have HB := Lib.hid hb
    have HSK := Lib.hid (fun (W : World) (hW : Touch NoB w W) (a : Nat) (ha : a ≤ n) => skip_any (w := W) hn hcap h (hb.touch hW) ha)
    have HTK := Lib.hid (fun (W : World) (hW : Touch NoB w W) (a : Nat) (ha : a < n) => rtoken_any (w := W) hn hcap h (hb.touch hW) ha)
    clear hb hn
    obtain ⟨i0, hi0, hz0, hz1, hz2⟩ := info_tok'
    have hs0 := sk_drop b (Nat.zero_le b.length)
    have hf0 := from_sk b (Nat.zero_le b.length)
    have hx0 := sk_fix b (Nat.zero_le b.length)
    have HS0 := Lib.hid (And.intro hs0 (And.intro hf0 hx0))
    clear hs0 hf0 hx0
    go_enter Tryd.func13, Tryd.ntmps13
    go_wp2_with fail
    refine (HSK.out w (Touch.refl _ _) 0 (Nat.zero_le _)).mono ?_
    rintro e w' ⟨rfl, rfl⟩
    go_wp2
    go_loopw [5, 6] (fun v5 v6 wr => RkRel w b v5 v6 wr) (fun _ v6 _ => n - (intOf v6).toNat)
    case atStart => exact ⟨[], skAt b 0, HS0.out.1.2.2, rfl, World.ownsRow_nil _ _ _ _, by rw [HS0.out.2.1, Lx.pre_nil, lex_from], HS0.out.2.2, Nat.zero_le _, Touch.refl _ _⟩
    case round =>
      obtain ⟨ts, a, ha, rfl, hrow, hpre, hfix, hcnt, hTr⟩ := hrel
      rw [HN.out] at ha
      by_cases hlt : a < n
      · obtain ⟨c, hc⟩ : ∃ c, b[a]? = some c := ⟨b[a]'(by rw [HN.out]; exact hlt), List.getElem?_eq_getElem _⟩
        obtain ⟨hcb, hcs⟩ := at_token hc hfix
        have HROW := Lib.hid hrow
        have HTr := Lib.hid hTr
        have HCN := Lib.hid hcnt
        cases htk : tokL a (b.drop a) with
        | none =>
          have HBad := Lib.hid (hpre.symm.trans (from_wrong hc hcb hcs htk))
          have HT0 := Lib.hid htk
          clear hrow hpre hfix hcnt hTr hc hcb hcs htk
          go_wp2_with fail
          refine (HTK.out _ (by repeat (first | with_reducible exact HTr.out | with_reducible refine Touch.alloc ?_ _)) a hlt).mono ?_
          intro e w2 hp
          unfold TnPost at hp
          rw [HT0.out] at hp
          obtain ⟨hT2, x0, x1, x2, x3, rfl⟩ := hp
          have HT2 := Lib.hid (HTr.out.same hT2)
          clear hT2
          go_wp2
          exact bodyPost_ret (v := .tuple #[.slice none 0 0, .int .i64 a, .int .i64 2]) (by simp [results, Tryd.results13, go_sem]) rfl (HP.out _ _ (by rw [HBad.out]; exact ⟨by repeat (first | with_reducible exact HT2.out | with_reducible refine Touch.alloc ?_ _), rfl⟩))
        | some tk =>
          obtain ⟨t, k⟩ := tk
          have hlen := tok_len (a := a) (n := k) (c := c) (r := b.drop (a + 1)) (t := t) (by rw [← drop_at hc]; exact htk)
          rw [← drop_at hc, List.length_drop, HN.out] at hlen
          have htp := (tok_at htk).1
          have hk2 : a + k ≤ n := by omega
          have HT0 := Lib.hid (And.intro htk htp)
          have HGo := Lib.hid (hpre.symm.trans (from_told hc hcb hcs (by omega) (show tokL a (b.drop a) = some (t, a + k - a) from by rw [htk, Nat.add_sub_cancel_left])))
          have hs1 := sk_drop b (show a + k ≤ b.length by rw [HN.out]; exact hk2)
          have hf1 := from_sk b (show a + k ≤ b.length by rw [HN.out]; exact hk2)
          have hx1 := sk_fix b (show a + k ≤ b.length by rw [HN.out]; exact hk2)
          have HS1 := Lib.hid (And.intro hs1 (And.intro hf1 hx1))
          have hsk1 : a + k ≤ skAt b (a + k) := hs1.2.1
          have hkpos : 1 ≤ k := hlen.1
          clear hrow hpre hfix hcnt hTr hc hcb hcs htk hlen htp hs1 hf1 hx1
          go_wp2_with fail
          refine (HTK.out _ (by repeat (first | with_reducible exact HTr.out | with_reducible refine Touch.alloc ?_ _)) a hlt).mono ?_
          intro e w2 hp
          unfold TnPost at hp
          rw [HT0.out.1] at hp
          obtain ⟨hT2, rfl⟩ := hp
          have hrow2 := row_touch HROW.out hT2 (fun _ _ x => x)
          have hnew := hrow2.lt
          have HT2 := Lib.hid (HTr.out.same hT2)
          have HROW2 := Lib.hid hrow2
          clear hT2 hrow2
          obtain ⟨kd, hkd⟩ : ∃ kd, t.kd = kd := ⟨_, rfl⟩
          obtain ⟨nn, hnn⟩ : ∃ nn, t.n = nn := ⟨_, rfl⟩
          obtain ⟨pl, hpl⟩ : ∃ pl, t.pl = pl := ⟨_, rfl⟩
          obtain ⟨sx, hsx⟩ : ∃ sx, bs t.tx = sx := ⟨_, rfl⟩
          have hTV : TkV t = [.int .i64 kd, .int .i64 nn, .int .i64 pl, .string sx] := by rw [TkV, hkd, hnn, hpl, hsx]
          rw [hkd, hnn, hpl, hsx]
          have HTV := Lib.hid hTV
          clear hkd hnn hpl hsx hTV
          obtain ⟨ak, hak⟩ : ∃ ak, a + k = ak := ⟨_, rfl⟩
          rw [hak] at hk2 hsk1 HS1 HGo
          rw [hak]
          go_wp2_with (at_builtin; refine wpList_append_own_at _ rfl (.tmp 30) (.tmp 32) 23 rfl w.heap.size 59 i0 _ 4 40 Tryd.underlying23 hi0 hz0 hz1 hz2 rfl (by decide) _ ts.length (tkC ts) rfl ?o1 ⟨w2.heap.size + 1, 0, none⟩ 1 1 (TkV t) rfl rfl ?c1 ?c2 ?c3 ?c4 ?c5 ?go)
          case o1 => exact row_touch HROW2.out (((Touch.refl _ _).alloc _).alloc _) (fun _ _ x => x)
          case c1 =>
            rw [HTV.out]
            exact World.news_of_block (cs := #[.int .i64 kd, .int .i64 nn, .int .i64 pl, .string sx]) (alloc_blk _ _ 59 (by simp))
          case c2 => exact TkV_one t
          case c3 => have := HCN.out; unfold maxLen; omega
          case c4 => have := HCN.out; omega
          case c5 => have := HT2.out.size; simp; omega
          case go =>
          intro v2 w3 hown2 hgrow _ _
          have hT3 : Touch NoB w w3 := ((HT2.out.alloc _).alloc _).grown hgrow (fun x e => .inr (HROW.out.lt x e).1)
          have HT3 := Lib.hid (And.intro hT3 hown2)
          clear hown2 hgrow hT3
          go_wp2_with fail
          refine (HSK.out w3 HT3.out.1 ak hk2).mono ?_
          rintro e w' ⟨rfl, rfl⟩
          go_wp2
          go_roundw
          case rel =>
            refine ⟨ts ++ [t], skAt b ak, HS1.out.1.2.2, rfl, ?_, by rw [HS1.out.2.1]; exact HGo.out.symm, HS1.out.2.2, by rw [List.length_append]; have := HCN.out; simp; omega, HT3.out.1⟩
            rw [tkC_snoc, List.length_append]
            exact HT3.out.2
          case measure => simp [intOf]; omega
      · obtain rfl : a = n := by omega
        have hR : lexL b = .good (ts ++ [⟨0, 0, a, []⟩]) := by
          rw [← hpre]
          conv => lhs; rw [← HN.out]
          rw [from_end, HN.out]
          rfl
        have HR := Lib.hid hR
        have HROW := Lib.hid hrow
        have HTr := Lib.hid hTr
        clear hpre hfix hR hrow hTr
        go_wp2_with (at_builtin; refine wpList_append_own_at _ rfl (.tmp 37) (.tmp 41) 23 rfl w.heap.size 59 i0 _ 4 40 Tryd.underlying23 hi0 hz0 hz1 hz2 rfl (by decide) _ ts.length (tkC ts) rfl ?o1 ⟨wr.heap.size, 0, none⟩ 1 1 (TkV ⟨0, 0, a, []⟩) rfl rfl ?c1 ?c2 ?c3 ?c4 ?c5 ?go)
        case o1 => exact row_touch HROW.out ((Touch.refl _ _).alloc _) (fun _ _ x => x)
        case c1 => exact World.news_of_block (cs := #[.int .i64 0, .int .i64 0, .int .i64 (a : Int), .string ⟨#[]⟩]) (alloc_blk _ _ 59 rfl)
        case c2 => exact TkV_one _
        case c3 => unfold maxLen; omega
        case c4 => omega
        case c5 => have := HTr.out.size; simp; omega
        case go =>
        intro v2 w3 hown2 hgrow _ _
        have hT3 : Touch NoB w w3 := (HTr.out.alloc _).grown hgrow (fun x e => .inr (HROW.out.lt x e).1)
        have HT3 := Lib.hid (And.intro hT3 hown2)
        clear hown2 hgrow hT3
        go_wp2
        exact bodyPost_ret (v := .tuple #[v2, .int .i64 a, .int .i64 0]) (by simp [results, Tryd.results13, go_sem]) rfl (HP.out _ _ (by rw [HR.out]; exact ⟨HT3.out.1, v2, rfl, by rw [tkC_snoc, List.length_append]; exact HT3.out.2⟩))
  · have hd : decide ((65536 : Int) < (n : Int)) = true := by simp; omega
    have HP : Hid (∀ e w', e = .returned (.tuple #[.slice none 0 0, .int .i64 0, .int .i64 3]) ∧ w = w' → TokPost w b e w') := Lib.hid (fun e w' x => by unfold TokPost; rw [hn, if_neg h]; exact x)
    clear hb hn
    go_enter Tryd.func13, Tryd.ntmps13
    go_wp2
    exact bodyPost_ret (v := .tuple #[.slice none 0 0, .int .i64 0, .int .i64 3]) (by simp [results, Tryd.results13, go_sem]) rfl (HP.out _ _ ⟨rfl, rfl⟩)
end Go.Proofs.YtadpihipnffiaaaDoor

/-
  The example of the document; what a text's expression is, as the statements read it. Conditions: the listed variables read as they are laid.
-/
namespace Go.Proofs.YtadpihipnffiaaaDoor
open Go.ChangeShapes Go.WideShapes Go.ChangeAt Go.RowKit
set_option maxRecDepth 100000
set_option maxHeartbeats 4000000

/-- What the walks want of the listed variables. -/
def EN (w : World) : Prop := (∃ B, LV w B) ∧ Lib.TabIs Tryd.prog w "internal/strconv.uint64pow10" .u64 Lib.pow10Tab
theorem EN.touch {w w' : World} (h : EN w) (t : Touch NoB w w') : EN w' := by
  obtain ⟨⟨B, hB⟩, ht⟩ := h
  exact ⟨⟨B, hB.touch0 t⟩, ((Lib.tabBelow_of_tabIs ht).on (t.belowB (Nat.le_refl _))).here⟩
/-! ### tokens of a text -/
def tokOk (t : Tk) : Prop := (t.kd = 1 → okN t.tx = true) ∧ (t.kd = 3 → t.n ≤ 9223372036854775807) ∧ t.tx.length ≤ 100000
theorem kwS_len : ∀ {s : Bs}, s ∈ kw → s.length ≤ 6 := by decide
theorem sgnL_le (c : UInt8) (r : Bs) : sgnL c r ≤ 2 := by
  unfold sgnL
  repeat' split
  all_goals omega
theorem tok_ok {a n : Nat} {l : Bs} {t : Tk} (h : tokL a l = some (t, n)) : tokOk t := by
  cases l with
  | nil => simp [tokL] at h
  | cons c r =>
    simp only [tokL] at h
    split at h
    · split at h
      · rename_i h2
        injection h with h; injection h with h _; subst h
        exact ⟨fun e => by simp at e, fun _ => h2.2.1, by simp⟩
      · cases h
    · split at h
      · rename_i hl
        split at h
        · rename_i hkw
          injection h with h; injection h with h _; subst h
          exact ⟨fun e => by simp at e, fun e => by simp at e, Nat.le_trans (kwS_len (List.contains_iff_mem.1 hkw)) (show 6 ≤ 100000 by decide)⟩
        · split at h
          · rename_i hk h24
            injection h with h; injection h with h _; subst h
            refine ⟨fun _ => ?_, fun e => by simp at e, Nat.le_trans h24 (show 24 ≤ 100000 by decide)⟩
            have hW : bW c = true := bW_L hl
            have h0 : (List.takeWhile bW (c :: r))[0]? = some c := by rw [List.takeWhile_cons, if_pos hW]; rfl
            have hall : (List.takeWhile bW (c :: r)).all bW = true := List.all_takeWhile
            unfold okN
            rw [name_bs h0 hl hall, wrd_bs]
            simp only [Bool.and_eq_true, decide_eq_true_eq, Bool.not_eq_true']
            exact ⟨h24, by simpa using hk⟩
          · cases h
      · split at h
        · cases h
        · injection h with h; injection h with h _; subst h
          exact ⟨fun e => by simp at e, fun e => by simp at e, Nat.le_trans (List.length_take_le _ _) (Nat.le_trans (sgnL_le c r) (show 2 ≤ 100000 by decide))⟩
theorem toks_ok : ∀ (f a : Nat) (l : Bs) (ts : List Tk), toksL f a l = .good ts → ∀ t ∈ ts, tokOk t
  | 0, a, l, ts, h => by simp [toksL] at h
  | f + 1, a, l, ts, h => by
    unfold toksL at h
    split at h
    · injection h with h; subst h
      intro t ht
      simp at ht
      subst ht
      exact ⟨fun e => by simp at e, fun e => by simp at e, by simp⟩
    · rename_i c r _
      split at h
      · cases h
      · rename_i t n ht
        cases hr : toksL f (a + (l.length - (c :: r).length) + n) ((c :: r).drop n) with
        | bad p => rw [hr] at h; simp [Lx.cons] at h
        | good us =>
          rw [hr] at h
          simp only [Lx.cons, Lx.good.injEq] at h
          subst h
          intro q hq
          rcases List.mem_cons.1 hq with rfl | hq
          · exact tok_ok ht
          · exact toks_ok f _ _ us hr q hq
theorem lex_oks {l : Bs} {ts : List Tk} (h : lexL l = .good ts) : NamesOk ts ∧ NumsOk ts := by
  have hh := toks_ok _ _ _ _ h
  refine ⟨?_, ?_, fun t ht => (hh t ht).2.2⟩
  · intro k s hs
    unfold nameAt at hs
    split at hs
    · cases hs
    · rename_i t ht
      split at hs
      · rename_i h1; injection hs with hs; subst hs
        exact (hh t (List.mem_of_getElem? ht)).1 h1
      · cases hs
  · intro k m hs
    unfold numAt at hs
    split at hs
    · cases hs
    · rename_i t ht
      split at hs
      · rename_i h1; injection hs with hs; subst hs
        exact (hh t (List.mem_of_getElem? ht)).2.1 h1
      · cases hs
theorem rtoks_good {A : Option Addr} {n cap m : Nat} {b : Bs} {w : World} {ts : List Tk} (h : lexL b = .good ts) (hm : ts.length = m) (hn : b.length = n) (hmax : n ≤ 65536) (hcap : n ≤ cap) (hb : BAt w A b) :
    Calls Tryd.prog 13 #[.slice A n cap] w fun e w' => ∃ g cp, e = .returned (.tuple #[.slice (some ⟨g, 0, none⟩) m cp, .int .i64 n, .int .i64 0]) ∧ TL w' g ts ∧ Touch NoB w w' := by
  refine (rtokens_any A n cap b w hn hcap hb).mono ?_
  intro e w' hP
  unfold TokPost at hP
  rw [if_pos (by omega), h] at hP
  obtain ⟨hT, vl, rfl, ho⟩ := hP
  have hpos : 0 < ts.length := by
    cases ts with
    | nil => exact (lex_places h).elim
    | cons t r => simp
  obtain ⟨g, cp, rfl, hTL⟩ := TL.of_row ho hpos
  exact ⟨g, cp, by rw [hn, hm], hTL, hT⟩

theorem num_any (n : Int) (w : World) : Calls Tryd.prog 17 #[.int .i64 n] w fun e w' => e = .returned (.int .i64 n) ∧ w = w' := by
  go_enter Tryd.func17, Tryd.ntmps17
  go_wp2
  go_ret
  exact ⟨rfl, rfl⟩
def exA : Ex := .two 6 (.leaf 0 1 []) (.leaf 0 2 [])
theorem exA_prt : prt exA = [40, 49, 32, 43, 32, 50, 41] := by
  have h1 : Lib.itoa 1 = [49] := by unfold Lib.itoa; rw [if_neg (by decide), Lib.decDigits, dif_pos (by decide)]; rfl
  have h2 : Lib.itoa 2 = [50] := by unfold Lib.itoa; rw [if_neg (by decide), Lib.decDigits, dif_pos (by decide)]; rfl
  simp [exA, prt, ahd, btw, wordB, h1, h2]
theorem exA_v : vE exA := ⟨.inl ⟨by decide, by decide⟩, .inl ⟨rfl, by decide, by decide, rfl⟩, .inl ⟨rfl, by decide, by decide, rfl⟩⟩
theorem alive_any (w : World) (hev : EN w) : Calls Tryd.prog 12 #[] w fun e w' => e = .returned (.bool true) ∧ Touch NoB w w' := by
  obtain ⟨W1, hW1⟩ : ∃ W, w.alloc (.cells #[.int .i64 0, .int .i64 1, .string ⟨#[]⟩, .slice none 0 0, .int .i64 0, .int .i64 2, .string ⟨#[]⟩, .slice none 0 0] 29) = W := ⟨_, rfl⟩
  obtain ⟨W2, hW2⟩ : ∃ W, W1.alloc (.cells #[.int .i64 6, .int .i64 0, .string ⟨#[]⟩, .slice (some ⟨w.heap.size, 0, none⟩) 2 2] 29) = W := ⟨_, rfl⟩
  have het1 : ET W1 (fun _ => True) exA 6 0 ⟨#[]⟩ (some ⟨w.heap.size, 0, none⟩) 2 2 := by
    rw [← hW1]
    exact ET.mk2 (Q := fun _ => True) (x := .leaf 0 1 []) (y := .leaf 0 2 []) ⟨rfl, rfl, rfl, rfl, rfl, rfl⟩ ⟨rfl, rfl, rfl, rfl, rfl, rfl⟩ 6 rfl trivial
  have t1 : Touch NoB w W1 := by rw [← hW1]; exact (Touch.refl _ _).alloc _
  have t2 : Touch NoB W1 W2 := by rw [← hW2]; exact (Touch.refl _ _).alloc _
  have het := het1.touch0 t2
  have hs1 : W1.heap.size = w.heap.size + 1 := by rw [← hW1]; simp only [World.size_alloc]
  have hx2 : XB W2 (w.heap.size + 1) 6 0 ⟨#[]⟩ (some ⟨w.heap.size, 0, none⟩) 2 2 := by rw [← hW2]; exact XB.new _ _ _ _ _ _ _ hs1
  have hpr := print_any (x := exA) (by decide) exA_v (by rw [exA_prt]; decide) W2 (hev.touch (t1.same t2)).2 het
  rw [exA_prt] at hpr
  have HPR := Lib.hid hpr
  have HR := Lib.hid (fun W (t : Touch NoB W2 W) => Right_any (x := exA) (by decide) exA_v W (het.touch0 t))
  have HN := Lib.hid (fun w => Right_neg w)
  have HT := Lib.hid (t1.same t2)
  have HX := Lib.hid hx2
  obtain ⟨z0, z1, z2, z3, z4⟩ := hx2.cells
  clear het1 t1 t2 het hx2 hpr hev
  go_enter Tryd.func12, Tryd.ntmps12
  go_wp2_with fail
  refine HPR.out.mono ?_
  rintro r w3 ⟨rfl, hT3⟩
  have hx3 : XB w3 (w.heap.size + 1) 6 0 ⟨#[]⟩ (some ⟨w.heap.size, 0, none⟩) 2 2 := (hT3.block _ (blk_lt HX.out) (fun x => x)).trans HX.out
  obtain ⟨y0, y1, y2, y3, y4⟩ := hx3.cells
  have heq : ((bs [40, 49, 32, 43, 32, 50, 41]).toList == [40, 49, 32, 43, 32, 50, 41]) = true := by rw [bs_toList]; decide
  obtain ⟨sx, hsx⟩ : ∃ sx, bs [40, 49, 32, 43, 32, 50, 41] = sx := ⟨_, rfl⟩
  rw [hsx] at heq
  have HC := Lib.hid (HR.out w3 hT3)
  have HT3 := Lib.hid (HT.out.same hT3)
  clear hT3 hx3
  try rw [hsx]
  clear hsx
  go_wp2_with fail
  refine HC.out.mono ?_
  rintro r w4 ⟨rfl, hT4⟩
  have HT4 := Lib.hid (HT3.out.same hT4)
  clear hT4
  go_wp2_with fail
  refine (HN.out _).mono ?_
  rintro r w5 ⟨rfl, hT5⟩
  have HT5 := Lib.hid (HT4.out.same hT5)
  clear hT5
  go_wp2
  go_ret
  exact ⟨rfl, HT5.out⟩
end Go.Proofs.YtadpihipnffiaaaDoor

/-
  What the tied variables hold, as the walks want it; the heap that the door's own run leaves meets the condition.
-/
namespace Go.Proofs.YtadpihipnffiaaaDoor
open Go.ChangeShapes Go.WideShapes Go.ChangeAt Go.RowKit
set_option maxRecDepth 100000

theorem own : ownKnob Tryd.prog.godebug = none := by kernel_rfl
def laid5 : List (String × DataW Unit) := [("math/bits.deBruijn32tab", Rows.laid_math_bits_deBruijn32tab), ("math/bits.deBruijn64tab", Rows.laid_math_bits_deBruijn64tab), ("internal/strconv.uint64pow10", Rows.laid_internal_strconv_uint64pow10), ("puppeteer/expr.levels", Rows.laid_puppeteer_expr_levels)]
/-- The door's own heap meets the condition: closed facts. -/
theorem door_met (os : Os) (args : Array Value) : laidMetH Tryd.prog laid5 ((World.doorLaid Tryd.prog 100 os).forCall (fun _ _ => 0) ⟨#[], args, []⟩).memory :=
  laidMetH_of_parts3 (fuel := 8) (laidMet_of_run' 8 (by kernel_rfl) (by kernel_rfl)) (by kernel_rfl) (by kernel_rfl)
theorem cells_int : Tryd.prog.cellsOf 3 = 1 := by kernel_rfl
theorem cells_sli : Tryd.prog.cellsOf 42 = 1 := by kernel_rfl
theorem lits_inj {H : Type} {k : IntKind} : ∀ {l m : List Int}, (lits k l : List (DataW H)) = lits k m → l = m
  | [], [], _ => rfl
  | a :: r, b :: q, h => by
    simp only [lits, List.map_cons, List.cons.injEq, DataW.lit.injEq, Lit.int.injEq, true_and] at h
    rw [h.1, lits_inj (k := k) (H := H) h.2]
  | [], b :: q, h => by simp [lits] at h
  | a :: r, [], h => by simp [lits] at h
theorem one_slice {H : Type} {enc : TypeId × Value → H} {W : World} {fuel : Nat} {cs : List Value} {held : Bool} {ops : List Int} {p : List MemPlace} (hne : ops ≠ [])
    (h : DataW.trod enc Tryd.prog W 0 (fun _ => true) held fuel 42 cs = some (.slice (lits .i64 ops) [], p)) :
    ∃ b o cap, cs = [.slice (some ⟨b, o, none⟩) ops.length cap] ∧ b < W.heap.size ∧ ∀ (i : Nat) (k : Int), ops[i]? = some k → W.cell? ⟨b, o + i, none⟩ = some (.int .i64 k) := by
  rcases open_ints Tryd.underlying42 Tryd.underlying3 cells_int h with ⟨_, hx⟩ | ⟨ad, len, cap, zs, rfl, _, hl, hmx, hz, hx, hcell, _⟩
  · simp at hx
  · simp only [Prod.mk.injEq, DataW.slice.injEq] at hx
    obtain ⟨⟨h1, h2⟩, -⟩ := hx
    have e1 := lits_inj h1
    have e2 : zs.drop len = [] := by
      cases hd : zs.drop len with
      | nil => rfl
      | cons a r => rw [hd] at h2; simp [lits] at h2
    have hzs : zs = ops := by rw [e1, ← List.append_nil (zs.take len), ← e2, List.take_append_drop]
    have hlen : len = ops.length := by
      have := congrArg List.length e1
      rw [List.length_take] at this
      simp only [if_true] at hz
      omega
    subst hzs
    have hpos : 0 < zs.length := List.length_pos_iff.2 hne
    obtain ⟨b, off, spot⟩ := ad
    have hspot : spot = none := by simpa [Addr.add] using World.cell?_spot (hcell 0 hpos)
    subst hspot
    have hc : ∀ (i : Nat) (k : Int), zs[i]? = some k → W.cell? ⟨b, off + i, none⟩ = some (.int .i64 k) := by
      intro i k hi
      have hil := (List.getElem?_eq_some_iff.1 hi).1
      have := hcell i hil
      rw [add_plain] at this
      rw [this, List.getD_eq_getElem?_getD, hi]
      rfl
    refine ⟨b, off, cap, by rw [hlen], ?_, hc⟩
    exact World.block_lt_of_cell? W ⟨b, off + 0, none⟩ (hc 0 _ (List.getElem?_eq_getElem hpos))
theorem levels_laid : (Rows.laid_puppeteer_expr_levels : DataW Unit) = .agg (lvs.map fun ops => .slice (lits .i64 ops) []) := rfl
theorem lv_of_laid {W : World} (h : laidMet Tryd.prog [("puppeteer/expr.levels", Rows.laid_puppeteer_expr_levels)] W) : LV W W.heap.size := by
  obtain ⟨ps, ⟨g', t', cs, fuel, p, q, hg', ht', hvar, hd, _, _⟩, _⟩ := h
  obtain rfl : 0 = g' := Option.some.inj ((show Tryd.prog.globalNamed "puppeteer/expr.levels" = some 0 by kernel_rfl).symm.trans hg')
  obtain rfl : 122 = t' := Option.some.inj ((show (Tryd.prog.globals[0]?).map (·.type) = some 122 by kernel_rfl).symm.trans ht')
  have hcell : ∀ i, W.cell? ⟨0, i, none⟩ = cs[i]? := fun i => by simpa using World.var?_cell (g := 0) (by kernel_rfl) hvar i
  rw [levels_laid] at hd
  cases fuel with
  | zero => simp [DataW.trod] at hd
  | succ fuel =>
    have hct : Tryd.prog.cellsOf 122 = 5 := by kernel_rfl
    simp only [DataW.trod, Tryd.underlying122, cells_sli, hct, Nat.mul_one] at hd
    split at hd
    · rename_i hl
      obtain ⟨xs, hm, hx⟩ := Option.map_eq_some_iff.1 hd
      have hxs : xs.map (·.1) = lvs.map fun ops => (.slice (lits .i64 ops) [] : DataW Unit) := by
        have := congrArg Prod.fst hx
        simpa using this
      have hall : ∀ (lv : Nat) (ops : List Int), lvs[lv]? = some ops → ∃ b o c, W.cell? ⟨0, lv, none⟩ = some (.slice (some ⟨b, o, none⟩) ops.length c) ∧ b < W.heap.size ∧ ∀ (i : Nat) (k : Int), ops[i]? = some k → W.cell? ⟨b, o + i, none⟩ = some (.int .i64 k) := by
        intro lv ops hlv
        have hlt : lv < 5 := (List.getElem?_eq_some_iff.1 hlv).1
        have hne : ops ≠ [] := by
          have : ∀ l ∈ lvs, l ≠ [] := by decide
          exact this ops (List.mem_of_getElem? hlv)
        obtain ⟨y, hb, hf⟩ := Lib.mapM_at hm lv lv (by simp [hlt])
        have h2 : (xs.map (·.1))[lv]? = some y.1 := by simp [hb]
        rw [hxs, List.getElem?_map, hlv] at h2
        simp only [Option.map_some, Option.some.injEq] at h2
        obtain ⟨y1, y2⟩ := y
        simp only at h2
        subst h2
        obtain ⟨b, o, cap, he, h3, h4⟩ := one_slice hne hf
        refine ⟨b, o, cap, ?_, h3, h4⟩
        rw [hcell, ← Array.getElem?_toList]
        have := congrArg (·[0]?) he
        simpa [List.getElem?_take, List.getElem?_drop] using this
      refine ⟨?_, Nat.le_refl _, hall⟩
      obtain ⟨b, o, c, h1, -, -⟩ := hall 0 [13] rfl
      exact Nat.lt_of_le_of_lt (Nat.zero_le _) (World.block_lt_of_cell? W ⟨0, 0, none⟩ h1)
    · cases hd
/-- What the condition gives the walks. -/
theorem en_of_laid {W : World} (h : laidMetH Tryd.prog laid5 W) : EN W := by
  rw [MakeChecks.laidMetH_plain _ _ _ (by kernel_rfl)] at h
  have h2 := h.tail.tail
  refine ⟨⟨W.heap.size, lv_of_laid h2.tail⟩, ?_⟩
  exact Lib.tabIs_of_head (g := 1) (t := 162) (e := 143) (n := 20) (by kernel_rfl) (by kernel_rfl) (by kernel_rfl) (by kernel_rfl) (by kernel_rfl) (by kernel_rfl) h2
end Go.Proofs.YtadpihipnffiaaaDoor

/-
  The document's own reader of tokens in memory: what its fail, now, is, take, want, name and number return. Conditions: those that each theorem names.
-/
namespace Go.Proofs.YtadpihipnffiaaaDoor
open Go.ChangeShapes Go.WideShapes Go.ChangeAt Go.RowKit
set_option maxRecDepth 100000
set_option maxHeartbeats 4000000

/-- The document's reader at place k with error e, in block gp; its tokens lie in block g. -/
structure RS (w : World) (gp g n cp : Nat) (ts : List Tk) (k e : Nat) : Prop where
  blk : ∃ bad : Nat, w.heap[gp]? = some (.cells #[.slice (some ⟨g, 0, none⟩) n cp, .int .i64 (k : Int), .int .i64 (e : Int), .int .i64 (bad : Int)] 70 (0, 0)) ∧ (e ≠ 0 → bad = k)
  tl : TL w g ts
  ne : g ≠ gp
  len : ts.length = n
  le : k ≤ n
  small : n ≤ 100000
theorem RS.lt {w : World} {gp g n cp : Nat} {ts : List Tk} {k e : Nat} (h : RS w gp g n cp ts k e) : gp < w.heap.size := by
  obtain ⟨bad, hb, -⟩ := h.blk; exact blk_lt hb
theorem RS.touch {w w' : World} {gp g n cp : Nat} {ts : List Tk} {k e : Nat} (h : RS w gp g n cp ts k e) (t : Touch NoB w w') : RS w' gp g n cp ts k e := by
  obtain ⟨bad, hb, he⟩ := h.blk
  exact ⟨⟨bad, (t.block gp (blk_lt hb) (fun x => x)).trans hb, he⟩, h.tl.touch t, h.ne, h.len, h.le, h.small⟩
theorem RS.touchX {w w' : World} {gp g n cp : Nat} {ts : List Tk} {k e s : Nat} (h : RS w gp g n cp ts k e) (t : Touch (fun b => b = s) w w') (h1 : gp < s) (h2 : g < s) : RS w' gp g n cp ts k e := by
  obtain ⟨bad, hb, he⟩ := h.blk
  refine ⟨⟨bad, (t.block gp (blk_lt hb) (by omega)).trans hb, he⟩, ?_, h.ne, h.len, h.le, h.small⟩
  refine ⟨Nat.lt_of_lt_of_le h.tl.lt t.size, fun k x hx => ?_⟩
  have hgs : ¬ g = s := by omega
  have e := fun j => t.cell (p := ⟨g, j, none⟩) h.tl.lt hgs
  obtain ⟨a, b, c, d⟩ := h.tl.at_ k x hx
  exact ⟨(e _).trans a, (e _).trans b, (e _).trans c, (e _).trans d⟩
theorem RS.nox {w : World} {gp g n cp : Nat} {ts : List Tk} {k e : Nat} (h : RS w gp g n cp ts k e) (Q : Nat → Prop) : NoX w (AtB gp) Q := by
  obtain ⟨bad, hbl, -⟩ := h.blk
  intro b cs fr hb _ hx
  unfold AtB at hb
  subst hb
  rw [hbl] at hx
  injection hx with hx
  injection hx with _ hx
  exact absurd hx (by decide)
/-- Its place written anew, where nothing failed. -/
theorem RS.setk {w : World} {gp g n cp : Nat} {ts : List Tk} {k : Nat} (h : RS w gp g n cp ts k 0) (j : Nat) (hj : j ≤ n) : RS (w.setCell ⟨gp, 1, none⟩ (.int .i64 (j : Int))) gp g n cp ts j 0 := by
  obtain ⟨bad, hb, -⟩ := h.blk
  have tt : Touch (AtB gp) w (w.setCell ⟨gp, 1, none⟩ (.int .i64 (j : Int))) := (Touch.refl (AtB gp) w).setCell (p := ⟨gp, 1, none⟩) (.inl rfl) _
  exact ⟨⟨bad, set_blk hb 1 _, fun e => absurd rfl e⟩, h.tl.touchP tt h.ne, h.ne, h.len, hj, h.small⟩
theorem RS.acc_lt {w : World} {gp g n cp : Nat} {ts : List Tk} {k e : Nat} {s : Bs} (h : RS w gp g n cp ts k e) (ha : acc (nxt ts k e) s = true) : k < n := by
  have := acc_zero ha
  subst this
  rw [acc_ok] at ha
  rw [← h.len]
  exact sg_lt ha
theorem rfail_no {w : World} {gp g n cp : Nat} {ts : List Tk} {k e : Nat} (h : RS w gp g n cp ts k e) (he : e ≠ 0) (c : Int) :
    Calls Tryd.prog 67 #[.pointer (some ⟨gp, 0, none⟩), .int .i64 c] w fun x w' => x = .returned (.tuple #[]) ∧ w = w' := by
  obtain ⟨bad, hb, -⟩ := h.blk
  have c2 : w.cell? ⟨gp, 2, none⟩ = some (.int .i64 (e : Int)) := cell_blk hb 2
  have hee : ((e : Int) == 0) = false := by simp; omega
  clear h hb
  go_enter Tryd.func67, Tryd.ntmps67
  go_wp2
  go_end0
  exact ⟨rfl, rfl⟩
theorem rfail_yes {w : World} {gp g n cp : Nat} {ts : List Tk} {k : Nat} (h : RS w gp g n cp ts k 0) (c : Nat) :
    Calls Tryd.prog 67 #[.pointer (some ⟨gp, 0, none⟩), .int .i64 (c : Int)] w fun x w' => x = .returned (.tuple #[]) ∧ RS w' gp g n cp ts k c ∧ Touch (AtB gp) w w' := by
  obtain ⟨bad, hb, -⟩ := h.blk
  have c2 : w.cell? ⟨gp, 2, none⟩ = some (.int .i64 ((0 : Nat) : Int)) := cell_blk hb 2
  have q2 : w.frozen? ⟨gp, 2, none⟩ = false := free_blk hb 2
  have hb1 := set_blk hb 2 (.int .i64 (c : Int))
  have c1 : (w.setCell ⟨gp, 2, none⟩ (.int .i64 (c : Int))).cell? ⟨gp, 1, none⟩ = some (.int .i64 (k : Int)) := cell_blk hb1 1
  have c3 : (w.setCell ⟨gp, 2, none⟩ (.int .i64 (c : Int))).cell? ⟨gp, 3, none⟩ = some (.int .i64 (bad : Int)) := cell_blk hb1 3
  have q3 : (w.setCell ⟨gp, 2, none⟩ (.int .i64 (c : Int))).frozen? ⟨gp, 3, none⟩ = false := free_blk hb1 3
  have hb2 := set_blk hb1 3 (.int .i64 (k : Int))
  have tt : Touch (AtB gp) w ((w.setCell ⟨gp, 2, none⟩ (.int .i64 (c : Int))).setCell ⟨gp, 3, none⟩ (.int .i64 (k : Int))) := touch_set (gp := gp) (touch_set (gp := gp) (Touch.refl _ w) 2 _) 3 _
  obtain ⟨W, hW⟩ : ∃ W, (w.setCell ⟨gp, 2, none⟩ (.int .i64 (c : Int))).setCell ⟨gp, 3, none⟩ (.int .i64 (k : Int)) = W := ⟨_, rfl⟩
  rw [hW] at hb2 tt
  have d3 : W.drew.cell? ⟨gp, 3, none⟩ = some (.int .i64 (k : Int)) := cell_blk (w := W.drew) hb2 3
  have d0 : W.drew.cell? ⟨gp, 0, none⟩ = some (.slice (some ⟨g, 0, none⟩) n cp) := cell_blk (w := W.drew) hb2 0
  have h0 : decide ((k : Int) < 0) = false := by simp
  have h1 : decide ((n : Int) < (k : Int)) = false := by have := h.le; simp; omega
  have h1' : decide (n < k) = false := by have := h.le; simp; omega
  have hks : (k : Int) ≤ 100000 := by have := h.le; have := h.small; omega
  have hl := h.lt
  have HE := Lib.hid (show RS W.drew gp g n cp ts k c from ⟨⟨k, hb2, fun _ => rfl⟩, (h.tl.touchP tt h.ne).touch (Touch.refl NoB W).drew, h.ne, h.len, h.le, h.small⟩)
  have HT := Lib.hid tt
  clear h hb hb1 hb2 tt
  go_enter Tryd.func67, Tryd.ntmps67
  go_upto_region 3 with fail
  try rw [hW]
  clear hW c1 q3 q2 c2 c3
  go_region
  go_wp2
  go_end0
  exact ⟨rfl, HE.out, HT.out.drew⟩
theorem rfail_any {w : World} {gp g n cp : Nat} {ts : List Tk} {k e : Nat} (h : RS w gp g n cp ts k e) (c : Nat) :
    Calls Tryd.prog 67 #[.pointer (some ⟨gp, 0, none⟩), .int .i64 (c : Int)] w fun x w' => x = .returned (.tuple #[]) ∧ RS w' gp g n cp ts k (if e = 0 then c else e) ∧ Touch (AtB gp) w w' := by
  by_cases he : e = 0
  · subst he
    exact (rfail_yes h c).mono (fun x w' q => by simpa using q)
  · exact (rfail_no h he c).mono (fun x w' q => by obtain ⟨rfl, rfl⟩ := q; rw [if_neg he]; exact ⟨rfl, h, Touch.refl _ _⟩)
/-- The token that comes, whatever failed. -/
theorem rnow_any {w : World} {gp g n cp : Nat} {ts : List Tk} {k e : Nat} (h : RS w gp g n cp ts k e) :
    Calls Tryd.prog 71 #[.pointer (some ⟨gp, 0, none⟩)] w fun x w' => x = .returned (.agg #[.int .i64 (nxt ts k 0).kd, .int .i64 (nxt ts k 0).n, .int .i64 (nxt ts k 0).pl, .string (bs (nxt ts k 0).tx)]) ∧ Touch NoB w w' := by
  have hgp := h.lt
  obtain ⟨W, hW⟩ : ∃ W, w.alloc (.cells #[.int .i64 0, .int .i64 0, .int .i64 0, .string ⟨#[]⟩] 59) = W := ⟨_, rfl⟩
  have hT : Touch NoB w W := by rw [← hW]; exact (Touch.refl _ _).alloc _
  have hN : W.heap[w.heap.size]? = some (.cells #[.int .i64 0, .int .i64 0, .int .i64 0, .string ⟨#[]⟩] 59 (0, 0)) := by rw [← hW]; exact alloc_blk _ _ _ rfl
  have hr := (h.touch hT)
  obtain ⟨bad, hb, -⟩ := hr.blk
  have c0 : W.drew.cell? ⟨gp, 0, none⟩ = some (.slice (some ⟨g, 0, none⟩) n cp) := cell_blk (w := W.drew) hb 0
  have c1 : W.drew.cell? ⟨gp, 1, none⟩ = some (.int .i64 (k : Int)) := cell_blk (w := W.drew) hb 1
  have b0 : W.drew.drew.cell? ⟨gp, 0, none⟩ = some (.slice (some ⟨g, 0, none⟩) n cp) := cell_blk (w := W.drew.drew) hb 0
  have b1 : W.drew.drew.cell? ⟨gp, 1, none⟩ = some (.int .i64 (k : Int)) := cell_blk (w := W.drew.drew) hb 1
  have n0 : W.cell? ⟨w.heap.size, 0, none⟩ = some (.int .i64 0) := cell_blk hN 0
  have n1 : W.cell? ⟨w.heap.size, 1, none⟩ = some (.int .i64 0) := cell_blk hN 1
  have n2 : W.cell? ⟨w.heap.size, 2, none⟩ = some (.int .i64 0) := cell_blk hN 2
  have n3 : W.cell? ⟨w.heap.size, 3, none⟩ = some (.string ⟨#[]⟩) := cell_blk hN 3
  have f0 : W.frozen? ⟨w.heap.size, 0, none⟩ = false := free_blk hN 0
  have f1 : W.frozen? ⟨w.heap.size, 1, none⟩ = false := free_blk hN 1
  have f2 : W.frozen? ⟨w.heap.size, 2, none⟩ = false := free_blk hN 2
  have f3 : W.frozen? ⟨w.heap.size, 3, none⟩ = false := free_blk hN 3
  have nl : w.heap.size < W.heap.size := blk_lt hN
  have hks : (k : Int) ≤ 100000 := by have := h.le; have := h.small; omega
  have hsm := h.small
  have h00 : decide ((k : Int) < 0) = false := by simp
  have HT := Lib.hid hT
  by_cases hlt : k < n
  · obtain ⟨t, ht⟩ : ∃ t, ts[k]? = some t := ⟨ts[k]'(by rw [h.len]; exact hlt), List.getElem?_eq_getElem _⟩
    obtain ⟨a0, a1, a2, a3⟩ := hr.tl.at_ k t ht
    have al := hr.tl.lt
    rw [nxt_at ht]
    have p0 : W.drew.drew.cell? ⟨g, k * 4, none⟩ = some (.int .i64 t.kd) := a0
    have p1 : W.drew.drew.cell? ⟨g, k * 4 + 1, none⟩ = some (.int .i64 t.n) := a1
    have p2 : W.drew.drew.cell? ⟨g, k * 4 + 2, none⟩ = some (.int .i64 t.pl) := a2
    have p3 : W.drew.drew.cell? ⟨g, k * 4 + 3, none⟩ = some (.string (bs t.tx)) := a3
    have hkn : decide ((n : Int) ≤ (k : Int)) = false := by simp; omega
    have hkn' : decide (n ≤ k) = false := by simp; omega
    have hgn : w.heap.size ≠ gp := by omega
    have hgg : w.heap.size ≠ g := by have := h.tl.lt; omega
    clear h hr hN hT a0 a1 a2 a3 hb
    go_enter Tryd.func71, Tryd.ntmps71
    go_upto_region 1 with fail
    go_region
    go_wp2
    go_region
    go_wp2
    exact bodyPost_ret (v := .agg #[.int .i64 t.kd, .int .i64 t.n, .int .i64 t.pl, .string (bs t.tx)]) (by simp [results, Tryd.results71, go_sem, n0, n1, n2, n3]) rfl ⟨rfl, by
      have hnew : ∀ b, b = w.heap.size → NoB b ∨ w.heap.size ≤ b := fun b e => .inr (by omega)
      repeat (first | with_reducible exact HT.out | with_reducible refine Touch.drew ?_ | with_reducible refine Touch.setCell ?_ (hnew _ rfl) _)⟩
  · obtain rfl : k = n := by have := h.le; omega
    have hnx : nxt ts k 0 = ⟨0, 0, 0, []⟩ := by rw [← h.len]; exact nxt_end
    have hkn : decide ((k : Int) ≤ (k : Int)) = true := by simp
    have hkn' : decide (k ≤ k) = true := by simp
    have hgn : w.heap.size ≠ gp := by omega
    rw [hnx]
    have hbs : bs [] = ⟨#[]⟩ := rfl
    simp only [hbs]
    clear h hr hN hT hnx hbs hb
    go_enter Tryd.func71, Tryd.ntmps71
    go_upto_region 1 with fail
    go_region
    go_wp2
    exact bodyPost_ret (v := .agg #[.int .i64 0, .int .i64 0, .int .i64 0, .string ⟨#[]⟩]) (by simp [results, Tryd.results71, go_sem, n0, n1, n2, n3]) rfl ⟨rfl, by
      have hnew : ∀ b, b = w.heap.size → NoB b ∨ w.heap.size ≤ b := fun b e => .inr (by omega)
      repeat (first | with_reducible exact HT.out | with_reducible refine Touch.drew ?_ | with_reducible refine Touch.setCell ?_ (hnew _ rfl) _)⟩
end Go.Proofs.YtadpihipnffiaaaDoor
