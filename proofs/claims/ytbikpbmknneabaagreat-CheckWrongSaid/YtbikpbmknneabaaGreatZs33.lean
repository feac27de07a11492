/-
  What the document's own token and Tokens return: what the lexer on lists of bytes comes to. No condition beyond those that each theorem names.
-/
import Derived.Test.YtbikpbmknneabaaGreatZs32
namespace Go.Proofs.YtbikpbmknneabaaGreat
open Go.ChangeShapes Go.WideShapes Go.ChangeAt Go.RowKit
set_option maxRecDepth 100000
set_option maxHeartbeats 4000000

theorem rtoken_any {A : Option Addr} {n cap : Nat} {b : Bs} {w : World} (hn : b.length = n) (hcap : n ≤ cap) (hmax : n ≤ 65536) (hb : BAt w A b) {a : Nat} (ha : a < n) :
    Calls Tryz.prog 31 #[.slice A n cap, .int .i64 a] w (TnPost w b a) := by
  obtain ⟨c, hc⟩ : ∃ c, b[a]? = some c := ⟨b[a]'(by rw [hn]; exact ha), List.getElem?_eq_getElem _⟩
  cases hD : bD c
  · cases hL : bL c
    · exact token_sign hn hcap hmax hb ha hc hL hD
    · exact token_letter hn hcap hmax hb ha hc hL
  · exact token_digit hn hcap hmax hb ha hc hD

theorem sk_drop (b : Bs) {a : Nat} (ha : a ≤ b.length) : b.drop (skAt b a) = skipL false (b.drop a) ∧ a ≤ skAt b a ∧ skAt b a ≤ b.length := by
  have h := skip_suffix (b.drop a) false
  have hl := skip_len (b.drop a) false
  rw [List.length_drop] at h hl
  unfold skAt
  refine ⟨?_, by omega, by omega⟩
  conv => rhs; rw [h]
  rw [List.drop_drop, show a + (b.length - a - (skipL false (b.drop a)).length) = b.length - (skipL false (b.drop a)).length from by omega]
theorem sk_idem (l : Bs) : skipL false (skipL false l) = skipL false l := by
  cases h : skipL false l with
  | nil => rfl
  | cons c r =>
    obtain ⟨h1, h2⟩ := skip_head l false c r h
    exact skip_stay h1 h2
theorem sk_fix (b : Bs) {a : Nat} (ha : a ≤ b.length) : skipL false (b.drop (skAt b a)) = b.drop (skAt b a) := by
  rw [(sk_drop b ha).1, sk_idem]
theorem from_sk (b : Bs) {a : Nat} (ha : a ≤ b.length) : fromS false b (skAt b a) = fromS false b a := by
  unfold fromS
  rw [sk_fix b ha, (sk_drop b ha).1]
theorem at_token {b : Bs} {a : Nat} {c : UInt8} (h : b[a]? = some c) (hs : skipL false (b.drop a) = b.drop a) : bB c = false ∧ ¬ (c.toNat = 47 ∧ slash (b.drop (a + 1)) = true) := by
  rw [drop_at h] at hs
  exact skip_head (c :: b.drop (a + 1)) false c _ hs

def RkRel (w : World) (b : Bs) (v5 v6 : Value) (wr : World) : Prop := ∃ (ts : List Tk) (a : Nat), a ≤ b.length ∧ v6 = .int .i64 a ∧ wr.ownsRow w.heap.size 52 4 v5 ts.length (tkC ts) ∧ Lx.pre ts (fromS false b a) = lexL b ∧ skipL false (b.drop a) = b.drop a ∧ ts.length ≤ a ∧ Touch NoB w wr

theorem rtokens_any (A : Option Addr) (n cap : Nat) (b : Bs) (w : World) (hn : b.length = n) (hcap : n ≤ cap) (hb : BAt w A b) :
    Calls Tryz.prog 12 #[.slice A n cap] w (TokPost w b) := by
  by_cases h : n ≤ 65536
  · have hd : decide ((65536 : Int) < (n : Int)) = false := by simp; omega
    have HP : Hid (∀ e w', LxPost w n (lexL b) e w' → TokPost w b e w') := Lib.hid (fun e w' x => by unfold TokPost; rw [hn, if_pos h]; exact x)
    have HN := Lib.hid hn
    have HB := Lib.hid hb
    have HSK := Lib.hid (fun (W : World) (hW : Touch NoB w W) (a : Nat) (ha : a ≤ n) => skip_any (w := W) hn hcap h (hb.touch hW) ha)
    have HTK := Lib.hid (fun (W : World) (hW : Touch NoB w W) (a : Nat) (ha : a < n) => rtoken_any (w := W) hn hcap h (hb.touch hW) ha)
    clear hb hn
    obtain ⟨i0, hi0, hz0, hz1, hz2⟩ := info_tok'
    have hs0 := sk_drop b (Nat.zero_le b.length)
    have hf0 := from_sk b (Nat.zero_le b.length)
    have hx0 := sk_fix b (Nat.zero_le b.length)
    have HS0 := Lib.hid (And.intro hs0 (And.intro hf0 hx0))
    clear hs0 hf0 hx0
    go_enter Tryz.func12, Tryz.ntmps12
    go_wp2_with fail
    refine (HSK.out w (Touch.refl _ _) 0 (Nat.zero_le _)).mono ?_
    rintro e w' ⟨rfl, rfl⟩
    go_wp2
    go_loopw [5, 6] (fun v5 v6 wr => RkRel w b v5 v6 wr) (fun _ v6 _ => n - (intOf v6).toNat)
    case atStart => exact ⟨[], skAt b 0, HS0.out.1.2.2, rfl, World.ownsRow_nil _ _ _ _, by rw [HS0.out.2.1, Lx.pre_nil, lex_from], HS0.out.2.2, Nat.zero_le _, Touch.refl _ _⟩
    case round =>
      obtain ⟨ts, a, ha, rfl, hrow, hpre, hfix, hcnt, hTr⟩ := hrel
      rw [HN.out] at ha
      by_cases hlt : a < n
      · obtain ⟨c, hc⟩ : ∃ c, b[a]? = some c := ⟨b[a]'(by rw [HN.out]; exact hlt), List.getElem?_eq_getElem _⟩
        obtain ⟨hcb, hcs⟩ := at_token hc hfix
        have HROW := Lib.hid hrow
        have HTr := Lib.hid hTr
        have HCN := Lib.hid hcnt
        cases htk : tokL a (b.drop a) with
        | none =>
          have HBad := Lib.hid (hpre.symm.trans (from_wrong hc hcb hcs htk))
          have HT0 := Lib.hid htk
          clear hrow hpre hfix hcnt hTr hc hcb hcs htk
          go_wp2_with fail
          refine (HTK.out _ (by repeat (first | with_reducible exact HTr.out | with_reducible refine Touch.alloc ?_ _)) a hlt).mono ?_
          intro e w2 hp
          unfold TnPost at hp
          rw [HT0.out] at hp
          obtain ⟨hT2, x0, x1, x2, x3, rfl⟩ := hp
          have HT2 := Lib.hid (HTr.out.same hT2)
          clear hT2
          go_wp2
          exact bodyPost_ret (v := .tuple #[.slice none 0 0, .int .i64 a, .int .i64 2]) (by simp [results, Tryz.results12, go_sem]) rfl (HP.out _ _ (by rw [HBad.out]; exact ⟨by repeat (first | with_reducible exact HT2.out | with_reducible refine Touch.alloc ?_ _), rfl⟩))
        | some tk =>
          obtain ⟨t, k⟩ := tk
          have hlen := tok_len (a := a) (n := k) (c := c) (r := b.drop (a + 1)) (t := t) (by rw [← drop_at hc]; exact htk)
          rw [← drop_at hc, List.length_drop, HN.out] at hlen
          have htp := (tok_at htk).1
          have hk2 : a + k ≤ n := by omega
          have HT0 := Lib.hid (And.intro htk htp)
          have HGo := Lib.hid (hpre.symm.trans (from_told hc hcb hcs (by omega) (show tokL a (b.drop a) = some (t, a + k - a) from by rw [htk, Nat.add_sub_cancel_left])))
          have hs1 := sk_drop b (show a + k ≤ b.length by rw [HN.out]; exact hk2)
          have hf1 := from_sk b (show a + k ≤ b.length by rw [HN.out]; exact hk2)
          have hx1 := sk_fix b (show a + k ≤ b.length by rw [HN.out]; exact hk2)
          have HS1 := Lib.hid (And.intro hs1 (And.intro hf1 hx1))
          have hsk1 : a + k ≤ skAt b (a + k) := hs1.2.1
          have hkpos : 1 ≤ k := hlen.1
          clear hrow hpre hfix hcnt hTr hc hcb hcs htk hlen htp hs1 hf1 hx1
          go_wp2_with fail
          refine (HTK.out _ (by repeat (first | with_reducible exact HTr.out | with_reducible refine Touch.alloc ?_ _)) a hlt).mono ?_
          intro e w2 hp
          unfold TnPost at hp
          rw [HT0.out.1] at hp
          obtain ⟨hT2, rfl⟩ := hp
          have hrow2 := row_touch HROW.out hT2 (fun _ _ x => x)
          have hnew := hrow2.lt
          have HT2 := Lib.hid (HTr.out.same hT2)
          have HROW2 := Lib.hid hrow2
          clear hT2 hrow2
          obtain ⟨kd, hkd⟩ : ∃ kd, t.kd = kd := ⟨_, rfl⟩
          obtain ⟨nn, hnn⟩ : ∃ nn, t.n = nn := ⟨_, rfl⟩
          obtain ⟨pl, hpl⟩ : ∃ pl, t.pl = pl := ⟨_, rfl⟩
          obtain ⟨sx, hsx⟩ : ∃ sx, bs t.tx = sx := ⟨_, rfl⟩
          have hTV : TkV t = [.int .i64 kd, .int .i64 nn, .int .i64 pl, .string sx] := by rw [TkV, hkd, hnn, hpl, hsx]
          rw [hkd, hnn, hpl, hsx]
          have HTV := Lib.hid hTV
          clear hkd hnn hpl hsx hTV
          obtain ⟨ak, hak⟩ : ∃ ak, a + k = ak := ⟨_, rfl⟩
          rw [hak] at hk2 hsk1 HS1 HGo
          rw [hak]
          go_wp2_with (at_builtin; refine wpList_append_own_at _ rfl (.tmp 30) (.tmp 32) 45 rfl w.heap.size 52 i0 _ 4 40 Tryz.underlying45 hi0 hz0 hz1 hz2 rfl (by decide) _ ts.length (tkC ts) rfl ?o1 ⟨w2.heap.size + 1, 0, none⟩ 1 1 (TkV t) rfl rfl ?c1 ?c2 ?c3 ?c4 ?c5 ?go)
          case o1 => exact row_touch HROW2.out (((Touch.refl _ _).alloc _).alloc _) (fun _ _ x => x)
          case c1 =>
            rw [HTV.out]
            exact World.news_of_block (cs := #[.int .i64 kd, .int .i64 nn, .int .i64 pl, .string sx]) (alloc_blk _ _ 52 (by simp))
          case c2 => exact TkV_one t
          case c3 => have := HCN.out; unfold maxLen; omega
          case c4 => have := HCN.out; omega
          case c5 => have := HT2.out.size; simp; omega
          case go =>
          intro v2 w3 hown2 hgrow _ _
          have hT3 : Touch NoB w w3 := ((HT2.out.alloc _).alloc _).grown hgrow (fun x e => .inr (HROW.out.lt x e).1)
          have HT3 := Lib.hid (And.intro hT3 hown2)
          clear hown2 hgrow hT3
          go_wp2_with fail
          refine (HSK.out w3 HT3.out.1 ak hk2).mono ?_
          rintro e w' ⟨rfl, rfl⟩
          go_wp2
          go_roundw
          case rel =>
            refine ⟨ts ++ [t], skAt b ak, HS1.out.1.2.2, rfl, ?_, by rw [HS1.out.2.1]; exact HGo.out.symm, HS1.out.2.2, by rw [List.length_append]; have := HCN.out; simp; omega, HT3.out.1⟩
            rw [tkC_snoc, List.length_append]
            exact HT3.out.2
          case measure => simp [intOf]; omega
      · obtain rfl : a = n := by omega
        have hR : lexL b = .good (ts ++ [⟨0, 0, a, []⟩]) := by
          rw [← hpre]
          conv => lhs; rw [← HN.out]
          rw [from_end, HN.out]
          rfl
        have HR := Lib.hid hR
        have HROW := Lib.hid hrow
        have HTr := Lib.hid hTr
        clear hpre hfix hR hrow hTr
        go_wp2_with (at_builtin; refine wpList_append_own_at _ rfl (.tmp 37) (.tmp 41) 45 rfl w.heap.size 52 i0 _ 4 40 Tryz.underlying45 hi0 hz0 hz1 hz2 rfl (by decide) _ ts.length (tkC ts) rfl ?o1 ⟨wr.heap.size, 0, none⟩ 1 1 (TkV ⟨0, 0, a, []⟩) rfl rfl ?c1 ?c2 ?c3 ?c4 ?c5 ?go)
        case o1 => exact row_touch HROW.out ((Touch.refl _ _).alloc _) (fun _ _ x => x)
        case c1 => exact World.news_of_block (cs := #[.int .i64 0, .int .i64 0, .int .i64 (a : Int), .string ⟨#[]⟩]) (alloc_blk _ _ 52 rfl)
        case c2 => exact TkV_one _
        case c3 => unfold maxLen; omega
        case c4 => omega
        case c5 => have := HTr.out.size; simp; omega
        case go =>
        intro v2 w3 hown2 hgrow _ _
        have hT3 : Touch NoB w w3 := (HTr.out.alloc _).grown hgrow (fun x e => .inr (HROW.out.lt x e).1)
        have HT3 := Lib.hid (And.intro hT3 hown2)
        clear hown2 hgrow hT3
        go_wp2
        exact bodyPost_ret (v := .tuple #[v2, .int .i64 a, .int .i64 0]) (by simp [results, Tryz.results12, go_sem]) rfl (HP.out _ _ (by rw [HR.out]; exact ⟨HT3.out.1, v2, rfl, by rw [tkC_snoc, List.length_append]; exact HT3.out.2⟩))
  · have hd : decide ((65536 : Int) < (n : Int)) = true := by simp; omega
    have HP : Hid (∀ e w', e = .returned (.tuple #[.slice none 0 0, .int .i64 0, .int .i64 3]) ∧ w = w' → TokPost w b e w') := Lib.hid (fun e w' x => by unfold TokPost; rw [hn, if_neg h]; exact x)
    clear hb hn
    go_enter Tryz.func12, Tryz.ntmps12
    go_wp2
    exact bodyPost_ret (v := .tuple #[.slice none 0 0, .int .i64 0, .int .i64 3]) (by simp [results, Tryz.results12, go_sem]) rfl (HP.out _ _ ⟨rfl, rfl⟩)
end Go.Proofs.YtbikpbmknneabaaGreat
