/-
  How long the text of an expression is that the parser over lists of tokens returns. Conditions: names and numbers among the tokens are such.
-/
import Derived.Test.YtadpihipnffiaaaDoorZa6
import Derived.Test.YtadpihipnffiaaaDoorQx
import Derived.Lib.ItoaLen
import Derived.Test.YtadpihipnffiaaaDoorZa3
import Derived.Test.YtadpihipnffiaaaDoorQt
namespace Go.Proofs.YtadpihipnffiaaaDoor
set_option maxRecDepth 100000

/-- The text is short beside the tokens read. -/
def Rs.sml (k0 : Nat) : Rs → Prop
  | .ok x j => (prt x).length + 40 * k0 ≤ 40 * j
  | .er _ _ => True
theorem mk_sml {x : Ex} {k k0 : Nat} (h : (prt x).length + 40 * k0 ≤ 40 * k) : (mk x k).sml k0 := by
  unfold mk
  split
  · trivial
  · exact h
theorem two_len {kd : Int} (x y : Ex) (hk : (6 ≤ kd ∧ kd ≤ 13) ∨ kd = 15 ∨ kd = 19) : (prt (.two kd x y)).length ≤ (prt x).length + (prt y).length + 8 := by
  have hc : kd = 6 ∨ kd = 7 ∨ kd = 8 ∨ kd = 9 ∨ kd = 10 ∨ kd = 11 ∨ kd = 12 ∨ kd = 13 ∨ kd = 15 ∨ kd = 19 := by omega
  rcases hc with rfl | rfl | rfl | rfl | rfl | rfl | rfl | rfl | rfl | rfl <;> simp [prt, ahd, btw, wordB] <;> omega
theorem one_len {kd : Int} (x : Ex) (hk : kd = 14 ∨ kd = 16 ∨ kd = 17 ∨ kd = 18) : (prt (.one kd x)).length ≤ (prt x).length + 8 := by
  rcases hk with rfl | rfl | rfl | rfl <;> simp [prt, wordB] <;> omega
theorem int_len {n : Int} (h0 : -9223372036854775808 ≤ n) (h1 : n ≤ 9223372036854775807) : (prt (.leaf 0 n [])).length ≤ 21 := by
  have : prt (.leaf 0 n []) = Lib.itoa n := by unfold prt; rw [if_pos rfl]
  rw [this]
  exact Lib.itoa_length_le n h0 h1
theorem loop_sml {ts : List Tk} {lv : Nat} {sub : Nat → Rs} (hs : ∀ k, (sub k).sml k) : ∀ (f : Nat) (x : Ex) (k k0 : Nat), (prt x).length + 40 * k0 ≤ 40 * k → (loopL ts lv sub f x k).sml k0
  | 0, x, k, k0, h => h
  | f + 1, x, k, k0, h => by
    unfold loopL
    cases ho : opk ts lv k with
    | none => exact h
    | some kd =>
      have h2 := hs (k + 1)
      simp only
      cases hr : sub (k + 1) with
      | er e j => trivial
      | ok y j =>
        rw [hr] at h2
        simp only
        have h3 := mk_sml (x := .two kd x y) (k := j) (k0 := k0) (by have := two_len x y (.inl (opk_kd ho)); simp only [Rs.sml] at h2; omega)
        cases hm : mk (.two kd x y) j with
        | er e i => trivial
        | ok z i =>
          rw [hm] at h3
          simp only
          split
          · exact h3
          · exact loop_sml hs f z i k0 h3
theorem bin_sml {ts : List Tk} {u : Nat → Rs} (hu : ∀ k, (u k).sml k) : ∀ (j k : Nat), (binL ts u j k).sml k
  | 0, k => hu k
  | j + 1, k => by
    unfold binL
    have h2 := bin_sml (ts := ts) hu j k
    cases hr : binL ts u j k with
    | er e i => trivial
    | ok x i => rw [hr] at h2; exact loop_sml (bin_sml hu j) _ x i k h2
theorem pair_sml {ts : List Tk} {E : Nat → Rs} (hE : ∀ k, (E k).sml k) {kd : Int} (hk : kd = 15 ∨ kd = 19) {x : Ex} {j k0 : Nat} (hx : (prt x).length + 40 * k0 ≤ 40 * j) : (pairL ts E kd x j).sml k0 := by
  unfold pairL
  split
  · have h2 := hE (j + 1)
    cases hr : E (j + 1) with
    | er e i => trivial
    | ok y i =>
      rw [hr] at h2
      simp only
      split
      · exact mk_sml (by have := two_len x y (.inr hk); simp only [Rs.sml] at h2; omega)
      · trivial
  · trivial
theorem prim_sml {ts : List Tk} (hok : NamesOk ts) (hnk : NumsOk ts) {E : Nat → Rs} (hE : ∀ k, (E k).sml k) (k : Nat) : (primL ts E k).sml k := by
  unfold primL
  cases hn : numAt ts k with
  | some n =>
    have h1 := hnk.1 k n hn
    have := int_len (n := (n : Int)) (by omega) (by omega)
    simp only [Rs.sml]; omega
  | none =>
    simp only
    cases hs : nameAt ts k with
    | some s =>
      have := okN_len (hok k s hs)
      have e : prt (.leaf 2 0 s) = s := by unfold prt; rw [if_neg (by decide), if_neg (by decide), if_pos rfl]
      simp only [Rs.sml, e]; omega
    | none =>
      simp only
      split
      · cases hb : nameAt ts (k + 1) with
        | some s =>
          have := okN_len (hok _ s hb)
          have e : (prt (.leaf 3 0 s)).length = s.length + 1 := by unfold prt; rw [if_neg (by decide), if_neg (by decide), if_neg (by decide), if_pos rfl]; simp
          simp only [Rs.sml, e]; omega
        | none => trivial
      · split
        · have e : (prt (.leaf 1 1 [])).length = 4 := by decide
          simp only [Rs.sml, e]; omega
        · split
          · have e : (prt (.leaf 1 0 [])).length = 5 := by decide
            simp only [Rs.sml, e]; omega
          · split
            · have e : (prt (.leaf 4 0 [])).length = 4 := by decide
              simp only [Rs.sml, e]; omega
            · split
              · have e : (prt (.leaf 5 0 [])).length = 4 := by decide
                simp only [Rs.sml, e]; omega
              · split
                · have h2 := hE (k + 1)
                  cases hr : E (k + 1) with
                  | er e i => trivial
                  | ok x i =>
                    rw [hr] at h2
                    simp only [Rs.sml] at h2
                    simp only
                    split
                    · simp only [Rs.sml]; omega
                    · exact pair_sml hE (.inl rfl) (by omega)
                · split
                  · split
                    · have h2 := hE (k + 2)
                      cases hr : E (k + 2) with
                      | er e i => trivial
                      | ok x i =>
                        rw [hr] at h2
                        simp only [Rs.sml] at h2
                        exact pair_sml hE (.inr rfl) (by omega)
                    · trivial
                  · trivial
theorem una_sml {ts : List Tk} (hok : NamesOk ts) (hnk : NumsOk ts) : ∀ (m k : Nat), (unaL ts m k).sml k
  | 0, k => trivial
  | m + 1, k => by
    have ih := una_sml hok hnk m
    unfold unaL
    cases hp : prek ts k with
    | some kd =>
      have h2 := ih (k + 1)
      simp only
      cases hr : unaL ts m (k + 1) with
      | er e i => trivial
      | ok x i =>
        rw [hr] at h2
        simp only [Rs.sml] at h2
        exact mk_sml (by have := one_len x (prek_kd hp); omega)
    | none =>
      simp only
      split
      · cases hb : numAt ts (k + 1) with
        | some n =>
          have h1 := hnk.1 _ n hb
          have := int_len (n := -(n : Int)) (by omega) (by omega)
          simp only [Rs.sml]; omega
        | none => trivial
      · exact prim_sml hok hnk (bin_sml ih 5) k
theorem par_sml {ts : List Tk} (hok : NamesOk ts) (hnk : NumsOk ts) (k : Nat) : (parL ts k).sml k := by
  unfold parL
  split
  · exact bin_sml (una_sml hok hnk 40) 5 k
  · trivial
end Go.Proofs.YtadpihipnffiaaaDoor

/-
  What the statements' own reader of texts returns. Conditions: the listed variables read as they are laid; the text has an expression.
-/
namespace Go.Proofs.YtadpihipnffiaaaDoor
open Go.ChangeShapes Go.WideShapes Go.ChangeAt Go.RowKit
set_option maxRecDepth 100000
set_option maxHeartbeats 4000000

/-- The expression of a text, and where it ends; nothing where there is none. -/
def txtE (l : Bs) : Option (Ex × Nat) := match lexL l with
  | .bad _ => none
  | .good ts => match parL ts 0 with
    | .ok x k => some (x, k)
    | .er _ _ => none
theorem txt_some {l : Bs} {x : Ex} {k : Nat} (h : txtE l = some (x, k)) : ∃ ts, lexL l = .good ts ∧ parL ts 0 = .ok x k := by
  unfold txtE at h
  cases hl : lexL l with
  | bad p => rw [hl] at h; cases h
  | good ts =>
    rw [hl] at h
    simp only at h
    cases hp : parL ts 0 with
    | er e j => rw [hp] at h; cases h
    | ok y j =>
      rw [hp] at h
      simp only [Option.some.injEq, Prod.mk.injEq] at h
      obtain ⟨rfl, rfl⟩ := h
      exact ⟨ts, rfl, hp⟩
theorem read_any {l : Bs} {x : Ex} {k : Nat} (h : txtE l = some (x, k)) (hlen : l.length ≤ 2000) (w : World) (hev : EN w) :
    Calls Tryd.prog 20 #[.string (bs l)] w fun e w' => ∃ (a b : Int) (s : ByteArray) (A : Option Addr) (m c : Nat), e = .returned (.tuple #[.agg #[.int .i64 a, .int .i64 b, .string s, .slice A m c], .int .i64 (k : Int)]) ∧ ET w' (fun _ => True) x a b s A m c ∧ Touch NoB w w' := by
  obtain ⟨ts, hl, hp⟩ := txt_some h
  obtain ⟨m, hm⟩ : ∃ m, ts.length = m := ⟨_, rfl⟩
  have hmx : m ≤ 2001 := by have := pl_count l 0 ts (lex_places hl); omega
  have hpos : 0 < m := by
    rw [← hm]
    cases ts with
    | nil => exact (lex_places hl).elim
    | cons t r => simp
  obtain ⟨W0, hW0⟩ : ∃ W, w.alloc (.cells #[.int .i64 0, .int .i64 0, .string ⟨#[]⟩, .slice none 0 0] 29) = W := ⟨_, rfl⟩
  have t0 : Touch NoB w W0 := by rw [← hW0]; exact (Touch.refl _ _).alloc _
  have hb0 : XB W0 w.heap.size 0 0 ⟨#[]⟩ none 0 0 := by rw [← hW0]; exact XB.new w _ _ _ _ _ _ rfl
  obtain ⟨sx, hsx⟩ : ∃ sx, bs l = sx := ⟨_, rfl⟩
  have hsz : sx.size = l.length := by rw [← hsx, bs_size]
  obtain ⟨cap, W1, hcv, hc1, hc2, hT1, hB1⟩ := conv_any sx (by omega) W0
  rw [hsz] at hcv hc1
  have hsl : sx.data.toList = l := by rw [← hsx, bs_list]
  rw [hsl] at hB1
  have HTK := Lib.hid (rtoks_good (w := W1) (m := m) (n := l.length) hl hm rfl (by omega) hc1 hB1)
  obtain ⟨ln, hln⟩ : ∃ ln, l.length = ln := ⟨_, rfl⟩
  rw [hln] at hcv HTK
  rw [hsx]
  have HPP := Lib.hid (And.intro hm (And.intro hmx (And.intro hpos (And.intro (lex_oks hl) hp))))
  have HEV := Lib.hid (hev.touch (t0.same hT1))
  have HB0 := Lib.hid ((hT1.block _ (blk_lt hb0) (fun x => x)).trans hb0 : XB W1 w.heap.size 0 0 ⟨#[]⟩ none 0 0)
  have HT1 := Lib.hid (t0.same hT1)
  have HN := Lib.hid (fun n w => num_any n w)
  clear h hl hp hm hmx hpos t0 hb0 hsx hsz hc1 hc2 hT1 hB1 hsl hln hev hlen
  go_enter Tryd.func20, Tryd.ntmps20
  go_wp2_with fail
  refine HTK.out.mono ?_
  rintro e w2 ⟨g, cp, rfl, hTL, hT2⟩
  have HPA := Lib.hid (fun (B : Nat) (hB : LV w2 B) => parse_any (cp := cp) hTL HPP.out.1 HPP.out.2.2.1 (by have := HPP.out.2.1; omega) hB HPP.out.2.2.2.1.1 HPP.out.2.2.2.1.2)
  obtain ⟨⟨B, hB⟩, -⟩ := HEV.out.touch hT2
  have HPA := Lib.hid (HPA.out B hB)
  have HB2 := Lib.hid ((hT2.block _ (blk_lt HB0.out) (fun x => x)).trans HB0.out : XB w2 w.heap.size 0 0 ⟨#[]⟩ none 0 0)
  have HT2 := Lib.hid (HT1.out.same hT2)
  clear hTL hT2 hB hcv
  go_wp2_with fail
  refine HPA.out.mono ?_
  intro e w3 hP
  unfold ParPost at hP
  rw [HPP.out.2.2.2.2] at hP
  obtain ⟨hT3, a, b, s, A, m', c, rfl, het⟩ := hP
  obtain ⟨W3, hW3⟩ : ∃ W, w3.alloc (.cells #[.int .i64 a, .int .i64 b, .string s, .slice A m' c] 29) = W := ⟨_, rfl⟩
  have t3 : Touch NoB w3 W3 := by rw [← hW3]; exact (Touch.refl _ _).alloc _
  have hx7 : XB W3 w3.heap.size a b s A m' c := by rw [← hW3]; exact XB.new _ _ _ _ _ _ _ rfl
  have hb3 : XB W3 w.heap.size 0 0 ⟨#[]⟩ none 0 0 := ((hT3.same t3).block _ (blk_lt HB2.out) (fun x => x)).trans HB2.out
  have hlt : w.heap.size < w2.heap.size := blk_lt HB2.out
  have hlt3 : w2.heap.size ≤ w3.heap.size := hT3.size
  obtain ⟨p0, p1, p2, p3, p4⟩ := hx7.cells
  obtain ⟨z0, z1, z2, z3, z4⟩ := hb3.cells
  obtain ⟨f0, f1, f2, f3⟩ := hb3.free
  have HET := Lib.hid (het.touch0 t3)
  have HT3 := Lib.hid (HT2.out.same (hT3.same t3))
  clear het hT3 t3 hx7 hb3
  go_wp2_with (first | (go_at_call 17; refine (HN.out _ _).mono ?_; rintro e w' ⟨rfl, rfl⟩))
  have hTE := touch4 (F := NoB) HT3.out (.inr (Nat.le_refl w.heap.size)) (.int .i64 a) (.int .i64 b) (.string s) (.slice A m' c)
  have hTX := touch4 (F := fun b => b = w.heap.size) (Touch.refl _ W3) (.inl rfl) (.int .i64 a) (.int .i64 b) (.string s) (.slice A m' c)
  exact bodyPost_ret (v := .tuple #[.agg #[.int .i64 a, .int .i64 b, .string s, .slice A m' c], .int .i64 (k : Int)]) (by simp [results, Tryd.results20, go_sem, z0, z1, z2, z3]) rfl ⟨a, b, s, A, m', c, rfl, (HET.out.aside hTX (by omega)).via (fun _ _ _ => trivial), hTE⟩
end Go.Proofs.YtadpihipnffiaaaDoor

/-
  ExprTexts: what package expr parses, prints and parses again of any text. Conditions: the listed variables read as they are laid.
-/
namespace Go.Proofs.YtadpihipnffiaaaDoor
open Go.ChangeShapes Go.WideShapes Go.ChangeAt Go.RowKit
set_option maxRecDepth 100000
set_option maxHeartbeats 4000000

theorem conv_big (s : ByteArray) (hs : s.size ≤ maxLen) (W : World) : ∃ (cap : Nat) (w' : World), (convert 9 26 (.string s)).run Tryd.prog W = .ok (.slice (some ⟨W.heap.size, 0, none⟩) s.size cap) w' ∧
    s.size ≤ cap ∧ cap ≤ 9223372036854775807 ∧ Touch NoB W w' ∧ BAt w' (some ⟨W.heap.size, 0, none⟩) s.data.toList := by
  refine ⟨_, _, Lib.run_convert_string_bytes W 9 26 5 s Tryd.underlying9 Tryd.underlying26 Tryd.underlying5, grownCap_ge _ _ _ _, ?_, touch_of (Lib.bytesWorld_below _ _ _), ?_⟩
  · have := grownCap_le_maxLen W s.size 0 5 hs
    unfold maxLen at this
    omega
  · intro _
    refine ⟨_, 0, rfl, by rw [Lib.bytesWorld_size]; omega, fun i c hi => ?_⟩
    have hi' : i < s.size := by have := (List.getElem?_eq_some_iff.1 hi).1; simpa using this
    rw [Nat.zero_add, Lib.bytesWorld_cell W _ s i hi']
    congr 2
    simp only [List.getD, hi, Option.getD_some]
theorem Ex.same_refl : ∀ (x : Ex), x.same x = true
  | .leaf k n s => by simp [Ex.same]
  | .one k x => by simp [Ex.same, Ex.same_refl x]
  | .two k x y => by simp [Ex.same, Ex.same_refl x, Ex.same_refl y]
theorem rtoks_none {A : Option Addr} {n cap : Nat} {b : Bs} {w : World} (h : n ≤ 65536 → ∃ p, lexL b = .bad p) (hn : b.length = n) (hcap : n ≤ cap) (hb : BAt w A b) :
    Calls Tryd.prog 13 #[.slice A n cap] w fun e w' => ∃ (p : Int) (q : Int), e = .returned (.tuple #[.slice none 0 0, .int .i64 p, .int .i64 q]) ∧ (q != 0) = true ∧ Touch NoB w w' := by
  refine (rtokens_any A n cap b w hn hcap hb).mono ?_
  intro e w' hP
  unfold TokPost at hP
  by_cases hl : n ≤ 65536
  · obtain ⟨p, hp⟩ := h hl
    rw [if_pos (by omega), hp] at hP
    obtain ⟨hT, rfl⟩ := hP
    exact ⟨_, _, rfl, rfl, hT⟩
  · rw [if_neg (by omega)] at hP
    obtain ⟨rfl, rfl⟩ := hP
    exact ⟨_, _, rfl, rfl, Touch.refl _ _⟩
/-- Texts that have no tokens. -/
theorem texts_bad (sx : ByteArray) (hs : sx.size ≤ maxLen) (w : World) (hev : EN w) (h : sx.size ≤ 65536 → ∃ p, lexL sx.data.toList = .bad p) :
    Calls Tryd.prog 3 #[.string sx] w fun e w' => e = .returned (.bool true) ∧ Touch NoB w w' := by
  have HA := Lib.hid (alive_any w hev)
  have HH := Lib.hid (And.intro hs h)
  clear hs h hev
  go_enter Tryd.func3, Tryd.ntmps3
  go_wp2_with fail
  refine HA.out.mono ?_
  rintro e w1 ⟨rfl, hT1⟩
  obtain ⟨cap, W2, hcv, hc1, hc2, hT2, hB2⟩ := conv_big sx HH.out.1 w1
  have HTK := Lib.hid (rtoks_none (w := W2) HH.out.2 (by simp) hc1 hB2)
  have HT2 := Lib.hid (hT1.same hT2)
  obtain ⟨n, hn⟩ : ∃ n, sx.size = n := ⟨_, rfl⟩
  rw [hn] at hcv HTK
  clear hT1 hT2 hc1 hc2 hB2 hn
  go_wp2_with fail
  refine HTK.out.mono ?_
  rintro e w3 ⟨p, q, rfl, hq, hT3⟩
  have HT3 := Lib.hid (HT2.out.same hT3)
  clear hT3 hcv
  go_wp2
  go_ret
  exact ⟨rfl, HT3.out⟩
/-- Texts that are too long to be looked at. -/
theorem texts_long (sx : ByteArray) (w : World) (hev : EN w) (h1 : sx.size ≤ 65536) (h2 : 1000 < sx.size) {ts : List Tk} (hl : lexL sx.data.toList = .good ts) :
    Calls Tryd.prog 3 #[.string sx] w fun e w' => e = .returned (.bool true) ∧ Touch NoB w w' := by
  have HA := Lib.hid (alive_any w hev)
  have HH := Lib.hid (And.intro h1 hl)
  have hgt : decide ((1000 : Int) < (sx.size : Int)) = true := by simp; omega
  have hgt' : decide (1000 < sx.size) = true := by simp; omega
  clear hl hev
  go_enter Tryd.func3, Tryd.ntmps3
  go_wp2_with fail
  refine HA.out.mono ?_
  rintro e w1 ⟨rfl, hT1⟩
  obtain ⟨cap, W2, hcv, hc1, hc2, hT2, hB2⟩ := conv_big sx (by unfold maxLen; omega) w1
  obtain ⟨m, hm⟩ : ∃ m, ts.length = m := ⟨_, rfl⟩
  have HTK := Lib.hid (rtoks_good (w := W2) (m := m) (n := sx.size) HH.out.2 hm (by simp) h1 hc1 hB2)
  have HT2 := Lib.hid (hT1.same hT2)
  clear hT1 hT2 hc1 hc2 hB2 hm
  go_wp2_with fail
  refine HTK.out.mono ?_
  rintro e w3 ⟨g, cp, rfl, -, hT3⟩
  have HT3 := Lib.hid (HT2.out.same hT3)
  clear hT3 hcv
  go_wp2
  go_ret
  exact ⟨rfl, HT3.out⟩
theorem par_er {ts : List Tk} {e k : Nat} (h : parL ts 0 = .er e k) : e = 2 ∨ e = 4 := by
  unfold parL at h
  split at h
  · have := ful_fwd ts 40 5 0 (Nat.zero_le _)
    rw [h] at this
    exact this.2.2
  · injection h with h _; omega
/-- Texts whose tokens are no expression. -/
theorem texts_er (sx : ByteArray) (w : World) (hev : EN w) (h1 : sx.size ≤ 1000) {ts : List Tk} (hl : lexL sx.data.toList = .good ts) {er k : Nat} (hp : parL ts 0 = .er er k) :
    Calls Tryd.prog 3 #[.string sx] w fun e w' => e = .returned (.bool true) ∧ Touch NoB w w' := by
  have HA := Lib.hid (alive_any w hev)
  have HEV := Lib.hid hev
  obtain ⟨m, hm⟩ : ∃ m, ts.length = m := ⟨_, rfl⟩
  have hlen : sx.data.toList.length = sx.size := by simp
  have hmx : m ≤ 1001 := by have := pl_count sx.data.toList 0 ts (lex_places hl); omega
  have hpos : 0 < m := by
    rw [← hm]
    cases ts with
    | nil => exact (lex_places hl).elim
    | cons t r => simp
  have he := par_er hp
  have HH := Lib.hid (And.intro hl (And.intro (lex_oks hl) (And.intro hp (And.intro hm hlen))))
  have hgt : decide ((1000 : Int) < (sx.size : Int)) = false := by simp; omega
  have hgt' : decide (1000 < sx.size) = false := by simp; omega
  have hne : ((er : Int) != 0) = true := by simp; omega
  have HN := Lib.hid (fun n w => num_any n w)
  clear hl hev hp he hm hlen
  go_enter Tryd.func3, Tryd.ntmps3
  go_wp2_with fail
  refine HA.out.mono ?_
  rintro e w1 ⟨rfl, hT1⟩
  obtain ⟨cap, W2, hcv, hc1, hc2, hT2, hB2⟩ := conv_big sx (by unfold maxLen; omega) w1
  have HTK := Lib.hid (rtoks_good (w := W2) (m := m) (n := sx.size) HH.out.1 HH.out.2.2.2.1 HH.out.2.2.2.2 (by omega) hc1 hB2)
  have HT2 := Lib.hid (hT1.same hT2)
  clear hT1 hT2 hc1 hc2 hB2
  go_wp2_with fail
  refine HTK.out.mono ?_
  rintro e w3 ⟨g, cp, rfl, hTL, hT3⟩
  have hT03 := HT2.out.same hT3
  obtain ⟨⟨B, hB⟩, -⟩ := HEV.out.touch hT03
  have HP1 := Lib.hid (parse_any (cp := cp) hTL HH.out.2.2.2.1 hpos (by omega) hB HH.out.2.1.1 HH.out.2.1.2)
  rw [HH.out.2.2.1] at HP1
  have HTL := Lib.hid hTL
  have HT3 := Lib.hid hT03
  clear hT3 hT03 hTL hB hcv
  go_wp2_with fail
  refine HP1.out.mono ?_
  rintro e w4 ⟨hT4, rfl⟩
  obtain ⟨W4, hW4⟩ : ∃ W, w4.alloc (.cells #[.int .i64 0, .int .i64 0, .string ⟨#[]⟩, .slice none 0 0] 29) = W := ⟨_, rfl⟩
  have t4 : Touch NoB w4 W4 := by rw [← hW4]; exact (Touch.refl _ _).alloc _
  have hx4 : XB W4 w4.heap.size 0 0 ⟨#[]⟩ none 0 0 := by rw [← hW4]; exact XB.new _ _ _ _ _ _ _ rfl
  have HP2 := Lib.hid (rexpr_any (cp := cp) ((HTL.out.touch hT4).touch t4) HH.out.2.2.2.1 hpos (by omega) HH.out.2.1.2)
  rw [HH.out.2.2.1] at HP2
  have HX4 := Lib.hid hx4
  have HT4 := Lib.hid (HT3.out.same (hT4.same t4))
  clear hT4 t4 hx4
  subst hW4
  go_wp2_with fail
  refine HP2.out.mono ?_
  rintro e w5 ⟨hT5, rfl⟩
  obtain ⟨W5, hW5⟩ : ∃ W, w5.alloc (.cells #[.int .i64 0, .int .i64 0, .string ⟨#[]⟩, .slice none 0 0] 29) = W := ⟨_, rfl⟩
  have t5 : Touch NoB w5 W5 := by rw [← hW5]; exact (Touch.refl _ _).alloc _
  have hx5 : XB W5 w5.heap.size 0 0 ⟨#[]⟩ none 0 0 := by rw [← hW5]; exact XB.new _ _ _ _ _ _ _ rfl
  have hx4 : XB W5 w4.heap.size 0 0 ⟨#[]⟩ none 0 0 := ((hT5.same t5).block _ (blk_lt HX4.out) (fun x => x)).trans HX4.out
  obtain ⟨p70, p71, p72, p73, p74⟩ := hx4.cells
  obtain ⟨p80, p81, p82, p83, p84⟩ := hx5.cells
  have HSM := Lib.hid (same_all 1 (.leaf 0 0 []) (.leaf 0 0 []) (Nat.le_refl _) W5 (fun _ => True) (fun _ => True) _ _ _ _ _ _ _ _ _ _ _ _ ⟨rfl, rfl, rfl, rfl, rfl, rfl⟩ ⟨rfl, rfl, rfl, rfl, rfl, rfl⟩)
  rw [Ex.same_refl] at HSM
  have hbs : bs [] = ⟨#[]⟩ := rfl
  rw [hbs] at HSM
  have HT5 := Lib.hid (HT4.out.same (hT5.same t5))
  clear hT5 t5 hx4 hx5 hbs
  subst hW5
  go_wp2_with fail
  refine HSM.out.mono ?_
  rintro e w6 ⟨rfl, hT6⟩
  have HT6 := Lib.hid (HT5.out.same hT6)
  clear hT6
  go_wp2_with (first | (go_at_call 17; refine (HN.out _ _).mono ?_; rintro e w' ⟨rfl, rfl⟩))
  go_ret
  exact ⟨rfl, HT6.out⟩
end Go.Proofs.YtadpihipnffiaaaDoor

/-
  ExprTexts, where the text has an expression, and put together. Conditions: the listed variables read as they are laid.
-/
namespace Go.Proofs.YtadpihipnffiaaaDoor
open Go.ChangeShapes Go.WideShapes Go.ChangeAt Go.RowKit
set_option maxRecDepth 100000
set_option maxHeartbeats 4000000

theorem texts_ok (sx : ByteArray) (w : World) (hev : EN w) (h1 : sx.size ≤ 1000) {ts : List Tk} (hl : lexL sx.data.toList = .good ts) {x : Ex} {k : Nat} (hp : parL ts 0 = .ok x k) :
    Calls Tryd.prog 3 #[.string sx] w fun e w' => e = .returned (.bool true) ∧ Touch NoB w w' := by
  have HA := Lib.hid (alive_any w hev)
  have HEV := Lib.hid hev
  obtain ⟨m, hm⟩ : ∃ m, ts.length = m := ⟨_, rfl⟩
  have hlen : sx.data.toList.length = sx.size := by simp
  have hmx : m ≤ 1001 := by have := pl_count sx.data.toList 0 ts (lex_places hl); omega
  have hpos : 0 < m := by
    rw [← hm]
    cases ts with
    | nil => exact (lex_places hl).elim
    | cons t r => simp
  obtain ⟨hok, hnk⟩ := lex_oks hl
  have hv := par_okv hok hnk 0
  have hsm := par_sml hok hnk 0
  have hfw : (parL ts 0).fwd ts.length 0 := by
    rw [par_bin (Nat.zero_le _)]; exact ful_fwd ts 40 5 0 (Nat.zero_le _)
  rw [hp] at hv hsm hfw
  obtain ⟨hv, hd⟩ := hv
  have hsm' : (prt x).length ≤ 40040 := by
    have h1 : (prt x).length + 40 * 0 ≤ 40 * k := hsm
    have h2 := hfw.2
    omega
  obtain ⟨us, hu1, hu2⟩ := read_back hv hd
  obtain ⟨mu, hmu⟩ : ∃ mu, us.length = mu := ⟨_, rfl⟩
  have hmuc : mu ≤ 40041 := by have := pl_count (prt x) 0 us (lex_places hu1); omega
  have hmup : 0 < mu := by
    rw [← hmu]
    cases us with
    | nil => exact (lex_places hu1).elim
    | cons t r => simp
  have hoku := lex_oks hu1
  have hkm : k ≤ 1001 := by have := hfw.2; omega
  rw [hmu] at hu2
  have HH := Lib.hid (And.intro hl (And.intro (And.intro hok hnk) (And.intro hp (And.intro hm hlen))))
  have HU := Lib.hid (And.intro hu1 (And.intro hoku (And.intro hu2 hmu)))
  have HX := Lib.hid (And.intro hv (And.intro hd hsm'))
  have hgt : decide ((1000 : Int) < (sx.size : Int)) = false := by simp; omega
  have hgt' : decide (1000 < sx.size) = false := by simp; omega
  have HN := Lib.hid (fun n w => num_any n w)
  have hkk : ((k : Int) != (k : Int)) = false := by simp
  obtain ⟨mp, hmp⟩ : ∃ mp, mu - 1 = mp := ⟨_, rfl⟩
  have hwm : IntKind.i64.wrap ((mu : Int) - 1) = (mp : Int) := by rw [show (mu : Int) - 1 = (mp : Int) from by omega]; exact IntWalk.i64_in _ (by omega)
  have hmm : ((mp : Int) == (mp : Int)) = true := by simp
  have HMP := Lib.hid hmp
  clear hl hev hp hm hlen hok hnk hv hd hsm hsm' hfw hu1 hu2 hmu hoku hmp hkm
  go_enter Tryd.func3, Tryd.ntmps3
  go_wp2_with fail
  refine HA.out.mono ?_
  rintro e w1 ⟨rfl, hT1⟩
  obtain ⟨cap, W2, hcv, hc1, hc2, hT2, hB2⟩ := conv_big sx (by unfold maxLen; omega) w1
  have HTK := Lib.hid (rtoks_good (w := W2) (m := m) (n := sx.size) HH.out.1 HH.out.2.2.2.1 HH.out.2.2.2.2 (by omega) hc1 hB2)
  have HT2 := Lib.hid (hT1.same hT2)
  clear hT1 hT2 hc1 hc2 hB2
  go_wp2_with fail
  refine HTK.out.mono ?_
  rintro e w3 ⟨g, cp, rfl, hTL, hT3⟩
  have hT03 := HT2.out.same hT3
  obtain ⟨⟨B, hB⟩, -⟩ := HEV.out.touch hT03
  have HP1 := Lib.hid (parse_any (cp := cp) hTL HH.out.2.2.2.1 hpos (by omega) hB HH.out.2.1.1 HH.out.2.1.2)
  rw [HH.out.2.2.1] at HP1
  have HTL := Lib.hid hTL
  have HT3 := Lib.hid hT03
  clear hT3 hT03 hTL hB hcv
  go_wp2_with fail
  refine HP1.out.mono ?_
  rintro e w4 ⟨hT4, a, b, s, A, m', c, rfl, het⟩
  obtain ⟨W4, hW4⟩ : ∃ W, w4.alloc (.cells #[.int .i64 a, .int .i64 b, .string s, .slice A m' c] 29) = W := ⟨_, rfl⟩
  have t4 : Touch NoB w4 W4 := by rw [← hW4]; exact (Touch.refl _ _).alloc _
  obtain ⟨q7, hq7⟩ : ∃ q7, w4.heap.size = q7 := ⟨_, rfl⟩
  have hx4 : XB W4 q7 a b s A m' c := by rw [← hW4]; exact XB.new _ _ _ _ _ _ _ hq7
  have HP2 := Lib.hid (rexpr_any (cp := cp) ((HTL.out.touch hT4).touch t4) HH.out.2.2.2.1 hpos (by omega) HH.out.2.1.2)
  rw [HH.out.2.2.1] at HP2
  have HX4 := Lib.hid (And.intro hx4 (het.touch0 t4))
  have HT4 := Lib.hid (HT3.out.same (hT4.same t4))
  clear hT4 t4 hx4 het
  go_wp2_with fail
  refine HP2.out.mono ?_
  rintro e w5 ⟨hT5, a2, b2, s2, A2, m2, c2, rfl, het2⟩
  obtain ⟨W5, hW5⟩ : ∃ W, w5.alloc (.cells #[.int .i64 a2, .int .i64 b2, .string s2, .slice A2 m2 c2] 29) = W := ⟨_, rfl⟩
  have t5 : Touch NoB w5 W5 := by rw [← hW5]; exact (Touch.refl _ _).alloc _
  have hx5 : XB W5 w5.heap.size a2 b2 s2 A2 m2 c2 := by rw [← hW5]; exact XB.new _ _ _ _ _ _ _ rfl
  have hx4 : XB W5 q7 a b s A m' c := ((hT5.same t5).block _ (blk_lt HX4.out.1) (fun x => x)).trans HX4.out.1
  have het1 := HX4.out.2.touch0 (hT5.same t5)
  obtain ⟨p70, p71, p72, p73, p74⟩ := hx4.cells
  obtain ⟨p80, p81, p82, p83, p84⟩ := hx5.cells
  have HSM := Lib.hid (same_all x.depth x x (Nat.le_refl _) W5 _ _ _ _ _ _ _ _ _ _ _ _ _ _ het1 (het2.touch0 t5))
  rw [Ex.same_refl] at HSM
  have HX5 := Lib.hid (And.intro hx4 het1)
  have HT5 := Lib.hid (HT4.out.same (hT5.same t5))
  clear hT5 t5 hx4 hx5 het1 het2 HX4
  go_wp2_with fail
  refine HSM.out.mono ?_
  rintro e w6 ⟨rfl, hT6⟩
  have hx6 : XB w6 q7 a b s A m' c := (hT6.block _ (blk_lt HX5.out.1) (fun x => x)).trans HX5.out.1
  clear p70 p71 p72 p73 p74 p80 p81 p82 p83 p84
  obtain ⟨p70, p71, p72, p73, p74⟩ := hx6.cells
  have het6 := HX5.out.2.touch0 hT6
  have hT06 := HT5.out.same hT6
  have HPR := Lib.hid (print_any HX.out.2.1 HX.out.1 (by have := HX.out.2.2; omega) w6 (HEV.out.touch hT06).2 het6)
  have HX6 := Lib.hid (And.intro hx6 het6)
  have HT6 := Lib.hid hT06
  clear hT6 hx6 het6 hT06 HX5
  go_wp2_with (first | (go_at_call 17; refine (HN.out _ _).mono ?_; rintro e w' ⟨rfl, rfl⟩))
  refine HPR.out.mono ?_
  rintro e w7 ⟨rfl, hT7⟩
  obtain ⟨sp, hsp⟩ : ∃ sp, bs (prt x) = sp := ⟨_, rfl⟩
  have hspz : sp.size = (prt x).length := by rw [← hsp, bs_size]
  obtain ⟨cap8, W8, hcv8, hc81, hc82, hT8, hB8⟩ := conv_big sp (by unfold maxLen; have := HX.out.2.2; omega) w7
  have hspl : sp.data.toList = prt x := by rw [← hsp, bs_list]
  rw [hspl] at hB8
  have HTK8 := Lib.hid (rtoks_good (w := W8) (m := mu) (n := sp.size) HU.out.1 HU.out.2.2.2 hspz.symm (by have := HX.out.2.2; omega) hc81 hB8)
  have HX8 := Lib.hid (And.intro (((hT7.same hT8).block _ (blk_lt HX6.out.1) (fun x => x)).trans HX6.out.1 : XB W8 q7 a b s A m' c) (HX6.out.2.touch0 (hT7.same hT8)))
  have HT8 := Lib.hid (HT6.out.same (hT7.same hT8))
  clear hT7 hT8 hspz hc81 hc82 hB8 hspl HX6 p70 p71 p72 p73 p74
  try rw [hsp]
  clear hsp
  go_wp2_with fail
  refine HTK8.out.mono ?_
  rintro e w9 ⟨g9, cp9, rfl, hTL9, hT9⟩
  have hT09 := HT8.out.same hT9
  obtain ⟨⟨B9, hB9⟩, -⟩ := HEV.out.touch hT09
  have HP9 := Lib.hid (parse_any (cp := cp9) hTL9 HU.out.2.2.2 hmup (by omega) hB9 HU.out.2.1.1 HU.out.2.1.2)
  rw [HU.out.2.2.1, HMP.out] at HP9
  have HX9 := Lib.hid (And.intro ((hT9.block _ (blk_lt HX8.out.1) (fun x => x)).trans HX8.out.1 : XB w9 q7 a b s A m' c) (HX8.out.2.touch0 hT9))
  have HT9 := Lib.hid hT09
  clear hT9 hT09 hTL9 hB9 hcv8 HX8
  go_wp2_with fail
  refine HP9.out.mono ?_
  rintro e wa ⟨hTa, a3, b3, s3, A3, m3, c3, rfl, het3⟩
  obtain ⟨Wa, hWa⟩ : ∃ W, wa.alloc (.cells #[.int .i64 a3, .int .i64 b3, .string s3, .slice A3 m3 c3] 29) = W := ⟨_, rfl⟩
  have ta : Touch NoB wa Wa := by rw [← hWa]; exact (Touch.refl _ _).alloc _
  obtain ⟨qa, hqa⟩ : ∃ qa, wa.heap.size = qa := ⟨_, rfl⟩
  have hxa : XB Wa qa a3 b3 s3 A3 m3 c3 := by rw [← hWa]; exact XB.new _ _ _ _ _ _ _ hqa
  have hxb : XB Wa q7 a b s A m' c := ((hTa.same ta).block _ (blk_lt HX9.out.1) (fun x => x)).trans HX9.out.1
  have hetb := HX9.out.2.touch0 (hTa.same ta)
  obtain ⟨p70, p71, p72, p73, p74⟩ := hxb.cells
  have HRI := Lib.hid (Right_any HX.out.2.1 HX.out.1 Wa hetb)
  have HXa := Lib.hid (And.intro hxa (And.intro hxb (And.intro hetb (het3.touch0 ta))))
  have HTa := Lib.hid (HT9.out.same (hTa.same ta))
  clear hTa ta hxa hxb hetb het3 HX9
  go_wp2_with fail
  refine HRI.out.mono ?_
  rintro e wb ⟨rfl, hTb⟩
  have hxa : XB wb qa a3 b3 s3 A3 m3 c3 := (hTb.block _ (blk_lt HXa.out.1) (fun x => x)).trans HXa.out.1
  have hxb : XB wb q7 a b s A m' c := (hTb.block _ (blk_lt HXa.out.2.1) (fun x => x)).trans HXa.out.2.1
  clear p70 p71 p72 p73 p74
  obtain ⟨p70, p71, p72, p73, p74⟩ := hxb.cells
  obtain ⟨r70, r71, r72, r73, r74⟩ := hxa.cells
  have HSM2 := Lib.hid (same_all x.depth x x (Nat.le_refl _) wb _ _ _ _ _ _ _ _ _ _ _ _ _ _ (HXa.out.2.2.1.touch0 hTb) (HXa.out.2.2.2.touch0 hTb))
  rw [Ex.same_refl] at HSM2
  have HTb := Lib.hid (HTa.out.same hTb)
  clear hTb hxa hxb HXa
  go_wp2_with (first | (go_at_call 17; refine (HN.out _ _).mono ?_; rintro e w' ⟨rfl, rfl⟩))
  refine HSM2.out.mono ?_
  rintro e wc ⟨rfl, hTc⟩
  have HTc := Lib.hid (HTb.out.same hTc)
  clear hTc
  go_wp2
  go_ret
  exact ⟨rfl, HTc.out⟩
theorem texts_any (sx : ByteArray) (hs : sx.size ≤ maxLen) (w : World) (hev : EN w) :
    Calls Tryd.prog 3 #[.string sx] w fun e w' => e = .returned (.bool true) ∧ Touch NoB w w' := by
  by_cases h1 : sx.size ≤ 65536
  · cases hl : lexL sx.data.toList with
    | bad p => exact texts_bad sx hs w hev (fun _ => ⟨p, hl⟩)
    | good ts =>
      by_cases h2 : sx.size ≤ 1000
      · cases hp : parL ts 0 with
        | er e k => exact texts_er sx w hev h2 hl hp
        | ok x k => exact texts_ok sx w hev h2 hl hp
      · exact texts_long sx w hev h1 (by omega) hl
  · exact texts_bad sx hs w hev (fun h => absurd h h1)
end Go.Proofs.YtadpihipnffiaaaDoor
