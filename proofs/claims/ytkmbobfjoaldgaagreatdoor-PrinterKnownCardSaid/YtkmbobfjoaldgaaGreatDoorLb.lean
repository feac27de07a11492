/-
  Bytes in memory; what signLength, wordOrName and number of package lex return.
-/
import Derived.Test.YtkmbobfjoaldgaaGreatDoorLa
import Derived.Test.YtkmbobfjoaldgaaGreatDoorLt
import Derived.Test.YtkmbobfjoaldgaaGreatDoorSh
import Derived.Lib.SlBytesRow
import Derived.Deep.AppendLies
namespace Go.Proofs.YtkmbobfjoaldgaaGreatDoor
open Go.ChangeShapes Go.WideShapes Go.ChangeAt Go.RowKit
set_option maxRecDepth 100000
set_option maxHeartbeats 4000000

/-- Bytes as a string. -/
def bs (l : Bs) : ByteArray := ⟨l.toArray⟩
theorem bs_size (l : Bs) : (bs l).size = l.length := by simp [bs, ByteArray.size]
theorem bs_list (l : Bs) : (bs l).data.toList = l := by simp [bs]
theorem bs_toList (l : Bs) : (bs l).toList = l := by rw [ByteArray.toList_eq]; simp [bs]
theorem bs_of (s : ByteArray) : bs s.data.toList = s := by cases s; simp [bs]
theorem bs_at (l : Bs) (i : Nat) (h : i < (bs l).size) : l[i]? = some ((bs l)[i]'h) := by
  have h' : i < l.length := by rw [bs_size] at h; exact h
  rw [List.getElem?_eq_getElem h']
  simp [bs, ByteArray.getElem_eq_getElem_data]

/-- Bytes lie at A. -/
def BAt (w : World) (A : Option Addr) (l : Bs) : Prop := l ≠ [] → ∃ b off, A = some ⟨b, off, none⟩ ∧ b < w.heap.size ∧ ∀ (i : Nat) (c : UInt8), l[i]? = some c → w.cell? ⟨b, off + i, none⟩ = some (.int .u8 (c.toNat : Int))
theorem BAt.touch {w w' : World} {A : Option Addr} {l : Bs} (h : BAt w A l) (t : Touch NoB w w') : BAt w' A l := by
  intro hl
  obtain ⟨b, off, rfl, hb, hc⟩ := h hl
  exact ⟨b, off, rfl, Nat.lt_of_lt_of_le hb t.size, fun i c hi => (t.cell (p := ⟨b, off + i, none⟩) hb (fun x => x)).trans (hc i c hi)⟩
theorem BAt.nil (w : World) (A : Option Addr) : BAt w A [] := fun h => absurd rfl h
/-- The text of a slice of them. -/
theorem BAt.text {P : Program} {w : World} {b off : Nat} {l : Bs} (src e dst : TypeId) (hs : P.underlying src = some (.slice e)) (he : P.underlying e = some (.int .u8)) (hd : P.underlying dst = some .string)
    (hc : ∀ (i : Nat) (c : UInt8), l[i]? = some c → w.cell? ⟨b, off + i, none⟩ = some (.int .u8 (c.toNat : Int))) {a k : Nat} (hak : a ≤ k) (hk : k ≤ l.length) (cap : Nat) {n : Nat} (hn : n = k - a) :
    (convert src dst (.slice (some ⟨b, off + a, none⟩) n cap)).run P w = .ok (.string (bs (cut l a k))) w := by
  subst hn
  have hB : Lib.Bytes w b off (bs l) := fun i hi => hc i _ (bs_at l i hi)
  have := Lib.run_convert_window (P := P) w src e dst hs he hd b off (bs l) hB a (k - a) cap (by rw [bs_size]; omega)
  rw [this]
  congr 2
  apply ByteArray.ext
  apply Array.toList_inj.1
  unfold cut
  simp only [ByteArray.data_extract, bs, Array.toList_extract, List.extract_eq_take_drop]
  rw [show a + (k - a) - a = k - a from by omega]

/-! ### signs -/
theorem indexb_iff : ∀ (l : Bs) (c : UInt8), 0 ≤ Lib.indexByte l c ↔ l.contains c = true
  | [], c => by simp [Lib.indexByte]
  | b :: l, c => by
    have ih := indexb_iff l c
    have hge := Lib.indexByte_ge l c
    have e0 : Lib.indexByte (b :: l) c = if (b == c) = true then 0 else if (Lib.indexByte l c == -1) = true then -1 else Lib.indexByte l c + 1 := rfl
    rw [List.contains_cons, e0, Bool.or_eq_true, ← ih]
    by_cases h : b = c
    · subst h; simp
    · have h1 : ¬ (b == c) = true := by simpa using h
      have h2 : ¬ (c == b) = true := by simpa using fun e => h (Eq.symm e)
      rw [if_neg h1, eq_false h2, false_or]
      by_cases h3 : Lib.indexByte l c = -1
      · rw [if_pos (by simpa using h3)]; omega
      · rw [if_neg (by simpa using h3)]; omega
theorem indexb_some (l : Bs) (c : UInt8) : decide (0 ≤ Lib.indexByte l c) = l.contains c := by
  rw [Bool.eq_iff_iff, decide_eq_true_iff]; exact indexb_iff l c
/-- What strings.IndexByte of a text finds. -/
theorem index_any (s : ByteArray) (c : UInt8) (w : World) : Calls Tryz.prog 111 #[.string s, .int .u8 (c.toNat : Int)] w fun e w' => ∃ q : Int, e = .returned (.int .i64 q) ∧ decide (0 ≤ q) = s.data.toList.contains c ∧ w = w' := by
  refine (Tryz.strings_IndexByte s (c.toNat : Int) w).mono ?_
  rintro e w' ⟨rfl, rfl⟩
  refine ⟨_, rfl, ?_, rfl⟩
  have : ((c.toNat : Int).toNat.toUInt8) = c := by simp
  rw [this, indexb_some]
def sg2 : Bs := [58, 60, 62, 61]
def sg1 : Bs := [123, 125, 40, 41, 59, 58, 61, 60, 43, 45, 42, 47, 44, 39]
theorem beq_nat (c k : UInt8) : (c == k) = decide (c.toNat = k.toNat) := by
  by_cases h : c = k
  · subst h; simp
  · have : ¬ c.toNat = k.toNat := fun e => h (UInt8.toNat_inj.1 e)
    simp [h, this]
theorem sgnL_eq (c : UInt8) (r : Bs) : sgnL c r = if (sg2.contains c && equal1 r) = true then 2 else if sg1.contains c = true then 1 else 0 := by
  unfold sgnL sg2 sg1
  simp only [List.contains_cons, List.contains_nil, beq_nat, Bool.or_false, Bool.and_eq_true, Bool.or_eq_true, decide_eq_true_eq]
  rfl
theorem ret_int {a b : Int} (h : a = b) : Ending.returned (.int .i64 a) = .returned (.int .i64 b) := by rw [h]

/-- The length of a sign. -/
theorem sgnlen_any {w : World} {b off n cap : Nat} {c : UInt8} {r : Bs} (hn : r.length + 1 = n) (hcap : n ≤ cap)
    (hc : ∀ (i : Nat) (d : UInt8), (c :: r)[i]? = some d → w.cell? ⟨b, off + i, none⟩ = some (.int .u8 (d.toNat : Int))) :
    Calls Tryz.prog 78 #[.slice (some ⟨b, off, none⟩) n cap] w fun e w' => e = .returned (.int .i64 (sgnL c r)) ∧ w = w' := by
  have h0 : w.cell? ⟨b, off, none⟩ = some (.int .u8 (c.toNat : Int)) := by have := hc 0 c rfl; simpa using this
  rw [sgnL_eq]
  have hX : ∀ w : World, Calls Tryz.prog 111 #[.string ⟨#[58, 60, 62, 61]⟩, .int .u8 (c.toNat : Int)] w fun e w' => ∃ q : Int, e = .returned (.int .i64 q) ∧ decide (0 ≤ q) = sg2.contains c ∧ w = w' := fun w => index_any _ c w
  have hY : ∀ w : World, Calls Tryz.prog 111 #[.string ⟨#[123, 125, 40, 41, 59, 58, 61, 60, 43, 45, 42, 47, 44, 39]⟩, .int .u8 (c.toNat : Int)] w fun e w' => ∃ q : Int, e = .returned (.int .i64 q) ∧ decide (0 ≤ q) = sg1.contains c ∧ w = w' := fun w => index_any _ c w
  have HX := Lib.hid hX
  have HY := Lib.hid hY
  clear hX hY
  obtain ⟨x, hx⟩ : ∃ x, (c.toNat : Int) = x := ⟨_, rfl⟩
  rw [hx] at h0
  simp only [hx] at HX HY
  obtain ⟨p, hp⟩ : ∃ p, sg2.contains c = p := ⟨_, rfl⟩
  obtain ⟨q, hq⟩ : ∃ q, sg1.contains c = q := ⟨_, rfl⟩
  simp only [hp] at HX
  simp only [hq] at HY
  rw [hp, hq]
  clear hp hq hx
  obtain ⟨res, hres⟩ : ∃ res, (if (p && equal1 r) = true then 2 else if q = true then 1 else 0) = res := ⟨_, rfl⟩
  rw [hres]
  have HR := Lib.hid hres
  clear hres
  have hn1 : 0 < n := by omega
  have hn2 : ((n : Int) ≤ 0) = False := by simp; omega
  cases r with
  | nil =>
    obtain rfl : n = 1 := by simpa using hn.symm
    clear hc hn
    go_enter Tryz.func78, Tryz.ntmps78
    go_wp2_with fail
    refine (HY.out _).mono ?_
    rintro e w' ⟨z, rfl, hz, rfl⟩
    cases q
    all_goals
      go_wp2
      go_ret
      exact ⟨ret_int (by have := HR.out; rw [show equal1 [] = false from rfl, Bool.and_false] at this; rw [← this]; rfl), rfl⟩
  | cons d r =>
    have h1 : w.cell? ⟨b, off + 1, none⟩ = some (.int .u8 (d.toNat : Int)) := hc 1 d rfl
    have hlt : decide ((1 : Int) < (n : Int)) = true := by simp at hn ⊢; omega
    have hn3 : 1 < n := by simp at hn; omega
    have hequ : equal1 (d :: r) = ((d.toNat : Int) == 61) := by
      simp only [equal1]
      by_cases e : d.toNat = 61
      · simp [e]
      · have : ¬ (d.toNat : Int) = 61 := by omega
        simp [e, this]
    rw [hequ] at HR
    clear hc hn hequ
    obtain ⟨y, hy⟩ : ∃ y, (d.toNat : Int) = y := ⟨_, rfl⟩
    rw [hy] at h1
    rw [hy] at HR
    clear hy
    cases he : y == 61
    all_goals rw [he] at HR
    · go_enter Tryz.func78, Tryz.ntmps78
      go_wp2_with fail
      refine (HY.out _).mono ?_
      rintro e w' ⟨z, rfl, hz, rfl⟩
      cases q
      all_goals
        go_wp2
        go_ret
        exact ⟨ret_int (by rw [← HR.out]; simp), rfl⟩
    · go_enter Tryz.func78, Tryz.ntmps78
      go_wp2_with fail
      refine (HX.out _).mono ?_
      rintro e w' ⟨z, rfl, hz, rfl⟩
      cases p
      · go_wp2_with fail
        refine (HY.out _).mono ?_
        rintro e w' ⟨z, rfl, hz, rfl⟩
        cases q
        all_goals
          go_wp2
          go_ret
          exact ⟨ret_int (by rw [← HR.out]; simp), rfl⟩
      · go_wp2
        go_ret
        exact ⟨ret_int (by rw [← HR.out]; simp), rfl⟩

/-! ### words and names -/
theorem won_any (s : ByteArray) (hs : s.size ≤ 9223372036854775807) (w : World) :
    Calls Tryz.prog 76 #[.string s] w fun e w' => e = .returned (.tuple #[.agg #[.int .i64 (if wrd s then 2 else 1), .int .i64 0, .int .i64 0, .string s], .bool (wrd s || nameB s)]) ∧ Touch NoB w w' := by
  have HW := Lib.hid (fun w => isword_any s w)
  have HN := Lib.hid (fun w => lname_any s hs w)
  cases h1 : wrd s
  · rw [h1] at HW HN
    go_enter Tryz.func76, Tryz.ntmps76
    go_wp2_with (first
      | (go_at_call 108; refine (HW.out _).mono ?_; rintro e w' ⟨rfl, rfl⟩)
      | (go_at_call 109; refine (HN.out _).mono ?_; rintro e w' ⟨rfl, rfl⟩))
    all_goals
      exact bodyPost_ret (v := .tuple #[.agg #[.int .i64 1, .int .i64 0, .int .i64 0, .string s], .bool (nameB s && !false)]) (by simp [results, Tryz.results76, go_sem]) rfl ⟨by simp, by repeat (first | with_reducible exact Touch.refl _ _ | with_reducible refine Touch.drew ?_ | with_reducible refine Touch.alloc ?_ _ | with_reducible refine Touch.setCell ?_ (.inr (by simp)) _)⟩
  · rw [h1] at HW
    go_enter Tryz.func76, Tryz.ntmps76
    go_wp2_with (first
      | (go_at_call 108; refine (HW.out _).mono ?_; rintro e w' ⟨rfl, rfl⟩))
    all_goals
      exact bodyPost_ret (v := .tuple #[.agg #[.int .i64 2, .int .i64 0, .int .i64 0, .string s], .bool true]) (by simp [results, Tryz.results76, go_sem]) rfl ⟨by simp, by repeat (first | with_reducible exact Touch.refl _ _ | with_reducible refine Touch.drew ?_ | with_reducible refine Touch.alloc ?_ _ | with_reducible refine Touch.setCell ?_ (.inr (by simp)) _)⟩

/-! ### numbers -/
def fold10 (v : Nat) (l : Bs) : Nat := l.foldl (fun v c => 10 * v + (c.toNat - 48)) v
theorem fold_ge : ∀ (l : Bs) (v : Nat), v ≤ fold10 v l
  | [], v => Nat.le_refl _
  | c :: r, v => Nat.le_trans (by omega) (fold_ge r (10 * v + (c.toNat - 48)))
theorem parse_dig : ∀ (l : Bs) (v : Nat), v < 18446744073709551616 → l.all bD = true → Lib.parseUint10 v l = if fold10 v l < 18446744073709551616 then .ok (fold10 v l) else .range
  | [], v, hv, _ => by
    show Lib.NumEnd.ok v = _
    rw [if_pos (show fold10 v [] < _ from hv)]; rfl
  | c :: r, v, hv, hd => by
    simp only [List.all_cons, Bool.and_eq_true] at hd
    have hc := hd.1
    simp only [bD, decide_eq_true_eq] at hc
    have hge := fold_ge r (10 * v + (c.toNat - 48))
    have ef : fold10 v (c :: r) = fold10 (10 * v + (c.toNat - 48)) r := rfl
    rw [ef]
    simp only [Lib.parseUint10, if_pos hc]
    split
    · rw [if_neg (by omega)]
    · split
      · rw [if_neg (by omega)]
      · rw [show v * 10 + (c.toNat - 48) = 10 * v + (c.toNat - 48) from by omega]
        exact parse_dig r _ (by omega) hd.2
theorem atoi_dig {l : Bs} (hl : l ≠ []) (hd : l.all bD = true) : Lib.atoiAll l = if valL l ≤ 9223372036854775807 then .ok (valL l : Int) else .range := by
  cases l with
  | nil => exact absurd rfl hl
  | cons c r =>
    have hc := hd
    simp only [List.all_cons, Bool.and_eq_true] at hc
    have hc := hc.1
    simp only [bD, decide_eq_true_eq] at hc
    rw [Lib.atoiAll_plain c r (by omega) (by omega), Lib.parseMag, if_neg hl, parse_dig _ 0 (by decide) hd]
    have e : fold10 0 (c :: r) = valL (c :: r) := rfl
    rw [e]
    by_cases h1 : valL (c :: r) < 18446744073709551616
    · rw [if_pos h1]
      simp only [Lib.signless]
      by_cases h2 : valL (c :: r) ≤ 9223372036854775807
      · rw [if_pos h2, if_neg (by omega)]
      · rw [if_neg h2, if_pos (by omega)]
    · rw [if_neg h1, if_neg (by omega)]
      rfl
/-- What a failed number is told with: the library's own variable can be read. -/
def EV (w : World) : Prop := 2 < w.heap.size ∧ ∃ ev, w.cell? ⟨2, 0, none⟩ = some ev ∧ (ev = .nilIface ∨ ∃ te pe, ev = .iface te pe)
theorem EV.touch {w w' : World} (h : EV w) (t : Touch NoB w w') : EV w' := by
  obtain ⟨h1, ev, h2, h3⟩ := h
  exact ⟨Nat.lt_of_lt_of_le h1 t.size, ev, (t.cell (p := ⟨2, 0, none⟩) h1 (fun x => x)).trans h2, h3⟩
theorem touch_of {w w' : World} (h : Below w.heap.size w w') : Touch NoB w w' := ⟨h.os, h.tape, h.output, h.size, fun k hk _ => h.block k hk⟩
theorem atoi_any {l : Bs} (hl : l ≠ []) (hd : l.all bD = true) (hs : l.length ≤ 281474976710656) (w : World) (hev : EV w) :
    Calls Tryz.prog 110 #[.string (bs l)] w fun e w' => ∃ z er, e = .returned (.tuple #[.int .i64 z, er]) ∧ (valL l ≤ 9223372036854775807 → z = valL l ∧ er = .nilIface) ∧ (¬ valL l ≤ 9223372036854775807 → ∃ tp p, er = .iface tp p) ∧ Touch NoB w w' := by
  have ha := atoi_dig hl hd
  rw [← bs_list l] at ha
  obtain ⟨-, ev, h2, h3⟩ := hev
  by_cases hv : valL l ≤ 9223372036854775807
  · rw [bs_list, if_pos hv] at ha
    refine (Tryz.strconv_Atoi_ok (bs l) (by rw [bs_size]; omega) _ (by rw [bs_list]; exact ha) w).mono ?_
    rintro e w' ⟨rfl, hw⟩
    refine ⟨_, _, rfl, fun _ => ⟨rfl, rfl⟩, fun h => absurd hv h, ?_⟩
    rcases hw with rfl | ⟨t, rfl⟩
    · exact Touch.refl _ _
    · exact touch_of (Lib.bytesWorld_below _ _ _)
  · rw [bs_list, if_neg hv] at ha
    refine (Tryz.strconv_Atoi_range (bs l) (by rw [bs_size]; omega) (by rw [bs_list]; exact ha) ev w h2 h3).mono ?_
    rintro e w' ⟨N, rfl, -, -, hb⟩
    exact ⟨_, _, rfl, fun h => absurd h hv, fun _ => ⟨_, _, rfl⟩, touch_of hb⟩

/-- Four cells written, one by one. -/
theorem set4 {w : World} {g : Nat} {t : TypeId} {a b c d : Value} (h : w.heap[g]? = some (.cells #[a, b, c, d] t (0, 0))) (x0 x1 x2 x3 : Value) :
    ((((w.setCell ⟨g, 0, none⟩ x0).setCell ⟨g, 1, none⟩ x1).setCell ⟨g, 2, none⟩ x2).setCell ⟨g, 3, none⟩ x3).heap[g]? = some (.cells #[x0, x1, x2, x3] t (0, 0)) := by
  have h1 := set_blk h 0 x0
  have h2 := set_blk h1 1 x1
  have h3 := set_blk h2 2 x2
  have h4 := set_blk h3 3 x3
  rw [h4]
  rfl
theorem touch4 {F : Nat → Prop} {w0 w : World} {g : Nat} (h : Touch F w0 w) (hg : F g ∨ w0.heap.size ≤ g) (x0 x1 x2 x3 : Value) :
    Touch F w0 ((((w.setCell ⟨g, 0, none⟩ x0).setCell ⟨g, 1, none⟩ x1).setCell ⟨g, 2, none⟩ x2).setCell ⟨g, 3, none⟩ x3) :=
  (((h.setCell (p := ⟨g, 0, none⟩) hg _).setCell (p := ⟨g, 1, none⟩) hg _).setCell (p := ⟨g, 2, none⟩) hg _).setCell (p := ⟨g, 3, none⟩) hg _

/-- What number answers of digits. -/
theorem number_any {c : UInt8} {r : Bs} (hd : (c :: r).all bD = true) (hs : (c :: r).length ≤ 281474976710656) (w : World) (hev : EV w) :
    Calls Tryz.prog 77 #[.string (bs (c :: r))] w fun e w' => ∃ (k z : Int) (ok : Bool), e = .returned (.tuple #[.agg #[.int .i64 k, .int .i64 z, .int .i64 0, .string ⟨#[]⟩], .bool ok]) ∧ ok = decide (valL (c :: r) ≤ 9223372036854775807 ∧ ¬ (c.toNat = 48 ∧ 1 < (c :: r).length)) ∧ (ok = true → k = 3 ∧ z = valL (c :: r)) ∧ Touch NoB w w' := by
  have HA := Lib.hid (fun w hev => atoi_any (l := c :: r) (by simp) hd hs w hev)
  have HE := Lib.hid hev
  have hsz : (bs (c :: r)).size = (c :: r).length := bs_size _
  obtain ⟨s, hse⟩ : ∃ s, bs (c :: r) = s := ⟨_, rfl⟩
  obtain ⟨n, hne⟩ : ∃ n, (c :: r).length = n := ⟨_, rfl⟩
  obtain ⟨v, hve⟩ : ∃ v, valL (c :: r) = v := ⟨_, rfl⟩
  have h0 : 0 < s.size := by rw [← hse, hsz]; simp
  have hb0 : ((s[0]'h0).toNat : Int) = (c.toNat : Int) := by subst hse; simp [bs, ByteArray.getElem_eq_getElem_data]
  rw [hse, hne] at hsz
  simp only [hse, hve] at HA
  rw [hse, hne, hve]
  clear hev hd hs hne hve
  have hn0 : 0 < n := by omega
  obtain ⟨x, hx⟩ : ∃ x, (c.toNat : Int) = x := ⟨_, rfl⟩
  rw [hx] at hb0
  have HX := Lib.hid hx
  clear hx
  have hcut : (decide (1 < (n : Int)) && x == 48) = false ∨ (decide (1 < (n : Int)) = true ∧ (x == 48) = true) := by
    cases decide (1 < (n : Int)) <;> cases x == 48 <;> simp
  rcases hcut with hcut | ⟨h1, h2⟩
  · have hno : ¬ (c.toNat = 48 ∧ 1 < n) := by
      rintro ⟨a, b⟩
      have e1 : decide (1 < (n : Int)) = true := by simp; omega
      have e2 : (x == 48) = true := by rw [← HX.out, a]; rfl
      rw [e1, e2] at hcut
      cases hcut
    have HNO := Lib.hid hno
    clear hno
    have hways : decide (1 < (n : Int)) = false ∨ (decide (1 < (n : Int)) = true ∧ (x == 48) = false) := by
      revert hcut
      cases decide (1 < (n : Int)) <;> cases x == 48 <;> simp
    clear hcut
    by_cases hv : v ≤ 9223372036854775807
    · rcases hways with h1 | ⟨h1, h2⟩
      all_goals
        go_enter Tryz.func77, Tryz.ntmps77
        go_wp2_with fail
        refine (HA.out _ (HE.out.touch ((Touch.refl _ _).alloc _))).mono ?_
        rintro e w1 ⟨z, er, rfl, hok, -, hT⟩
        obtain ⟨rfl, rfl⟩ := hok hv
        have hb1 : w1.heap[w.heap.size]? = some (.cells #[.int .i64 0, .int .i64 0, .int .i64 0, .string ⟨#[]⟩] 60 (0, 0)) := (hT.block _ (by simp) (fun x => x)).trans (alloc_blk w _ _ rfl)
        have hl1 := blk_lt hb1
        have HT := Lib.hid (((Touch.refl NoB w).alloc _).same hT)
        have c0 := cell_blk hb1 0
        have c1 := cell_blk hb1 1
        have c2 := cell_blk hb1 2
        have c3 := cell_blk hb1 3
        have f0 := free_blk hb1 0
        have f1 := free_blk hb1 1
        have f2 := free_blk hb1 2
        have f3 := free_blk hb1 3
        clear hT hok
        go_wp2
        go_region
        go_wp2
        have hb2 := set4 hb1 (.int .i64 3) (.int .i64 (v : Int)) (.int .i64 0) (.string ⟨#[]⟩)
        have hT2 := touch4 HT.out (.inr (Nat.le_refl _)) (.int .i64 3) (.int .i64 (v : Int)) (.int .i64 0) (.string ⟨#[]⟩)
        obtain ⟨w2, hw2⟩ : ∃ x, ((((w1.setCell ⟨w.heap.size, 0, none⟩ (.int .i64 3)).setCell ⟨w.heap.size, 1, none⟩ (.int .i64 (v : Int))).setCell ⟨w.heap.size, 2, none⟩ (.int .i64 0)).setCell ⟨w.heap.size, 3, none⟩ (.string ⟨#[]⟩)) = x := ⟨_, rfl⟩
        rw [hw2] at hb2 hT2
        rw [hw2]
        have d0 : w2.drew.cell? ⟨w.heap.size, 0, none⟩ = _ := cell_blk hb2 0
        have d1 : w2.drew.cell? ⟨w.heap.size, 1, none⟩ = _ := cell_blk hb2 1
        have d2 : w2.drew.cell? ⟨w.heap.size, 2, none⟩ = _ := cell_blk hb2 2
        have d3 : w2.drew.cell? ⟨w.heap.size, 3, none⟩ = _ := cell_blk hb2 3
        clear c0 c1 c2 c3 f0 f1 f2 f3 hb1 hl1
        exact bodyPost_ret (v := .tuple #[.agg #[.int .i64 3, .int .i64 v, .int .i64 0, .string ⟨#[]⟩], .bool true]) (by simp [results, Tryz.results77, go_sem, d0, d1, d2, d3]) rfl ⟨3, v, true, rfl, by symm; rw [decide_eq_true_iff]; exact ⟨hv, HNO.out⟩, fun _ => ⟨rfl, rfl⟩, hT2.drew⟩
    · rcases hways with h1 | ⟨h1, h2⟩
      all_goals
        go_enter Tryz.func77, Tryz.ntmps77
        go_wp2_with fail
        refine (HA.out _ (HE.out.touch ((Touch.refl _ _).alloc _))).mono ?_
        rintro e w1 ⟨z, er, rfl, -, hno, hT⟩
        obtain ⟨tp, pv, rfl⟩ := hno hv
        have hb1 : w1.heap[w.heap.size]? = some (.cells #[.int .i64 0, .int .i64 0, .int .i64 0, .string ⟨#[]⟩] 60 (0, 0)) := (hT.block _ (by simp) (fun x => x)).trans (alloc_blk w _ _ rfl)
        have hl1 := blk_lt hb1
        have HT := Lib.hid (((Touch.refl NoB w).alloc _).same hT)
        have c0 := cell_blk hb1 0
        have c1 := cell_blk hb1 1
        have c2 := cell_blk hb1 2
        have c3 := cell_blk hb1 3
        have f0 := free_blk hb1 0
        have f1 := free_blk hb1 1
        have f2 := free_blk hb1 2
        have f3 := free_blk hb1 3
        clear hT hno
        go_wp2
        go_region
        go_wp2
        have hb2 := set4 hb1 (.int .i64 3) (.int .i64 z) (.int .i64 0) (.string ⟨#[]⟩)
        have hT2 := touch4 HT.out (.inr (Nat.le_refl _)) (.int .i64 3) (.int .i64 z) (.int .i64 0) (.string ⟨#[]⟩)
        obtain ⟨w2, hw2⟩ : ∃ x, ((((w1.setCell ⟨w.heap.size, 0, none⟩ (.int .i64 3)).setCell ⟨w.heap.size, 1, none⟩ (.int .i64 z)).setCell ⟨w.heap.size, 2, none⟩ (.int .i64 0)).setCell ⟨w.heap.size, 3, none⟩ (.string ⟨#[]⟩)) = x := ⟨_, rfl⟩
        rw [hw2] at hb2 hT2
        rw [hw2]
        have d0 : w2.drew.cell? ⟨w.heap.size, 0, none⟩ = _ := cell_blk hb2 0
        have d1 : w2.drew.cell? ⟨w.heap.size, 1, none⟩ = _ := cell_blk hb2 1
        have d2 : w2.drew.cell? ⟨w.heap.size, 2, none⟩ = _ := cell_blk hb2 2
        have d3 : w2.drew.cell? ⟨w.heap.size, 3, none⟩ = _ := cell_blk hb2 3
        clear c0 c1 c2 c3 f0 f1 f2 f3 hb1 hl1
        exact bodyPost_ret (v := .tuple #[.agg #[.int .i64 3, .int .i64 z, .int .i64 0, .string ⟨#[]⟩], .bool false]) (by simp [results, Tryz.results77, go_sem, d0, d1, d2, d3]) rfl ⟨3, z, false, rfl, by simp [hv], (fun e => by cases e), hT2.drew⟩
  · have hyes : c.toNat = 48 ∧ 1 < n := by
      simp at h1 h2
      have := HX.out
      omega
    have HY := Lib.hid hyes
    clear hyes
    go_enter Tryz.func77, Tryz.ntmps77
    go_wp2
    exact bodyPost_ret (v := .tuple #[.agg #[.int .i64 0, .int .i64 0, .int .i64 0, .string ⟨#[]⟩], .bool false]) (by simp [results, Tryz.results77, go_sem]) rfl ⟨0, 0, false, rfl, by have := HY.out; simp; omega, (fun e => by cases e), by repeat (first | with_reducible exact Touch.refl _ _ | with_reducible refine Touch.drew ?_ | with_reducible refine Touch.alloc ?_ _ | with_reducible refine Touch.setCell ?_ (.inr (by simp)) _)⟩
end Go.Proofs.YtkmbobfjoaldgaaGreatDoor
