/-
  Package lex's divide, from its labels letters and digits on: a word, a name, a number. Conditions: at most 65536 bytes.
-/
import Derived.Test.YtkmbobfjoaldgaaGreatDoorZa14
import Derived.Lib.SlBytesConst
import Derived.Test.YtkmbobfjoaldgaaGreatDoorLk
import Derived.Test.YtkmbobfjoaldgaaGreatDoorZa1
namespace Go.Proofs.YtkmbobfjoaldgaaGreatDoor
open Go.ChangeShapes Go.WideShapes Go.ChangeAt Go.RowKit
set_option maxRecDepth 100000
set_option maxHeartbeats 4000000

theorem pass2 (A : Option Addr) (n cap : Nat) (b : Bs) (w wr : World) (g M : Nat) (ts : List Tk) (vl : Value) (i k : Nat) 
    {u1 u2 u3 u4 u7 u10 u11 u12 u13 u14 u15 u16 u17 u18 u19 u20 u21 u22 u23 u24 u25 u26 u27 u28 u29 u30 u31 u32 u33 u34 u35 u36 u37 u38 u39 u40 u41 u42 u43 u44 u45 u46 u47 u48 u49 u50 u51 u52 u53 u54 u55 u56 u57 u58 u59 u60 u61 u62 u63 u64 u65 u66 u67 u68 u69 u70 u71 u72 u73 u74 u75 u76 u77 u78 u79 u80 u81 u82 u83 u84 u85 u86 u87 u88 u89 u90 u91 u92 u93 u94 u95 u96 u97 u98 u99 u100 u101 u102 u103 u104 u105 u106 u107 u108 u109 u110 u111 u112 u113 u114 u115 u116 u117 u118 u119 u120 u121 u122 u123 u124 u125 u126 u127 u128 u129 u130 u131 u132 u133 u134 u135 u136 u137 u138 u139 u140 u141 u142 : Value}
    (Q : Exit → Act → World → Prop) (hn : b.length = n) (hcap : n ≤ cap) (hc63 : cap ≤ 9223372036854775807) (hmax : n ≤ 65536) (hb : BAt w A b) (hev : EV w) (hI : DI w g ts vl wr) (hk : k ≤ n) (hi : i < n) (hcnt : ts.length ≤ i) (hD : DL b g ts i k u7 wr 2) (hM : mv n 2 i k = M) :
    (divX 2).wp Tryz.prog (hop (DG A cap b w g M) Q) ⟨#[.slice A n cap, u1, u2, u3, u4, vl, .pointer (some ⟨g, 0, none⟩), u7, .int .i64 (i : Int), .int .i64 (k : Int), u10, u11, u12, u13, u14, u15, u16, u17, u18, u19, u20, u21, u22, u23, u24, u25, u26, u27, u28, u29, u30, u31, u32, u33, u34, u35, u36, u37, u38, u39, u40, u41, u42, u43, u44, u45, u46, u47, u48, u49, u50, u51, u52, u53, u54, u55, u56, u57, u58, u59, u60, u61, u62, u63, u64, u65, u66, u67, u68, u69, u70, u71, u72, u73, u74, u75, u76, u77, u78, u79, u80, u81, u82, u83, u84, u85, u86, u87, u88, u89, u90, u91, u92, u93, u94, u95, u96, u97, u98, u99, u100, u101, u102, u103, u104, u105, u106, u107, u108, u109, u110, u111, u112, u113, u114, u115, u116, u117, u118, u119, u120, u121, u122, u123, u124, u125, u126, u127, u128, u129, u130, u131, u132, u133, u134, u135, u136, u137, u138, u139, u140, u141, u142], []⟩ wr := by

  have _ := hc63; have _ := hev; have _ := hmax; have _ := hcap
  simp only [divX, divC, Tryz.f38, findLabel, Nat.reduceBEq, Bool.false_eq_true, if_true, if_false]
  have HCN := Lib.hid hcnt
  clear hcnt
  have HI := Lib.hid hI
  have HN := Lib.hid hn
  have HD := Lib.hid hD
  have HM := Lib.hid hM
  have hbr := hb.touch hI.t
  have HB := Lib.hid hbr
  have HEV := Lib.hid (hev.touch hI.t)
  have hbne : i < b.length := by rw [hn]; exact hi
  have hicap : i < cap := by omega
  obtain ⟨blk, off, rfl, hblk, ⟨c0, hc0, -⟩, hcells⟩ := bat_at hbr hbne
  have HC0 := Lib.hid hc0
  have HCells := Lib.hid hcells
  clear hI hD hM hb hbr hev hn hbne hc0 hcells
  have HEnd : (he : ∀ d, b[k]? = some d → bW d = false) → i < k := fun he => by
    obtain ⟨hr, ⟨c, hc, hl⟩, -⟩ := HD.out
    exact run_lt hr hc (bW_L hl) he
  have HS := Lib.hid (fun W => slice_win (P := Tryz.prog) Tryz.underlying33 Tryz.sizeOf5 W blk off n cap i k)
  have HK := Lib.hid (fun c => (lpart_any c))
  by_cases hgo : ∃ c, b[k]? = some c ∧ bW c = true
  · obtain ⟨c, hc, hcw⟩ := hgo
    have hlt : k < n := by rw [← HN.out]; exact (List.getElem?_eq_some_iff.1 hc).1
    have hcell := HCells.out k c hc
    have HC := Lib.hid (And.intro hc hcw)
    have HP := Lib.hid (fun W => lpart_any (c.toNat : Int) W)
    rw [show okB (c.toNat : Int) = true from by rw [okB_b]; exact hcw] at HP
    have hd : decide ((k : Int) < (n : Int)) = true := by simp; omega
    obtain ⟨x, hx⟩ : ∃ x, (c.toNat : Int) = x := ⟨_, rfl⟩
    rw [hx] at hcell HP
    clear hx hc hcw HS HK HEnd
    go_wp2_with fail
    refine (HP.out _).mono ?_
    rintro e w' ⟨rfl, rfl⟩
    go_wp2
    go_step3
    show DG _ cap b w g M 2 _ _
    refine DG.mk (ts) (vl) (_) (_) (i) (k + 1) ⟨rfl, rfl, by rw [HN.out]; rfl, rfl, rfl, rfl, rfl, by simp [slot], (fun _ => rfl), ?le, ?il, (by have := HCN.out; show ts.length ≤ i; omega), HI.out, ⟨HD.out.1.next HC.out.1 HC.out.2, HD.out.2⟩⟩ (by decide) ?mm
    case le => rw [HN.out]; exact (by omega)
    case il => rw [HN.out]; exact (fun _ => hi)
    case mm => rw [HN.out, ← HM.out]; exact mv_ll (.inr (.inl rfl)) hlt
  · have he : ∀ d, b[k]? = some d → bW d = false := fun d hd => by
      cases hw : bW d
      · rfl
      · exact absurd ⟨d, hd, hw⟩ hgo
    have hik := HEnd he
    have hsl := fun W => HS.out W (by omega) (by omega) hicap
    have htx : ∀ W, Touch NoB wr W → (convert 33 9 (.slice (some ⟨blk, off + i, none⟩) (k - i) (cap - i))).run Tryz.prog W = .ok (.string (bs (cut b i k))) W := fun W hW =>
      BAt.text 33 5 9 Tryz.underlying33 Tryz.underlying5 Tryz.underlying9 (fun j d hj => (hW.cell (p := ⟨blk, off + j, none⟩) hblk (fun x => x)).trans (HCells.out j d hj)) (by omega) (by rw [HN.out]; exact hk) _ rfl
    have htx0 := htx wr (Touch.refl _ _)
    have hsz : (bs (cut b i k)).size = k - i := by rw [bs_size, cut_len HD.out.1]
    have HW := Lib.hid (fun W => won_any (bs (cut b i k)) (by rw [hsz]; omega) W)
    have hT : ((wrd (bs (cut b i k)) || nameB (bs (cut b i k))) = false ∧ tokL i (b.drop i) = none) ∨
        ((wrd (bs (cut b i k)) || nameB (bs (cut b i k))) = true ∧ tokL i (b.drop i) = some (⟨if wrd (bs (cut b i k)) = true then 2 else 1, 0, i, cut b i k⟩, k - i)) := by
      obtain ⟨hr, ⟨c, hc, hl⟩, -⟩ := HD.out
      exact told_letters hc hl hr he
    have hkd : (((if wrd (bs (cut b i k)) = true then 2 else 1 : Nat)) : Int) = (if wrd (bs (cut b i k)) = true then 2 else 1) := by split <;> rfl
    obtain ⟨kd, hkd2⟩ : ∃ kd, (if wrd (bs (cut b i k)) = true then 2 else 1 : Nat) = kd := ⟨_, rfl⟩
    rw [← hkd, hkd2] at HW
    rw [hkd2] at hT
    obtain ⟨ok, hok⟩ : ∃ ok, (wrd (bs (cut b i k)) || nameB (bs (cut b i k))) = ok := ⟨_, rfl⟩
    rw [hok] at HW hT
    have HT := Lib.hid hT
    obtain ⟨s, hs⟩ : ∃ s, bs (cut b i k) = s := ⟨_, rfl⟩
    rw [hs] at htx0 HW
    have HSs := Lib.hid hs
    have HH := Lib.hid (And.intro he hgo)
    clear hkd hkd2 hok hT htx hsz hs HS HEnd HK he hgo
    by_cases hlt : k < n
    · obtain ⟨c, hc⟩ : ∃ c, b[k]? = some c := ⟨b[k]'(by rw [HN.out]; exact hlt), List.getElem?_eq_getElem _⟩
      have hcell := HCells.out k c hc
      have HP := Lib.hid (fun W => lpart_any (c.toNat : Int) W)
      rw [show okB (c.toNat : Int) = false from by rw [okB_b]; exact HH.out.1 c hc] at HP
      have hd : decide ((k : Int) < (n : Int)) = true := by simp; omega
      obtain ⟨x, hx⟩ : ∃ x, (c.toNat : Int) = x := ⟨_, rfl⟩
      rw [hx] at hcell HP
      clear hx hc
      go_wp2_with fail
      refine (HP.out _).mono ?_
      rintro e w' ⟨rfl, rfl⟩
      go_wp2_with fail
      refine (HW.out _).mono ?_
      rintro e w1 ⟨rfl, hT1⟩
      obtain ⟨x0, x1, x2, x3, hb1⟩ := (HI.out.touch hT1).blk
      have hl1 := blk_lt hb1
      have c0 := cell_blk hb1 0
      have c1 := cell_blk hb1 1
      have c2 := cell_blk hb1 2
      have c3 := cell_blk hb1 3
      have f0 := free_blk hb1 0
      have f1 := free_blk hb1 1
      have f2 := free_blk hb1 2
      have f3 := free_blk hb1 3
      have HB1 := Lib.hid hb1
      have HI1 := Lib.hid (HI.out.touch hT1)
      clear hb1 hT1
      go_wp2
      go_step3
      show DG _ cap b w g M 5 _ _
      refine DG.mk (ts) (vl) (.bool ok) (_) (i) (k) ⟨rfl, rfl, by rw [HN.out]; rfl, rfl, rfl, rfl, rfl, rfl, (fun _ => rfl), ?le, ?il, (by have := HCN.out; show ts.length ≤ i; omega), HI1.out.put _ _ _ _, by
        obtain ⟨-, ⟨cc, hcc, hll⟩, hpre⟩ := HD.out
        refine ⟨⟨cc, hcc, bB_not (bW_L hll), fun e => bW_not47 (bW_L hll) e.1⟩, hpre, ?_⟩
        rcases HT.out with ⟨h1, h2⟩ | ⟨h1, h2⟩
        · exact .inl ⟨by rw [h1], h2⟩
        · exact .inr ⟨by rw [h1], _, .int .i64 0, h2, hik, by rw [set4 HB1.out]; simp only [HSs.out]; rfl⟩⟩ (by decide) ?mm
      case le => rw [HN.out]; exact (by omega)
      case il => rw [HN.out]; exact (fun _ => hi)
      case mm => rw [HN.out, ← HM.out]; exact mv_l5 (.inl rfl)
    · obtain rfl : k = n := by omega
      have hd : decide ((k : Int) < (k : Int)) = false := by simp
      go_wp2_with fail
      refine (HW.out _).mono ?_
      rintro e w1 ⟨rfl, hT1⟩
      obtain ⟨x0, x1, x2, x3, hb1⟩ := (HI.out.touch hT1).blk
      have hl1 := blk_lt hb1
      have c0 := cell_blk hb1 0
      have c1 := cell_blk hb1 1
      have c2 := cell_blk hb1 2
      have c3 := cell_blk hb1 3
      have f0 := free_blk hb1 0
      have f1 := free_blk hb1 1
      have f2 := free_blk hb1 2
      have f3 := free_blk hb1 3
      have HB1 := Lib.hid hb1
      have HI1 := Lib.hid (HI.out.touch hT1)
      clear hb1 hT1
      go_wp2
      go_step3
      show DG _ cap b w g M 5 _ _
      refine DG.mk (ts) (vl) (.bool ok) (_) (i) (k) ⟨rfl, rfl, by rw [HN.out]; rfl, rfl, rfl, rfl, rfl, rfl, (fun _ => rfl), ?le, ?il, (by have := HCN.out; show ts.length ≤ i; omega), HI1.out.put _ _ _ _, by
        obtain ⟨-, ⟨cc, hcc, hll⟩, hpre⟩ := HD.out
        refine ⟨⟨cc, hcc, bB_not (bW_L hll), fun e => bW_not47 (bW_L hll) e.1⟩, hpre, ?_⟩
        rcases HT.out with ⟨h1, h2⟩ | ⟨h1, h2⟩
        · exact .inl ⟨by rw [h1], h2⟩
        · exact .inr ⟨by rw [h1], _, .int .i64 0, h2, hik, by rw [set4 HB1.out]; simp only [HSs.out]; rfl⟩⟩ (by decide) ?mm
      case le => rw [HN.out]; exact (by omega)
      case il => rw [HN.out]; exact (fun _ => hi)
      case mm => rw [HN.out, ← HM.out]; exact mv_l5 (.inl rfl)

end Go.Proofs.YtkmbobfjoaldgaaGreatDoor

/-
  Package lex's divide, from its label digits on: a number. Conditions: at most 65536 bytes.
-/
namespace Go.Proofs.YtkmbobfjoaldgaaGreatDoor
open Go.ChangeShapes Go.WideShapes Go.ChangeAt Go.RowKit
set_option maxRecDepth 100000
set_option maxHeartbeats 4000000

/-- The block of an address. -/
def blk0 : Option Addr → Nat
  | some a => a.block
  | none => 0
/-- The end of a number: what was read is told. -/
theorem told_digits {b : Bs} {i k : Nat} {c : UInt8} {r : Bs} (h : b[i]? = some c) (hl : bD c = true) (hr : Run bD b i k) (he : ∀ d, b[k]? = some d → bD d = false) (hc : cut b i k = c :: r) {ok : Bool}
    (hok : ok = decide (valL (c :: r) ≤ 9223372036854775807 ∧ ¬ (c.toNat = 48 ∧ 1 < (c :: r).length))) :
    (ok = true → (∀ d, b[k]? = some d → bW d = false) → tokL i (b.drop i) = some (⟨3, valL (c :: r), i, []⟩, k - i)) ∧ ((ok = false ∨ ∃ d, b[k]? = some d ∧ bW d = true) → tokL i (b.drop i) = none) := by
  have hlen := cut_len hr
  rw [hc] at hlen
  rw [hlen] at hok
  refine ⟨fun h1 h2 => ?_, fun h1 => ?_⟩
  · rw [tok_digits h hl hr he, hc]
    subst h1
    have := of_decide_eq_true hok.symm
    rw [if_pos ⟨this.1, this.2, h2⟩]
  · rw [tok_digits h hl hr he, hc, if_neg]
    rintro ⟨a1, a2, a3⟩
    rcases h1 with h1 | ⟨d, h1, h2⟩
    · rw [h1] at hok
      exact of_decide_eq_false hok.symm ⟨a1, a2⟩
    · rw [a3 d h1] at h2; cases h2

theorem pass3 (A : Option Addr) (n cap : Nat) (b : Bs) (w wr : World) (g M : Nat) (ts : List Tk) (vl : Value) (i k : Nat) 
    {u1 u2 u3 u4 u7 u10 u11 u12 u13 u14 u15 u16 u17 u18 u19 u20 u21 u22 u23 u24 u25 u26 u27 u28 u29 u30 u31 u32 u33 u34 u35 u36 u37 u38 u39 u40 u41 u42 u43 u44 u45 u46 u47 u48 u49 u50 u51 u52 u53 u54 u55 u56 u57 u58 u59 u60 u61 u62 u63 u64 u65 u66 u67 u68 u69 u70 u71 u72 u73 u74 u75 u76 u77 u78 u79 u80 u81 u82 u83 u84 u85 u86 u87 u88 u89 u90 u91 u92 u93 u94 u95 u96 u97 u98 u99 u100 u101 u102 u103 u104 u105 u106 u107 u108 u109 u110 u111 u112 u113 u114 u115 u116 u117 u118 u119 u120 u121 u122 u123 u124 u125 u126 u127 u128 u129 u130 u131 u132 u133 u134 u135 u136 u137 u138 u139 u140 u141 u142 : Value}
    (Q : Exit → Act → World → Prop) (hn : b.length = n) (hcap : n ≤ cap) (hc63 : cap ≤ 9223372036854775807) (hmax : n ≤ 65536) (hb : BAt w A b) (hev : EV w) (hI : DI w g ts vl wr) (hk : k ≤ n) (hi : i < n) (hcnt : ts.length ≤ i) (hD : DL b g ts i k u7 wr 3) (hM : mv n 3 i k = M) :
    (divX 3).wp Tryz.prog (hop (DG A cap b w g M) Q) ⟨#[.slice A n cap, u1, u2, u3, u4, vl, .pointer (some ⟨g, 0, none⟩), u7, .int .i64 (i : Int), .int .i64 (k : Int), u10, u11, u12, u13, u14, u15, u16, u17, u18, u19, u20, u21, u22, u23, u24, u25, u26, u27, u28, u29, u30, u31, u32, u33, u34, u35, u36, u37, u38, u39, u40, u41, u42, u43, u44, u45, u46, u47, u48, u49, u50, u51, u52, u53, u54, u55, u56, u57, u58, u59, u60, u61, u62, u63, u64, u65, u66, u67, u68, u69, u70, u71, u72, u73, u74, u75, u76, u77, u78, u79, u80, u81, u82, u83, u84, u85, u86, u87, u88, u89, u90, u91, u92, u93, u94, u95, u96, u97, u98, u99, u100, u101, u102, u103, u104, u105, u106, u107, u108, u109, u110, u111, u112, u113, u114, u115, u116, u117, u118, u119, u120, u121, u122, u123, u124, u125, u126, u127, u128, u129, u130, u131, u132, u133, u134, u135, u136, u137, u138, u139, u140, u141, u142], []⟩ wr := by

  have _ := hc63; have _ := hev; have _ := hmax; have _ := hcap
  simp only [divX, divC, Tryz.f38, findLabel, Nat.reduceBEq, Bool.false_eq_true, if_true, if_false]
  have hblkg : blk0 A < g := by
    have h1 := hb (by intro e; subst e; simp at hn; omega)
    obtain ⟨blk, off, rfl, h2, -⟩ := h1
    exact Nat.lt_of_lt_of_le h2 hI.ge
  have HCN := Lib.hid hcnt
  clear hcnt
  have HI := Lib.hid hI
  have HN := Lib.hid hn
  have HD := Lib.hid hD
  have HM := Lib.hid hM
  have hbr := hb.touch hI.t
  have HB := Lib.hid hbr
  have HEV := Lib.hid (hev.touch hI.t)
  have hbne : i < b.length := by rw [hn]; exact hi
  have hicap : i < cap := by omega
  obtain ⟨blk, off, rfl, hblk, ⟨c0, hc0, -⟩, hcells⟩ := bat_at hbr hbne
  have HC0 := Lib.hid hc0
  have HCells := Lib.hid hcells
  clear hI hD hM hb hbr hev hn hbne hc0 hcells
  have hbg : blk < g := hblkg
  have hgb : g ≠ blk := by omega
  clear hblkg
  have HEnd : (he : ∀ d, b[k]? = some d → bD d = false) → i < k := fun he => by
    obtain ⟨hr, ⟨c, hc, hl⟩, -⟩ := HD.out
    exact run_lt hr hc hl he
  have HS := Lib.hid (fun W => slice_win (P := Tryz.prog) Tryz.underlying33 Tryz.sizeOf5 W blk off n cap i k)
  by_cases hgo : ∃ c, b[k]? = some c ∧ bD c = true
  · obtain ⟨c, hc, hcw⟩ := hgo
    have hlt : k < n := by rw [← HN.out]; exact (List.getElem?_eq_some_iff.1 hc).1
    have hcell := HCells.out k c hc
    have HC := Lib.hid (And.intro hc hcw)
    have HP := Lib.hid (fun W => ldigit_any (c.toNat : Int) W)
    rw [show digB (c.toNat : Int) = true from by rw [digB_b]; exact hcw] at HP
    have hd : decide ((k : Int) < (n : Int)) = true := by simp; omega
    obtain ⟨x, hx⟩ : ∃ x, (c.toNat : Int) = x := ⟨_, rfl⟩
    rw [hx] at hcell HP
    clear hx hc hcw HS HEnd
    go_wp2_with fail
    refine (HP.out _).mono ?_
    rintro e w' ⟨rfl, rfl⟩
    go_wp2
    go_step3
    show DG _ cap b w g M 3 _ _
    refine DG.mk (ts) (vl) (_) (_) (i) (k + 1) ⟨rfl, rfl, by rw [HN.out]; rfl, rfl, rfl, rfl, rfl, by simp [slot], (fun _ => rfl), ?le, ?il, (by have := HCN.out; show ts.length ≤ i; omega), HI.out, ⟨HD.out.1.next HC.out.1 HC.out.2, HD.out.2⟩⟩ (by decide) ?mm
    case le => rw [HN.out]; exact (by omega)
    case il => rw [HN.out]; exact (fun _ => hi)
    case mm => rw [HN.out, ← HM.out]; exact mv_ll (.inr (.inr rfl)) hlt
  · have he : ∀ d, b[k]? = some d → bD d = false := fun d hd => by
      cases hw : bD d
      · rfl
      · exact absurd ⟨d, hd, hw⟩ hgo
    have hik := HEnd he
    have hsl := fun W => HS.out W (by omega) (by omega) hicap
    have htx0 : (convert 33 9 (.slice (some ⟨blk, off + i, none⟩) (k - i) (cap - i))).run Tryz.prog wr = .ok (.string (bs (cut b i k))) wr :=
      BAt.text 33 5 9 Tryz.underlying33 Tryz.underlying5 Tryz.underlying9 (fun j d hj => HCells.out j d hj) (by omega) (by rw [HN.out]; exact hk) _ rfl
    obtain ⟨r, hr⟩ := cut_cons HC0.out hik
    have hlen : (c0 :: r).length = k - i := by rw [← hr]; exact cut_len HD.out.1
    have hall : (c0 :: r).all bD = true := by rw [← hr]; exact HD.out.1.all
    rw [hr] at htx0
    have HW := Lib.hid (number_any hall (by rw [hlen]; omega) wr HEV.out)
    have HTOLD := Lib.hid (fun (ok : Bool) => told_digits (ok := ok) HC0.out (by obtain ⟨-, ⟨c, hc, hl⟩, -⟩ := HD.out; rw [HC0.out] at hc; injection hc with hc; rw [hc]; exact hl) HD.out.1 he hr)
    obtain ⟨s, hs⟩ : ∃ s, bs (c0 :: r) = s := ⟨_, rfl⟩
    rw [hs] at htx0 HW
    obtain ⟨vv, hvv⟩ : ∃ vv, valL (c0 :: r) = vv := ⟨_, rfl⟩
    have HH := Lib.hid (And.intro he hgo)
    clear hs HS HEnd he hgo hlen hall hr HEV
    by_cases hlt : k < n
    · obtain ⟨c, hc⟩ : ∃ c, b[k]? = some c := ⟨b[k]'(by rw [HN.out]; exact hlt), List.getElem?_eq_getElem _⟩
      have hcell := HCells.out k c hc
      have hcl := fun (w1 : World) (hT : Touch NoB wr w1) => (hT.cell (p := ⟨blk, off + k, none⟩) hblk (fun x => x)).trans hcell
      have HP := Lib.hid (fun W => ldigit_any (c.toNat : Int) W)
      have HPW := Lib.hid (fun W => lpart_any (c.toNat : Int) W)
      rw [show digB (c.toNat : Int) = false from by rw [digB_b]; exact HH.out.1 c hc] at HP
      rw [okB_b] at HPW
      have hd : decide ((k : Int) < (n : Int)) = true := by simp; omega
      have hd2 : ((k : Int) == (n : Int)) = false := by simp; omega
      obtain ⟨x, hx⟩ : ∃ x, (c.toNat : Int) = x := ⟨_, rfl⟩
      rw [hx] at hcell HP HPW
      simp only [hx] at hcl
      have HC := Lib.hid hc
      clear hx hc
      go_wp2_with fail
      refine (HP.out _).mono ?_
      rintro e w' ⟨rfl, rfl⟩
      go_wp2_with fail
      refine HW.out.mono ?_
      rintro e w1 ⟨kz, z, ok, rfl, hok, hval, hT1⟩
      obtain ⟨x0, x1, x2, x3, hb1⟩ := (HI.out.touch hT1).blk
      have hl1 := blk_lt hb1
      have c0 := cell_blk hb1 0
      have c1 := cell_blk hb1 1
      have c2 := cell_blk hb1 2
      have c3 := cell_blk hb1 3
      have f0 := free_blk hb1 0
      have f1 := free_blk hb1 1
      have f2 := free_blk hb1 2
      have f3 := free_blk hb1 3
      have HB1 := Lib.hid hb1
      have HI1 := Lib.hid (HI.out.touch hT1)
      have HTD := Lib.hid (HTOLD.out ok hok)
      have HV := Lib.hid hval
      have hcell1 := hcl w1 hT1
      clear hb1 hT1 hok hval hcl
      cases ok
      · go_wp2
        go_step3
        show DG _ cap b w g M 5 _ _
        refine DG.mk (ts) (vl) (.bool false) (_) (i) (k) ⟨rfl, rfl, by rw [HN.out]; rfl, rfl, rfl, rfl, rfl, rfl, (fun _ => rfl), ?le, ?il, (by have := HCN.out; show ts.length ≤ i; omega), HI1.out.put _ _ _ _, by
          obtain ⟨-, ⟨cc, hcc, hll⟩, hpre⟩ := HD.out
          refine ⟨⟨cc, hcc, bB_not (bW_D hll), fun e => bW_not47 (bW_D hll) e.1⟩, hpre, ?_⟩
          exact .inl ⟨rfl, HTD.out.2 (.inl (by trivial))⟩⟩ (by decide) ?mm
        case le => rw [HN.out]; exact (by omega)
        case il => rw [HN.out]; exact (fun _ => hi)
        case mm => rw [HN.out, ← HM.out]; exact mv_l5 (.inr (.inl rfl))
      · cases hbw : bW c
        · rw [hbw] at HPW
          go_wp2_with fail
          refine (HPW.out _).mono ?_
          rintro e w' ⟨rfl, rfl⟩
          go_wp2
          go_step3
          show DG _ cap b w g M 5 _ _
          refine DG.mk (ts) (vl) (.bool true) (_) (i) (k) ⟨rfl, rfl, by rw [HN.out]; rfl, rfl, rfl, rfl, rfl, rfl, (fun _ => rfl), ?le, ?il, (by have := HCN.out; show ts.length ≤ i; omega), HI1.out.put _ _ _ _, by
            obtain ⟨-, ⟨cc, hcc, hll⟩, hpre⟩ := HD.out
            refine ⟨⟨cc, hcc, bB_not (bW_D hll), fun e => bW_not47 (bW_D hll) e.1⟩, hpre, ?_⟩
            exact .inr ⟨rfl, _, .int .i64 0, HTD.out.1 (by trivial) (fun d hd => by have := HC.out.symm.trans hd; injection this with this; rw [← this]; exact hbw), hik, by rw [set4 HB1.out]; obtain ⟨e1, e2⟩ := HV.out (by trivial); rw [e1, e2]; rfl⟩⟩ (by decide) ?mm
          case le => rw [HN.out]; exact (by omega)
          case il => rw [HN.out]; exact (fun _ => hi)
          case mm => rw [HN.out, ← HM.out]; exact mv_l5 (.inr (.inl rfl))
        · rw [hbw] at HPW
          go_wp2_with fail
          refine (HPW.out _).mono ?_
          rintro e w' ⟨rfl, rfl⟩
          go_wp2
          go_step3
          show DG _ cap b w g M 5 _ _
          refine DG.mk (ts) (vl) (.bool false) (_) (i) (k) ⟨rfl, rfl, by rw [HN.out]; rfl, rfl, rfl, rfl, rfl, rfl, (fun _ => rfl), ?le, ?il, (by have := HCN.out; show ts.length ≤ i; omega), HI1.out.put _ _ _ _, by
            obtain ⟨-, ⟨cc, hcc, hll⟩, hpre⟩ := HD.out
            refine ⟨⟨cc, hcc, bB_not (bW_D hll), fun e => bW_not47 (bW_D hll) e.1⟩, hpre, ?_⟩
            exact .inl ⟨rfl, HTD.out.2 (.inr ⟨_, HC.out, hbw⟩)⟩⟩ (by decide) ?mm
          case le => rw [HN.out]; exact (by omega)
          case il => rw [HN.out]; exact (fun _ => hi)
          case mm => rw [HN.out, ← HM.out]; exact mv_l5 (.inr (.inl rfl))
    · obtain rfl : k = n := by omega
      have hd : decide ((k : Int) < (k : Int)) = false := by simp
      have hd2 : ((k : Int) == (k : Int)) = true := by simp
      have HC : ∀ d, b[k]? = some d → bW d = false := fun d hd => by
        have := (List.getElem?_eq_some_iff.1 hd).1
        have := HN.out
        omega
      go_wp2_with fail
      refine HW.out.mono ?_
      rintro e w1 ⟨kz, z, ok, rfl, hok, hval, hT1⟩
      obtain ⟨x0, x1, x2, x3, hb1⟩ := (HI.out.touch hT1).blk
      have hl1 := blk_lt hb1
      have c0 := cell_blk hb1 0
      have c1 := cell_blk hb1 1
      have c2 := cell_blk hb1 2
      have c3 := cell_blk hb1 3
      have f0 := free_blk hb1 0
      have f1 := free_blk hb1 1
      have f2 := free_blk hb1 2
      have f3 := free_blk hb1 3
      have HB1 := Lib.hid hb1
      have HI1 := Lib.hid (HI.out.touch hT1)
      have HTD := Lib.hid (HTOLD.out ok hok)
      have HV := Lib.hid hval
      clear hb1 hT1 hok hval
      cases ok
      · go_wp2
        go_step3
        show DG _ cap b w g M 5 _ _
        refine DG.mk (ts) (vl) (.bool false) (_) (i) (k) ⟨rfl, rfl, by rw [HN.out]; rfl, rfl, rfl, rfl, rfl, rfl, (fun _ => rfl), ?le, ?il, (by have := HCN.out; show ts.length ≤ i; omega), HI1.out.put _ _ _ _, by
          obtain ⟨-, ⟨cc, hcc, hll⟩, hpre⟩ := HD.out
          refine ⟨⟨cc, hcc, bB_not (bW_D hll), fun e => bW_not47 (bW_D hll) e.1⟩, hpre, ?_⟩
          exact .inl ⟨rfl, HTD.out.2 (.inl (by trivial))⟩⟩ (by decide) ?mm
        case le => rw [HN.out]; exact (by omega)
        case il => rw [HN.out]; exact (fun _ => hi)
        case mm => rw [HN.out, ← HM.out]; exact mv_l5 (.inr (.inl rfl))
      · go_wp2
        go_step3
        show DG _ cap b w g M 5 _ _
        refine DG.mk (ts) (vl) (.bool true) (_) (i) (k) ⟨rfl, rfl, by rw [HN.out]; rfl, rfl, rfl, rfl, rfl, rfl, (fun _ => rfl), ?le, ?il, (by have := HCN.out; show ts.length ≤ i; omega), HI1.out.put _ _ _ _, by
          obtain ⟨-, ⟨cc, hcc, hll⟩, hpre⟩ := HD.out
          refine ⟨⟨cc, hcc, bB_not (bW_D hll), fun e => bW_not47 (bW_D hll) e.1⟩, hpre, ?_⟩
          exact .inr ⟨rfl, _, .int .i64 0, HTD.out.1 (by trivial) HC, hik, by rw [set4 HB1.out]; obtain ⟨e1, e2⟩ := HV.out (by trivial); rw [e1, e2]; rfl⟩⟩ (by decide) ?mm
        case le => rw [HN.out]; exact (by omega)
        case il => rw [HN.out]; exact (fun _ => hi)
        case mm => rw [HN.out, ← HM.out]; exact mv_l5 (.inr (.inl rfl))

end Go.Proofs.YtkmbobfjoaldgaaGreatDoor

/-
  Package lex's divide, from its label told on: an error, or one token more. Conditions: at most 65536 bytes.
-/
namespace Go.Proofs.YtkmbobfjoaldgaaGreatDoor
open Go.ChangeShapes Go.WideShapes Go.ChangeAt Go.RowKit
set_option maxRecDepth 100000
set_option maxHeartbeats 4000000

/-- What holds wherever divide returns. -/
def OnRet (b : Bs) (w : World) (n : Nat) (Q : Exit → Act → World → Prop) : Prop :=
  ∀ (a : Act) (w' : World) (v2 v3 v4 : Value), a.defers = [] → a.tmps[2]? = some v2 → a.tmps[3]? = some v3 → a.tmps[4]? = some v4 → LxPost w n (lexL b) (.returned (.tuple #[v2, v3, v4])) w' → Q .ret a w'
theorem DI.put1 {w wr : World} {g : Nat} {ts : List Tk} {vl : Value} (h : DI w g ts vl wr) (j : Nat) (y : Value) (hj : j < 4) : DI w g ts vl (wr.setCell ⟨g, j, none⟩ y) := by
  obtain ⟨x0, x1, x2, x3, hb⟩ := h.blk
  have tt := (Touch.refl (fun b => b = g) wr).setCell (p := ⟨g, j, none⟩) (.inl rfl) y
  refine ⟨h.t.setCell (p := ⟨g, j, none⟩) (.inr h.ge) y, h.ge, ?_, row_touch h.row tt (fun k hk e => h.ne (e ▸ hk)), h.ne⟩
  have := set_blk hb j y
  have hcase : j = 0 ∨ j = 1 ∨ j = 2 ∨ j = 3 := by omega
  rcases hcase with rfl | rfl | rfl | rfl <;> exact ⟨_, _, _, _, this⟩
/-- One token more. -/
theorem DI.app {w wr w' : World} {g : Nat} {ts : List Tk} {vl v' : Value} (h : DI w g ts vl wr) (t : Tk) (ho : w'.ownsRow w.heap.size 60 4 v' (ts.length + 1) (tkC ts ++ TkV t)) (hg : wr.grownBy w' vl.ownBlock)
    (ha : v'.ownBlock = vl.ownBlock ∨ v'.ownBlock = some wr.heap.size) : DI w g (ts ++ [t]) v' w' := by
  have hlt := h.lt
  obtain ⟨x0, x1, x2, x3, hb⟩ := h.blk
  refine ⟨h.t.grown hg (fun k e => .inr (h.row.lt k e).1), h.ge, ⟨x0, x1, x2, x3, (hg.block g hlt (fun e => h.ne e.symm)).trans hb⟩, ?_, fun e => ?_⟩
  · rw [tkC_snoc, List.length_append]; exact ho
  · rcases ha with ha | ha
    · exact h.ne (ha ▸ e)
    · rw [ha] at e; injection e with e; omega
theorem pass5 (A : Option Addr) (n cap : Nat) (b : Bs) (w wr : World) (g M : Nat) (ts : List Tk) (vl : Value) (i k : Nat)
    {u1 u2 u3 u4 u7 u10 u11 u12 u13 u14 u15 u16 u17 u18 u19 u20 u21 u22 u23 u24 u25 u26 u27 u28 u29 u30 u31 u32 u33 u34 u35 u36 u37 u38 u39 u40 u41 u42 u43 u44 u45 u46 u47 u48 u49 u50 u51 u52 u53 u54 u55 u56 u57 u58 u59 u60 u61 u62 u63 u64 u65 u66 u67 u68 u69 u70 u71 u72 u73 u74 u75 u76 u77 u78 u79 u80 u81 u82 u83 u84 u85 u86 u87 u88 u89 u90 u91 u92 u93 u94 u95 u96 u97 u98 u99 u100 u101 u102 u103 u104 u105 u106 u107 u108 u109 u110 u111 u112 u113 u114 u115 u116 u117 u118 u119 u120 u121 u122 u123 u124 u125 u126 u127 u128 u129 u130 u131 u132 u133 u134 u135 u136 u137 u138 u139 u140 u141 u142 : Value}
    (Q : Exit → Act → World → Prop) (hQ : OnRet b w n Q) (hn : b.length = n) (hcap : n ≤ cap) (hc63 : cap ≤ 9223372036854775807) (hmax : n ≤ 65536) (hb : BAt w A b) (hev : EV w) (hI : DI w g ts vl wr) (hk : k ≤ n) (hi : i < n) (hcnt : ts.length ≤ i) (hD : DL b g ts i k u7 wr 5) (hM : mv n 5 i k = M) :
    (divX 5).wp Tryz.prog (hop (DG A cap b w g M) Q) ⟨#[.slice A n cap, u1, u2, u3, u4, vl, .pointer (some ⟨g, 0, none⟩), u7, .int .i64 (i : Int), .int .i64 (k : Int), u10, u11, u12, u13, u14, u15, u16, u17, u18, u19, u20, u21, u22, u23, u24, u25, u26, u27, u28, u29, u30, u31, u32, u33, u34, u35, u36, u37, u38, u39, u40, u41, u42, u43, u44, u45, u46, u47, u48, u49, u50, u51, u52, u53, u54, u55, u56, u57, u58, u59, u60, u61, u62, u63, u64, u65, u66, u67, u68, u69, u70, u71, u72, u73, u74, u75, u76, u77, u78, u79, u80, u81, u82, u83, u84, u85, u86, u87, u88, u89, u90, u91, u92, u93, u94, u95, u96, u97, u98, u99, u100, u101, u102, u103, u104, u105, u106, u107, u108, u109, u110, u111, u112, u113, u114, u115, u116, u117, u118, u119, u120, u121, u122, u123, u124, u125, u126, u127, u128, u129, u130, u131, u132, u133, u134, u135, u136, u137, u138, u139, u140, u141, u142], []⟩ wr := by

  have _ := hc63; have _ := hcap; have _ := hb; have _ := hev
  simp only [divX, divC, Tryz.f38, findLabel, Nat.reduceBEq, Bool.false_eq_true, if_true, if_false]
  obtain ⟨i0, hi0, hz0, hz1, hz2⟩ := info_tok'
  have HQ := Lib.hid hQ
  have HCN := Lib.hid hcnt
  have HI := Lib.hid hI
  have HN := Lib.hid hn
  have HM := Lib.hid hM
  obtain ⟨⟨c, hc, hcb, hcs⟩, hpre, hcase⟩ := hD
  rcases hcase with ⟨rfl, hno⟩ | ⟨rfl, t, y, hyes, hik, hblk⟩
  · have HR := Lib.hid (hpre.symm.trans (from_wrong hc hcb hcs hno))
    clear hQ hcnt hI hM hb hev hn hc hcb hcs hpre hno
    go_wp2
    show Q .ret _ _
    exact HQ.out _ _ _ _ _ rfl rfl rfl rfl (by rw [HR.out]; exact ⟨HI.out.t, rfl⟩)
  · have HR := Lib.hid (hpre.symm.trans (from_told hc hcb hcs (by omega) hyes))
    have htp := (tok_at hyes).1
    have hlb := blk_lt hblk
    have c0 := cell_blk hblk 0
    have c1 := cell_blk hblk 1
    have c2 := cell_blk hblk 2
    have c3 := cell_blk hblk 3
    have f2 := free_blk hblk 2
    have HB := Lib.hid hblk
    have HTP := Lib.hid htp
    clear hQ hcnt hI hM hb hev hn hc hcb hcs hpre htp hblk
    go_wp2_with (at_builtin; refine wpList_append_own_at _ rfl (.tmp 139) (.tmp 141) 50 rfl w.heap.size 60 i0 _ 4 40 Tryz.underlying50 hi0 hz0 hz1 hz2 rfl (by decide) vl ts.length (tkC ts) rfl ?o1 ⟨wr.heap.size, 0, none⟩ 1 1 (TkV t) rfl rfl ?c1 ?c2 ?c3 ?c4 ?c5 ?go)
    case o1 => exact ((HI.out.put1 2 _ (by decide)).touch ((Touch.refl _ _).alloc _)).row
    case c1 =>
      rw [show TkV t = [.int .i64 t.kd, .int .i64 t.n, .int .i64 (i : Int), .string (bs t.tx)] from by rw [TkV, HTP.out]]
      exact World.news_of_block (cs := #[.int .i64 t.kd, .int .i64 t.n, .int .i64 (i : Int), .string (bs t.tx)]) (alloc_blk _ _ 60 (by simp [World.setCell]))
    case c2 => exact TkV_one t
    case c3 => have := HCN.out; unfold maxLen; omega
    case c4 => have := HCN.out; omega
    case c5 => have := HI.out.t.size; simp [World.setCell]; omega
    case go =>
    intro v2 w2 hown2 hgrow _ ha
    have HI2 := Lib.hid (((HI.out.put1 2 (.int .i64 (i : Int)) (by decide)).touch ((Touch.refl _ _).alloc _)).app t hown2 hgrow (by rcases ha with ha | ha; exact .inl ha; exact .inr (by rw [ha]; simp [World.setCell])))
    clear hown2 hgrow ha c0 c1 c2 c3 f2 hlb
    go_wp2
    go_step3
    show DG _ cap b w g M 0 _ _
    refine DG.mk (ts ++ [t]) v2 _ _ (i) (k) ⟨rfl, rfl, by rw [HN.out]; rfl, rfl, rfl, rfl, rfl, rfl, (fun e => absurd rfl e), ?le, (fun e => absurd rfl e), (by have := HCN.out; show (ts ++ [t]).length ≤ k; rw [List.length_append]; simp; omega), HI2.out, HR.out.symm⟩ (by decide) ?mm
    case le => rw [HN.out]; exact hk
    case mm => rw [HN.out, ← HM.out]; exact mv_l0 (.inr rfl) hik hk
end Go.Proofs.YtkmbobfjoaldgaaGreatDoor

/-
  Package lex's divide, from its label sign on: a sign, and what is told of it. Conditions: at most 65536 bytes.
-/
namespace Go.Proofs.YtkmbobfjoaldgaaGreatDoor
open Go.ChangeShapes Go.WideShapes Go.ChangeAt Go.RowKit
set_option maxRecDepth 100000
set_option maxHeartbeats 4000000

theorem told_sign {b : Bs} {i m : Nat} {c : UInt8} (h : b[i]? = some c) (h1 : bL c = false) (h2 : bD c = false) (hm : sgnL c (b.drop (i + 1)) = m) :
    (m = 0 → tokL i (b.drop i) = none) ∧ (0 < m → tokL i (b.drop i) = some (⟨4, 0, i, cut b i (i + m)⟩, m)) := by
  rw [tok_sign h h1 h2, hm]
  refine ⟨fun e => if_pos e, fun e => if_neg (by omega)⟩
theorem pass4 (A : Option Addr) (n cap : Nat) (b : Bs) (w wr : World) (g M : Nat) (ts : List Tk) (vl : Value) (i k : Nat)
    {u1 u2 u3 u4 u7 u10 u11 u12 u13 u14 u15 u16 u17 u18 u19 u20 u21 u22 u23 u24 u25 u26 u27 u28 u29 u30 u31 u32 u33 u34 u35 u36 u37 u38 u39 u40 u41 u42 u43 u44 u45 u46 u47 u48 u49 u50 u51 u52 u53 u54 u55 u56 u57 u58 u59 u60 u61 u62 u63 u64 u65 u66 u67 u68 u69 u70 u71 u72 u73 u74 u75 u76 u77 u78 u79 u80 u81 u82 u83 u84 u85 u86 u87 u88 u89 u90 u91 u92 u93 u94 u95 u96 u97 u98 u99 u100 u101 u102 u103 u104 u105 u106 u107 u108 u109 u110 u111 u112 u113 u114 u115 u116 u117 u118 u119 u120 u121 u122 u123 u124 u125 u126 u127 u128 u129 u130 u131 u132 u133 u134 u135 u136 u137 u138 u139 u140 u141 u142 : Value}
    (Q : Exit → Act → World → Prop) (hQ : OnRet b w n Q) (hn : b.length = n) (hcap : n ≤ cap) (hc63 : cap ≤ 9223372036854775807) (hmax : n ≤ 65536) (hb : BAt w A b) (hev : EV w) (hI : DI w g ts vl wr) (hk : k ≤ n) (hi : i < n) (hcnt : ts.length ≤ i) (hD : DL b g ts i k u7 wr 4) (hM : mv n 4 i k = M) :
    (divX 4).wp Tryz.prog (hop (DG A cap b w g M) Q) ⟨#[.slice A n cap, u1, u2, u3, u4, vl, .pointer (some ⟨g, 0, none⟩), u7, .int .i64 (i : Int), .int .i64 (k : Int), u10, u11, u12, u13, u14, u15, u16, u17, u18, u19, u20, u21, u22, u23, u24, u25, u26, u27, u28, u29, u30, u31, u32, u33, u34, u35, u36, u37, u38, u39, u40, u41, u42, u43, u44, u45, u46, u47, u48, u49, u50, u51, u52, u53, u54, u55, u56, u57, u58, u59, u60, u61, u62, u63, u64, u65, u66, u67, u68, u69, u70, u71, u72, u73, u74, u75, u76, u77, u78, u79, u80, u81, u82, u83, u84, u85, u86, u87, u88, u89, u90, u91, u92, u93, u94, u95, u96, u97, u98, u99, u100, u101, u102, u103, u104, u105, u106, u107, u108, u109, u110, u111, u112, u113, u114, u115, u116, u117, u118, u119, u120, u121, u122, u123, u124, u125, u126, u127, u128, u129, u130, u131, u132, u133, u134, u135, u136, u137, u138, u139, u140, u141, u142], []⟩ wr := by

  have _ := hev; have _ := hk
  simp only [divX, divC, Tryz.f38, findLabel, Nat.reduceBEq, Bool.false_eq_true, if_true, if_false]
  obtain ⟨i0, hi0, hz0, hz1, hz2⟩ := info_tok'
  have hblkg : blk0 A < g := by
    have h1 := hb (by intro e; subst e; simp at hn; omega)
    obtain ⟨blk, off, rfl, h2, -⟩ := h1
    exact Nat.lt_of_lt_of_le h2 hI.ge
  have HQ := Lib.hid hQ
  have HCN := Lib.hid hcnt
  have HI := Lib.hid hI
  have HN := Lib.hid hn
  have HM := Lib.hid hM
  obtain ⟨hki, ⟨c, hc, hcb, hcs, hcl, hcd⟩, hpre⟩ := hD
  have hbr := hb.touch hI.t
  have hbne : i < b.length := by rw [hn]; exact hi
  have hicap : i < cap := by omega
  obtain ⟨blk, off, rfl, hblk, -, hcells⟩ := bat_at hbr hbne
  have HCells := Lib.hid hcells
  have hdr := drop_at hc
  have hrl : (b.drop (i + 1)).length + 1 = n - i := by rw [List.length_drop, hn]; omega
  have hcs2 : ∀ (j : Nat) (d : UInt8), (c :: b.drop (i + 1))[j]? = some d → wr.cell? ⟨blk, off + i + j, none⟩ = some (.int .u8 (d.toNat : Int)) := fun j d hj => by
    rw [← hdr, List.getElem?_drop] at hj
    rw [Nat.add_assoc]
    exact hcells (i + j) d hj
  have HS := Lib.hid (sgnlen_any (w := wr) (b := blk) (off := off + i) (n := n - i) (cap := cap - i) hrl (by omega) hcs2)
  obtain ⟨m, hm⟩ : ∃ m, sgnL c (b.drop (i + 1)) = m := ⟨_, rfl⟩
  have hml : m ≤ 2 := by have := sgn_few c (b.drop (i + 1)); omega
  have hmn : i + m ≤ n := by
    have := sgn_le c (b.drop (i + 1))
    rw [hm] at this
    simp only [List.length_cons] at this
    omega
  rw [hm] at HS
  have htold := told_sign hc hcl hcd hm
  obtain ⟨q, hq⟩ : ∃ q, i + m = q := ⟨_, rfl⟩
  rw [hq] at htold hmn
  have hsl := slice_from (P := Tryz.prog) Tryz.underlying33 Tryz.sizeOf5 wr blk off n cap i (by omega) hicap
  have hsw := slice_win (P := Tryz.prog) Tryz.underlying33 Tryz.sizeOf5 wr blk off n cap i q (by omega) (by omega) hicap
  have htx : (convert 33 9 (.slice (some ⟨blk, off + i, none⟩) (q - i) (cap - i))).run Tryz.prog wr = .ok (.string (bs (cut b i q))) wr :=
    BAt.text 33 5 9 Tryz.underlying33 Tryz.underlying5 Tryz.underlying9 (fun j d hj => hcells j d hj) (by omega) (by rw [hn]; exact hmn) _ rfl
  have hwr : IntKind.i64.wrap ((i : Int) + (m : Int)) = (q : Int) := by
    rw [show (i : Int) + (m : Int) = (q : Int) from by omega]
    exact IntWalk.i64_in _ (by omega)
  obtain ⟨x0, x1, x2, x3, hb1⟩ := hI.blk
  have hl1 := blk_lt hb1
  have c0 := cell_blk hb1 0
  have c1 := cell_blk hb1 1
  have c2 := cell_blk hb1 2
  have c3 := cell_blk hb1 3
  have f0 := free_blk hb1 0
  have f1 := free_blk hb1 1
  have f2 := free_blk hb1 2
  have f3 := free_blk hb1 3
  have HB1 := Lib.hid hb1
  subst hki
  obtain ⟨s, hs⟩ : ∃ s, bs (cut b k q) = s := ⟨_, rfl⟩
  rw [hs] at htx
  have HSs := Lib.hid hs
  have HQQ := Lib.hid hq
  have HBW := Lib.hid (And.intro hb hev)
  have HD5 := Lib.hid (And.intro (And.intro hc (And.intro hcb hcs)) (And.intro hpre htold))
  clear hQ hcnt hI hM hb hev hn hc hcb hcs hcl hcd hpre hbr hbne hcells hdr hrl hcs2 hm htold hs hq hb1 hblkg
  go_wp2_with fail
  refine HS.out.mono ?_
  rintro e w' ⟨rfl, rfl⟩
  go_wp2
  go_step3
  rename_i hgo
  refine hgo _ _ ?_
  have E := Eq.refl (divX 5)
  conv at E => rhs; simp only [divX, divC, Tryz.f38, findLabel, Nat.reduceBEq, Bool.false_eq_true, if_true, if_false]
  rw [← E]
  clear E hgo
  refine Go.wp_mono (Q := hop (DG (some ⟨blk, off, none⟩) cap b w g (mv n 5 k q)) Q) ?_ (hop_mono (fun l a w h => h.up (Nat.le_of_lt ?le)))
  case le => rw [← HM.out]; exact mv_l5 (.inr (.inr rfl))
  refine pass5 _ _ _ _ _ _ _ _ _ _ _ _ Q HQ.out HN.out hcap hc63 hmax HBW.out.1 HBW.out.2 (HI.out.put _ _ _ _) hmn hi HCN.out ?_ rfl
  obtain ⟨⟨hc, hcb, hcs⟩, hpre, ht0, ht1⟩ := HD5.out
  refine ⟨⟨c, hc, hcb, hcs⟩, hpre, ?_⟩
  by_cases h0 : m = 0
  · exact .inl ⟨by have := HQQ.out; simp; omega, ht0 h0⟩
  · have e : q - k = m := by have := HQQ.out; omega
    exact .inr ⟨by have := HQQ.out; simp; omega, _, .int .i64 0, by rw [e]; exact ht1 (by omega), by have := HQQ.out; omega, by rw [set4 HB1.out]; simp only [HSs.out]; rfl⟩
end Go.Proofs.YtkmbobfjoaldgaaGreatDoor

/-
  Package lex's divide, from its label between on: the end of the text, a blank, or where a remark or a token begins. Conditions: at most 65536 bytes.
-/
namespace Go.Proofs.YtkmbobfjoaldgaaGreatDoor
open Go.ChangeShapes Go.WideShapes Go.ChangeAt Go.RowKit
set_option maxRecDepth 100000
set_option maxHeartbeats 4000000

/-- Does a text begin with two slashes? -/
def sl2 : Bs → Bool
  | [] => false
  | c :: r => decide (c.toNat = 47) && slash r
theorem beq47 (c : UInt8) : ((47 : UInt8) == c) = decide (c.toNat = 47) := by
  rw [Bool.beq_comm, beq_nat]; rfl
theorem prefix_sl2 (l : Bs) : Lib.hasPrefix l [47, 47] = sl2 l := by
  cases l with
  | nil => rfl
  | cons c r =>
    cases r with
    | nil =>
      show ((47 == c) && false) = _
      simp [sl2, slash]
    | cons d q =>
      show ((47 == c) && ((47 == d) && true)) = _
      rw [beq47, beq47, Bool.and_true]
      rfl
theorem nums_of (l : Bs) : Lib.bytesOf (l.map fun c => (c.toNat : Int)) = l := by
  unfold Lib.bytesOf
  rw [List.map_map]
  conv => rhs; rw [← List.map_id l]
  exact List.map_congr_left fun c _ => by simp
theorem prefix_any {w : World} {b off n cap g2 cap2 : Nat} {l : Bs} (hn : l.length = n) (hcap : n ≤ cap) (hc : ∀ (i : Nat) (c : UInt8), l[i]? = some c → w.cell? ⟨b, off + i, none⟩ = some (.int .u8 (c.toNat : Int)))
    (h2 : ∀ i, i < 2 → w.cell? ⟨g2, 0 + i, none⟩ = some (.int .u8 47)) :
    Calls Tryz.prog 72 #[.slice (some ⟨b, off, none⟩) n cap, .slice (some ⟨g2, 0, none⟩) 2 cap2] w fun e w' => e = .returned (.bool (sl2 l)) ∧ w = w' := by
  refine (Tryz.bytes_HasPrefix b off n cap g2 0 2 cap2 (l.map fun c => (c.toNat : Int)) [47, 47] w (by simpa using hn) rfl hcap (fun i hi => ?_) (fun i hi => ?_)).mono ?_
  · have hl : i < l.length := by omega
    rw [hc i _ (List.getElem?_eq_getElem hl)]
    congr 2
    simp [List.getD, hl]
  · rw [h2 i hi]
    have : i = 0 ∨ i = 1 := by omega
    rcases this with rfl | rfl <;> rfl
  · rintro e w' ⟨rfl, rfl⟩
    exact ⟨by rw [nums_of, show Lib.bytesOf [47, 47] = [47, 47] from by decide, prefix_sl2], rfl⟩
theorem sl2_at {b : Bs} {k : Nat} {c : UInt8} (h : b[k]? = some c) : sl2 (b.drop k) = true ↔ c.toNat = 47 ∧ slash (b.drop (k + 1)) = true := by
  rw [drop_at h, sl2, Bool.and_eq_true, decide_eq_true_eq]
theorem two_new (w : World) (t : TypeId) (fr : Nat × Nat) : ∀ i, i < 2 → (w.alloc (.cells #[.int .u8 47, .int .u8 47] t fr)).cell? ⟨w.heap.size, 0 + i, none⟩ = some (.int .u8 47) := by
  intro i hi
  have h : (w.alloc (.cells #[.int .u8 47, .int .u8 47] t fr)).heap[w.heap.size]? = some (.cells #[.int .u8 47, .int .u8 47] t fr) := heap_alloc_new w _
  rw [cell_of_row _ _ _ _ _ _ h]
  have : i = 0 ∨ i = 1 := by omega
  rcases this with rfl | rfl <;> rfl
/-- A slice from its end on. -/
theorem slice_end {P : Program} {t e : TypeId} (ht : P.underlying t = some (.slice e)) (hz : ∀ w, (Go.sizeOf e).run P w = .ok 1 w) (A : Option Addr) (len cap : Nat) :
    ∃ A' c', ∀ W, (Instr.slice t (.slice A len cap) (some (.int .i64 (len : Int))) none none).run P W = .ok (.slice A' 0 c') W := by
  have ht' : P.underlying t = some (.slice (P.elem t)) := by simp [Program.elem, ht]
  have he : P.elem t = e := by simp [Program.elem, ht]
  refine ⟨(if cap = len then A else A.map (·.add (len * 1))), cap - len, fun W => ?_⟩
  rw [run_slice_l W t _ _ _ ht' .i64 _ (by omega) (by omega), he, hz]
  simp only [Result.andThen, sliced, Int.toNat_natCast, Nat.sub_self]
/-- The end of the text, behind the tokens found. -/
theorem DI.last {w wr w' : World} {g : Nat} {ts : List Tk} {vl v' : Value} {n : Nat} (h : DI w g ts vl wr) (ho : w'.ownsRow w.heap.size 60 4 v' (ts.length + 1) (tkC ts ++ TkV ⟨0, 0, n, []⟩)) (hg : wr.grownBy w' vl.ownBlock) {x : Lx}
    (hx : x = .good (ts ++ [⟨0, 0, n, []⟩])) : LxPost w n x (.returned (.tuple #[v', .int .i64 n, .int .i64 0])) w' := by
  subst hx
  exact ⟨h.t.grown hg (fun k e => .inr (h.row.lt k e).1), v', rfl, by rw [tkC_snoc, List.length_append]; exact ho⟩

theorem pass0 (A : Option Addr) (n cap : Nat) (b : Bs) (w wr : World) (g M : Nat) (ts : List Tk) (vl : Value) (i k : Nat)
    {u1 u2 u3 u4 u7 u8 u10 u11 u12 u13 u14 u15 u16 u17 u18 u19 u20 u21 u22 u23 u24 u25 u26 u27 u28 u29 u30 u31 u32 u33 u34 u35 u36 u37 u38 u39 u40 u41 u42 u43 u44 u45 u46 u47 u48 u49 u50 u51 u52 u53 u54 u55 u56 u57 u58 u59 u60 u61 u62 u63 u64 u65 u66 u67 u68 u69 u70 u71 u72 u73 u74 u75 u76 u77 u78 u79 u80 u81 u82 u83 u84 u85 u86 u87 u88 u89 u90 u91 u92 u93 u94 u95 u96 u97 u98 u99 u100 u101 u102 u103 u104 u105 u106 u107 u108 u109 u110 u111 u112 u113 u114 u115 u116 u117 u118 u119 u120 u121 u122 u123 u124 u125 u126 u127 u128 u129 u130 u131 u132 u133 u134 u135 u136 u137 u138 u139 u140 u141 u142 : Value}
    (Q : Exit → Act → World → Prop) (hQ : OnRet b w n Q) (hn : b.length = n) (hcap : n ≤ cap) (hc63 : cap ≤ 9223372036854775807) (hmax : n ≤ 65536) (hb : BAt w A b) (hev : EV w) (hI : DI w g ts vl wr) (hk : k ≤ n) (hcnt : ts.length ≤ k) (hD : DL b g ts i k u7 wr 0) (hM : mv n 0 i k = M) :
    (divX 0).wp Tryz.prog (hop (DG A cap b w g M) Q) ⟨#[.slice A n cap, u1, u2, u3, u4, vl, .pointer (some ⟨g, 0, none⟩), u7, u8, .int .i64 (k : Int), u10, u11, u12, u13, u14, u15, u16, u17, u18, u19, u20, u21, u22, u23, u24, u25, u26, u27, u28, u29, u30, u31, u32, u33, u34, u35, u36, u37, u38, u39, u40, u41, u42, u43, u44, u45, u46, u47, u48, u49, u50, u51, u52, u53, u54, u55, u56, u57, u58, u59, u60, u61, u62, u63, u64, u65, u66, u67, u68, u69, u70, u71, u72, u73, u74, u75, u76, u77, u78, u79, u80, u81, u82, u83, u84, u85, u86, u87, u88, u89, u90, u91, u92, u93, u94, u95, u96, u97, u98, u99, u100, u101, u102, u103, u104, u105, u106, u107, u108, u109, u110, u111, u112, u113, u114, u115, u116, u117, u118, u119, u120, u121, u122, u123, u124, u125, u126, u127, u128, u129, u130, u131, u132, u133, u134, u135, u136, u137, u138, u139, u140, u141, u142], []⟩ wr := by

  have _ := hev; have _ := hc63
  simp only [divX, divC, Tryz.f38, findLabel, Nat.reduceBEq, if_true]
  obtain ⟨i0, hi0, hz0, hz1, hz2⟩ := info_tok'
  have HQ := Lib.hid hQ
  have HCN := Lib.hid hcnt
  have HI := Lib.hid hI
  have HN := Lib.hid hn
  have HM := Lib.hid hM
  have HB := Lib.hid (hb.touch hI.t)
  have HD := Lib.hid hD
  clear hQ hcnt hI hn hM hb hD hev
  by_cases hlt : k < n
  · obtain ⟨blk, off, rfl, hblk, ⟨c, hc, hc0⟩, hcells⟩ := bat_at HB.out (by rw [HN.out]; exact hlt)
    have hsl := fun W => slice_from (P := Tryz.prog) Tryz.underlying33 Tryz.sizeOf5 W blk off n cap k (by omega) (by omega)
    have hrl : (b.drop k).length = n - k := by rw [List.length_drop, HN.out]
    have HP := Lib.hid (fun (W : World) (hW : Touch NoB wr W) (h2 : ∀ i, i < 2 → W.cell? ⟨wr.heap.size, 0 + i, none⟩ = some (.int .u8 47)) =>
      prefix_any (w := W) (b := blk) (off := off + k) (n := n - k) (cap := cap - k) (g2 := wr.heap.size) (cap2 := 2) (l := b.drop k) hrl (by omega) (fun j d hj => by
        rw [List.getElem?_drop] at hj
        rw [Nat.add_assoc]
        exact (hW.cell (p := ⟨blk, off + (k + j), none⟩) hblk (fun x => x)).trans (hcells (k + j) d hj)) h2 |>.mono fun e w' h => (show e = .returned (.bool (sl2 (b.drop k))) ∧ Touch NoB wr w' ∧ w'.cell? ⟨blk, off + k, none⟩ = some (.int .u8 (c.toNat : Int)) from ⟨h.1, h.2 ▸ hW, by rw [← h.2]; exact (hW.cell (p := ⟨blk, off + k, none⟩) hblk (fun x => x)).trans hc0⟩))
    have hkc := fun (w : World) (C : Array Value) (n c : Nat) => Lib.run_convert_bytes_const w 33 5 C n c Tryz.underlying33 Tryz.underlying5
    have HS := Lib.hid (fun W => lspace_any (c.toNat : Int) W)
    have HL := Lib.hid (fun W => lletter_any (c.toNat : Int) W)
    have HDG := Lib.hid (fun W => ldigit_any (c.toNat : Int) W)
    rw [spcB_b] at HS
    rw [letB_b] at HL
    rw [digB_b] at HDG
    have HCc := Lib.hid hc
    have hp1 := sl2_at hc
    have HP1 := Lib.hid hp1
    have hlen : ((n - k : Nat) : Int) ≠ 0 := by omega
    have hlen0 : (((n - k : Nat) : Int) == 0) = false := by simp; omega
    have h0nk : 0 < n - k := by omega
    have HPre : Hid (Lx.pre ts (fromS false b k) = lexL b) := Lib.hid HD.out
    have hc1 : wr.cell? ⟨blk, off + k, none⟩ = some (.int .u8 (c.toNat : Int)) := hc0
    obtain ⟨x, hx⟩ : ∃ x, (c.toNat : Int) = x := ⟨_, rfl⟩
    rw [hx] at hc1 HS HL HDG
    simp only [hx] at HP
    obtain ⟨m, hm⟩ : ∃ m, n - k = m := ⟨_, rfl⟩
    rw [hm] at hlen0 h0nk HP
    simp only [hm] at hsl
    clear hc hp1 hrl hcells hx hc0 HD HB hlen hm
    cases hsp : bB c
    · rw [hsp] at HS
      have HSP := Lib.hid hsp
      clear hsp
      cases h47 : sl2 (b.drop k)
      · rw [h47] at HP
        have HNo : Hid (¬ (c.toNat = 47 ∧ slash (b.drop (k + 1)) = true)) := Lib.hid (fun e => by have := HP1.out.2 e; rw [h47] at this; cases this)
        clear h47
        cases hll : bL c
        · rw [hll] at HL
          have HLL := Lib.hid hll
          clear hll
          cases hdd : bD c
          · rw [hdd] at HDG
            have HDD := Lib.hid hdd
            clear hdd
            go_wp2_with fail
            refine (HS.out _).mono ?_
            rintro e w' ⟨rfl, rfl⟩
            go_wp2_with fail
            refine (HP.out _ (by repeat (first | with_reducible exact Touch.refl _ _ | with_reducible refine Touch.alloc ?_ _)) (two_new wr _ _)).mono ?_
            rintro e w1 ⟨rfl, hT1, hc2⟩
            have HI1 := Lib.hid (HI.out.touch hT1)
            clear hT1 hc1
            go_wp2_with fail
            refine (HL.out _).mono ?_
            rintro e w' ⟨rfl, rfl⟩
            go_wp2_with fail
            refine (HDG.out _).mono ?_
            rintro e w' ⟨rfl, rfl⟩
            go_wp2
            go_step3
            show DG _ cap b w g M 4 _ _
            refine DG.mk ts vl _ _ k k ⟨rfl, rfl, by rw [HN.out]; rfl, rfl, rfl, rfl, rfl, rfl, (fun _ => rfl), ?le, ?il, HCN.out, HI1.out, ⟨rfl, ⟨c, HCc.out, HSP.out, HNo.out, HLL.out, HDD.out⟩, HPre.out⟩⟩ (by decide) ?mm
            case le => rw [HN.out]; exact hk
            case il => rw [HN.out]; exact (fun _ => hlt)
            case mm => rw [HN.out, ← HM.out]; exact mv_0l (.inr (.inr (.inr rfl))) hk
          · rw [hdd] at HDG
            have HDD := Lib.hid hdd
            clear hdd
            go_wp2_with fail
            refine (HS.out _).mono ?_
            rintro e w' ⟨rfl, rfl⟩
            go_wp2_with fail
            refine (HP.out _ (by repeat (first | with_reducible exact Touch.refl _ _ | with_reducible refine Touch.alloc ?_ _)) (two_new wr _ _)).mono ?_
            rintro e w1 ⟨rfl, hT1, hc2⟩
            have HI1 := Lib.hid (HI.out.touch hT1)
            clear hT1 hc1
            go_wp2_with fail
            refine (HL.out _).mono ?_
            rintro e w' ⟨rfl, rfl⟩
            go_wp2_with fail
            refine (HDG.out _).mono ?_
            rintro e w' ⟨rfl, rfl⟩
            go_wp2
            go_step3
            show DG _ cap b w g M 3 _ _
            refine DG.mk ts vl _ _ k k ⟨rfl, rfl, by rw [HN.out]; rfl, rfl, rfl, rfl, rfl, rfl, (fun _ => rfl), ?le, ?il, HCN.out, HI1.out, ⟨Run.start _ (by rw [HN.out]; exact hk), ⟨c, HCc.out, HDD.out⟩, HPre.out⟩⟩ (by decide) ?mm
            case le => rw [HN.out]; exact hk
            case il => rw [HN.out]; exact (fun _ => hlt)
            case mm => rw [HN.out, ← HM.out]; exact mv_0l (.inr (.inr (.inl rfl))) hk
        · rw [hll] at HL
          have HLL := Lib.hid hll
          clear hll
          go_wp2_with fail
          refine (HS.out _).mono ?_
          rintro e w' ⟨rfl, rfl⟩
          go_wp2_with fail
          refine (HP.out _ (by repeat (first | with_reducible exact Touch.refl _ _ | with_reducible refine Touch.alloc ?_ _)) (two_new wr _ _)).mono ?_
          rintro e w1 ⟨rfl, hT1, hc2⟩
          have HI1 := Lib.hid (HI.out.touch hT1)
          clear hT1 hc1
          go_wp2_with fail
          refine (HL.out _).mono ?_
          rintro e w' ⟨rfl, rfl⟩
          go_wp2
          go_step3
          show DG _ cap b w g M 2 _ _
          refine DG.mk ts vl _ _ k k ⟨rfl, rfl, by rw [HN.out]; rfl, rfl, rfl, rfl, rfl, rfl, (fun _ => rfl), ?le, ?il, HCN.out, HI1.out, ⟨Run.start _ (by rw [HN.out]; exact hk), ⟨c, HCc.out, HLL.out⟩, HPre.out⟩⟩ (by decide) ?mm
          case le => rw [HN.out]; exact hk
          case il => rw [HN.out]; exact (fun _ => hlt)
          case mm => rw [HN.out, ← HM.out]; exact mv_0l (.inr (.inl rfl)) hk
      · rw [h47] at HP
        have H47 := Lib.hid (HP1.out.1 h47)
        clear h47
        go_wp2_with fail
        refine (HS.out _).mono ?_
        rintro e w' ⟨rfl, rfl⟩
        go_wp2_with fail
        refine (HP.out _ (by repeat (first | with_reducible exact Touch.refl _ _ | with_reducible refine Touch.alloc ?_ _)) (two_new wr _ _)).mono ?_
        rintro e w1 ⟨rfl, hT1, -⟩
        have HI1 := Lib.hid (HI.out.touch hT1)
        clear hT1
        go_wp2
        go_step3
        show DG _ cap b w g M 1 _ _
        refine DG.mk ts vl _ _ k k ⟨rfl, rfl, by rw [HN.out]; rfl, rfl, rfl, rfl, rfl, rfl, (fun _ => rfl), ?le, ?il, HCN.out, HI1.out, ⟨Run.start _ (by rw [HN.out]; exact hk), ⟨c, HCc.out, H47.out.1⟩, by rw [← from_remark HCc.out H47.out.1 H47.out.2]; exact HPre.out⟩⟩ (by decide) ?mm
        case le => rw [HN.out]; exact hk
        case il => rw [HN.out]; exact (fun _ => hlt)
        case mm => rw [HN.out, ← HM.out]; exact mv_0l (.inl rfl) hk
    · rw [hsp] at HS
      have HSP := Lib.hid hsp
      clear hsp
      go_wp2_with fail
      refine (HS.out _).mono ?_
      rintro e w' ⟨rfl, rfl⟩
      go_wp2
      go_step3
      show DG _ cap b w g M 0 _ _
      refine DG.mk ts vl _ _ i (k + 1) ⟨rfl, rfl, by rw [HN.out]; rfl, rfl, rfl, rfl, rfl, by simp [slot], (fun e => absurd rfl e), ?le, (fun e => absurd rfl e), (by have := HCN.out; show ts.length ≤ k + 1; omega), HI.out, by show _ = _; rw [← HPre.out, from_blank HCc.out HSP.out]⟩ (by decide) ?mm
      case le => rw [HN.out]; exact (by omega)
      case mm => rw [HN.out, ← HM.out]; exact mv_00 hlt
  · obtain rfl : k = n := by omega
    obtain ⟨A', c', hsl⟩ := slice_end (P := Tryz.prog) Tryz.underlying33 Tryz.sizeOf5 A k cap
    have HR : Hid (lexL b = .good (ts ++ [⟨0, 0, k, []⟩])) := by
      refine Lib.hid ?_
      have h0 : Lx.pre ts (fromS false b k) = lexL b := HD.out
      rw [← h0, ← HN.out, from_end]; rfl
    clear HD
    go_wp2_with (at_builtin; refine wpList_append_own_at _ rfl (.tmp 19) (.tmp 22) 50 rfl w.heap.size 60 i0 _ 4 40 Tryz.underlying50 hi0 hz0 hz1 hz2 rfl (by decide) vl ts.length (tkC ts) rfl ?o1 ⟨wr.heap.size, 0, none⟩ 1 1 (TkV ⟨0, 0, k, []⟩) rfl rfl ?c1 ?c2 ?c3 ?c4 ?c5 ?go)
    case o1 => exact (HI.out.touch ((Touch.refl _ _).alloc _)).row
    case c1 => exact World.news_of_block (cs := #[.int .i64 0, .int .i64 0, .int .i64 (k : Int), .string ⟨#[]⟩]) (alloc_blk _ _ 60 rfl)
    case c2 => exact TkV_one _
    case c3 => have := HCN.out; unfold maxLen; omega
    case c4 => have := HCN.out; omega
    case c5 => have := HI.out.t.size; simp; omega
    case go =>
    intro v2 w2 hown2 hgrow _ _
    have HP := Lib.hid ((HI.out.touch ((Touch.refl _ _).alloc _)).last hown2 hgrow HR.out)
    clear hown2 hgrow
    go_wp2
    show Q .ret _ _
    exact HQ.out _ _ _ _ _ rfl rfl rfl rfl HP.out
end Go.Proofs.YtkmbobfjoaldgaaGreatDoor

/-
  What package lex's divide returns: what the lexer on lists of bytes comes to. Conditions: at most 65536 bytes; the library's own variable can be read.
-/
namespace Go.Proofs.YtkmbobfjoaldgaaGreatDoor
open Go.ChangeShapes Go.WideShapes Go.ChangeAt Go.RowKit
set_option maxRecDepth 100000
set_option maxHeartbeats 4000000

/-- From each label on. -/
theorem pass_all {A : Option Addr} {cap : Nat} {b : Bs} {w wr : World} {g l : Nat} {a : Act} (Q : Exit → Act → World → Prop) (hQ : OnRet b w b.length Q) (hcap : b.length ≤ cap) (hc63 : cap ≤ 9223372036854775807) (hmax : b.length ≤ 65536) (hb : BAt w A b) (hev : EV w)
    (hJ : DJ A cap b w g l a wr) : (divX l).wp Tryz.prog (hop (DG A cap b w g (mu b.length l a)) Q) a wr := by
  obtain ⟨hl, ts, vl, v7, v8, i, k, h⟩ := hJ
  have hcase : l = 0 ∨ l = 1 ∨ l = 2 ∨ l = 3 ∨ l = 4 ∨ l = 5 := by omega
  have hfr := frame_slots h.len h.dfr
  rw [h.mu]
  rcases hcase with rfl | rfl | rfl | rfl | rfl | rfl
  · rw [hfr, h.s0, h.s5, h.s6, h.s7, h.s9]
    exact pass0 A _ cap b w wr g _ ts vl i k Q hQ rfl hcap hc63 hmax hb hev h.di h.le h.cnt h.dl rfl
  · have h8 := h.s8.trans (h.at8 (by decide))
    rw [hfr, h.s0, h.s5, h.s6, h.s7, h8, h.s9]
    exact pass1 A _ cap b w wr g _ ts vl i k Q rfl hcap hc63 hmax hb hev h.di h.le (h.ilt (by decide)) h.cnt h.dl rfl
  · have h8 := h.s8.trans (h.at8 (by decide))
    rw [hfr, h.s0, h.s5, h.s6, h.s7, h8, h.s9]
    exact pass2 A _ cap b w wr g _ ts vl i k Q rfl hcap hc63 hmax hb hev h.di h.le (h.ilt (by decide)) h.cnt h.dl rfl
  · have h8 := h.s8.trans (h.at8 (by decide))
    rw [hfr, h.s0, h.s5, h.s6, h.s7, h8, h.s9]
    exact pass3 A _ cap b w wr g _ ts vl i k Q rfl hcap hc63 hmax hb hev h.di h.le (h.ilt (by decide)) h.cnt h.dl rfl
  · have h8 := h.s8.trans (h.at8 (by decide))
    rw [hfr, h.s0, h.s5, h.s6, h.s7, h8, h.s9]
    exact pass4 A _ cap b w wr g _ ts vl i k Q hQ rfl hcap hc63 hmax hb hev h.di h.le (h.ilt (by decide)) h.cnt h.dl rfl
  · have h8 := h.s8.trans (h.at8 (by decide))
    rw [hfr, h.s0, h.s5, h.s6, h.s7, h8, h.s9]
    exact pass5 A _ cap b w wr g _ ts vl i k Q hQ rfl hcap hc63 hmax hb hev h.di h.le (h.ilt (by decide)) h.cnt h.dl rfl

theorem divide_any (A : Option Addr) (n cap : Nat) (b : Bs) (w : World) (hn : b.length = n) (hcap : n ≤ cap) (hc63 : cap ≤ 9223372036854775807) (hmax : n ≤ 65536) (hb : BAt w A b) (hev : EV w) :
    Calls Tryz.prog 38 #[.slice A n cap] w fun e w' => LxPost w n (lexL b) e w' := by
  subst hn
  have HB := Lib.hid hb
  have HE := Lib.hid hev
  clear hb hev
  go_enter Tryz.func38, Tryz.ntmps38
  go_wp2
  rename_i Q'
  have HQ : Hid (OnRet b w b.length Q') := Lib.hid (fun a w' v2 v3 v4 h1 h2 h3 h4 hP => bodyPost_ret (v := .tuple #[v2, v3, v4]) (by simp [results, Tryz.results38, go_sem, h2, h3, h4]) h1 hP)
  obtain ⟨Q, hQQ⟩ : ∃ Q, Q' = Q := ⟨_, rfl⟩
  rw [hQQ] at HQ
  clear_value Q'
  subst hQQ
  refine scope_hops (fun l => .seq .skip (divX l)) (fun l a wr => DJ A cap b w w.heap.size l a wr) (fun l a _ => mu b.length l a) (fun l a wr h => divX_some l h.1) ?first (fun l a wr h => wp_seq (wp_skip ?pass))
  case pass => exact pass_all Q' HQ.out hcap hc63 hmax HB.out HE.out h
  go_wp2
  go_step3
  rename_i hgo
  refine hgo _ _ ?_
  have E := Eq.refl (divX 0)
  conv at E => rhs; simp only [divX, divC, Tryz.f38, findLabel, Nat.reduceBEq, if_true]
  rw [← E]
  clear E hgo
  refine Go.wp_mono (Q := hop (DG A cap b w w.heap.size (mv b.length 0 0 0)) Q') ?_ (hop_mono (fun l a w h => h.1))
  have hI : DI w w.heap.size [] (.slice none 0 0) (w.alloc (.cells #[.int .i64 0, .int .i64 0, .int .i64 0, .string ⟨#[]⟩] 60)) :=
    ⟨(Touch.refl _ _).alloc _, Nat.le_refl _, ⟨_, _, _, _, alloc_blk w _ 60 rfl⟩, World.ownsRow_nil _ _ _ _, by simp [Value.ownBlock]⟩
  exact pass0 A _ cap b w _ w.heap.size _ [] (.slice none 0 0) 0 0 Q' HQ.out rfl hcap hc63 hmax HB.out HE.out hI (Nat.zero_le _) (Nat.zero_le _) (by show Lx.pre [] _ = _; rw [Lx.pre_nil, lex_from]) rfl

theorem tokens_any (A : Option Addr) (n cap : Nat) (b : Bs) (w : World) (hn : b.length = n) (hcap : n ≤ cap) (hc63 : cap ≤ 9223372036854775807) (hb : BAt w A b) (hev : EV w) :
    Calls Tryz.prog 15 #[.slice A n cap] w (TokPost w b) := by
  by_cases h : n ≤ 65536
  · have HD := Lib.hid (divide_any A n cap b w hn hcap hc63 h hb hev)
    have hd : decide ((65536 : Int) < (n : Int)) = false := by simp; omega
    have HP : Hid (∀ e w', LxPost w n (lexL b) e w' → TokPost w b e w') := Lib.hid (fun e w' x => by unfold TokPost; rw [hn, if_pos h]; exact x)
    clear hb hev hn
    cases hx : lexL b with
    | good ts =>
      rw [hx] at HD HP
      go_enter Tryz.func15, Tryz.ntmps15
      go_wp2_with fail
      refine HD.out.mono ?_
      rintro e w' ⟨hT, vl, rfl, ho⟩
      have HR := Lib.hid (And.intro hT ho)
      clear hT ho
      go_wp2
      exact bodyPost_ret (v := .tuple #[vl, .int .i64 n, .int .i64 0]) (by simp [results, Tryz.results15, go_sem]) rfl (HP.out _ _ ⟨HR.out.1, vl, rfl, HR.out.2⟩)
    | bad p =>
      rw [hx] at HD HP
      go_enter Tryz.func15, Tryz.ntmps15
      go_wp2_with fail
      refine HD.out.mono ?_
      rintro e w' ⟨hT, rfl⟩
      have HR := Lib.hid hT
      clear hT
      go_wp2
      exact bodyPost_ret (v := .tuple #[.slice none 0 0, .int .i64 p, .int .i64 2]) (by simp [results, Tryz.results15, go_sem]) rfl (HP.out _ _ ⟨HR.out, rfl⟩)
  · have hd : decide ((65536 : Int) < (n : Int)) = true := by simp; omega
    have HP : Hid (∀ e w', e = .returned (.tuple #[.slice none 0 0, .int .i64 0, .int .i64 3]) ∧ w = w' → TokPost w b e w') := Lib.hid (fun e w' x => by unfold TokPost; rw [hn, if_neg h]; exact x)
    clear hb hev hn
    go_enter Tryz.func15, Tryz.ntmps15
    go_wp2
    exact bodyPost_ret (v := .tuple #[.slice none 0 0, .int .i64 0, .int .i64 3]) (by simp [results, Tryz.results15, go_sem]) rfl (HP.out _ _ ⟨rfl, rfl⟩)
end Go.Proofs.YtkmbobfjoaldgaaGreatDoor

/-
  What lex.Tokens returns of any bytes, as the parsers' texts speak of it (beside the texts of chapter 10). Conditions: the library's own error can be read.
-/
namespace Go.Proofs.YtkmbobfjoaldgaaGreatDoor
open Go.ChangeShapes Go.WideShapes Go.ChangeAt Go.RowKit
set_option maxRecDepth 100000
set_option maxHeartbeats 4000000

theorem toks_good {A : Option Addr} {n cap m : Nat} {z : Int} {b : Bs} {w : World} {ts : List Tk} (h : lexL b = .good ts) (hm : ts.length = m) (hz : (n : Int) = z) (hn : b.length = n) (hmax : n ≤ 65536) (hcap : n ≤ cap) (hc63 : cap ≤ 9223372036854775807) (hb : BAt w A b) (hev : EV w) :
    Calls Tryz.prog 15 #[.slice A n cap] w fun e w' => ∃ g cp, e = .returned (.tuple #[.slice (some ⟨g, 0, none⟩) m cp, .int .i64 z, .int .i64 0]) ∧ TL w' g ts ∧ Touch NoB w w' := by
  refine (tokens_any A n cap b w hn hcap hc63 hb hev).mono ?_
  intro e w' hP
  unfold TokPost at hP
  rw [if_pos (by omega), h] at hP
  obtain ⟨hT, vl, rfl, ho⟩ := hP
  obtain ⟨g, cp, rfl, hTL⟩ := TL.of_row ho (good_pos h)
  exact ⟨g, cp, by rw [hn, hm, hz], hTL, hT⟩
/-- A text that is wrong at place p. -/
theorem toks_bad {A : Option Addr} {n cap : Nat} {b : Bs} {w : World} {p : Nat} (h : lexL b = .bad p) (hn : b.length = n) (hmax : n ≤ 65536) (hcap : n ≤ cap) (hc63 : cap ≤ 9223372036854775807) (hb : BAt w A b) (hev : EV w) :
    Calls Tryz.prog 15 #[.slice A n cap] w fun e w' => e = .returned (.tuple #[.slice none 0 0, .int .i64 p, .int .i64 2]) ∧ Touch NoB w w' := by
  refine (tokens_any A n cap b w hn hcap hc63 hb hev).mono ?_
  intro e w' hP
  unfold TokPost at hP
  rw [if_pos (by omega), h] at hP
  obtain ⟨hT, rfl⟩ := hP
  exact ⟨rfl, hT⟩
end Go.Proofs.YtkmbobfjoaldgaaGreatDoor

/-
  What package tree's Parse does: what the parser over lists comes to. Conditions: at most 65536 bytes; the listed variables read as they are laid.
-/
namespace Go.Proofs.YtkmbobfjoaldgaaGreatDoor
open Go.ChangeShapes Go.WideShapes Go.ChangeAt Go.RowKit
set_option maxRecDepth 100000
set_option maxHeartbeats 8000000

/-- What Parse returns of b, over memory that w had. -/
def PaPost (w : World) (b : Bs) (x : Ending) (w' : World) : Prop := Touch NoB w w' ∧ match parP b with
  | .ok p => ∃ v1 v2 v3, x = .returned (.tuple #[.agg #[v1, v2, v3], .int .i64 (b.length : Int), .int .i64 0]) ∧ PgAt w' (fun k => w.heap.size ≤ k) p [v1, v2, v3]
  | .er e k => x = .returned (.tuple #[.agg #[.slice none 0 0, .slice none 0 0, .slice none 0 0], .int .i64 (k : Int), .int .i64 (e : Int)])
theorem pl_last (b : Bs) : ∀ (a : Nat) (ts : List Tk) (t : Tk), PlOk b a ts → ts[ts.length - 1]? = some t → t.kd = 0
  | _, [], _, h, _ => h.elim
  | a, [x], t, h, e => by
    simp only [List.length_singleton, Nat.sub_self, List.getElem?_cons_zero, Option.some.injEq] at e
    subst e
    exact h.1
  | a, x :: u :: r, t, h, e => by
    refine pl_last b (x.pl + 1) (u :: r) t h.2.2.2.2.2 ?_
    simpa using e
theorem pl_le (b : Bs) : ∀ (a : Nat) (ts : List Tk) (i : Nat) (t : Tk), PlOk b a ts → ts[i]? = some t → t.pl ≤ b.length
  | _, [], _, _, h, _ => h.elim
  | a, [x], 0, t, h, e => by
    simp only [List.getElem?_cons_zero, Option.some.injEq] at e
    subst e
    exact Nat.le_of_eq h.2.1
  | a, [x], i + 1, t, h, e => by simp at e
  | a, x :: u :: r, 0, t, h, e => by
    simp only [List.getElem?_cons_zero, Option.some.injEq] at e
    subst e
    exact Nat.le_of_lt h.2.2.1
  | a, x :: u :: r, i + 1, t, h, e => pl_le b (x.pl + 1) (u :: r) i t h.2.2.2.2.2 (by simpa using e)
theorem PgAt.touch {w w' : World} {Q F : Nat → Prop} {a : Pg} {l : List Value} (h : PgAt w Q a l) (t : Touch F w w') (hq : ∀ b, Q b → ¬ F b) : PgAt w' Q a l := by
  obtain ⟨v1, v2, v3, xs, ys, rfl, h1, h2, h3, h4, h5⟩ := h
  exact ⟨v1, v2, v3, xs, ys, rfl, h1.touch t hq, h2.touch t hq, h3.mono (fun x ys hx => hx.touch t hq), h4.touch t hq, h5.mono (fun x ys hx => hx.touch t hq)⟩
theorem PgAt.via {w : World} {Q R : Nat → Prop} {a : Pg} {l : List Value} (h : PgAt w Q a l) (hq : ∀ b, Q b → b < w.heap.size → R b) : PgAt w R a l := by
  obtain ⟨v1, v2, v3, xs, ys, rfl, h1, h2, h3, h4, h5⟩ := h
  exact ⟨v1, v2, v3, xs, ys, rfl, h1.via hq, h2.via hq, h3.mono (fun x ys hx => hx.via hq), h4.via hq, h5.mono (fun x ys hx => hx.via hq)⟩
theorem pg_form {w : World} {Q : Nat → Prop} {p : Pg} {v1 v2 v3 : Value} (h : PgAt w Q p [v1, v2, v3]) : ∃ x1 l1 c1 x2 l2 c2 x3 l3 c3, v1 = .slice x1 l1 c1 ∧ v2 = .slice x2 l2 c2 ∧ v3 = .slice x3 l3 c3 := by
  obtain ⟨u1, u2, u3, xs, ys, e, ⟨A1, c1, rfl, -⟩, ⟨A2, c2, rfl, -⟩, -, ⟨A3, c3, rfl, -⟩, -⟩ := h
  simp only [List.cons.injEq] at e
  exact ⟨_, _, _, _, _, _, _, _, _, e.1, e.2.1, e.2.2.1⟩
/-- A text's tokens end with an end's. -/
theorem lex_end {b : Bs} {ts : List Tk} (h : lexL b = .good ts) : ∃ L, EnT ts L ∧ L + 1 = ts.length := by
  have hp := good_pos h
  obtain ⟨t, ht⟩ : ∃ t, ts[ts.length - 1]? = some t := ⟨_, List.getElem?_eq_getElem (by omega)⟩
  refine ⟨ts.length - 1, ⟨t, ht, ?_⟩, by omega⟩
  exact pl_last b 0 ts t (lex_places h) ht
theorem tparse_any {w : World} {A : Option Addr} {n cap B : Nat} {b : Bs} (hn : b.length = n) (hmax : n ≤ 65536) (hcap : n ≤ cap) (hc63 : cap ≤ 9223372036854775807) (hb : BAt w A b) (hev : EV w) (hv : LV w B) :
    Calls Tryz.prog 7 #[.slice A n cap] w (PaPost w b) := by
  obtain ⟨W00, hW00⟩ : ∃ W, w.alloc (.cells #[.slice none 0 0, .slice none 0 0, .slice none 0 0] 29) = W := ⟨_, rfl⟩
  have hT00 : Touch NoB w W00 := by rw [← hW00]; exact (Touch.refl _ _).alloc _
  have hb2 : B3 W00 29 w.heap.size (.slice none 0 0) (.slice none 0 0) (.slice none 0 0) := by rw [← hW00]; exact B3.new w _ _ _ _ rfl
  have hs00 : W00.heap.size = w.heap.size + 1 := by rw [← hW00]; simp only [World.size_alloc]
  have HB := Lib.hid (And.intro hT00 hb2)
  unfold PaPost parP
  cases hl : lexL b with
  | bad p =>
    have HC := Lib.hid (toks_bad hl hn hmax hcap hc63 (hb.touch hT00) (hev.touch hT00))
    clear hb hev hv hl hT00 hb2
    go_enter Tryz.func7, Tryz.ntmps7
    go_wp2_with fail
    refine HC.out.mono ?_
    rintro r w1 ⟨rfl, hT⟩
    have HT := Lib.hid hT
    have hb3 : B3 w1 29 w.heap.size (.slice none 0 0) (.slice none 0 0) (.slice none 0 0) := (hT.block _ (blk_lt HB.out.2) (fun z => z)).trans HB.out.2
    obtain ⟨z0, z1, z2, zl⟩ := hb3.cells
    obtain ⟨f0, f1, f2⟩ := hb3.free
    clear hT
    obtain ⟨Y, hY⟩ : ∃ Y, ((w1.setCell ⟨w.heap.size, 0, none⟩ (.slice none 0 0)).setCell ⟨w.heap.size, 1, none⟩ (.slice none 0 0)).setCell ⟨w.heap.size, 2, none⟩ (.slice none 0 0) = Y := ⟨_, rfl⟩
    have tY : Touch NoB w Y := by rw [← hY]; exact touch3 (HB.out.1.same HT.out) (.inr (Nat.le_refl _)) _ _ _
    have bY : B3 Y 29 w.heap.size (.slice none 0 0) (.slice none 0 0) (.slice none 0 0) := by rw [← hY]; exact ((hb3.set0 _).set1 _).set2 _
    obtain ⟨y0, y1, y2, yl⟩ := bY.cells
    have HY := Lib.hid tY
    clear tY bY hb3
    go_wp2
    exact bodyPost_ret (v := .tuple #[.agg #[.slice none 0 0, .slice none 0 0, .slice none 0 0], .int .i64 (p : Int), .int .i64 2]) (by simp [results, Tryz.results7, go_sem, y0, y1, y2]) rfl ⟨HY.out, rfl⟩
  | good ts =>
    obtain ⟨m, hm⟩ : ∃ m, ts.length = m := ⟨_, rfl⟩
    obtain ⟨L, hE, hL⟩ := lex_end hl
    have hm1 : m ≤ n + 1 := by have := pl_count b 0 ts (lex_places hl); omega
    have HC := Lib.hid (toks_good hl hm (z := (n : Int)) rfl hn hmax hcap hc63 (hb.touch hT00) (hev.touch hT00))
    have HO := Lib.hid (lex_oksT hl)
    have HV := Lib.hid (hv.touch0 hT00)
    have hBw := hv.le
    have hLm : (prgG ts).2.1 < m := by have := prgG_L hE; omega
    obtain ⟨RR, hRR⟩ : ∃ z, prgG ts = z := ⟨_, rfl⟩
    obtain ⟨pgv, st⟩ := RR
    simp only [hRR] at hLm ⊢
    have HRR := Lib.hid hRR
    clear hb hev hv hl hT00 hb2 hRR
    go_enter Tryz.func7, Tryz.ntmps7
    go_wp2_with fail
    refine HC.out.mono ?_
    rintro r w1 ⟨g, cp, rfl, htl, hT⟩
    have hv1 := HV.out.touch0 hT
    have hgl := htl.lt
    have HT := Lib.hid (HB.out.1.same hT)
    have HB2 := Lib.hid (show B3 w1 29 w.heap.size (.slice none 0 0) (.slice none 0 0) (.slice none 0 0) from (hT.block _ (blk_lt HB.out.2) (fun z => z)).trans HB.out.2)
    have HNW := Lib.hid (new_any (w := w1) (g := g) (n := m) (cp := cp) (k := 0) (Nat.zero_le _) (by omega))
    have HTL := Lib.hid htl
    have HV1 := Lib.hid hv1
    clear hT htl hv1
    go_wp2_with fail
    refine HNW.out.mono ?_
    rintro r w2 ⟨rfl, hT⟩
    have HB2 := Lib.hid (show B3 w2 29 w.heap.size (.slice none 0 0) (.slice none 0 0) (.slice none 0 0) from (hT.block _ (blk_lt HB2.out) (fun z => z)).trans HB2.out)
    have hs2 := hT.size
    have hsb := blk_lt HB2.out
    obtain ⟨gp, hgp⟩ : ∃ gp, w2.heap.size = gp := ⟨_, rfl⟩
    obtain ⟨W0, hW0⟩ : ∃ W, w2.alloc (.cells #[.slice (some ⟨g, 0, none⟩) m cp, .int .i64 0, .int .i64 0] 57) = W := ⟨_, rfl⟩
    have t20 : Touch NoB w2 W0 := by rw [← hW0]; exact (Touch.refl _ _).alloc _
    have hps : PS2 57 W0 gp g m cp ts (0, 0) := ⟨by rw [← hW0]; exact alloc_blk _ _ _ hgp, HTL.out.touch (hT.same t20), by omega, hm, Nat.zero_le _, by omega, HO.out.2.2⟩
    have HPG := Lib.hid (program_any HO.out.1 HO.out.2 (HV1.out.touch0 (hT.same t20)) (by have := HV1.out.le; omega) hE hps)
    rw [HRR.out] at HPG
    have HT := Lib.hid (HT.out.same (hT.same t20))
    have HB2 := Lib.hid (show B3 W0 29 w.heap.size (.slice none 0 0) (.slice none 0 0) (.slice none 0 0) from (t20.block _ (blk_lt HB2.out) (fun z => z)).trans HB2.out)
    have hs0 : W0.heap.size = gp + 1 := by rw [← hW0]; simp only [World.size_alloc]; omega
    clear hps hT t20
    subst hW0
    subst hgp
    go_wp2_with fail
    refine HPG.out.mono ?_
    rintro r w3 ⟨v1, v2, v3, rfl, hpg, hp3, hT3⟩
    obtain ⟨x1, l1, c1, x2, l2, c2, x3, l3, c3, e1, e2, e3⟩ := pg_form hpg
    subst e1 e2 e3
    have hs3 := hT3.size
    have HB3 := Lib.hid (HB2.out.go hT3 (by omega))
    obtain ⟨W3, hW3⟩ : ∃ W, w3.alloc (.cells #[.slice x1 l1 c1, .slice x2 l2 c2, .slice x3 l3 c3] 29) = W := ⟨_, rfl⟩
    have t3 : Touch NoB w3 W3 := by rw [← hW3]; exact (Touch.refl _ _).alloc _
    have ba : B3 W3 29 w3.heap.size (.slice x1 l1 c1) (.slice x2 l2 c2) (.slice x3 l3 c3) := by rw [← hW3]; exact B3.new _ _ _ _ _ rfl
    have hb3 : B3 W3 29 w.heap.size (.slice none 0 0) (.slice none 0 0) (.slice none 0 0) := (t3.block _ (blk_lt HB3.out) (fun z => z)).trans HB3.out
    have hp4 : PS2 57 W3 w2.heap.size g m cp ts st := hp3.touch t3
    have tW : Touch NoB w W3 := (HT.out.trans hT3 (fun k hk => .inr (by unfold AtB at hk; omega))).same t3
    obtain ⟨a0, a1, a2, al⟩ := ba.cells
    obtain ⟨z0, z1, z2, zl⟩ := hb3.cells
    obtain ⟨f0, f1, f2⟩ := hb3.free
    have q1 : W3.cell? ⟨w2.heap.size, 1, none⟩ = some (.int .i64 (st.1 : Int)) := cell_blk hp4.blk 1
    have q2 : W3.cell? ⟨w2.heap.size, 2, none⟩ = some (.int .i64 (st.2 : Int)) := cell_blk hp4.blk 2
    have d1 : W3.drew.cell? ⟨w2.heap.size, 1, none⟩ = some (.int .i64 (st.1 : Int)) := q1
    have d2 : W3.drew.cell? ⟨w2.heap.size, 2, none⟩ = some (.int .i64 (st.2 : Int)) := q2
    obtain ⟨t9, ht9⟩ : ∃ t, ts[st.1]? = some t := ⟨_, List.getElem?_eq_getElem (by omega)⟩
    have htp := (hp4.tl.at_ _ _ ht9).2.2.1
    have htd : W3.drew.cell? ⟨g, st.1 * 4 + 2, none⟩ = some (.int .i64 (t9.pl : Int)) := htp
    have dz0 : W3.drew.cell? ⟨w.heap.size, 0, none⟩ = some (.slice none 0 0) := z0
    have dz1 : W3.drew.cell? ⟨w.heap.size, 1, none⟩ = some (.slice none 0 0) := z1
    have dz2 : W3.drew.cell? ⟨w.heap.size, 2, none⟩ = some (.slice none 0 0) := z2
    have df0 : W3.drew.frozen? ⟨w.heap.size, 0, none⟩ = false := f0
    have df1 : W3.drew.frozen? ⟨w.heap.size, 1, none⟩ = false := f1
    have df2 : W3.drew.frozen? ⟨w.heap.size, 2, none⟩ = false := f2
    have hix : (st.1 : Int) < (m : Int) := by omega
    by_cases he : st.2 = 0
    · have hee : ((st.2 : Int) != 0) = false := by simp [he]
      obtain ⟨Y, hY⟩ : ∃ Y, ((W3.setCell ⟨w.heap.size, 0, none⟩ (.slice x1 l1 c1)).setCell ⟨w.heap.size, 1, none⟩ (.slice x2 l2 c2)).setCell ⟨w.heap.size, 2, none⟩ (.slice x3 l3 c3) = Y := ⟨_, rfl⟩
      have tY : Touch NoB w Y := by rw [← hY]; exact touch3 tW (.inr (Nat.le_refl _)) _ _ _
      have tY3 : Touch (fun k => k = w.heap.size) W3 Y := by rw [← hY]; exact touch3 (F := fun k => k = w.heap.size) (Touch.refl _ W3) (.inl rfl) (.slice x1 l1 c1) (.slice x2 l2 c2) (.slice x3 l3 c3)
      have bY : B3 Y 29 w.heap.size (.slice x1 l1 c1) (.slice x2 l2 c2) (.slice x3 l3 c3) := by rw [← hY]; exact ((hb3.set0 _).set1 _).set2 _
      obtain ⟨y0, y1, y2, yl⟩ := bY.cells
      have hpg2 : PgAt w3 (fun k => w2.heap.size + 1 ≤ k) pgv [(.slice x1 l1 c1), (.slice x2 l2 c2), (.slice x3 l3 c3)] := hpg.via (fun k hk _ => by rw [hs0] at hk; exact hk)
      have hpY : PgAt Y (fun k => w.heap.size ≤ k) pgv [(.slice x1 l1 c1), (.slice x2 l2 c2), (.slice x3 l3 c3)] := ((hpg2.touch t3 (fun _ _ z => z)).touch tY3 (fun k hk e => by omega)).via (fun k hk _ => by omega)
      have HY := Lib.hid (And.intro tY hpY)
      clear tY tY3 bY hpY hpg hpg2 hp3 hT3 t3 ba hb3 hp4 tW
      go_wp2
      refine bodyPost_ret (v := .tuple #[.agg #[.slice x1 l1 c1, .slice x2 l2 c2, .slice x3 l3 c3], .int .i64 (n : Int), .int .i64 0]) (by simp [results, Tryz.results7, go_sem, y0, y1, y2]) rfl ?_
      try rw [if_pos he]
      exact ⟨HY.out.1, _, _, _, by first | rfl | rw [hn], HY.out.2⟩
    · have hee : ((st.2 : Int) != 0) = true := by simp; omega
      obtain ⟨Y, hY⟩ : ∃ Y, ((W3.setCell ⟨w.heap.size, 0, none⟩ (.slice none 0 0)).setCell ⟨w.heap.size, 1, none⟩ (.slice none 0 0)).setCell ⟨w.heap.size, 2, none⟩ (.slice none 0 0) = Y := ⟨_, rfl⟩
      have tY : Touch NoB w Y := by rw [← hY]; exact touch3 tW (.inr (Nat.le_refl _)) _ _ _
      have bY : B3 Y 29 w.heap.size (.slice none 0 0) (.slice none 0 0) (.slice none 0 0) := by rw [← hY]; exact ((hb3.set0 _).set1 _).set2 _
      obtain ⟨y0, y1, y2, yl⟩ := bY.cells
      have HY := Lib.hid tY
      have hqg : w2.heap.size ≠ w.heap.size := by omega
      have tY3 : Touch (fun k => k = w.heap.size) W3 Y := by rw [← hY]; exact touch3 (F := fun k => k = w.heap.size) (Touch.refl _ W3) (.inl rfl) _ _ _
      have hgw9 : g ≠ w.heap.size := by
        intro e
        have h0 := (hp4.tl.at_ 0 _ (List.getElem?_eq_getElem (by omega))).1
        rw [e] at h0
        simp only [Nat.zero_mul] at h0
        rw [z0] at h0
        cases h0
      have hp5 := hp4.touchX2 tY3 (fun e => hqg e) (fun e => hgw9 e)
      have e1 : Y.drew.cell? ⟨w2.heap.size, 1, none⟩ = some (.int .i64 (st.1 : Int)) := cell_blk (w := Y) hp5.blk 1
      have e2 : Y.drew.cell? ⟨w2.heap.size, 2, none⟩ = some (.int .i64 (st.2 : Int)) := cell_blk (w := Y) hp5.blk 2
      have e3 : Y.drew.cell? ⟨g, st.1 * 4 + 2, none⟩ = some (.int .i64 (t9.pl : Int)) := (hp5.tl.at_ _ _ ht9).2.2.1
      clear tY3 hp5
      clear tY bY hpg hp3 hT3 t3 ba hb3 tW
      go_wp2_with fail
      go_region_law? fail
      all_goals
        go_wp2
        refine bodyPost_ret (v := .tuple #[.agg #[.slice none 0 0, .slice none 0 0, .slice none 0 0], .int .i64 (t9.pl : Int), .int .i64 (st.2 : Int)]) (by simp [results, Tryz.results7, go_sem, y0, y1, y2]) rfl ?_
        try rw [if_neg he, ht9]
        exact ⟨HY.out.drew, by first | rfl | rw [(List.getElem?_eq_some_iff.1 ht9).2]⟩
end Go.Proofs.YtkmbobfjoaldgaaGreatDoor
