/-
  Package lex's divide, from its labels letters and digits on: a word, a name, a number. Conditions: at most 65536 bytes.
-/
import Derived.Test.YtmgmmbeldhleoaaDoorLd
namespace Go.Proofs.YtmgmmbeldhleoaaDoor
open Go.ChangeShapes Go.WideShapes Go.ChangeAt Go.RowKit
set_option maxRecDepth 100000
set_option maxHeartbeats 4000000

theorem slice_from {P : Program} {t e : TypeId} (ht : P.underlying t = some (.slice e)) (hz : ∀ w, (Go.sizeOf e).run P w = .ok 1 w) (W : World) (b o len cap l : Nat) (hl : l ≤ len) (hc : l < cap) :
    (Instr.slice t (.slice (some ⟨b, o, none⟩) len cap) (some (.int .i64 (l : Int))) none none).run P W = .ok (.slice (some ⟨b, o + l, none⟩) (len - l) (cap - l)) W := by
  have ht' : P.underlying t = some (.slice (P.elem t)) := by simp [Program.elem, ht]
  have he : P.elem t = e := by simp [Program.elem, ht]
  rw [run_slice_l W t _ _ _ ht' .i64 _ (by omega) (by omega), he, hz]
  have hne : ¬ cap = l := by omega
  simp [Result.andThen, sliced, Addr.add, hne]
theorem slice_win {P : Program} {t e : TypeId} (ht : P.underlying t = some (.slice e)) (hz : ∀ w, (Go.sizeOf e).run P w = .ok 1 w) (W : World) (b o len cap l h : Nat) (hl : l ≤ h) (hc : h ≤ cap) (hlc : l < cap) :
    (Instr.slice t (.slice (some ⟨b, o, none⟩) len cap) (some (.int .i64 (l : Int))) (some (.int .i64 (h : Int))) none).run P W = .ok (.slice (some ⟨b, o + l, none⟩) (h - l) (cap - l)) W := by
  have ht' : P.underlying t = some (.slice (P.elem t)) := by simp [Program.elem, ht]
  have he : P.elem t = e := by simp [Program.elem, ht]
  rw [run_slice_lh W t _ _ _ ht' .i64 .i64 _ _ (by omega) (by omega) (by omega), he, hz]
  have hne : ¬ cap = l := by omega
  simp [Result.andThen, sliced, Addr.add, hne]
theorem wrd_bs (l : Bs) : wrd (bs l) = kw.contains l := by unfold wrd; rw [bs_toList]
theorem bt_bs (l : Bs) (i : Nat) (c : UInt8) (h : l[i]? = some c) : bt (bs l) i = (c.toNat : Int) := by
  obtain ⟨h1, h2⟩ := List.getElem?_eq_some_iff.1 h
  have hs : i < (bs l).size := by rw [bs_size]; exact h1
  have h3 := bs_at l i hs
  rw [h] at h3
  injection h3 with h3
  unfold bt
  rw [dif_pos hs, ← h3]
theorem name_bs {l : Bs} {c : UInt8} (h0 : l[0]? = some c) (hc : bL c = true) (hw : l.all bW = true) : nameB (bs l) = decide (l.length ≤ 24) := by
  have h1 : 1 ≤ l.length := by have := (List.getElem?_eq_some_iff.1 h0).1; omega
  have hall : (List.range (bs l).size).all (fun i => okB (bt (bs l) i)) = true := by
    rw [List.all_eq_true]
    intro i hi
    rw [List.mem_range, bs_size] at hi
    have hg : l[i]? = some l[i] := List.getElem?_eq_getElem hi
    rw [bt_bs l i _ hg, okB_b]
    exact List.all_eq_true.1 hw _ (List.getElem_mem hi)
  unfold nameB
  rw [bt_bs l 0 c h0, letB_b, hc, hall, bs_size]
  simp [h1]
theorem cut_0 {b : Bs} {i k : Nat} {c : UInt8} (h : b[i]? = some c) (hik : i < k) : (cut b i k)[0]? = some c := by
  unfold cut
  rw [List.getElem?_take_of_lt (by omega), List.getElem?_drop]
  exact h
theorem cut_len {P : UInt8 → Bool} {b : Bs} {i k : Nat} (h : Run P b i k) : (cut b i k).length = k - i := h.len
theorem cut_cons {b : Bs} {i k : Nat} {c : UInt8} (h : b[i]? = some c) (hik : i < k) : ∃ r, cut b i k = c :: r := by
  have := cut_0 h hik
  cases hc : cut b i k with
  | nil => rw [hc] at this; cases this
  | cons d r => rw [hc] at this; injection this with this; subst this; exact ⟨r, rfl⟩
/-- Where a run has come to an end it has begun. -/
theorem run_lt {P : UInt8 → Bool} {b : Bs} {i k : Nat} {c : UInt8} (h : Run P b i k) (hc : b[i]? = some c) (hp : P c = true) (he : ∀ d, b[k]? = some d → P d = false) : i < k := by
  by_cases e : i = k
  · subst e; have := he c hc; rw [hp] at this; cases this
  · have := h.1; omega

/-- The end of a word: what was read is told. -/
theorem told_letters {b : Bs} {i k : Nat} {c : UInt8} (h : b[i]? = some c) (hl : bL c = true) (hr : Run bW b i k) (he : ∀ d, b[k]? = some d → bW d = false) :
    ((wrd (bs (cut b i k)) || nameB (bs (cut b i k))) = false ∧ tokL i (b.drop i) = none) ∨
    ((wrd (bs (cut b i k)) || nameB (bs (cut b i k))) = true ∧ tokL i (b.drop i) = some (⟨if wrd (bs (cut b i k)) = true then 2 else 1, 0, i, cut b i k⟩, k - i)) := by
  have hik := run_lt hr h (bW_L hl) he
  rw [tok_letters h hl hr he, wrd_bs, name_bs (cut_0 h hik) hl hr.all]
  by_cases h1 : kw.contains (cut b i k) = true
  · right; rw [if_pos h1, if_pos h1, h1]; exact ⟨rfl, rfl⟩
  · have h1' : kw.contains (cut b i k) = false := by simpa using h1
    rw [if_neg h1, if_neg h1, h1', Bool.false_or]
    by_cases h2 : (cut b i k).length ≤ 24
    · right; rw [if_pos h2]; exact ⟨by simpa using h2, rfl⟩
    · left; rw [if_neg h2]; exact ⟨by simpa using h2, rfl⟩

theorem pass2 (A : Option Addr) (n cap : Nat) (b : Bs) (w wr : World) (g M : Nat) (ts : List Tk) (vl : Value) (i k : Nat) 
    {u1 u2 u3 u4 u7 u10 u11 u12 u13 u14 u15 u16 u17 u18 u19 u20 u21 u22 u23 u24 u25 u26 u27 u28 u29 u30 u31 u32 u33 u34 u35 u36 u37 u38 u39 u40 u41 u42 u43 u44 u45 u46 u47 u48 u49 u50 u51 u52 u53 u54 u55 u56 u57 u58 u59 u60 u61 u62 u63 u64 u65 u66 u67 u68 u69 u70 u71 u72 u73 u74 u75 u76 u77 u78 u79 u80 u81 u82 u83 u84 u85 u86 u87 u88 u89 u90 u91 u92 u93 u94 u95 u96 u97 u98 u99 u100 u101 u102 u103 u104 u105 u106 u107 u108 u109 u110 u111 u112 u113 u114 u115 u116 u117 u118 u119 u120 u121 u122 u123 u124 u125 u126 u127 u128 u129 u130 u131 u132 u133 u134 u135 u136 u137 u138 u139 u140 u141 u142 : Value}
    (Q : Exit → Act → World → Prop) (hn : b.length = n) (hcap : n ≤ cap) (hc63 : cap ≤ 9223372036854775807) (hmax : n ≤ 65536) (hb : BAt w A b) (hev : EV w) (hI : DI w g ts vl wr) (hk : k ≤ n) (hi : i < n) (hcnt : ts.length ≤ i) (hD : DL b g ts i k u7 wr 2) (hM : mv n 2 i k = M) :
    (divX 2).wp Tryd.prog (hop (DG A cap b w g M) Q) ⟨#[.slice A n cap, u1, u2, u3, u4, vl, .pointer (some ⟨g, 0, none⟩), u7, .int .i64 (i : Int), .int .i64 (k : Int), u10, u11, u12, u13, u14, u15, u16, u17, u18, u19, u20, u21, u22, u23, u24, u25, u26, u27, u28, u29, u30, u31, u32, u33, u34, u35, u36, u37, u38, u39, u40, u41, u42, u43, u44, u45, u46, u47, u48, u49, u50, u51, u52, u53, u54, u55, u56, u57, u58, u59, u60, u61, u62, u63, u64, u65, u66, u67, u68, u69, u70, u71, u72, u73, u74, u75, u76, u77, u78, u79, u80, u81, u82, u83, u84, u85, u86, u87, u88, u89, u90, u91, u92, u93, u94, u95, u96, u97, u98, u99, u100, u101, u102, u103, u104, u105, u106, u107, u108, u109, u110, u111, u112, u113, u114, u115, u116, u117, u118, u119, u120, u121, u122, u123, u124, u125, u126, u127, u128, u129, u130, u131, u132, u133, u134, u135, u136, u137, u138, u139, u140, u141, u142], []⟩ wr := by

  have _ := hc63; have _ := hev; have _ := hmax; have _ := hcap
  simp only [divX, divC, Tryd.f17, findLabel, Nat.reduceBEq, Bool.false_eq_true, if_true, if_false]
  have HCN := Lib.hid hcnt
  clear hcnt
  have HI := Lib.hid hI
  have HN := Lib.hid hn
  have HD := Lib.hid hD
  have HM := Lib.hid hM
  have hbr := hb.touch hI.t
  have HB := Lib.hid hbr
  have HEV := Lib.hid (hev.touch hI.t)
  have hbne : i < b.length := by rw [hn]; exact hi
  have hicap : i < cap := by omega
  obtain ⟨blk, off, rfl, hblk, ⟨c0, hc0, -⟩, hcells⟩ := bat_at hbr hbne
  have HC0 := Lib.hid hc0
  have HCells := Lib.hid hcells
  clear hI hD hM hb hbr hev hn hbne hc0 hcells
  have HEnd : (he : ∀ d, b[k]? = some d → bW d = false) → i < k := fun he => by
    obtain ⟨hr, ⟨c, hc, hl⟩, -⟩ := HD.out
    exact run_lt hr hc (bW_L hl) he
  have HS := Lib.hid (fun W => slice_win (P := Tryd.prog) Tryd.underlying22 Tryd.sizeOf5 W blk off n cap i k)
  have HK := Lib.hid (fun c => (lpart_any c))
  by_cases hgo : ∃ c, b[k]? = some c ∧ bW c = true
  · obtain ⟨c, hc, hcw⟩ := hgo
    have hlt : k < n := by rw [← HN.out]; exact (List.getElem?_eq_some_iff.1 hc).1
    have hcell := HCells.out k c hc
    have HC := Lib.hid (And.intro hc hcw)
    have HP := Lib.hid (fun W => lpart_any (c.toNat : Int) W)
    rw [show okB (c.toNat : Int) = true from by rw [okB_b]; exact hcw] at HP
    have hd : decide ((k : Int) < (n : Int)) = true := by simp; omega
    obtain ⟨x, hx⟩ : ∃ x, (c.toNat : Int) = x := ⟨_, rfl⟩
    rw [hx] at hcell HP
    clear hx hc hcw HS HK HEnd
    go_wp2_with fail
    refine (HP.out _).mono ?_
    rintro e w' ⟨rfl, rfl⟩
    go_wp2
    go_step3
    show DG _ cap b w g M 2 _ _
    refine DG.mk (ts) (vl) (_) (_) (i) (k + 1) ⟨rfl, rfl, by rw [HN.out]; rfl, rfl, rfl, rfl, rfl, by simp [slot], (fun _ => rfl), ?le, ?il, (by have := HCN.out; show ts.length ≤ i; omega), HI.out, ⟨HD.out.1.next HC.out.1 HC.out.2, HD.out.2⟩⟩ (by decide) ?mm
    case le => rw [HN.out]; exact (by omega)
    case il => rw [HN.out]; exact (fun _ => hi)
    case mm => rw [HN.out, ← HM.out]; exact mv_ll (.inr (.inl rfl)) hlt
  · have he : ∀ d, b[k]? = some d → bW d = false := fun d hd => by
      cases hw : bW d
      · rfl
      · exact absurd ⟨d, hd, hw⟩ hgo
    have hik := HEnd he
    have hsl := fun W => HS.out W (by omega) (by omega) hicap
    have htx : ∀ W, Touch NoB wr W → (convert 22 9 (.slice (some ⟨blk, off + i, none⟩) (k - i) (cap - i))).run Tryd.prog W = .ok (.string (bs (cut b i k))) W := fun W hW =>
      BAt.text 22 5 9 Tryd.underlying22 Tryd.underlying5 Tryd.underlying9 (fun j d hj => (hW.cell (p := ⟨blk, off + j, none⟩) hblk (fun x => x)).trans (HCells.out j d hj)) (by omega) (by rw [HN.out]; exact hk) _ rfl
    have htx0 := htx wr (Touch.refl _ _)
    have hsz : (bs (cut b i k)).size = k - i := by rw [bs_size, cut_len HD.out.1]
    have HW := Lib.hid (fun W => won_any (bs (cut b i k)) (by rw [hsz]; omega) W)
    have hT : ((wrd (bs (cut b i k)) || nameB (bs (cut b i k))) = false ∧ tokL i (b.drop i) = none) ∨
        ((wrd (bs (cut b i k)) || nameB (bs (cut b i k))) = true ∧ tokL i (b.drop i) = some (⟨if wrd (bs (cut b i k)) = true then 2 else 1, 0, i, cut b i k⟩, k - i)) := by
      obtain ⟨hr, ⟨c, hc, hl⟩, -⟩ := HD.out
      exact told_letters hc hl hr he
    have hkd : (((if wrd (bs (cut b i k)) = true then 2 else 1 : Nat)) : Int) = (if wrd (bs (cut b i k)) = true then 2 else 1) := by split <;> rfl
    obtain ⟨kd, hkd2⟩ : ∃ kd, (if wrd (bs (cut b i k)) = true then 2 else 1 : Nat) = kd := ⟨_, rfl⟩
    rw [← hkd, hkd2] at HW
    rw [hkd2] at hT
    obtain ⟨ok, hok⟩ : ∃ ok, (wrd (bs (cut b i k)) || nameB (bs (cut b i k))) = ok := ⟨_, rfl⟩
    rw [hok] at HW hT
    have HT := Lib.hid hT
    obtain ⟨s, hs⟩ : ∃ s, bs (cut b i k) = s := ⟨_, rfl⟩
    rw [hs] at htx0 HW
    have HSs := Lib.hid hs
    have HH := Lib.hid (And.intro he hgo)
    clear hkd hkd2 hok hT htx hsz hs HS HEnd HK he hgo
    by_cases hlt : k < n
    · obtain ⟨c, hc⟩ : ∃ c, b[k]? = some c := ⟨b[k]'(by rw [HN.out]; exact hlt), List.getElem?_eq_getElem _⟩
      have hcell := HCells.out k c hc
      have HP := Lib.hid (fun W => lpart_any (c.toNat : Int) W)
      rw [show okB (c.toNat : Int) = false from by rw [okB_b]; exact HH.out.1 c hc] at HP
      have hd : decide ((k : Int) < (n : Int)) = true := by simp; omega
      obtain ⟨x, hx⟩ : ∃ x, (c.toNat : Int) = x := ⟨_, rfl⟩
      rw [hx] at hcell HP
      clear hx hc
      go_wp2_with fail
      refine (HP.out _).mono ?_
      rintro e w' ⟨rfl, rfl⟩
      go_wp2_with fail
      refine (HW.out _).mono ?_
      rintro e w1 ⟨rfl, hT1⟩
      obtain ⟨x0, x1, x2, x3, hb1⟩ := (HI.out.touch hT1).blk
      have hl1 := blk_lt hb1
      have c0 := cell_blk hb1 0
      have c1 := cell_blk hb1 1
      have c2 := cell_blk hb1 2
      have c3 := cell_blk hb1 3
      have f0 := free_blk hb1 0
      have f1 := free_blk hb1 1
      have f2 := free_blk hb1 2
      have f3 := free_blk hb1 3
      have HB1 := Lib.hid hb1
      have HI1 := Lib.hid (HI.out.touch hT1)
      clear hb1 hT1
      go_wp2
      go_step3
      show DG _ cap b w g M 5 _ _
      refine DG.mk (ts) (vl) (.bool ok) (_) (i) (k) ⟨rfl, rfl, by rw [HN.out]; rfl, rfl, rfl, rfl, rfl, rfl, (fun _ => rfl), ?le, ?il, (by have := HCN.out; show ts.length ≤ i; omega), HI1.out.put _ _ _ _, by
        obtain ⟨-, ⟨cc, hcc, hll⟩, hpre⟩ := HD.out
        refine ⟨⟨cc, hcc, bB_not (bW_L hll), fun e => bW_not47 (bW_L hll) e.1⟩, hpre, ?_⟩
        rcases HT.out with ⟨h1, h2⟩ | ⟨h1, h2⟩
        · exact .inl ⟨by rw [h1], h2⟩
        · exact .inr ⟨by rw [h1], _, .int .i64 0, h2, hik, by rw [set4 HB1.out]; simp only [HSs.out]; rfl⟩⟩ (by decide) ?mm
      case le => rw [HN.out]; exact (by omega)
      case il => rw [HN.out]; exact (fun _ => hi)
      case mm => rw [HN.out, ← HM.out]; exact mv_l5 (.inl rfl)
    · obtain rfl : k = n := by omega
      have hd : decide ((k : Int) < (k : Int)) = false := by simp
      go_wp2_with fail
      refine (HW.out _).mono ?_
      rintro e w1 ⟨rfl, hT1⟩
      obtain ⟨x0, x1, x2, x3, hb1⟩ := (HI.out.touch hT1).blk
      have hl1 := blk_lt hb1
      have c0 := cell_blk hb1 0
      have c1 := cell_blk hb1 1
      have c2 := cell_blk hb1 2
      have c3 := cell_blk hb1 3
      have f0 := free_blk hb1 0
      have f1 := free_blk hb1 1
      have f2 := free_blk hb1 2
      have f3 := free_blk hb1 3
      have HB1 := Lib.hid hb1
      have HI1 := Lib.hid (HI.out.touch hT1)
      clear hb1 hT1
      go_wp2
      go_step3
      show DG _ cap b w g M 5 _ _
      refine DG.mk (ts) (vl) (.bool ok) (_) (i) (k) ⟨rfl, rfl, by rw [HN.out]; rfl, rfl, rfl, rfl, rfl, rfl, (fun _ => rfl), ?le, ?il, (by have := HCN.out; show ts.length ≤ i; omega), HI1.out.put _ _ _ _, by
        obtain ⟨-, ⟨cc, hcc, hll⟩, hpre⟩ := HD.out
        refine ⟨⟨cc, hcc, bB_not (bW_L hll), fun e => bW_not47 (bW_L hll) e.1⟩, hpre, ?_⟩
        rcases HT.out with ⟨h1, h2⟩ | ⟨h1, h2⟩
        · exact .inl ⟨by rw [h1], h2⟩
        · exact .inr ⟨by rw [h1], _, .int .i64 0, h2, hik, by rw [set4 HB1.out]; simp only [HSs.out]; rfl⟩⟩ (by decide) ?mm
      case le => rw [HN.out]; exact (by omega)
      case il => rw [HN.out]; exact (fun _ => hi)
      case mm => rw [HN.out, ← HM.out]; exact mv_l5 (.inl rfl)

end Go.Proofs.YtmgmmbeldhleoaaDoor
