/-
  Package lex's divide, from its label digits on: a number. Conditions: at most 65536 bytes.
-/
import Derived.Test.YtmgmmbeldhleoaaDoorLe
namespace Go.Proofs.YtmgmmbeldhleoaaDoor
open Go.ChangeShapes Go.WideShapes Go.ChangeAt Go.RowKit
set_option maxRecDepth 100000
set_option maxHeartbeats 4000000

/-- The block of an address. -/
def blk0 : Option Addr → Nat
  | some a => a.block
  | none => 0
/-- The end of a number: what was read is told. -/
theorem told_digits {b : Bs} {i k : Nat} {c : UInt8} {r : Bs} (h : b[i]? = some c) (hl : bD c = true) (hr : Run bD b i k) (he : ∀ d, b[k]? = some d → bD d = false) (hc : cut b i k = c :: r) {ok : Bool}
    (hok : ok = decide (valL (c :: r) ≤ 9223372036854775807 ∧ ¬ (c.toNat = 48 ∧ 1 < (c :: r).length))) :
    (ok = true → (∀ d, b[k]? = some d → bW d = false) → tokL i (b.drop i) = some (⟨3, valL (c :: r), i, []⟩, k - i)) ∧ ((ok = false ∨ ∃ d, b[k]? = some d ∧ bW d = true) → tokL i (b.drop i) = none) := by
  have hlen := cut_len hr
  rw [hc] at hlen
  rw [hlen] at hok
  refine ⟨fun h1 h2 => ?_, fun h1 => ?_⟩
  · rw [tok_digits h hl hr he, hc]
    subst h1
    have := of_decide_eq_true hok.symm
    rw [if_pos ⟨this.1, this.2, h2⟩]
  · rw [tok_digits h hl hr he, hc, if_neg]
    rintro ⟨a1, a2, a3⟩
    rcases h1 with h1 | ⟨d, h1, h2⟩
    · rw [h1] at hok
      exact of_decide_eq_false hok.symm ⟨a1, a2⟩
    · rw [a3 d h1] at h2; cases h2

theorem pass3 (A : Option Addr) (n cap : Nat) (b : Bs) (w wr : World) (g M : Nat) (ts : List Tk) (vl : Value) (i k : Nat) 
    {u1 u2 u3 u4 u7 u10 u11 u12 u13 u14 u15 u16 u17 u18 u19 u20 u21 u22 u23 u24 u25 u26 u27 u28 u29 u30 u31 u32 u33 u34 u35 u36 u37 u38 u39 u40 u41 u42 u43 u44 u45 u46 u47 u48 u49 u50 u51 u52 u53 u54 u55 u56 u57 u58 u59 u60 u61 u62 u63 u64 u65 u66 u67 u68 u69 u70 u71 u72 u73 u74 u75 u76 u77 u78 u79 u80 u81 u82 u83 u84 u85 u86 u87 u88 u89 u90 u91 u92 u93 u94 u95 u96 u97 u98 u99 u100 u101 u102 u103 u104 u105 u106 u107 u108 u109 u110 u111 u112 u113 u114 u115 u116 u117 u118 u119 u120 u121 u122 u123 u124 u125 u126 u127 u128 u129 u130 u131 u132 u133 u134 u135 u136 u137 u138 u139 u140 u141 u142 : Value}
    (Q : Exit → Act → World → Prop) (hn : b.length = n) (hcap : n ≤ cap) (hc63 : cap ≤ 9223372036854775807) (hmax : n ≤ 65536) (hb : BAt w A b) (hev : EV w) (hI : DI w g ts vl wr) (hk : k ≤ n) (hi : i < n) (hcnt : ts.length ≤ i) (hD : DL b g ts i k u7 wr 3) (hM : mv n 3 i k = M) :
    (divX 3).wp Tryd.prog (hop (DG A cap b w g M) Q) ⟨#[.slice A n cap, u1, u2, u3, u4, vl, .pointer (some ⟨g, 0, none⟩), u7, .int .i64 (i : Int), .int .i64 (k : Int), u10, u11, u12, u13, u14, u15, u16, u17, u18, u19, u20, u21, u22, u23, u24, u25, u26, u27, u28, u29, u30, u31, u32, u33, u34, u35, u36, u37, u38, u39, u40, u41, u42, u43, u44, u45, u46, u47, u48, u49, u50, u51, u52, u53, u54, u55, u56, u57, u58, u59, u60, u61, u62, u63, u64, u65, u66, u67, u68, u69, u70, u71, u72, u73, u74, u75, u76, u77, u78, u79, u80, u81, u82, u83, u84, u85, u86, u87, u88, u89, u90, u91, u92, u93, u94, u95, u96, u97, u98, u99, u100, u101, u102, u103, u104, u105, u106, u107, u108, u109, u110, u111, u112, u113, u114, u115, u116, u117, u118, u119, u120, u121, u122, u123, u124, u125, u126, u127, u128, u129, u130, u131, u132, u133, u134, u135, u136, u137, u138, u139, u140, u141, u142], []⟩ wr := by

  have _ := hc63; have _ := hev; have _ := hmax; have _ := hcap
  simp only [divX, divC, Tryd.f17, findLabel, Nat.reduceBEq, Bool.false_eq_true, if_true, if_false]
  have hblkg : blk0 A < g := by
    have h1 := hb (by intro e; subst e; simp at hn; omega)
    obtain ⟨blk, off, rfl, h2, -⟩ := h1
    exact Nat.lt_of_lt_of_le h2 hI.ge
  have HCN := Lib.hid hcnt
  clear hcnt
  have HI := Lib.hid hI
  have HN := Lib.hid hn
  have HD := Lib.hid hD
  have HM := Lib.hid hM
  have hbr := hb.touch hI.t
  have HB := Lib.hid hbr
  have HEV := Lib.hid (hev.touch hI.t)
  have hbne : i < b.length := by rw [hn]; exact hi
  have hicap : i < cap := by omega
  obtain ⟨blk, off, rfl, hblk, ⟨c0, hc0, -⟩, hcells⟩ := bat_at hbr hbne
  have HC0 := Lib.hid hc0
  have HCells := Lib.hid hcells
  clear hI hD hM hb hbr hev hn hbne hc0 hcells
  have hbg : blk < g := hblkg
  have hgb : g ≠ blk := by omega
  clear hblkg
  have HEnd : (he : ∀ d, b[k]? = some d → bD d = false) → i < k := fun he => by
    obtain ⟨hr, ⟨c, hc, hl⟩, -⟩ := HD.out
    exact run_lt hr hc hl he
  have HS := Lib.hid (fun W => slice_win (P := Tryd.prog) Tryd.underlying22 Tryd.sizeOf5 W blk off n cap i k)
  by_cases hgo : ∃ c, b[k]? = some c ∧ bD c = true
  · obtain ⟨c, hc, hcw⟩ := hgo
    have hlt : k < n := by rw [← HN.out]; exact (List.getElem?_eq_some_iff.1 hc).1
    have hcell := HCells.out k c hc
    have HC := Lib.hid (And.intro hc hcw)
    have HP := Lib.hid (fun W => ldigit_any (c.toNat : Int) W)
    rw [show digB (c.toNat : Int) = true from by rw [digB_b]; exact hcw] at HP
    have hd : decide ((k : Int) < (n : Int)) = true := by simp; omega
    obtain ⟨x, hx⟩ : ∃ x, (c.toNat : Int) = x := ⟨_, rfl⟩
    rw [hx] at hcell HP
    clear hx hc hcw HS HEnd
    go_wp2_with fail
    refine (HP.out _).mono ?_
    rintro e w' ⟨rfl, rfl⟩
    go_wp2
    go_step3
    show DG _ cap b w g M 3 _ _
    refine DG.mk (ts) (vl) (_) (_) (i) (k + 1) ⟨rfl, rfl, by rw [HN.out]; rfl, rfl, rfl, rfl, rfl, by simp [slot], (fun _ => rfl), ?le, ?il, (by have := HCN.out; show ts.length ≤ i; omega), HI.out, ⟨HD.out.1.next HC.out.1 HC.out.2, HD.out.2⟩⟩ (by decide) ?mm
    case le => rw [HN.out]; exact (by omega)
    case il => rw [HN.out]; exact (fun _ => hi)
    case mm => rw [HN.out, ← HM.out]; exact mv_ll (.inr (.inr rfl)) hlt
  · have he : ∀ d, b[k]? = some d → bD d = false := fun d hd => by
      cases hw : bD d
      · rfl
      · exact absurd ⟨d, hd, hw⟩ hgo
    have hik := HEnd he
    have hsl := fun W => HS.out W (by omega) (by omega) hicap
    have htx0 : (convert 22 9 (.slice (some ⟨blk, off + i, none⟩) (k - i) (cap - i))).run Tryd.prog wr = .ok (.string (bs (cut b i k))) wr :=
      BAt.text 22 5 9 Tryd.underlying22 Tryd.underlying5 Tryd.underlying9 (fun j d hj => HCells.out j d hj) (by omega) (by rw [HN.out]; exact hk) _ rfl
    obtain ⟨r, hr⟩ := cut_cons HC0.out hik
    have hlen : (c0 :: r).length = k - i := by rw [← hr]; exact cut_len HD.out.1
    have hall : (c0 :: r).all bD = true := by rw [← hr]; exact HD.out.1.all
    rw [hr] at htx0
    have HW := Lib.hid (number_any hall (by rw [hlen]; omega) wr HEV.out)
    have HTOLD := Lib.hid (fun (ok : Bool) => told_digits (ok := ok) HC0.out (by obtain ⟨-, ⟨c, hc, hl⟩, -⟩ := HD.out; rw [HC0.out] at hc; injection hc with hc; rw [hc]; exact hl) HD.out.1 he hr)
    obtain ⟨s, hs⟩ : ∃ s, bs (c0 :: r) = s := ⟨_, rfl⟩
    rw [hs] at htx0 HW
    obtain ⟨vv, hvv⟩ : ∃ vv, valL (c0 :: r) = vv := ⟨_, rfl⟩
    have HH := Lib.hid (And.intro he hgo)
    clear hs HS HEnd he hgo hlen hall hr HEV
    by_cases hlt : k < n
    · obtain ⟨c, hc⟩ : ∃ c, b[k]? = some c := ⟨b[k]'(by rw [HN.out]; exact hlt), List.getElem?_eq_getElem _⟩
      have hcell := HCells.out k c hc
      have hcl := fun (w1 : World) (hT : Touch NoB wr w1) => (hT.cell (p := ⟨blk, off + k, none⟩) hblk (fun x => x)).trans hcell
      have HP := Lib.hid (fun W => ldigit_any (c.toNat : Int) W)
      have HPW := Lib.hid (fun W => lpart_any (c.toNat : Int) W)
      rw [show digB (c.toNat : Int) = false from by rw [digB_b]; exact HH.out.1 c hc] at HP
      rw [okB_b] at HPW
      have hd : decide ((k : Int) < (n : Int)) = true := by simp; omega
      have hd2 : ((k : Int) == (n : Int)) = false := by simp; omega
      obtain ⟨x, hx⟩ : ∃ x, (c.toNat : Int) = x := ⟨_, rfl⟩
      rw [hx] at hcell HP HPW
      simp only [hx] at hcl
      have HC := Lib.hid hc
      clear hx hc
      go_wp2_with fail
      refine (HP.out _).mono ?_
      rintro e w' ⟨rfl, rfl⟩
      go_wp2_with fail
      refine HW.out.mono ?_
      rintro e w1 ⟨kz, z, ok, rfl, hok, hval, hT1⟩
      obtain ⟨x0, x1, x2, x3, hb1⟩ := (HI.out.touch hT1).blk
      have hl1 := blk_lt hb1
      have c0 := cell_blk hb1 0
      have c1 := cell_blk hb1 1
      have c2 := cell_blk hb1 2
      have c3 := cell_blk hb1 3
      have f0 := free_blk hb1 0
      have f1 := free_blk hb1 1
      have f2 := free_blk hb1 2
      have f3 := free_blk hb1 3
      have HB1 := Lib.hid hb1
      have HI1 := Lib.hid (HI.out.touch hT1)
      have HTD := Lib.hid (HTOLD.out ok hok)
      have HV := Lib.hid hval
      have hcell1 := hcl w1 hT1
      clear hb1 hT1 hok hval hcl
      cases ok
      · go_wp2
        go_step3
        show DG _ cap b w g M 5 _ _
        refine DG.mk (ts) (vl) (.bool false) (_) (i) (k) ⟨rfl, rfl, by rw [HN.out]; rfl, rfl, rfl, rfl, rfl, rfl, (fun _ => rfl), ?le, ?il, (by have := HCN.out; show ts.length ≤ i; omega), HI1.out.put _ _ _ _, by
          obtain ⟨-, ⟨cc, hcc, hll⟩, hpre⟩ := HD.out
          refine ⟨⟨cc, hcc, bB_not (bW_D hll), fun e => bW_not47 (bW_D hll) e.1⟩, hpre, ?_⟩
          exact .inl ⟨rfl, HTD.out.2 (.inl (by trivial))⟩⟩ (by decide) ?mm
        case le => rw [HN.out]; exact (by omega)
        case il => rw [HN.out]; exact (fun _ => hi)
        case mm => rw [HN.out, ← HM.out]; exact mv_l5 (.inr (.inl rfl))
      · cases hbw : bW c
        · rw [hbw] at HPW
          go_wp2_with fail
          refine (HPW.out _).mono ?_
          rintro e w' ⟨rfl, rfl⟩
          go_wp2
          go_step3
          show DG _ cap b w g M 5 _ _
          refine DG.mk (ts) (vl) (.bool true) (_) (i) (k) ⟨rfl, rfl, by rw [HN.out]; rfl, rfl, rfl, rfl, rfl, rfl, (fun _ => rfl), ?le, ?il, (by have := HCN.out; show ts.length ≤ i; omega), HI1.out.put _ _ _ _, by
            obtain ⟨-, ⟨cc, hcc, hll⟩, hpre⟩ := HD.out
            refine ⟨⟨cc, hcc, bB_not (bW_D hll), fun e => bW_not47 (bW_D hll) e.1⟩, hpre, ?_⟩
            exact .inr ⟨rfl, _, .int .i64 0, HTD.out.1 (by trivial) (fun d hd => by have := HC.out.symm.trans hd; injection this with this; rw [← this]; exact hbw), hik, by rw [set4 HB1.out]; obtain ⟨e1, e2⟩ := HV.out (by trivial); rw [e1, e2]; rfl⟩⟩ (by decide) ?mm
          case le => rw [HN.out]; exact (by omega)
          case il => rw [HN.out]; exact (fun _ => hi)
          case mm => rw [HN.out, ← HM.out]; exact mv_l5 (.inr (.inl rfl))
        · rw [hbw] at HPW
          go_wp2_with fail
          refine (HPW.out _).mono ?_
          rintro e w' ⟨rfl, rfl⟩
          go_wp2
          go_step3
          show DG _ cap b w g M 5 _ _
          refine DG.mk (ts) (vl) (.bool false) (_) (i) (k) ⟨rfl, rfl, by rw [HN.out]; rfl, rfl, rfl, rfl, rfl, rfl, (fun _ => rfl), ?le, ?il, (by have := HCN.out; show ts.length ≤ i; omega), HI1.out.put _ _ _ _, by
            obtain ⟨-, ⟨cc, hcc, hll⟩, hpre⟩ := HD.out
            refine ⟨⟨cc, hcc, bB_not (bW_D hll), fun e => bW_not47 (bW_D hll) e.1⟩, hpre, ?_⟩
            exact .inl ⟨rfl, HTD.out.2 (.inr ⟨_, HC.out, hbw⟩)⟩⟩ (by decide) ?mm
          case le => rw [HN.out]; exact (by omega)
          case il => rw [HN.out]; exact (fun _ => hi)
          case mm => rw [HN.out, ← HM.out]; exact mv_l5 (.inr (.inl rfl))
    · obtain rfl : k = n := by omega
      have hd : decide ((k : Int) < (k : Int)) = false := by simp
      have hd2 : ((k : Int) == (k : Int)) = true := by simp
      have HC : ∀ d, b[k]? = some d → bW d = false := fun d hd => by
        have := (List.getElem?_eq_some_iff.1 hd).1
        have := HN.out
        omega
      go_wp2_with fail
      refine HW.out.mono ?_
      rintro e w1 ⟨kz, z, ok, rfl, hok, hval, hT1⟩
      obtain ⟨x0, x1, x2, x3, hb1⟩ := (HI.out.touch hT1).blk
      have hl1 := blk_lt hb1
      have c0 := cell_blk hb1 0
      have c1 := cell_blk hb1 1
      have c2 := cell_blk hb1 2
      have c3 := cell_blk hb1 3
      have f0 := free_blk hb1 0
      have f1 := free_blk hb1 1
      have f2 := free_blk hb1 2
      have f3 := free_blk hb1 3
      have HB1 := Lib.hid hb1
      have HI1 := Lib.hid (HI.out.touch hT1)
      have HTD := Lib.hid (HTOLD.out ok hok)
      have HV := Lib.hid hval
      clear hb1 hT1 hok hval
      cases ok
      · go_wp2
        go_step3
        show DG _ cap b w g M 5 _ _
        refine DG.mk (ts) (vl) (.bool false) (_) (i) (k) ⟨rfl, rfl, by rw [HN.out]; rfl, rfl, rfl, rfl, rfl, rfl, (fun _ => rfl), ?le, ?il, (by have := HCN.out; show ts.length ≤ i; omega), HI1.out.put _ _ _ _, by
          obtain ⟨-, ⟨cc, hcc, hll⟩, hpre⟩ := HD.out
          refine ⟨⟨cc, hcc, bB_not (bW_D hll), fun e => bW_not47 (bW_D hll) e.1⟩, hpre, ?_⟩
          exact .inl ⟨rfl, HTD.out.2 (.inl (by trivial))⟩⟩ (by decide) ?mm
        case le => rw [HN.out]; exact (by omega)
        case il => rw [HN.out]; exact (fun _ => hi)
        case mm => rw [HN.out, ← HM.out]; exact mv_l5 (.inr (.inl rfl))
      · go_wp2
        go_step3
        show DG _ cap b w g M 5 _ _
        refine DG.mk (ts) (vl) (.bool true) (_) (i) (k) ⟨rfl, rfl, by rw [HN.out]; rfl, rfl, rfl, rfl, rfl, rfl, (fun _ => rfl), ?le, ?il, (by have := HCN.out; show ts.length ≤ i; omega), HI1.out.put _ _ _ _, by
          obtain ⟨-, ⟨cc, hcc, hll⟩, hpre⟩ := HD.out
          refine ⟨⟨cc, hcc, bB_not (bW_D hll), fun e => bW_not47 (bW_D hll) e.1⟩, hpre, ?_⟩
          exact .inr ⟨rfl, _, .int .i64 0, HTD.out.1 (by trivial) HC, hik, by rw [set4 HB1.out]; obtain ⟨e1, e2⟩ := HV.out (by trivial); rw [e1, e2]; rfl⟩⟩ (by decide) ?mm
        case le => rw [HN.out]; exact (by omega)
        case il => rw [HN.out]; exact (fun _ => hi)
        case mm => rw [HN.out, ← HM.out]; exact mv_l5 (.inr (.inl rfl))

end Go.Proofs.YtmgmmbeldhleoaaDoor
