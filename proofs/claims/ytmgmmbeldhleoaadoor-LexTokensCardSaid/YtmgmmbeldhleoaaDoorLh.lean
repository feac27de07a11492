/-
  Package lex's divide, from its label sign on: a sign, and what is told of it. Conditions: at most 65536 bytes.
-/
import Derived.Test.YtmgmmbeldhleoaaDoorLg
namespace Go.Proofs.YtmgmmbeldhleoaaDoor
open Go.ChangeShapes Go.WideShapes Go.ChangeAt Go.RowKit
set_option maxRecDepth 100000
set_option maxHeartbeats 4000000

theorem told_sign {b : Bs} {i m : Nat} {c : UInt8} (h : b[i]? = some c) (h1 : bL c = false) (h2 : bD c = false) (hm : sgnL c (b.drop (i + 1)) = m) :
    (m = 0 → tokL i (b.drop i) = none) ∧ (0 < m → tokL i (b.drop i) = some (⟨4, 0, i, cut b i (i + m)⟩, m)) := by
  rw [tok_sign h h1 h2, hm]
  refine ⟨fun e => if_pos e, fun e => if_neg (by omega)⟩
theorem pass4 (A : Option Addr) (n cap : Nat) (b : Bs) (w wr : World) (g M : Nat) (ts : List Tk) (vl : Value) (i k : Nat)
    {u1 u2 u3 u4 u7 u10 u11 u12 u13 u14 u15 u16 u17 u18 u19 u20 u21 u22 u23 u24 u25 u26 u27 u28 u29 u30 u31 u32 u33 u34 u35 u36 u37 u38 u39 u40 u41 u42 u43 u44 u45 u46 u47 u48 u49 u50 u51 u52 u53 u54 u55 u56 u57 u58 u59 u60 u61 u62 u63 u64 u65 u66 u67 u68 u69 u70 u71 u72 u73 u74 u75 u76 u77 u78 u79 u80 u81 u82 u83 u84 u85 u86 u87 u88 u89 u90 u91 u92 u93 u94 u95 u96 u97 u98 u99 u100 u101 u102 u103 u104 u105 u106 u107 u108 u109 u110 u111 u112 u113 u114 u115 u116 u117 u118 u119 u120 u121 u122 u123 u124 u125 u126 u127 u128 u129 u130 u131 u132 u133 u134 u135 u136 u137 u138 u139 u140 u141 u142 : Value}
    (Q : Exit → Act → World → Prop) (hQ : OnRet b w n Q) (hn : b.length = n) (hcap : n ≤ cap) (hc63 : cap ≤ 9223372036854775807) (hmax : n ≤ 65536) (hb : BAt w A b) (hev : EV w) (hI : DI w g ts vl wr) (hk : k ≤ n) (hi : i < n) (hcnt : ts.length ≤ i) (hD : DL b g ts i k u7 wr 4) (hM : mv n 4 i k = M) :
    (divX 4).wp Tryd.prog (hop (DG A cap b w g M) Q) ⟨#[.slice A n cap, u1, u2, u3, u4, vl, .pointer (some ⟨g, 0, none⟩), u7, .int .i64 (i : Int), .int .i64 (k : Int), u10, u11, u12, u13, u14, u15, u16, u17, u18, u19, u20, u21, u22, u23, u24, u25, u26, u27, u28, u29, u30, u31, u32, u33, u34, u35, u36, u37, u38, u39, u40, u41, u42, u43, u44, u45, u46, u47, u48, u49, u50, u51, u52, u53, u54, u55, u56, u57, u58, u59, u60, u61, u62, u63, u64, u65, u66, u67, u68, u69, u70, u71, u72, u73, u74, u75, u76, u77, u78, u79, u80, u81, u82, u83, u84, u85, u86, u87, u88, u89, u90, u91, u92, u93, u94, u95, u96, u97, u98, u99, u100, u101, u102, u103, u104, u105, u106, u107, u108, u109, u110, u111, u112, u113, u114, u115, u116, u117, u118, u119, u120, u121, u122, u123, u124, u125, u126, u127, u128, u129, u130, u131, u132, u133, u134, u135, u136, u137, u138, u139, u140, u141, u142], []⟩ wr := by

  have _ := hev; have _ := hk
  simp only [divX, divC, Tryd.f17, findLabel, Nat.reduceBEq, Bool.false_eq_true, if_true, if_false]
  obtain ⟨i0, hi0, hz0, hz1, hz2⟩ := info_tok'
  have hblkg : blk0 A < g := by
    have h1 := hb (by intro e; subst e; simp at hn; omega)
    obtain ⟨blk, off, rfl, h2, -⟩ := h1
    exact Nat.lt_of_lt_of_le h2 hI.ge
  have HQ := Lib.hid hQ
  have HCN := Lib.hid hcnt
  have HI := Lib.hid hI
  have HN := Lib.hid hn
  have HM := Lib.hid hM
  obtain ⟨hki, ⟨c, hc, hcb, hcs, hcl, hcd⟩, hpre⟩ := hD
  have hbr := hb.touch hI.t
  have hbne : i < b.length := by rw [hn]; exact hi
  have hicap : i < cap := by omega
  obtain ⟨blk, off, rfl, hblk, -, hcells⟩ := bat_at hbr hbne
  have HCells := Lib.hid hcells
  have hdr := drop_at hc
  have hrl : (b.drop (i + 1)).length + 1 = n - i := by rw [List.length_drop, hn]; omega
  have hcs2 : ∀ (j : Nat) (d : UInt8), (c :: b.drop (i + 1))[j]? = some d → wr.cell? ⟨blk, off + i + j, none⟩ = some (.int .u8 (d.toNat : Int)) := fun j d hj => by
    rw [← hdr, List.getElem?_drop] at hj
    rw [Nat.add_assoc]
    exact hcells (i + j) d hj
  have HS := Lib.hid (sgnlen_any (w := wr) (b := blk) (off := off + i) (n := n - i) (cap := cap - i) hrl (by omega) hcs2)
  obtain ⟨m, hm⟩ : ∃ m, sgnL c (b.drop (i + 1)) = m := ⟨_, rfl⟩
  have hml : m ≤ 2 := by have := sgn_few c (b.drop (i + 1)); omega
  have hmn : i + m ≤ n := by
    have := sgn_le c (b.drop (i + 1))
    rw [hm] at this
    simp only [List.length_cons] at this
    omega
  rw [hm] at HS
  have htold := told_sign hc hcl hcd hm
  obtain ⟨q, hq⟩ : ∃ q, i + m = q := ⟨_, rfl⟩
  rw [hq] at htold hmn
  have hsl := slice_from (P := Tryd.prog) Tryd.underlying22 Tryd.sizeOf5 wr blk off n cap i (by omega) hicap
  have hsw := slice_win (P := Tryd.prog) Tryd.underlying22 Tryd.sizeOf5 wr blk off n cap i q (by omega) (by omega) hicap
  have htx : (convert 22 9 (.slice (some ⟨blk, off + i, none⟩) (q - i) (cap - i))).run Tryd.prog wr = .ok (.string (bs (cut b i q))) wr :=
    BAt.text 22 5 9 Tryd.underlying22 Tryd.underlying5 Tryd.underlying9 (fun j d hj => hcells j d hj) (by omega) (by rw [hn]; exact hmn) _ rfl
  have hwr : IntKind.i64.wrap ((i : Int) + (m : Int)) = (q : Int) := by
    rw [show (i : Int) + (m : Int) = (q : Int) from by omega]
    exact IntWalk.i64_in _ (by omega)
  obtain ⟨x0, x1, x2, x3, hb1⟩ := hI.blk
  have hl1 := blk_lt hb1
  have c0 := cell_blk hb1 0
  have c1 := cell_blk hb1 1
  have c2 := cell_blk hb1 2
  have c3 := cell_blk hb1 3
  have f0 := free_blk hb1 0
  have f1 := free_blk hb1 1
  have f2 := free_blk hb1 2
  have f3 := free_blk hb1 3
  have HB1 := Lib.hid hb1
  subst hki
  obtain ⟨s, hs⟩ : ∃ s, bs (cut b k q) = s := ⟨_, rfl⟩
  rw [hs] at htx
  have HSs := Lib.hid hs
  have HQQ := Lib.hid hq
  have HBW := Lib.hid (And.intro hb hev)
  have HD5 := Lib.hid (And.intro (And.intro hc (And.intro hcb hcs)) (And.intro hpre htold))
  clear hQ hcnt hI hM hb hev hn hc hcb hcs hcl hcd hpre hbr hbne hcells hdr hrl hcs2 hm htold hs hq hb1 hblkg
  go_wp2_with fail
  refine HS.out.mono ?_
  rintro e w' ⟨rfl, rfl⟩
  go_wp2
  go_step3
  rename_i hgo
  refine hgo _ _ ?_
  have E := Eq.refl (divX 5)
  conv at E => rhs; simp only [divX, divC, Tryd.f17, findLabel, Nat.reduceBEq, Bool.false_eq_true, if_true, if_false]
  rw [← E]
  clear E hgo
  refine Go.wp_mono (Q := hop (DG (some ⟨blk, off, none⟩) cap b w g (mv n 5 k q)) Q) ?_ (hop_mono (fun l a w h => h.up (Nat.le_of_lt ?le)))
  case le => rw [← HM.out]; exact mv_l5 (.inr (.inr rfl))
  refine pass5 _ _ _ _ _ _ _ _ _ _ _ _ Q HQ.out HN.out hcap hc63 hmax HBW.out.1 HBW.out.2 (HI.out.put _ _ _ _) hmn hi HCN.out ?_ rfl
  obtain ⟨⟨hc, hcb, hcs⟩, hpre, ht0, ht1⟩ := HD5.out
  refine ⟨⟨c, hc, hcb, hcs⟩, hpre, ?_⟩
  by_cases h0 : m = 0
  · exact .inl ⟨by have := HQQ.out; simp; omega, ht0 h0⟩
  · have e : q - k = m := by have := HQQ.out; omega
    exact .inr ⟨by have := HQQ.out; simp; omega, _, .int .i64 0, by rw [e]; exact ht1 (by omega), by have := HQQ.out; omega, by rw [set4 HB1.out]; simp only [HSs.out]; rfl⟩
end Go.Proofs.YtmgmmbeldhleoaaDoor
