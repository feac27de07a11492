/-
  Package lex's divide, from its label between on: the end of the text, a blank, or where a remark or a token begins. Conditions: at most 65536 bytes.
-/
import Derived.Test.YtmgmmbeldhleoaaDoorLh
import Derived.Lib.SlBytesConst
namespace Go.Proofs.YtmgmmbeldhleoaaDoor
open Go.ChangeShapes Go.WideShapes Go.ChangeAt Go.RowKit
set_option maxRecDepth 100000
set_option maxHeartbeats 4000000

/-- Does a text begin with two slashes? -/
def sl2 : Bs → Bool
  | [] => false
  | c :: r => decide (c.toNat = 47) && slash r
theorem beq47 (c : UInt8) : ((47 : UInt8) == c) = decide (c.toNat = 47) := by
  rw [Bool.beq_comm, beq_nat]; rfl
theorem prefix_sl2 (l : Bs) : Lib.hasPrefix l [47, 47] = sl2 l := by
  cases l with
  | nil => rfl
  | cons c r =>
    cases r with
    | nil =>
      show ((47 == c) && false) = _
      simp [sl2, slash]
    | cons d q =>
      show ((47 == c) && ((47 == d) && true)) = _
      rw [beq47, beq47, Bool.and_true]
      rfl
theorem nums_of (l : Bs) : Lib.bytesOf (l.map fun c => (c.toNat : Int)) = l := by
  unfold Lib.bytesOf
  rw [List.map_map]
  conv => rhs; rw [← List.map_id l]
  exact List.map_congr_left fun c _ => by simp
theorem prefix_any {w : World} {b off n cap g2 cap2 : Nat} {l : Bs} (hn : l.length = n) (hcap : n ≤ cap) (hc : ∀ (i : Nat) (c : UInt8), l[i]? = some c → w.cell? ⟨b, off + i, none⟩ = some (.int .u8 (c.toNat : Int)))
    (h2 : ∀ i, i < 2 → w.cell? ⟨g2, 0 + i, none⟩ = some (.int .u8 47)) :
    Calls Tryd.prog 25 #[.slice (some ⟨b, off, none⟩) n cap, .slice (some ⟨g2, 0, none⟩) 2 cap2] w fun e w' => e = .returned (.bool (sl2 l)) ∧ w = w' := by
  refine (Tryd.bytes_HasPrefix b off n cap g2 0 2 cap2 (l.map fun c => (c.toNat : Int)) [47, 47] w (by simpa using hn) rfl hcap (fun i hi => ?_) (fun i hi => ?_)).mono ?_
  · have hl : i < l.length := by omega
    rw [hc i _ (List.getElem?_eq_getElem hl)]
    congr 2
    simp [List.getD, hl]
  · rw [h2 i hi]
    have : i = 0 ∨ i = 1 := by omega
    rcases this with rfl | rfl <;> rfl
  · rintro e w' ⟨rfl, rfl⟩
    exact ⟨by rw [nums_of, show Lib.bytesOf [47, 47] = [47, 47] from by decide, prefix_sl2], rfl⟩
theorem sl2_at {b : Bs} {k : Nat} {c : UInt8} (h : b[k]? = some c) : sl2 (b.drop k) = true ↔ c.toNat = 47 ∧ slash (b.drop (k + 1)) = true := by
  rw [drop_at h, sl2, Bool.and_eq_true, decide_eq_true_eq]
theorem two_new (w : World) (t : TypeId) (fr : Nat × Nat) : ∀ i, i < 2 → (w.alloc (.cells #[.int .u8 47, .int .u8 47] t fr)).cell? ⟨w.heap.size, 0 + i, none⟩ = some (.int .u8 47) := by
  intro i hi
  have h : (w.alloc (.cells #[.int .u8 47, .int .u8 47] t fr)).heap[w.heap.size]? = some (.cells #[.int .u8 47, .int .u8 47] t fr) := heap_alloc_new w _
  rw [cell_of_row _ _ _ _ _ _ h]
  have : i = 0 ∨ i = 1 := by omega
  rcases this with rfl | rfl <;> rfl
/-- A slice from its end on. -/
theorem slice_end {P : Program} {t e : TypeId} (ht : P.underlying t = some (.slice e)) (hz : ∀ w, (Go.sizeOf e).run P w = .ok 1 w) (A : Option Addr) (len cap : Nat) :
    ∃ A' c', ∀ W, (Instr.slice t (.slice A len cap) (some (.int .i64 (len : Int))) none none).run P W = .ok (.slice A' 0 c') W := by
  have ht' : P.underlying t = some (.slice (P.elem t)) := by simp [Program.elem, ht]
  have he : P.elem t = e := by simp [Program.elem, ht]
  refine ⟨(if cap = len then A else A.map (·.add (len * 1))), cap - len, fun W => ?_⟩
  rw [run_slice_l W t _ _ _ ht' .i64 _ (by omega) (by omega), he, hz]
  simp only [Result.andThen, sliced, Int.toNat_natCast, Nat.sub_self]
/-- The end of the text, behind the tokens found. -/
theorem DI.last {w wr w' : World} {g : Nat} {ts : List Tk} {vl v' : Value} {n : Nat} (h : DI w g ts vl wr) (ho : w'.ownsRow w.heap.size 35 4 v' (ts.length + 1) (tkC ts ++ TkV ⟨0, 0, n, []⟩)) (hg : wr.grownBy w' vl.ownBlock) {x : Lx}
    (hx : x = .good (ts ++ [⟨0, 0, n, []⟩])) : LxPost w n x (.returned (.tuple #[v', .int .i64 n, .int .i64 0])) w' := by
  subst hx
  exact ⟨h.t.grown hg (fun k e => .inr (h.row.lt k e).1), v', rfl, by rw [tkC_snoc, List.length_append]; exact ho⟩

theorem pass0 (A : Option Addr) (n cap : Nat) (b : Bs) (w wr : World) (g M : Nat) (ts : List Tk) (vl : Value) (i k : Nat)
    {u1 u2 u3 u4 u7 u8 u10 u11 u12 u13 u14 u15 u16 u17 u18 u19 u20 u21 u22 u23 u24 u25 u26 u27 u28 u29 u30 u31 u32 u33 u34 u35 u36 u37 u38 u39 u40 u41 u42 u43 u44 u45 u46 u47 u48 u49 u50 u51 u52 u53 u54 u55 u56 u57 u58 u59 u60 u61 u62 u63 u64 u65 u66 u67 u68 u69 u70 u71 u72 u73 u74 u75 u76 u77 u78 u79 u80 u81 u82 u83 u84 u85 u86 u87 u88 u89 u90 u91 u92 u93 u94 u95 u96 u97 u98 u99 u100 u101 u102 u103 u104 u105 u106 u107 u108 u109 u110 u111 u112 u113 u114 u115 u116 u117 u118 u119 u120 u121 u122 u123 u124 u125 u126 u127 u128 u129 u130 u131 u132 u133 u134 u135 u136 u137 u138 u139 u140 u141 u142 : Value}
    (Q : Exit → Act → World → Prop) (hQ : OnRet b w n Q) (hn : b.length = n) (hcap : n ≤ cap) (hc63 : cap ≤ 9223372036854775807) (hmax : n ≤ 65536) (hb : BAt w A b) (hev : EV w) (hI : DI w g ts vl wr) (hk : k ≤ n) (hcnt : ts.length ≤ k) (hD : DL b g ts i k u7 wr 0) (hM : mv n 0 i k = M) :
    (divX 0).wp Tryd.prog (hop (DG A cap b w g M) Q) ⟨#[.slice A n cap, u1, u2, u3, u4, vl, .pointer (some ⟨g, 0, none⟩), u7, u8, .int .i64 (k : Int), u10, u11, u12, u13, u14, u15, u16, u17, u18, u19, u20, u21, u22, u23, u24, u25, u26, u27, u28, u29, u30, u31, u32, u33, u34, u35, u36, u37, u38, u39, u40, u41, u42, u43, u44, u45, u46, u47, u48, u49, u50, u51, u52, u53, u54, u55, u56, u57, u58, u59, u60, u61, u62, u63, u64, u65, u66, u67, u68, u69, u70, u71, u72, u73, u74, u75, u76, u77, u78, u79, u80, u81, u82, u83, u84, u85, u86, u87, u88, u89, u90, u91, u92, u93, u94, u95, u96, u97, u98, u99, u100, u101, u102, u103, u104, u105, u106, u107, u108, u109, u110, u111, u112, u113, u114, u115, u116, u117, u118, u119, u120, u121, u122, u123, u124, u125, u126, u127, u128, u129, u130, u131, u132, u133, u134, u135, u136, u137, u138, u139, u140, u141, u142], []⟩ wr := by

  have _ := hev; have _ := hc63
  simp only [divX, divC, Tryd.f17, findLabel, Nat.reduceBEq, if_true]
  obtain ⟨i0, hi0, hz0, hz1, hz2⟩ := info_tok'
  have HQ := Lib.hid hQ
  have HCN := Lib.hid hcnt
  have HI := Lib.hid hI
  have HN := Lib.hid hn
  have HM := Lib.hid hM
  have HB := Lib.hid (hb.touch hI.t)
  have HD := Lib.hid hD
  clear hQ hcnt hI hn hM hb hD hev
  by_cases hlt : k < n
  · obtain ⟨blk, off, rfl, hblk, ⟨c, hc, hc0⟩, hcells⟩ := bat_at HB.out (by rw [HN.out]; exact hlt)
    have hsl := fun W => slice_from (P := Tryd.prog) Tryd.underlying22 Tryd.sizeOf5 W blk off n cap k (by omega) (by omega)
    have hrl : (b.drop k).length = n - k := by rw [List.length_drop, HN.out]
    have HP := Lib.hid (fun (W : World) (hW : Touch NoB wr W) (h2 : ∀ i, i < 2 → W.cell? ⟨wr.heap.size, 0 + i, none⟩ = some (.int .u8 47)) =>
      prefix_any (w := W) (b := blk) (off := off + k) (n := n - k) (cap := cap - k) (g2 := wr.heap.size) (cap2 := 2) (l := b.drop k) hrl (by omega) (fun j d hj => by
        rw [List.getElem?_drop] at hj
        rw [Nat.add_assoc]
        exact (hW.cell (p := ⟨blk, off + (k + j), none⟩) hblk (fun x => x)).trans (hcells (k + j) d hj)) h2 |>.mono fun e w' h => (show e = .returned (.bool (sl2 (b.drop k))) ∧ Touch NoB wr w' ∧ w'.cell? ⟨blk, off + k, none⟩ = some (.int .u8 (c.toNat : Int)) from ⟨h.1, h.2 ▸ hW, by rw [← h.2]; exact (hW.cell (p := ⟨blk, off + k, none⟩) hblk (fun x => x)).trans hc0⟩))
    have hkc := fun (w : World) (C : Array Value) (n c : Nat) => Lib.run_convert_bytes_const w 22 5 C n c Tryd.underlying22 Tryd.underlying5
    have HS := Lib.hid (fun W => lspace_any (c.toNat : Int) W)
    have HL := Lib.hid (fun W => lletter_any (c.toNat : Int) W)
    have HDG := Lib.hid (fun W => ldigit_any (c.toNat : Int) W)
    rw [spcB_b] at HS
    rw [letB_b] at HL
    rw [digB_b] at HDG
    have HCc := Lib.hid hc
    have hp1 := sl2_at hc
    have HP1 := Lib.hid hp1
    have hlen : ((n - k : Nat) : Int) ≠ 0 := by omega
    have hlen0 : (((n - k : Nat) : Int) == 0) = false := by simp; omega
    have h0nk : 0 < n - k := by omega
    have HPre : Hid (Lx.pre ts (fromS false b k) = lexL b) := Lib.hid HD.out
    have hc1 : wr.cell? ⟨blk, off + k, none⟩ = some (.int .u8 (c.toNat : Int)) := hc0
    obtain ⟨x, hx⟩ : ∃ x, (c.toNat : Int) = x := ⟨_, rfl⟩
    rw [hx] at hc1 HS HL HDG
    simp only [hx] at HP
    obtain ⟨m, hm⟩ : ∃ m, n - k = m := ⟨_, rfl⟩
    rw [hm] at hlen0 h0nk HP
    simp only [hm] at hsl
    clear hc hp1 hrl hcells hx hc0 HD HB hlen hm
    cases hsp : bB c
    · rw [hsp] at HS
      have HSP := Lib.hid hsp
      clear hsp
      cases h47 : sl2 (b.drop k)
      · rw [h47] at HP
        have HNo : Hid (¬ (c.toNat = 47 ∧ slash (b.drop (k + 1)) = true)) := Lib.hid (fun e => by have := HP1.out.2 e; rw [h47] at this; cases this)
        clear h47
        cases hll : bL c
        · rw [hll] at HL
          have HLL := Lib.hid hll
          clear hll
          cases hdd : bD c
          · rw [hdd] at HDG
            have HDD := Lib.hid hdd
            clear hdd
            go_wp2_with fail
            refine (HS.out _).mono ?_
            rintro e w' ⟨rfl, rfl⟩
            go_wp2_with fail
            refine (HP.out _ (by repeat (first | with_reducible exact Touch.refl _ _ | with_reducible refine Touch.alloc ?_ _)) (two_new wr _ _)).mono ?_
            rintro e w1 ⟨rfl, hT1, hc2⟩
            have HI1 := Lib.hid (HI.out.touch hT1)
            clear hT1 hc1
            go_wp2_with fail
            refine (HL.out _).mono ?_
            rintro e w' ⟨rfl, rfl⟩
            go_wp2_with fail
            refine (HDG.out _).mono ?_
            rintro e w' ⟨rfl, rfl⟩
            go_wp2
            go_step3
            show DG _ cap b w g M 4 _ _
            refine DG.mk ts vl _ _ k k ⟨rfl, rfl, by rw [HN.out]; rfl, rfl, rfl, rfl, rfl, rfl, (fun _ => rfl), ?le, ?il, HCN.out, HI1.out, ⟨rfl, ⟨c, HCc.out, HSP.out, HNo.out, HLL.out, HDD.out⟩, HPre.out⟩⟩ (by decide) ?mm
            case le => rw [HN.out]; exact hk
            case il => rw [HN.out]; exact (fun _ => hlt)
            case mm => rw [HN.out, ← HM.out]; exact mv_0l (.inr (.inr (.inr rfl))) hk
          · rw [hdd] at HDG
            have HDD := Lib.hid hdd
            clear hdd
            go_wp2_with fail
            refine (HS.out _).mono ?_
            rintro e w' ⟨rfl, rfl⟩
            go_wp2_with fail
            refine (HP.out _ (by repeat (first | with_reducible exact Touch.refl _ _ | with_reducible refine Touch.alloc ?_ _)) (two_new wr _ _)).mono ?_
            rintro e w1 ⟨rfl, hT1, hc2⟩
            have HI1 := Lib.hid (HI.out.touch hT1)
            clear hT1 hc1
            go_wp2_with fail
            refine (HL.out _).mono ?_
            rintro e w' ⟨rfl, rfl⟩
            go_wp2_with fail
            refine (HDG.out _).mono ?_
            rintro e w' ⟨rfl, rfl⟩
            go_wp2
            go_step3
            show DG _ cap b w g M 3 _ _
            refine DG.mk ts vl _ _ k k ⟨rfl, rfl, by rw [HN.out]; rfl, rfl, rfl, rfl, rfl, rfl, (fun _ => rfl), ?le, ?il, HCN.out, HI1.out, ⟨Run.start _ (by rw [HN.out]; exact hk), ⟨c, HCc.out, HDD.out⟩, HPre.out⟩⟩ (by decide) ?mm
            case le => rw [HN.out]; exact hk
            case il => rw [HN.out]; exact (fun _ => hlt)
            case mm => rw [HN.out, ← HM.out]; exact mv_0l (.inr (.inr (.inl rfl))) hk
        · rw [hll] at HL
          have HLL := Lib.hid hll
          clear hll
          go_wp2_with fail
          refine (HS.out _).mono ?_
          rintro e w' ⟨rfl, rfl⟩
          go_wp2_with fail
          refine (HP.out _ (by repeat (first | with_reducible exact Touch.refl _ _ | with_reducible refine Touch.alloc ?_ _)) (two_new wr _ _)).mono ?_
          rintro e w1 ⟨rfl, hT1, hc2⟩
          have HI1 := Lib.hid (HI.out.touch hT1)
          clear hT1 hc1
          go_wp2_with fail
          refine (HL.out _).mono ?_
          rintro e w' ⟨rfl, rfl⟩
          go_wp2
          go_step3
          show DG _ cap b w g M 2 _ _
          refine DG.mk ts vl _ _ k k ⟨rfl, rfl, by rw [HN.out]; rfl, rfl, rfl, rfl, rfl, rfl, (fun _ => rfl), ?le, ?il, HCN.out, HI1.out, ⟨Run.start _ (by rw [HN.out]; exact hk), ⟨c, HCc.out, HLL.out⟩, HPre.out⟩⟩ (by decide) ?mm
          case le => rw [HN.out]; exact hk
          case il => rw [HN.out]; exact (fun _ => hlt)
          case mm => rw [HN.out, ← HM.out]; exact mv_0l (.inr (.inl rfl)) hk
      · rw [h47] at HP
        have H47 := Lib.hid (HP1.out.1 h47)
        clear h47
        go_wp2_with fail
        refine (HS.out _).mono ?_
        rintro e w' ⟨rfl, rfl⟩
        go_wp2_with fail
        refine (HP.out _ (by repeat (first | with_reducible exact Touch.refl _ _ | with_reducible refine Touch.alloc ?_ _)) (two_new wr _ _)).mono ?_
        rintro e w1 ⟨rfl, hT1, -⟩
        have HI1 := Lib.hid (HI.out.touch hT1)
        clear hT1
        go_wp2
        go_step3
        show DG _ cap b w g M 1 _ _
        refine DG.mk ts vl _ _ k k ⟨rfl, rfl, by rw [HN.out]; rfl, rfl, rfl, rfl, rfl, rfl, (fun _ => rfl), ?le, ?il, HCN.out, HI1.out, ⟨Run.start _ (by rw [HN.out]; exact hk), ⟨c, HCc.out, H47.out.1⟩, by rw [← from_remark HCc.out H47.out.1 H47.out.2]; exact HPre.out⟩⟩ (by decide) ?mm
        case le => rw [HN.out]; exact hk
        case il => rw [HN.out]; exact (fun _ => hlt)
        case mm => rw [HN.out, ← HM.out]; exact mv_0l (.inl rfl) hk
    · rw [hsp] at HS
      have HSP := Lib.hid hsp
      clear hsp
      go_wp2_with fail
      refine (HS.out _).mono ?_
      rintro e w' ⟨rfl, rfl⟩
      go_wp2
      go_step3
      show DG _ cap b w g M 0 _ _
      refine DG.mk ts vl _ _ i (k + 1) ⟨rfl, rfl, by rw [HN.out]; rfl, rfl, rfl, rfl, rfl, by simp [slot], (fun e => absurd rfl e), ?le, (fun e => absurd rfl e), (by have := HCN.out; show ts.length ≤ k + 1; omega), HI.out, by show _ = _; rw [← HPre.out, from_blank HCc.out HSP.out]⟩ (by decide) ?mm
      case le => rw [HN.out]; exact (by omega)
      case mm => rw [HN.out, ← HM.out]; exact mv_00 hlt
  · obtain rfl : k = n := by omega
    obtain ⟨A', c', hsl⟩ := slice_end (P := Tryd.prog) Tryd.underlying22 Tryd.sizeOf5 A k cap
    have HR : Hid (lexL b = .good (ts ++ [⟨0, 0, k, []⟩])) := by
      refine Lib.hid ?_
      have h0 : Lx.pre ts (fromS false b k) = lexL b := HD.out
      rw [← h0, ← HN.out, from_end]; rfl
    clear HD
    go_wp2_with (at_builtin; refine wpList_append_own_at _ rfl (.tmp 19) (.tmp 22) 24 rfl w.heap.size 35 i0 _ 4 40 Tryd.underlying24 hi0 hz0 hz1 hz2 rfl (by decide) vl ts.length (tkC ts) rfl ?o1 ⟨wr.heap.size, 0, none⟩ 1 1 (TkV ⟨0, 0, k, []⟩) rfl rfl ?c1 ?c2 ?c3 ?c4 ?c5 ?go)
    case o1 => exact (HI.out.touch ((Touch.refl _ _).alloc _)).row
    case c1 => exact World.news_of_block (cs := #[.int .i64 0, .int .i64 0, .int .i64 (k : Int), .string ⟨#[]⟩]) (alloc_blk _ _ 35 rfl)
    case c2 => exact TkV_one _
    case c3 => have := HCN.out; unfold maxLen; omega
    case c4 => have := HCN.out; omega
    case c5 => have := HI.out.t.size; simp; omega
    case go =>
    intro v2 w2 hown2 hgrow _ _
    have HP := Lib.hid ((HI.out.touch ((Touch.refl _ _).alloc _)).last hown2 hgrow HR.out)
    clear hown2 hgrow
    go_wp2
    show Q .ret _ _
    exact HQ.out _ _ _ _ _ rfl rfl rfl rfl HP.out
end Go.Proofs.YtmgmmbeldhleoaaDoor
