/-
  Package lex's divide, from its label comment on: a remark is left behind byte by byte. Conditions: at most 65536 bytes.
-/
import Derived.Test.YtmgmmbeldhleoaaDoorLc
namespace Go.Proofs.YtmgmmbeldhleoaaDoor
open Go.ChangeShapes Go.WideShapes Go.ChangeAt Go.RowKit
set_option maxRecDepth 100000
set_option maxHeartbeats 4000000

theorem bat_at {w : World} {A : Option Addr} {b : Bs} (h : BAt w A b) {k : Nat} (hk : k < b.length) : ∃ blk off, A = some ⟨blk, off, none⟩ ∧ blk < w.heap.size ∧ (∃ c, b[k]? = some c ∧ w.cell? ⟨blk, off + k, none⟩ = some (.int .u8 (c.toNat : Int))) ∧ ∀ (i : Nat) (c : UInt8), b[i]? = some c → w.cell? ⟨blk, off + i, none⟩ = some (.int .u8 (c.toNat : Int)) := by
  obtain ⟨blk, off, h1, h2, h3⟩ := h (by intro e; subst e; simp at hk)
  exact ⟨blk, off, h1, h2, ⟨b[k], List.getElem?_eq_getElem hk, h3 k _ (List.getElem?_eq_getElem hk)⟩, h3⟩
/-- The measure, jump by jump. -/
theorem mv_00 {n i j k : Nat} (h : k < n) : mv n 0 i (k + 1) < mv n 0 j k := by
  have := mul_step (n := n) (i := k) (k := k + 1) (by omega) (by omega)
  simp only [mv, if_true]; omega
theorem mv_0l {n j k l : Nat} (h0 : l = 1 ∨ l = 2 ∨ l = 3 ∨ l = 4) (hk : k ≤ n) : mv n l k k < mv n 0 j k := by
  rcases h0 with rfl | rfl | rfl | rfl <;> simp only [mv, if_true] <;> simp <;> omega
theorem mv_ll {n i k l : Nat} (h0 : l = 1 ∨ l = 2 ∨ l = 3) (h : k < n) : mv n l i (k + 1) < mv n l i k := by
  rcases h0 with rfl | rfl | rfl <;> simp only [mv] <;> simp <;> omega
theorem mv_l0 {n i j k l : Nat} (h0 : l = 1 ∨ l = 5) (h : i < k) (hk : k ≤ n) : mv n 0 j k < mv n l i k := by
  have := mul_step h hk
  rcases h0 with rfl | rfl <;> simp only [mv, if_true] <;> simp <;> omega
theorem mv_l5 {n i k j l : Nat} (h0 : l = 2 ∨ l = 3 ∨ l = 4) : mv n 5 i j < mv n l i k := by
  rcases h0 with rfl | rfl | rfl <;> simp only [mv] <;> simp

theorem pass1 (A : Option Addr) (n cap : Nat) (b : Bs) (w wr : World) (g M : Nat) (ts : List Tk) (vl : Value) (i k : Nat) 
    {u1 u2 u3 u4 u7 u10 u11 u12 u13 u14 u15 u16 u17 u18 u19 u20 u21 u22 u23 u24 u25 u26 u27 u28 u29 u30 u31 u32 u33 u34 u35 u36 u37 u38 u39 u40 u41 u42 u43 u44 u45 u46 u47 u48 u49 u50 u51 u52 u53 u54 u55 u56 u57 u58 u59 u60 u61 u62 u63 u64 u65 u66 u67 u68 u69 u70 u71 u72 u73 u74 u75 u76 u77 u78 u79 u80 u81 u82 u83 u84 u85 u86 u87 u88 u89 u90 u91 u92 u93 u94 u95 u96 u97 u98 u99 u100 u101 u102 u103 u104 u105 u106 u107 u108 u109 u110 u111 u112 u113 u114 u115 u116 u117 u118 u119 u120 u121 u122 u123 u124 u125 u126 u127 u128 u129 u130 u131 u132 u133 u134 u135 u136 u137 u138 u139 u140 u141 u142 : Value}
    (Q : Exit → Act → World → Prop) (hn : b.length = n) (hcap : n ≤ cap) (hc63 : cap ≤ 9223372036854775807) (hmax : n ≤ 65536) (hb : BAt w A b) (hev : EV w) (hI : DI w g ts vl wr) (hk : k ≤ n) (hi : i < n) (hcnt : ts.length ≤ i) (hD : DL b g ts i k u7 wr 1) (hM : mv n 1 i k = M) :
    (divX 1).wp Tryd.prog (hop (DG A cap b w g M) Q) ⟨#[.slice A n cap, u1, u2, u3, u4, vl, .pointer (some ⟨g, 0, none⟩), u7, .int .i64 (i : Int), .int .i64 (k : Int), u10, u11, u12, u13, u14, u15, u16, u17, u18, u19, u20, u21, u22, u23, u24, u25, u26, u27, u28, u29, u30, u31, u32, u33, u34, u35, u36, u37, u38, u39, u40, u41, u42, u43, u44, u45, u46, u47, u48, u49, u50, u51, u52, u53, u54, u55, u56, u57, u58, u59, u60, u61, u62, u63, u64, u65, u66, u67, u68, u69, u70, u71, u72, u73, u74, u75, u76, u77, u78, u79, u80, u81, u82, u83, u84, u85, u86, u87, u88, u89, u90, u91, u92, u93, u94, u95, u96, u97, u98, u99, u100, u101, u102, u103, u104, u105, u106, u107, u108, u109, u110, u111, u112, u113, u114, u115, u116, u117, u118, u119, u120, u121, u122, u123, u124, u125, u126, u127, u128, u129, u130, u131, u132, u133, u134, u135, u136, u137, u138, u139, u140, u141, u142], []⟩ wr := by

  have _ := hc63; have _ := hev; have _ := hmax; have _ := hcap
  simp only [divX, divC, Tryd.f17, findLabel, Nat.reduceBEq, Bool.false_eq_true, if_true, if_false]
  have HCN := Lib.hid hcnt
  clear hcnt
  have HI := Lib.hid hI
  have HN := Lib.hid hn
  have HD := Lib.hid hD
  have HM := Lib.hid hM
  have hbr := hb.touch hI.t
  have HB := Lib.hid hbr
  clear hI hD hM hb hbr hev hn
  by_cases hlt : k < n
  · obtain ⟨blk, off, rfl, hblk, ⟨c, hc, hcell⟩, -⟩ := bat_at HB.out (by rw [HN.out]; exact hlt)
    have HC := Lib.hid hc
    clear hc
    have hd : decide ((k : Int) < (n : Int)) = true := by simp; omega
    obtain ⟨x, hx⟩ : ∃ x, (c.toNat : Int) = x := ⟨_, rfl⟩
    rw [hx] at hcell
    have HX := Lib.hid hx
    clear hx
    cases h10 : x != 10
    · have hc10 : c.toNat = 10 := by have := HX.out; simp at h10; omega
      have hik : i < k := by
        obtain ⟨⟨h1, h2, h3⟩, ⟨d, hd1, hd2⟩, -⟩ := HD.out
        by_cases e : i = k
        · subst e
          have := HC.out.symm.trans hd1
          injection this with this
          subst this
          omega
        · omega
      go_wp2
      go_step3
      show DG _ cap b w g M 0 _ _
      refine DG.mk (ts) (vl) (_) (_) (i) (k) ⟨rfl, rfl, by rw [HN.out]; rfl, rfl, rfl, rfl, rfl, rfl, (fun _ => rfl), ?le, ?il, (by have := HCN.out; show ts.length ≤ k; omega), HI.out, by show _ = _; rw [← from_shut HC.out hc10]; exact HD.out.2.2⟩ (by decide) ?mm
      case le => rw [HN.out]; exact (by omega)
      case il => rw [HN.out]; exact (fun _ => hi)
      case mm => rw [HN.out, ← HM.out]; exact mv_l0 (.inl rfl) hik (by omega)
    · have hc10 : ¬ c.toNat = 10 := by have := HX.out; simp at h10; omega
      go_wp2
      go_step3
      show DG _ cap b w g M 1 _ _
      refine DG.mk (ts) (vl) (_) (_) (i) (k + 1) ⟨rfl, rfl, by rw [HN.out]; rfl, rfl, rfl, rfl, rfl, by simp [slot], (fun _ => rfl), ?le, ?il, (by have := HCN.out; show ts.length ≤ i; omega), HI.out, ⟨HD.out.1.next HC.out (by simp [hc10]), HD.out.2.1, by rw [← from_within HC.out hc10]; exact HD.out.2.2⟩⟩ (by decide) ?mm
      case le => rw [HN.out]; exact (by omega)
      case il => rw [HN.out]; exact (fun _ => hi)
      case mm => rw [HN.out, ← HM.out]; exact mv_ll (.inl rfl) hlt
  · obtain rfl : k = n := by omega
    have hd : decide ((k : Int) < (k : Int)) = false := by simp
    go_wp2
    go_step3
    show DG _ cap b w g M 0 _ _
    refine DG.mk (ts) (vl) (_) (_) (i) (k) ⟨rfl, rfl, by rw [HN.out]; rfl, rfl, rfl, rfl, rfl, rfl, (fun _ => rfl), ?le, ?il, (by have := HCN.out; show ts.length ≤ k; omega), HI.out, by show _ = _; have := HD.out.2.2; rw [← HN.out, from_end] at this; rw [← HN.out, from_end]; exact this⟩ (by decide) ?mm
    case le => rw [HN.out]; exact (by omega)
    case il => rw [HN.out]; exact (fun _ => hi)
    case mm => rw [HN.out, ← HM.out]; exact mv_l0 (.inl rfl) hi (Nat.le_refl _)
end Go.Proofs.YtmgmmbeldhleoaaDoor
