/-
  Package lex's divide, from its label told on: an error, or one token more. Conditions: at most 65536 bytes.
-/
import Derived.Test.YtmgmmbeldhleoaaDoorLf
namespace Go.Proofs.YtmgmmbeldhleoaaDoor
open Go.ChangeShapes Go.WideShapes Go.ChangeAt Go.RowKit
set_option maxRecDepth 100000
set_option maxHeartbeats 4000000

/-- What holds wherever divide returns. -/
def OnRet (b : Bs) (w : World) (n : Nat) (Q : Exit → Act → World → Prop) : Prop :=
  ∀ (a : Act) (w' : World) (v2 v3 v4 : Value), a.defers = [] → a.tmps[2]? = some v2 → a.tmps[3]? = some v3 → a.tmps[4]? = some v4 → LxPost w n (lexL b) (.returned (.tuple #[v2, v3, v4])) w' → Q .ret a w'
/-- A token read. -/
theorem from_told {b : Bs} {i k : Nat} {c : UInt8} {ts : List Tk} {t : Tk} (h : b[i]? = some c) (hb : bB c = false) (hc : ¬ (c.toNat = 47 ∧ slash (b.drop (i + 1)) = true)) (hik : i ≤ k)
    (ht : tokL i (b.drop i) = some (t, k - i)) : Lx.pre ts (fromS false b i) = Lx.pre (ts ++ [t]) (fromS false b k) := by
  rw [from_tok h hb hc, ht]
  simp only
  rw [Lx.pre_cons, show i + (k - i) = k from by omega]
theorem from_wrong {b : Bs} {i : Nat} {c : UInt8} {ts : List Tk} (h : b[i]? = some c) (hb : bB c = false) (hc : ¬ (c.toNat = 47 ∧ slash (b.drop (i + 1)) = true))
    (ht : tokL i (b.drop i) = none) : Lx.pre ts (fromS false b i) = .bad i := by
  rw [from_tok h hb hc, ht]; rfl
theorem DI.put1 {w wr : World} {g : Nat} {ts : List Tk} {vl : Value} (h : DI w g ts vl wr) (j : Nat) (y : Value) (hj : j < 4) : DI w g ts vl (wr.setCell ⟨g, j, none⟩ y) := by
  obtain ⟨x0, x1, x2, x3, hb⟩ := h.blk
  have tt := (Touch.refl (fun b => b = g) wr).setCell (p := ⟨g, j, none⟩) (.inl rfl) y
  refine ⟨h.t.setCell (p := ⟨g, j, none⟩) (.inr h.ge) y, h.ge, ?_, row_touch h.row tt (fun k hk e => h.ne (e ▸ hk)), h.ne⟩
  have := set_blk hb j y
  have hcase : j = 0 ∨ j = 1 ∨ j = 2 ∨ j = 3 := by omega
  rcases hcase with rfl | rfl | rfl | rfl <;> exact ⟨_, _, _, _, this⟩
/-- One token more. -/
theorem DI.app {w wr w' : World} {g : Nat} {ts : List Tk} {vl v' : Value} (h : DI w g ts vl wr) (t : Tk) (ho : w'.ownsRow w.heap.size 35 4 v' (ts.length + 1) (tkC ts ++ TkV t)) (hg : wr.grownBy w' vl.ownBlock)
    (ha : v'.ownBlock = vl.ownBlock ∨ v'.ownBlock = some wr.heap.size) : DI w g (ts ++ [t]) v' w' := by
  have hlt := h.lt
  obtain ⟨x0, x1, x2, x3, hb⟩ := h.blk
  refine ⟨h.t.grown hg (fun k e => .inr (h.row.lt k e).1), h.ge, ⟨x0, x1, x2, x3, (hg.block g hlt (fun e => h.ne e.symm)).trans hb⟩, ?_, fun e => ?_⟩
  · rw [tkC_snoc, List.length_append]; exact ho
  · rcases ha with ha | ha
    · exact h.ne (ha ▸ e)
    · rw [ha] at e; injection e with e; omega
theorem info_tok : (Tryd.prog.info? 35).map (fun i => (i.zero, i.size, i.bytes)) = some (some (.agg #[.int .i64 0, .int .i64 0, .int .i64 0, .string ⟨#[]⟩]), 4, 40) := by kernel_rfl
theorem info_tok' : ∃ i0, Tryd.prog.info? 35 = some i0 ∧ i0.zero = some (.agg #[.int .i64 0, .int .i64 0, .int .i64 0, .string ⟨#[]⟩]) ∧ i0.size = 4 ∧ i0.bytes = 40 := by
  have h := info_tok
  cases hi : Tryd.prog.info? 35 with
  | none => rw [hi] at h; cases h
  | some i0 =>
    rw [hi] at h
    simp only [Option.map_some, Option.some.injEq, Prod.mk.injEq] at h
    exact ⟨i0, rfl, h.1, h.2.1, h.2.2⟩
theorem TkV_one (t : Tk) : ∀ u ∈ TkV t, u.oneCell' = true := by
  intro u hu
  simp [TkV] at hu
  rcases hu with rfl | rfl | rfl | rfl <;> rfl
theorem pass5 (A : Option Addr) (n cap : Nat) (b : Bs) (w wr : World) (g M : Nat) (ts : List Tk) (vl : Value) (i k : Nat)
    {u1 u2 u3 u4 u7 u10 u11 u12 u13 u14 u15 u16 u17 u18 u19 u20 u21 u22 u23 u24 u25 u26 u27 u28 u29 u30 u31 u32 u33 u34 u35 u36 u37 u38 u39 u40 u41 u42 u43 u44 u45 u46 u47 u48 u49 u50 u51 u52 u53 u54 u55 u56 u57 u58 u59 u60 u61 u62 u63 u64 u65 u66 u67 u68 u69 u70 u71 u72 u73 u74 u75 u76 u77 u78 u79 u80 u81 u82 u83 u84 u85 u86 u87 u88 u89 u90 u91 u92 u93 u94 u95 u96 u97 u98 u99 u100 u101 u102 u103 u104 u105 u106 u107 u108 u109 u110 u111 u112 u113 u114 u115 u116 u117 u118 u119 u120 u121 u122 u123 u124 u125 u126 u127 u128 u129 u130 u131 u132 u133 u134 u135 u136 u137 u138 u139 u140 u141 u142 : Value}
    (Q : Exit → Act → World → Prop) (hQ : OnRet b w n Q) (hn : b.length = n) (hcap : n ≤ cap) (hc63 : cap ≤ 9223372036854775807) (hmax : n ≤ 65536) (hb : BAt w A b) (hev : EV w) (hI : DI w g ts vl wr) (hk : k ≤ n) (hi : i < n) (hcnt : ts.length ≤ i) (hD : DL b g ts i k u7 wr 5) (hM : mv n 5 i k = M) :
    (divX 5).wp Tryd.prog (hop (DG A cap b w g M) Q) ⟨#[.slice A n cap, u1, u2, u3, u4, vl, .pointer (some ⟨g, 0, none⟩), u7, .int .i64 (i : Int), .int .i64 (k : Int), u10, u11, u12, u13, u14, u15, u16, u17, u18, u19, u20, u21, u22, u23, u24, u25, u26, u27, u28, u29, u30, u31, u32, u33, u34, u35, u36, u37, u38, u39, u40, u41, u42, u43, u44, u45, u46, u47, u48, u49, u50, u51, u52, u53, u54, u55, u56, u57, u58, u59, u60, u61, u62, u63, u64, u65, u66, u67, u68, u69, u70, u71, u72, u73, u74, u75, u76, u77, u78, u79, u80, u81, u82, u83, u84, u85, u86, u87, u88, u89, u90, u91, u92, u93, u94, u95, u96, u97, u98, u99, u100, u101, u102, u103, u104, u105, u106, u107, u108, u109, u110, u111, u112, u113, u114, u115, u116, u117, u118, u119, u120, u121, u122, u123, u124, u125, u126, u127, u128, u129, u130, u131, u132, u133, u134, u135, u136, u137, u138, u139, u140, u141, u142], []⟩ wr := by

  have _ := hc63; have _ := hcap; have _ := hb; have _ := hev
  simp only [divX, divC, Tryd.f17, findLabel, Nat.reduceBEq, Bool.false_eq_true, if_true, if_false]
  obtain ⟨i0, hi0, hz0, hz1, hz2⟩ := info_tok'
  have HQ := Lib.hid hQ
  have HCN := Lib.hid hcnt
  have HI := Lib.hid hI
  have HN := Lib.hid hn
  have HM := Lib.hid hM
  obtain ⟨⟨c, hc, hcb, hcs⟩, hpre, hcase⟩ := hD
  rcases hcase with ⟨rfl, hno⟩ | ⟨rfl, t, y, hyes, hik, hblk⟩
  · have HR := Lib.hid (hpre.symm.trans (from_wrong hc hcb hcs hno))
    clear hQ hcnt hI hM hb hev hn hc hcb hcs hpre hno
    go_wp2
    show Q .ret _ _
    exact HQ.out _ _ _ _ _ rfl rfl rfl rfl (by rw [HR.out]; exact ⟨HI.out.t, rfl⟩)
  · have HR := Lib.hid (hpre.symm.trans (from_told hc hcb hcs (by omega) hyes))
    have htp := (tok_at hyes).1
    have hlb := blk_lt hblk
    have c0 := cell_blk hblk 0
    have c1 := cell_blk hblk 1
    have c2 := cell_blk hblk 2
    have c3 := cell_blk hblk 3
    have f2 := free_blk hblk 2
    have HB := Lib.hid hblk
    have HTP := Lib.hid htp
    clear hQ hcnt hI hM hb hev hn hc hcb hcs hpre htp hblk
    go_wp2_with (at_builtin; refine wpList_append_own_at _ rfl (.tmp 139) (.tmp 141) 24 rfl w.heap.size 35 i0 _ 4 40 Tryd.underlying24 hi0 hz0 hz1 hz2 rfl (by decide) vl ts.length (tkC ts) rfl ?o1 ⟨wr.heap.size, 0, none⟩ 1 1 (TkV t) rfl rfl ?c1 ?c2 ?c3 ?c4 ?c5 ?go)
    case o1 => exact ((HI.out.put1 2 _ (by decide)).touch ((Touch.refl _ _).alloc _)).row
    case c1 =>
      rw [show TkV t = [.int .i64 t.kd, .int .i64 t.n, .int .i64 (i : Int), .string (bs t.tx)] from by rw [TkV, HTP.out]]
      exact World.news_of_block (cs := #[.int .i64 t.kd, .int .i64 t.n, .int .i64 (i : Int), .string (bs t.tx)]) (alloc_blk _ _ 35 (by simp [World.setCell]))
    case c2 => exact TkV_one t
    case c3 => have := HCN.out; unfold maxLen; omega
    case c4 => have := HCN.out; omega
    case c5 => have := HI.out.t.size; simp [World.setCell]; omega
    case go =>
    intro v2 w2 hown2 hgrow _ ha
    have HI2 := Lib.hid (((HI.out.put1 2 (.int .i64 (i : Int)) (by decide)).touch ((Touch.refl _ _).alloc _)).app t hown2 hgrow (by rcases ha with ha | ha; exact .inl ha; exact .inr (by rw [ha]; simp [World.setCell])))
    clear hown2 hgrow ha c0 c1 c2 c3 f2 hlb
    go_wp2
    go_step3
    show DG _ cap b w g M 0 _ _
    refine DG.mk (ts ++ [t]) v2 _ _ (i) (k) ⟨rfl, rfl, by rw [HN.out]; rfl, rfl, rfl, rfl, rfl, rfl, (fun e => absurd rfl e), ?le, (fun e => absurd rfl e), (by have := HCN.out; show (ts ++ [t]).length ≤ k; rw [List.length_append]; simp; omega), HI2.out, HR.out.symm⟩ (by decide) ?mm
    case le => rw [HN.out]; exact hk
    case mm => rw [HN.out, ← HM.out]; exact mv_l0 (.inr rfl) hik hk
end Go.Proofs.YtmgmmbeldhleoaaDoor
