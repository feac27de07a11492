/-
  The document's own reader of tokens in memory: what its name, number and made return, how deep its ExprDepth says that an expression is, and its table of levels. Conditions: those that each theorem names.
-/
import Derived.Test.YtnphaaahdlkmhaaGreatZs20
import Derived.Test.YtnphaaahdlkmhaaGreatZs7
import Derived.Deep.RegionLaw
section
namespace Go.Proofs.YtnphaaahdlkmhaaGreat
open Go.ChangeShapes Go.WideShapes Go.ChangeAt Go.RowKit
set_option maxRecDepth 100000
set_option maxHeartbeats 4000000

theorem rnumber_any {w : World} {gp g n cp : Nat} {ts : List Tk} {k e : Nat} (h : RS w gp g n cp ts k e) :
    Calls Tryz.prog 32 #[.pointer (some ⟨gp, 0, none⟩)] w fun x w' => x = .returned (.int .i64 (numR (nxt ts k e) : Int)) ∧ RS w' gp g n cp ts (stepK (nxt ts k e) 3 k) (stepE (nxt ts k e) 3 e) ∧ Touch (AtB gp) w w' := by
  have HN := Lib.hid (rnow_any h)
  have HP := Lib.hid h
  have HF := Lib.hid (fun (W : World) (t : Touch NoB w W) => rfail_any (h.touch t) 2)
  have hgl := h.lt
  by_cases hk : (nxt ts k e).kd = 3
  · have he : e = 0 := by
      by_cases he : e = 0
      · exact he
      · rw [nxt_bad he] at hk; exact absurd hk (by decide)
    subst he
    have hlt : k < n := by
      by_cases hl : k < n
      · exact hl
      · have := h.le
        have : k = ts.length := by rw [h.len]; omega
        rw [this, nxt_end] at hk
        exact absurd hk (by decide)
    have hsm := h.small
    obtain ⟨k1, hkk⟩ : ∃ k1, k + 1 = k1 := ⟨_, rfl⟩
    have hk1 : IntKind.i64.wrap ((k : Int) + 1) = (k1 : Int) := by rw [show (k : Int) + 1 = (k1 : Int) from by omega]; exact IntWalk.i64_in _ (by omega)
    have hk1n : k1 ≤ n := by omega
    unfold numR stepK stepE
    rw [if_pos hk, if_pos hk, if_pos hk, hkk]
    obtain ⟨t, ht⟩ : ∃ t, nxt ts k 0 = t := ⟨_, rfl⟩
    rw [ht] at HN hk ⊢
    obtain ⟨kd, nn, pl, tx⟩ := t
    simp only at hk HN ⊢
    subst hk
    obtain ⟨sx, hsx⟩ : ∃ sx, bs tx = sx := ⟨_, rfl⟩
    rw [hsx] at HN
    have hee : (((0 : Nat) : Int) != 0) = false := rfl
    clear hkk hlt hsm h ht hsx HF
    go_enter Tryz.func32, Tryz.ntmps32
    go_wp2_with fail
    refine HN.out.mono ?_
    rintro x w1 ⟨rfl, hT1⟩
    obtain ⟨W, hW⟩ : ∃ W, w1.alloc (.cells #[.int .i64 3, .int .i64 (nn : Int), .int .i64 (pl : Int), .string sx] 52) = W := ⟨_, rfl⟩
    have hT2 : Touch NoB w W := by rw [← hW]; exact hT1.alloc _
    have hp2 := HP.out.touch hT2
    obtain ⟨bad2, hb2, -⟩ := hp2.blk
    have c2 : W.cell? ⟨gp, 2, none⟩ = some (.int .i64 ((0 : Nat) : Int)) := cell_blk hb2 2
    have c1 : W.cell? ⟨gp, 1, none⟩ = some (.int .i64 (k : Int)) := cell_blk hb2 1
    have q1 : W.frozen? ⟨gp, 1, none⟩ = false := free_blk hb2 1
    have hb : W.heap[w1.heap.size]? = some (.cells #[.int .i64 3, .int .i64 (nn : Int), .int .i64 (pl : Int), .string sx] 52 (0, 0)) := by rw [← hW]; exact alloc_blk _ _ _ rfl
    have hs1 := hT1.size
    have d0 : W.cell? ⟨w1.heap.size, 0, none⟩ = some (.int .i64 3) := cell_blk hb 0
    obtain ⟨W3, hW3⟩ : ∃ W3, W.setCell ⟨gp, 1, none⟩ (.int .i64 (k1 : Int)) = W3 := ⟨_, rfl⟩
    have t3 : Touch (AtB gp) W W3 := by rw [← hW3]; exact touch_set (gp := gp) (Touch.refl _ W) 1 _
    have hb3 : W3.heap[w1.heap.size]? = some (.cells #[.int .i64 3, .int .i64 (nn : Int), .int .i64 (pl : Int), .string sx] 52 (0, 0)) := (t3.block _ (blk_lt hb) (by unfold AtB; omega)).trans hb
    have e1 : W3.cell? ⟨w1.heap.size, 1, none⟩ = some (.int .i64 (nn : Int)) := cell_blk hb3 1
    have e3 : W3.cell? ⟨w1.heap.size, 3, none⟩ = some (.string sx) := cell_blk hb3 3
    have HE := Lib.hid (And.intro (show RS W3 gp g n cp ts k1 0 by rw [← hW3]; exact hp2.setk k1 hk1n) (show Touch (AtB gp) w W3 from (Touch.anyB hT2).same t3))
    clear hT1 hT2 hp2 hb hb2 hb3 t3
    go_wp2
    go_ret
    exact ⟨rfl, HE.out.1, HE.out.2⟩
  · unfold numR stepK stepE
    rw [if_neg hk, if_neg hk, if_neg hk]
    obtain ⟨e', he'⟩ : ∃ e', (if e = 0 then 2 else e) = e' := ⟨_, rfl⟩
    rw [he'] at HF ⊢
    skip
    obtain ⟨t, ht⟩ : ∃ t, nxt ts k 0 = t := ⟨_, rfl⟩
    rw [ht] at HN
    have hkk : e = 0 → t.kd ≠ 3 := by intro he; subst he; rw [← ht]; exact hk
    obtain ⟨kd, nn, pl, tx⟩ := t
    simp only at HN hkk
    obtain ⟨sx, hsx⟩ : ∃ sx, bs tx = sx := ⟨_, rfl⟩
    rw [hsx] at HN
    have hd : ((e : Int) != 0) = true ∨ (((e : Int) != 0) = false ∧ ((kd : Int) != 3) = true) := by
      by_cases he : e = 0
      · right
        refine ⟨by subst he; rfl, ?_⟩
        have := hkk he
        have h1 : ¬ (kd : Int) = 3 := by omega
        simpa using h1
      · left; simpa using he
    clear hk he' ht hkk hsx h
    go_enter Tryz.func32, Tryz.ntmps32
    go_wp2_with fail
    refine HN.out.mono ?_
    rintro x w1 ⟨rfl, hT1⟩
    obtain ⟨W, hW⟩ : ∃ W, w1.alloc (.cells #[.int .i64 (kd : Int), .int .i64 (nn : Int), .int .i64 (pl : Int), .string sx] 52) = W := ⟨_, rfl⟩
    have hT2 : Touch NoB w W := by rw [← hW]; exact hT1.alloc _
    have hp2 := HP.out.touch hT2
    obtain ⟨bad2, hb2, -⟩ := hp2.blk
    have c2 : W.cell? ⟨gp, 2, none⟩ = some (.int .i64 (e : Int)) := cell_blk hb2 2
    have hb : W.heap[w1.heap.size]? = some (.cells #[.int .i64 (kd : Int), .int .i64 (nn : Int), .int .i64 (pl : Int), .string sx] 52 (0, 0)) := by rw [← hW]; exact alloc_blk _ _ _ rfl
    have d0 : W.cell? ⟨w1.heap.size, 0, none⟩ = some (.int .i64 (kd : Int)) := cell_blk hb 0
    have HF := Lib.hid (HF.out W hT2)
    have HE := Lib.hid (Touch.anyB (F := AtB gp) hT2)
    clear hT1 hT2 hp2 hb hb2
    rcases hd with hd | ⟨hd, hd2⟩
    all_goals
      go_wp2_with fail
      refine HF.out.mono ?_
      rintro x W3 ⟨rfl, h1, h2⟩
      have HE := Lib.hid (And.intro h1 (HE.out.same h2))
      clear h1 h2
      go_wp2
      go_ret
      exact ⟨rfl, HE.out.1, HE.out.2⟩
theorem rnm_any {w : World} {gp g n cp : Nat} {ts : List Tk} {k e : Nat} (h : RS w gp g n cp ts k e) :
    Calls Tryz.prog 18 #[.pointer (some ⟨gp, 0, none⟩)] w fun x w' => x = .returned (.string (bs (namR (nxt ts k e)))) ∧ RS w' gp g n cp ts (stepK (nxt ts k e) 1 k) (stepE (nxt ts k e) 1 e) ∧ Touch (AtB gp) w w' := by
  have HN := Lib.hid (rnow_any h)
  have HP := Lib.hid h
  have HF := Lib.hid (fun (W : World) (t : Touch NoB w W) => rfail_any (h.touch t) 2)
  have hgl := h.lt
  by_cases hk : (nxt ts k e).kd = 1
  · have he : e = 0 := by
      by_cases he : e = 0
      · exact he
      · rw [nxt_bad he] at hk; exact absurd hk (by decide)
    subst he
    have hlt : k < n := by
      by_cases hl : k < n
      · exact hl
      · have := h.le
        have : k = ts.length := by rw [h.len]; omega
        rw [this, nxt_end] at hk
        exact absurd hk (by decide)
    have hsm := h.small
    obtain ⟨k1, hkk⟩ : ∃ k1, k + 1 = k1 := ⟨_, rfl⟩
    have hk1 : IntKind.i64.wrap ((k : Int) + 1) = (k1 : Int) := by rw [show (k : Int) + 1 = (k1 : Int) from by omega]; exact IntWalk.i64_in _ (by omega)
    have hk1n : k1 ≤ n := by omega
    unfold namR stepK stepE
    rw [if_pos hk, if_pos hk, if_pos hk, hkk]
    obtain ⟨t, ht⟩ : ∃ t, nxt ts k 0 = t := ⟨_, rfl⟩
    rw [ht] at HN hk ⊢
    obtain ⟨kd, nn, pl, tx⟩ := t
    simp only at hk HN ⊢
    subst hk
    obtain ⟨sx, hsx⟩ : ∃ sx, bs tx = sx := ⟨_, rfl⟩
    rw [hsx] at HN ⊢
    have hee : (((0 : Nat) : Int) != 0) = false := rfl
    clear hkk hlt hsm h ht hsx HF
    go_enter Tryz.func18, Tryz.ntmps18
    go_wp2_with fail
    refine HN.out.mono ?_
    rintro x w1 ⟨rfl, hT1⟩
    obtain ⟨W, hW⟩ : ∃ W, w1.alloc (.cells #[.int .i64 1, .int .i64 (nn : Int), .int .i64 (pl : Int), .string sx] 52) = W := ⟨_, rfl⟩
    have hT2 : Touch NoB w W := by rw [← hW]; exact hT1.alloc _
    have hp2 := HP.out.touch hT2
    obtain ⟨bad2, hb2, -⟩ := hp2.blk
    have c2 : W.cell? ⟨gp, 2, none⟩ = some (.int .i64 ((0 : Nat) : Int)) := cell_blk hb2 2
    have c1 : W.cell? ⟨gp, 1, none⟩ = some (.int .i64 (k : Int)) := cell_blk hb2 1
    have q1 : W.frozen? ⟨gp, 1, none⟩ = false := free_blk hb2 1
    have hb : W.heap[w1.heap.size]? = some (.cells #[.int .i64 1, .int .i64 (nn : Int), .int .i64 (pl : Int), .string sx] 52 (0, 0)) := by rw [← hW]; exact alloc_blk _ _ _ rfl
    have hs1 := hT1.size
    have d0 : W.cell? ⟨w1.heap.size, 0, none⟩ = some (.int .i64 1) := cell_blk hb 0
    obtain ⟨W3, hW3⟩ : ∃ W3, W.setCell ⟨gp, 1, none⟩ (.int .i64 (k1 : Int)) = W3 := ⟨_, rfl⟩
    have t3 : Touch (AtB gp) W W3 := by rw [← hW3]; exact touch_set (gp := gp) (Touch.refl _ W) 1 _
    have hb3 : W3.heap[w1.heap.size]? = some (.cells #[.int .i64 1, .int .i64 (nn : Int), .int .i64 (pl : Int), .string sx] 52 (0, 0)) := (t3.block _ (blk_lt hb) (by unfold AtB; omega)).trans hb
    have e1 : W3.cell? ⟨w1.heap.size, 1, none⟩ = some (.int .i64 (nn : Int)) := cell_blk hb3 1
    have e3 : W3.cell? ⟨w1.heap.size, 3, none⟩ = some (.string sx) := cell_blk hb3 3
    have HE := Lib.hid (And.intro (show RS W3 gp g n cp ts k1 0 by rw [← hW3]; exact hp2.setk k1 hk1n) (show Touch (AtB gp) w W3 from (Touch.anyB hT2).same t3))
    clear hT1 hT2 hp2 hb hb2 hb3 t3
    go_wp2
    go_ret
    exact ⟨rfl, HE.out.1, HE.out.2⟩
  · unfold namR stepK stepE
    rw [if_neg hk, if_neg hk, if_neg hk]
    obtain ⟨e', he'⟩ : ∃ e', (if e = 0 then 2 else e) = e' := ⟨_, rfl⟩
    rw [he'] at HF ⊢
    have hbs : bs [] = ⟨#[]⟩ := rfl
    simp only [hbs]
    clear hbs
    obtain ⟨t, ht⟩ : ∃ t, nxt ts k 0 = t := ⟨_, rfl⟩
    rw [ht] at HN
    have hkk : e = 0 → t.kd ≠ 1 := by intro he; subst he; rw [← ht]; exact hk
    obtain ⟨kd, nn, pl, tx⟩ := t
    simp only at HN hkk
    obtain ⟨sx, hsx⟩ : ∃ sx, bs tx = sx := ⟨_, rfl⟩
    rw [hsx] at HN
    have hd : ((e : Int) != 0) = true ∨ (((e : Int) != 0) = false ∧ ((kd : Int) != 1) = true) := by
      by_cases he : e = 0
      · right
        refine ⟨by subst he; rfl, ?_⟩
        have := hkk he
        have h1 : ¬ (kd : Int) = 1 := by omega
        simpa using h1
      · left; simpa using he
    clear hk he' ht hkk hsx h
    go_enter Tryz.func18, Tryz.ntmps18
    go_wp2_with fail
    refine HN.out.mono ?_
    rintro x w1 ⟨rfl, hT1⟩
    obtain ⟨W, hW⟩ : ∃ W, w1.alloc (.cells #[.int .i64 (kd : Int), .int .i64 (nn : Int), .int .i64 (pl : Int), .string sx] 52) = W := ⟨_, rfl⟩
    have hT2 : Touch NoB w W := by rw [← hW]; exact hT1.alloc _
    have hp2 := HP.out.touch hT2
    obtain ⟨bad2, hb2, -⟩ := hp2.blk
    have c2 : W.cell? ⟨gp, 2, none⟩ = some (.int .i64 (e : Int)) := cell_blk hb2 2
    have hb : W.heap[w1.heap.size]? = some (.cells #[.int .i64 (kd : Int), .int .i64 (nn : Int), .int .i64 (pl : Int), .string sx] 52 (0, 0)) := by rw [← hW]; exact alloc_blk _ _ _ rfl
    have d0 : W.cell? ⟨w1.heap.size, 0, none⟩ = some (.int .i64 (kd : Int)) := cell_blk hb 0
    have HF := Lib.hid (HF.out W hT2)
    have HE := Lib.hid (Touch.anyB (F := AtB gp) hT2)
    clear hT1 hT2 hp2 hb hb2
    rcases hd with hd | ⟨hd, hd2⟩
    all_goals
      go_wp2_with fail
      refine HF.out.mono ?_
      rintro x W3 ⟨rfl, h1, h2⟩
      have HE := Lib.hid (And.intro h1 (HE.out.same h2))
      clear h1 h2
      go_wp2
      go_ret
      exact ⟨rfl, HE.out.1, HE.out.2⟩
end Go.Proofs.YtnphaaahdlkmhaaGreat
end
/-
  How deep the document's own ExprDepth says that an expression is; what its made returns; its table of levels. Conditions: those that each theorem names.
-/
section
namespace Go.Proofs.YtnphaaahdlkmhaaGreat
open Go.ChangeShapes Go.WideShapes Go.ChangeAt Go.RowKit
set_option maxRecDepth 100000
set_option maxHeartbeats 4000000

def RdRel (x : Ex) (m : Nat) (w : World) (v3 v4 : Value) (wr : World) : Prop := ∃ i : Nat, i ≤ m ∧ v4 = .int .i64 i ∧ v3 = .int .i64 (dk x i) ∧ Touch NoB w wr
theorem dk_mx {x : Ex} {i : Nat} {d1 d2 : Nat} (h : dk x (i + 1) = max d1 d2) : (d1 < d2 → dk x (i + 1) = d2) ∧ (¬ d1 < d2 → dk x (i + 1) = d1) := by
  constructor <;> intro h2 <;> omega
theorem rdepth_any : ∀ (N : Nat) (x : Ex), x.depth ≤ N → x.depth ≤ 100000 → ∀ (w : World) (Q : Nat → Prop) {a b : Int} {s : ByteArray} {A : Option Addr} {m c : Nat}, ET w Q x a b s A m c →
    Calls Tryz.prog 80 #[.agg #[.int .i64 a, .int .i64 b, .string s, .slice A m c]] w fun e w' => e = .returned (.int .i64 (x.depth : Int)) ∧ Touch NoB w w'
  | 0, x, h, _, _, _, _, _, _, _, _, _, _ => by cases x <;> simp [Ex.depth] at h
  | N + 1, x, h, hmax, w, Q, a, b, s, A, m, c, hx => by
    have ih := Lib.hid (fun (y : Ex) (hy : y.depth ≤ N) (hy2 : y.depth ≤ 100000) (w : World) (a b : Int) (s : ByteArray) (A : Option Addr) (m c : Nat) (hx : ET w Q y a b s A m c) => rdepth_any N y hy hy2 w Q hx)
    obtain ⟨hl, hc, hm2⟩ := hx.len
    subst hc
    have HX := Lib.hid hx
    have HF := dk_full x
    rw [hl] at HF
    have HL := Lib.hid (And.intro hl (And.intro h hmax))
    obtain ⟨dp, hdp⟩ : ∃ dp, x.depth = dp := ⟨_, rfl⟩
    rw [hdp] at HF HL ⊢
    have HD := Lib.hid (And.intro hdp HF)
    obtain ⟨W1, hW1⟩ : ∃ W, w.alloc (.cells #[.int .i64 a, .int .i64 b, .string s, .slice A c c] 44) = W := ⟨_, rfl⟩
    have t1 : Touch NoB w W1 := by rw [← hW1]; exact (Touch.refl _ _).alloc _
    have hb1 : XB W1 w.heap.size a b s A c c := by rw [← hW1]; exact XB.new w _ _ _ _ _ _ rfl
    have HB := Lib.hid (And.intro t1 hb1)
    clear hx hl h hmax HF hdp t1 hb1
    go_enter Tryz.func80, Tryz.ntmps80
    go_wp2
    go_loopw [3, 4] (fun v3 v4 wr => RdRel x c W1 v3 v4 wr) (fun _ v4 _ => c - (intOf v4).toNat)
    case atStart => exact ⟨0, Nat.zero_le _, rfl, by rw [dk_zero]; rfl, Touch.refl _ _⟩
    case round =>
      obtain ⟨i, hi, rfl, rfl, hTr⟩ := hrel
      have hbr : XB wr w.heap.size a b s A c c := (hTr.block _ (blk_lt HB.out.2) (fun x => x)).trans HB.out.2
      obtain ⟨p0, p1, p2, p3, p4⟩ := hbr.cells
      clear hbr
      by_cases hlt : i < c
      · obtain ⟨y, hy⟩ : ∃ y, (kidsOf x)[i]? = some y := ⟨(kidsOf x)[i]'(by rw [HL.out.1]; exact hlt), List.getElem?_eq_getElem _⟩
        obtain ⟨g, a1, b1, t1, A1, m1, c1, rfl, hk⟩ := ((HX.out.touch0 HB.out.1).touch0 hTr).kid i y hy
        obtain ⟨k0, k1, k2, k3, k4, ket⟩ := hk
        have hyl := kid_lt hy
        have hds := dk_succ hy
        have HR := Lib.hid (ih.out y (by have := HL.out.2.1; have := HD.out.1; omega) (by have := HL.out.2.2; have := HD.out.1; omega) wr a1 b1 t1 A1 m1 c1 ket)
        have HT := Lib.hid hTr
        have hy5 : y.depth ≤ 100000 := by have := HL.out.2.2; have := HD.out.1; omega
        have hx5 : dk x i ≤ 100000 := by have := dk_lt x i; have := HL.out.2.2; have := HD.out.1; omega
        clear hTr ket hyl
        go_wp2_with fail
        refine HR.out.mono ?_
        rintro e w2 ⟨rfl, hT2⟩
        have HT2 := Lib.hid (HT.out.same hT2)
        clear hT2
        obtain ⟨d1, hd1⟩ : ∃ d1, dk x i = d1 := ⟨_, rfl⟩
        obtain ⟨d2, hd2⟩ : ∃ d2, y.depth = d2 := ⟨_, rfl⟩
        rw [hd1, hd2] at hds
        rw [hd1] at hx5 ⊢
        rw [hd2] at hy5 ⊢
        have HS := Lib.hid (dk_mx hds)
        clear hds hd1 hd2
        by_cases hlt2 : d1 < d2
        · have hgt : decide ((d1 : Int) < (d2 : Int)) = true := by simpa using hlt2
          have hgt' : decide (d1 < d2) = true := by simpa using hlt2
          have HS := Lib.hid (HS.out.1 hlt2)
          go_wp2
          go_roundw
          case rel => exact ⟨i + 1, by omega, by go_num, by rw [HS.out], HT2.out⟩
          case measure => simp [intOf]; omega
        · have hgt : decide ((d1 : Int) < (d2 : Int)) = false := by simp; omega
          have hgt' : decide (d1 < d2) = false := by simp; omega
          have HS := Lib.hid (HS.out.2 hlt2)
          go_wp2
          go_roundw
          case rel => exact ⟨i + 1, by omega, by go_num, by rw [HS.out], HT2.out⟩
          case measure => simp [intOf]; omega
      · obtain rfl : i = c := by omega
        have HT := Lib.hid (HB.out.1.same hTr)
        have hdd := HD.out.2
        have hmx := HL.out.2.2
        obtain ⟨d1, hd1⟩ : ∃ d1, dk x i = d1 := ⟨_, rfl⟩
        rw [hd1] at hdd ⊢
        clear hTr hd1
        go_wp2
        go_ret
        exact ⟨ret_int (by omega), HT.out⟩
/-- An expression made of others. -/
theorem rmade_any {w : World} {gp g n cp : Nat} {ts : List Tk} {k e : Nat} (h : RS w gp g n cp ts k e) {x : Ex} {kd : Int} {A : Option Addr} {m c : Nat} {Q : Nat → Prop} (hx : ET w Q x kd 0 ⟨#[]⟩ A m c) (hd : x.depth ≤ 100000) :
    Calls Tryz.prog 62 #[.pointer (some ⟨gp, 0, none⟩), .int .i64 kd, .slice A m c] w fun r w' => r = .returned (.agg #[.int .i64 kd, .int .i64 0, .string ⟨#[]⟩, .slice A m c]) ∧ RS w' gp g n cp ts k (if e = 0 ∧ 40 < x.depth then 4 else e) ∧ Touch (AtB gp) w w' := by
  obtain ⟨W1, hW1⟩ : ∃ W, (w.alloc (.cells #[.int .i64 0, .int .i64 0, .string ⟨#[]⟩, .slice none 0 0] 44)).alloc (.cells #[.int .i64 kd, .int .i64 0, .string ⟨#[]⟩, .slice A m c] 44) = W := ⟨_, rfl⟩
  have t1 : Touch NoB w W1 := by rw [← hW1]; exact ((Touch.refl _ _).alloc _).alloc _
  have hb6 : XB W1 w.heap.size 0 0 ⟨#[]⟩ none 0 0 := by rw [← hW1]; exact (XB.new w 0 0 ⟨#[]⟩ none 0 0 rfl).old _
  have hb7 : XB W1 (w.heap.size + 1) kd 0 ⟨#[]⟩ A m c := by rw [← hW1]; exact XB.new _ _ _ _ _ _ _ (by simp only [World.size_alloc])
  have hr := h.touch t1
  obtain ⟨bad, hb, -⟩ := hr.blk
  have c2 : W1.cell? ⟨gp, 2, none⟩ = some (.int .i64 (e : Int)) := cell_blk hb 2
  have hgp := h.lt
  have hgl := h.tl.lt
  have HD := Lib.hid (fun W (hW : Touch NoB W1 W) => rdepth_any 100000 x hd hd W Q ((hx.touch0 t1).touch0 hW))
  have HF := Lib.hid (fun (W : World) (t : Touch NoB W1 W) => rfail_any (hr.touch t) 4)
  have HP := Lib.hid (And.intro hr (And.intro t1 (And.intro hb6 hb7)))
  obtain ⟨dp, hdp⟩ : ∃ dp, x.depth = dp := ⟨_, rfl⟩
  rw [hdp] at HD hd ⊢
  obtain ⟨e', he'⟩ : ∃ e', (if e = 0 ∧ 40 < dp then 4 else e) = e' := ⟨_, rfl⟩
  rw [he']
  have HE' := Lib.hid he'
  clear h hr hb t1 hb6 hb7 hx hdp he'
  have hfin : ∀ W2 : World, RS W2 gp g n cp ts k e' → Touch (AtB gp) W1 W2 → XB W2 w.heap.size 0 0 ⟨#[]⟩ none 0 0 ∧ XB W2 (w.heap.size + 1) kd 0 ⟨#[]⟩ A m c ∧ Touch (AtB gp) w W2 := fun W2 _ t => ⟨HP.out.2.2.1.go t (by omega), HP.out.2.2.2.go t (by omega), (Touch.anyB HP.out.2.1).same t⟩
  have HFIN := Lib.hid hfin
  clear hfin
  by_cases he : e = 0
  · subst he
    have hee : (((0 : Nat) : Int) == 0) = true := rfl
    by_cases h40 : 40 < dp
    · have hgt : decide ((40 : Int) < (dp : Int)) = true := by simp; omega
      go_enter Tryz.func62, Tryz.ntmps62
      obtain ⟨p70, p71, p72, p73, p74⟩ := HP.out.2.2.2.cells
      go_wp2_with fail
      refine (HD.out _ (Touch.refl _ _)).mono ?_
      rintro r w2 ⟨rfl, hT2⟩
      have HF := Lib.hid (HF.out w2 hT2)
      simp only [if_true] at HF
      have HT2 := Lib.hid hT2
      clear hT2 p70 p71 p72 p73 p74
      go_wp2_with fail
      refine HF.out.mono ?_
      rintro r w3 ⟨rfl, hp3, hT3⟩
      have hee' : e' = 4 := by have h := HE'.out; simp only [true_and, if_pos h40] at h; exact h.symm
      subst hee'
      obtain ⟨x6, x7, tw⟩ := HFIN.out w3 hp3 ((Touch.anyB HT2.out).same hT3)
      obtain ⟨p70, p71, p72, p73, p74⟩ := x7.cells
      obtain ⟨z0, z1, z2, z3, z4⟩ := x6.cells
      obtain ⟨f0, f1, f2, f3⟩ := x6.free
      have HQ := Lib.hid (And.intro hp3 tw)
      clear hp3 hT3 x6 x7 tw
      go_wp2
      have hTE := touch4 (F := AtB gp) HQ.out.2 (.inr (Nat.le_refl w.heap.size)) (.int .i64 kd) (.int .i64 0) (.string ⟨#[]⟩) (.slice A m c)
      have hTX := touch4 (F := fun b => b = w.heap.size) (Touch.refl _ w3) (.inl rfl) (.int .i64 kd) (.int .i64 0) (.string ⟨#[]⟩) (.slice A m c)
      exact bodyPost_ret (v := .agg #[.int .i64 kd, .int .i64 0, .string ⟨#[]⟩, .slice A m c]) (by simp [results, Tryz.results62, go_sem, z0, z1, z2, z3]) rfl ⟨rfl, HQ.out.1.touchX hTX hgp hgl, hTE⟩
    · have hgt : decide ((40 : Int) < (dp : Int)) = false := by simp; omega
      go_enter Tryz.func62, Tryz.ntmps62
      obtain ⟨p70, p71, p72, p73, p74⟩ := HP.out.2.2.2.cells
      go_wp2_with fail
      refine (HD.out _ (Touch.refl _ _)).mono ?_
      rintro r w3 ⟨rfl, hT2⟩
      have hee' : e' = 0 := by rw [← HE'.out, if_neg (fun z => h40 z.2)]
      subst hee'
      have hp3 := HP.out.1.touch hT2
      obtain ⟨x6, x7, tw⟩ := HFIN.out w3 hp3 (Touch.anyB hT2)
      clear p70 p71 p72 p73 p74
      obtain ⟨p70, p71, p72, p73, p74⟩ := x7.cells
      obtain ⟨z0, z1, z2, z3, z4⟩ := x6.cells
      obtain ⟨f0, f1, f2, f3⟩ := x6.free
      have HQ := Lib.hid (And.intro hp3 tw)
      clear hp3 hT2 x6 x7 tw
      go_wp2
      have hTE := touch4 (F := AtB gp) HQ.out.2 (.inr (Nat.le_refl w.heap.size)) (.int .i64 kd) (.int .i64 0) (.string ⟨#[]⟩) (.slice A m c)
      have hTX := touch4 (F := fun b => b = w.heap.size) (Touch.refl _ w3) (.inl rfl) (.int .i64 kd) (.int .i64 0) (.string ⟨#[]⟩) (.slice A m c)
      exact bodyPost_ret (v := .agg #[.int .i64 kd, .int .i64 0, .string ⟨#[]⟩, .slice A m c]) (by simp [results, Tryz.results62, go_sem, z0, z1, z2, z3]) rfl ⟨rfl, HQ.out.1.touchX hTX hgp hgl, hTE⟩
  · have hee : ((e : Int) == 0) = false := by simp; omega
    have hee' : e' = e := by rw [← HE'.out, if_neg (fun z => he z.1)]
    subst hee'
    obtain ⟨x6, x7, tw⟩ := HFIN.out W1 HP.out.1 (Touch.refl _ _)
    obtain ⟨p70, p71, p72, p73, p74⟩ := x7.cells
    obtain ⟨z0, z1, z2, z3, z4⟩ := x6.cells
    obtain ⟨f0, f1, f2, f3⟩ := x6.free
    have HQ := Lib.hid (And.intro HP.out.1 tw)
    clear x6 x7 tw
    go_enter Tryz.func62, Tryz.ntmps62
    go_wp2
    have hTE := touch4 (F := AtB gp) HQ.out.2 (.inr (Nat.le_refl w.heap.size)) (.int .i64 kd) (.int .i64 0) (.string ⟨#[]⟩) (.slice A m c)
    have hTX := touch4 (F := fun b => b = w.heap.size) (Touch.refl _ W1) (.inl rfl) (.int .i64 kd) (.int .i64 0) (.string ⟨#[]⟩) (.slice A m c)
    exact bodyPost_ret (v := .agg #[.int .i64 kd, .int .i64 0, .string ⟨#[]⟩, .slice A m c]) (by simp [results, Tryz.results62, go_sem, z0, z1, z2, z3]) rfl ⟨rfl, HQ.out.1.touchX hTX hgp hgl, hTE⟩
/-- The signs of a level and their kinds, in two new rows. -/
structure LvRow (w : World) (b1 b2 m : Nat) (ops : List Int) : Prop where
  len : ops.length = m
  l1 : b1 < w.heap.size
  l2 : b2 < w.heap.size
  s : ∀ (i : Nat) (q : Int), ops[i]? = some q → w.cell? ⟨b1, i, none⟩ = some (.string (bs (wordB q)))
  k : ∀ (i : Nat) (q : Int), ops[i]? = some q → w.cell? ⟨b2, i, none⟩ = some (.int .i64 q)
theorem LvRow.touch {w w' : World} {F : Nat → Prop} {b1 b2 m : Nat} {ops : List Int} (h : LvRow w b1 b2 m ops) (t : Touch F w w') (h1 : ¬ F b1) (h2 : ¬ F b2) : LvRow w' b1 b2 m ops :=
  ⟨h.len, Nat.lt_of_lt_of_le h.l1 t.size, Nat.lt_of_lt_of_le h.l2 t.size, fun i q hi => (t.cell (p := ⟨b1, i, none⟩) h.l1 h1).trans (h.s i q hi), fun i q hi => (t.cell (p := ⟨b2, i, none⟩) h.l2 h2).trans (h.k i q hi)⟩
theorem rlevel_any (lv : Nat) (ops : List Int) (hl : lvs[lv]? = some ops) (w : World) :
    Calls Tryz.prog 61 #[.int .i64 (lv : Int)] w fun x w' => ∃ b1 b2 m, x = .returned (.tuple #[.slice (some ⟨b1, 0, none⟩) m m, .slice (some ⟨b2, 0, none⟩) m m]) ∧ LvRow w' b1 b2 m ops ∧ w.heap.size ≤ b1 ∧ w.heap.size ≤ b2 ∧ Touch NoB w w' := by
  have hlt : lv < 5 := (List.getElem?_eq_some_iff.1 hl).1
  have hc : lv = 0 ∨ lv = 1 ∨ lv = 2 ∨ lv = 3 ∨ lv = 4 := by omega
  rcases hc with rfl | rfl | rfl | rfl | rfl <;> (simp only [lvs, List.getElem?_cons_zero, List.getElem?_cons_succ, Option.some.injEq] at hl; subst hl)
  all_goals
    go_enter Tryz.func61, Tryz.ntmps61
    go_wp2
    refine bodyPost_ret (by simp [results, Tryz.results61, go_sem]; rfl) rfl ?_
    refine ⟨w.heap.size, w.heap.size + 1, _, rfl, ⟨rfl, by simp only [World.size_alloc]; omega, by simp only [World.size_alloc]; omega, ?_, ?_⟩, Nat.le_refl _, by omega, ((Touch.refl _ _).alloc _).alloc _⟩
    · intro i q hi
      have hb := fun (ob1 ob2 : Obj) (cs : Array Value) (t : TypeId) (h : ob1 = .cells cs t (0, 0)) => show ((w.alloc ob1).alloc ob2).heap[w.heap.size]? = some (.cells cs t (0, 0)) by rw [heap_alloc_old _ _ (by simp only [World.size_alloc]; omega), h]; exact alloc_blk _ _ _ rfl
      rw [cell_of_row _ _ _ _ _ _ (hb _ _ _ _ rfl)]
      have hil := (List.getElem?_eq_some_iff.1 hi).1
      have : i = 0 ∨ i = 1 := by simp at hil; omega
      rcases this with rfl | rfl <;> simp at hi <;> subst hi <;> rfl
    · intro i q hi
      rw [cell_of_row _ _ _ _ _ _ (alloc_blk _ _ _ (by simp only [World.size_alloc]))]
      have hil := (List.getElem?_eq_some_iff.1 hi).1
      have : i = 0 ∨ i = 1 := by simp at hil; omega
      rcases this with rfl | rfl <;> simp at hi <;> subst hi <;> rfl
end Go.Proofs.YtnphaaahdlkmhaaGreat
end
/-
  What the document's own expr does with a reader in memory. Conditions: what it calls does as the model says.
-/
section
namespace Go.Proofs.YtnphaaahdlkmhaaGreat
open Go.ChangeShapes Go.WideShapes Go.ChangeAt Go.RowKit
set_option maxRecDepth 100000
set_option maxHeartbeats 4000000

def RP (w : World) (Q : Nat → Prop) (gp g n cp : Nat) (ts : List Tk) (r : Rs) (k e D : Nat) (x : Ending) (w' : World) : Prop := Touch (AtB gp) w w' ∧ ∃ (y : Ex) (k' e' : Nat) (a b : Int) (s : ByteArray) (A : Option Addr) (m c : Nat),
  x = .returned (.agg #[.int .i64 a, .int .i64 b, .string s, .slice A m c]) ∧ ET w' (fun b => Q b ∨ w.heap.size ≤ b) y a b s A m c ∧ RS w' gp g n cp ts k' e' ∧ Out r k e y k' e' ∧ y.depth ≤ D
/-- What is assumed of expr at level lv and nesting d, of single at nesting d. -/
def RBinOk (gp g n cp : Nat) (ts : List Tk) (lv d D : Nat) (E : Nat → Rs) : Prop := ∀ (W : World) (k e : Nat), RS W gp g n cp ts k e →
  Calls Tryz.prog 35 #[.pointer (some ⟨gp, 0, none⟩), .int .i64 (lv : Int), .int .i64 (d : Int)] W (RP W NoB gp g n cp ts (E k) k e D)
def RUnaOk (gp g n cp : Nat) (ts : List Tk) (d D : Nat) (U : Nat → Rs) : Prop := ∀ (W : World) (k e : Nat), RS W gp g n cp ts k e →
  Calls Tryz.prog 60 #[.pointer (some ⟨gp, 0, none⟩), .int .i64 (d : Int)] W (RP W NoB gp g n cp ts (U k) k e D)
theorem rbin_single {gp g n cp d D : Nat} {ts : List Tk} {u : Nat → Rs} (HU : RUnaOk gp g n cp ts d D u) : RBinOk gp g n cp ts 5 d D (binL ts u 0) := by
  intro w k e h
  obtain ⟨W0, hW0⟩ : ∃ W, w.alloc (.cells #[.int .i64 0, .int .i64 0, .string ⟨#[]⟩, .slice none 0 0] 44) = W := ⟨_, rfl⟩
  have hT0 : Touch NoB w W0 := by rw [← hW0]; exact (Touch.refl _ _).alloc _
  have hs0 : W0.heap.size = w.heap.size + 1 := by rw [← hW0]; simp only [World.size_alloc]
  have hb4 : XB W0 w.heap.size 0 0 ⟨#[]⟩ none 0 0 := by rw [← hW0]; exact XB.new w _ _ _ _ _ _ rfl
  have hgp := h.lt
  have hgl := h.tl.lt
  have HC := Lib.hid (HU W0 k e (h.touch hT0))
  have HB4 := Lib.hid hb4
  have HT0 := Lib.hid hT0
  clear h hb4 hT0 HU
  go_enter Tryz.func35, Tryz.ntmps35
  go_wp2_with fail
  refine HC.out.mono ?_
  rintro r w4 ⟨hT4, z, k3, e3, a3, b3, s3, A3, m3, c3, rfl, hz, hp4, ho4, hzd⟩
  have HQ := Lib.hid (And.intro hp4 hT4)
  have HZ := Lib.hid (And.intro hz (And.intro ho4 hzd))
  clear hp4 hT4 hz ho4 hzd
  have hb4 := HB4.out.go HQ.out.2 (by omega)
  obtain ⟨z0, z1, z2, z3, z4⟩ := hb4.cells
  obtain ⟨f0, f1, f2, f3⟩ := hb4.free
  clear hb4
  go_wp2
  have hTE := touch4 (F := AtB gp) ((Touch.anyB (F := AtB gp) HT0.out).same HQ.out.2) (.inr (Nat.le_refl w.heap.size)) (.int .i64 a3) (.int .i64 b3) (.string s3) (.slice A3 m3 c3)
  have hTX := touch4 (F := fun b => b = w.heap.size) (Touch.refl _ w4) (.inl rfl) (.int .i64 a3) (.int .i64 b3) (.string s3) (.slice A3 m3 c3)
  exact bodyPost_ret (v := .agg #[.int .i64 a3, .int .i64 b3, .string s3, .slice A3 m3 c3]) (by simp [results, Tryz.results35, go_sem, z0, z1, z2, z3]) rfl ⟨hTE, z, k3, e3, _, _, _, _, _, _, rfl, (HZ.out.1.aside hTX (by intro q; rcases q with q | q; exact q.elim; omega)).via (fun b h1 _ => by rcases h1 with h1 | h1; exact h1.elim; exact .inr (by omega)), HQ.out.1.touchX hTX hgp hgl, HZ.out.2.1, HZ.out.2.2⟩
/-- What the loop over a level's signs carries: which of the first i has come. -/
def HitRel (ts : List Tk) (k m : Nat) (ops : List Int) (w : World) (v10 v11 : Value) (wr : World) : Prop := ∃ i : Nat, i ≤ m ∧ v11 = .int .i64 i ∧ Touch NoB w wr ∧
  ((v10 = .int .i64 (-1) ∧ ∀ (j : Nat) (q : Int), j < i → ops[j]? = some q → acc (nxt ts k 0) (wordB q) = false) ∨
   ∃ (j : Nat) (q : Int), v10 = .int .i64 j ∧ ops[j]? = some q ∧ acc (nxt ts k 0) (wordB q) = true)
theorem acc_same {t : Tk} {s s' : Bs} (h : acc t s = true) (h' : acc t s' = true) : s = s' := by
  unfold acc at h h'
  simp only [Bool.and_eq_true, beq_iff_eq] at h h'
  rw [← h.2, ← h'.2]
theorem wordB_inj : ∀ l ∈ lvs, ∀ p ∈ l, ∀ q ∈ l, wordB p = wordB q → p = q := by decide
theorem first_hit {ts : List Tk} {k lv : Nat} {ops : List Int} (hl : lvs[lv]? = some ops) {j : Nat} {q : Int} (hj : ops[j]? = some q) (ha : acc (nxt ts k 0) (wordB q) = true) : firstK ts k 0 ops = some q := by
  cases hf : firstK ts k 0 ops with
  | none =>
    unfold firstK at hf
    rw [List.find?_eq_none] at hf
    exact absurd ha (hf q (List.mem_of_getElem? hj))
  | some p =>
    have h1 := first_lt hf
    have hp : p ∈ ops := by unfold firstK at hf; exact List.mem_of_find?_eq_some hf
    rw [wordB_inj ops (List.mem_of_getElem? hl) p hp q (List.mem_of_getElem? hj) (acc_same h1 ha)]
structure RbRel (gp g n cp : Nat) (ts : List Tk) (lv D k e q6 q7 b1 b2 mm : Nat) (ops : List Int) (sub : Nat → Rs) (R0 : Rs) (w : World) (x : Ex) (kx ex : Nat) (a b : Int) (s : ByteArray) (A : Option Addr) (m c : Nat) (wr : World) : Prop where
  t : Touch (AtB gp) w wr
  x7 : XB wr q7 a b s A m c
  x6 : XB wr q6 0 0 ⟨#[]⟩ none 0 0
  et : ET wr (fun b => w.heap.size < b ∧ b ≠ q7) x a b s A m c
  ps : RS wr gp g n cp ts kx ex
  lr : LvRow wr b1 b2 mm ops
  bad : ex ≠ 0 → Out R0 k e x kx ex ∧ x.depth ≤ D + 1
  good : ex = 0 → e = 0 ∧ x.depth ≤ D ∧ ∃ f, ts.length ≤ kx + f ∧ loopL ts lv sub f x kx = R0
theorem RS.cell1 {w : World} {gp g n cp : Nat} {ts : List Tk} {k e : Nat} (h : RS w gp g n cp ts k e) : w.cell? ⟨gp, 1, none⟩ = some (.int .i64 (k : Int)) := by
  obtain ⟨bad, hb, -⟩ := h.blk; exact cell_blk hb 1
theorem RS.cell2 {w : World} {gp g n cp : Nat} {ts : List Tk} {k e : Nat} (h : RS w gp g n cp ts k e) : w.cell? ⟨gp, 2, none⟩ = some (.int .i64 (e : Int)) := by
  obtain ⟨bad, hb, -⟩ := h.blk; exact cell_blk hb 2
theorem RS.free1 {w : World} {gp g n cp : Nat} {ts : List Tk} {k e : Nat} (h : RS w gp g n cp ts k e) : w.frozen? ⟨gp, 1, none⟩ = false := by
  obtain ⟨bad, hb, -⟩ := h.blk; exact free_blk hb 1
theorem rmeas_at {w : World} {gp g n cp : Nat} {ts : List Tk} {k e : Nat} (h : RS w gp g n cp ts k e) : meas gp n w = n - k := by
  unfold meas
  rw [h.cell1]
  simp [intOf]
end Go.Proofs.YtnphaaahdlkmhaaGreat
end
