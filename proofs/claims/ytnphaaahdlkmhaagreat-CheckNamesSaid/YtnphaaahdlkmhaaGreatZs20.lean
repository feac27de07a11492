/-
  What the document's own Named and CheckKeys return.
-/
import Derived.Test.YtnphaaahdlkmhaaGreatZs19
import Derived.Shelf.Abstract
import Derived.Deep.RegionLaw
import Derived.Deep.QuietTactic
import Derived.BigQuiet
import Derived.Test.YtnphaaahdlkmhaaGreatZs6
section
namespace Go.Proofs.YtnphaaahdlkmhaaGreat.K7
open Go.ChangeShapes Go.WideShapes Go.ChangeAt Go.RowKit
set_option maxRecDepth 100000
set_option maxHeartbeats 4000000

/-- What Named asks of the byte at place j. -/
def nok (s : ByteArray) (j : Nat) : Bool := letB (bt s j) || ((digB (bt s j) || bt s j == 95) && decide (0 < j))
theorem named_yes {s : ByteArray} (h : ∀ j, j < s.size → nok s j = true) : nameB s = decide (1 ≤ s.size ∧ s.size ≤ 24) := by
  unfold nameB
  by_cases h1 : 1 ≤ s.size ∧ s.size ≤ 24
  · have h0 := h 0 (by omega)
    unfold nok at h0
    simp at h0
    rw [h0, show (List.range s.size).all (fun i => okB (bt s i)) = true from by
      rw [List.all_eq_true]
      intro j hj
      have := h j (List.mem_range.1 hj)
      unfold nok at this
      unfold okB
      cases hl : letB (bt s j)
      · rw [hl] at this; simp at this; simpa using this.1
      · rfl]
    simp
  · rw [show decide (1 ≤ s.size ∧ s.size ≤ 24) = false from by simpa using h1]
    rfl

def CkRel (w : World) (l : List Ky) (v4 : Value) (wr : World) : Prop := ∃ i : Nat, i ≤ l.length ∧ v4 = .int .i64 i ∧ errI l i = errI l 0 ∧ Touch NoB w wr
theorem quiet_same {P : Program} {f : FuncId} {args : Array Value} {w : World} {n : Nat} {v : Value}
    (h : Calls P f args (w.drewN n) fun e w' => e = .returned v ∧ w.drewN n = w') : Calls P f args (w.drewN n) fun e w'' => e = .returned v ∧ ∃ m, w'' = w.drewN m :=
  h.mono fun _ _ ⟨he, hm⟩ => ⟨he, n, hm.symm⟩
end Go.Proofs.YtnphaaahdlkmhaaGreat.K7
end
/-
  What isKind, slices.IndexFunc, Find and add of package schema return, and what they leave in memory.
-/
section
namespace Go.Proofs.YtnphaaahdlkmhaaGreat.K7
open Go.ChangeShapes Go.WideShapes Go.ChangeAt Go.RowKit
set_option maxRecDepth 100000
set_option maxHeartbeats 1000000

theorem field_kind (k : Int) (w : World) : (Instr.field 158 (.agg #[.int .i64 k, .int .i64 0, .int .i64 0, .string ⟨#[]⟩, .complex .f64 0 0]) 0).run Tryz.prog w = .ok (.int .i64 k) w := by kernel_rfl
theorem iskind_any (k : Int) (w : World) :
    Calls Tryz.prog 82 #[.int .i64 k] w fun e w' => e = .returned (.bool (kindB k)) ∧ Touch NoB w w' := by
  have HZ := Lib.hid (zero_any k w)
  have hb : (kindV k == k) = kindB k := by
    unfold kindV kindB
    by_cases h : 0 ≤ k ∧ k ≤ 4
    · rw [if_pos h]; simp [h]
    · rw [if_neg h]; simp only [h, decide_false]; simp; omega
  have hf := field_kind (kindV k)
  unfold zv val at HZ
  go_enter Tryz.func82, Tryz.ntmps82
  go_wp2_with fail
  refine HZ.out.mono ?_
  rintro e w1 ⟨rfl, hT⟩
  have HT := Lib.hid hT
  clear hT
  go_wp2
  go_ret
  exact ⟨rfl, HT.out⟩

/-- Find's closure: is a key's name the one that lies at p? -/
theorem fclosure_any (k : Ky) (s : ByteArray) (p : Nat) (w : World) (hp : p < w.heap.size) (hc : w.cell? ⟨p, 0, none⟩ = some (.string s)) :
    Calls Tryz.prog 100 #[.agg #[.string k.nm, .int .i64 k.kd, .bool k.sh], .pointer (some ⟨p, 0, none⟩)] w fun e w' => e = .returned (.bool (eqS k.nm s)) ∧ Touch NoB w w' := by
  obtain ⟨nm, kd, sh⟩ := k
  obtain ⟨q, hq⟩ : ∃ q, eqS nm s = q := ⟨_, rfl⟩
  have hqq : (nm.toList == s.toList) = q := (eqS_list _ _).trans hq
  rw [hq]
  go_enter Tryz.func100, Tryz.ntmps100
  go_wp2
  go_ret
  exact ⟨rfl, (Touch.refl _ _).alloc _⟩

def IfRel (w : World) (l : List Ky) (s : ByteArray) (v8 : Value) (wr : World) : Prop := ∃ i : Nat, i ≤ l.length ∧ v8 = .int .i64 i ∧ (∀ (j : Nat) (k : Ky), j < i → l[j]? = some k → eqS k.nm s = false) ∧ Touch NoB w wr
theorem indexfunc_any (A : Option Addr) (n cap p : Nat) (l : List Ky) (s : ByteArray) (w : World) (hn : l.length = n) (hn2 : n ≤ 1000000) (h : KAt w NoB A l) (hp : p < w.heap.size) (hc : w.cell? ⟨p, 0, none⟩ = some (.string s)) :
    Calls Tryz.prog 99 #[.slice A n cap, .func (.func 100) #[] #[.pointer (some ⟨p, 0, none⟩)]] w fun e w' => e = .returned (.int .i64 (posV (findK l s))) ∧ Touch NoB w w' := by
  have e19 : ∀ (args : Array Value) (w : World), (callFunc 100 args).run Tryz.prog w = .ok (.enter 100 args) w := enters_of Tryz.func100 (by kernel_rfl) rfl
  have HK := Lib.hid h
  have HN := Lib.hid hn
  have HP := Lib.hid (And.intro hp hc)
  clear h hn hp hc
  go_enter Tryz.func99, Tryz.ntmps99
  go_wp2
  go_loopw [8] (fun v8 wr => IfRel w l s v8 wr) (fun v8 _ => n - (intOf v8).toNat)
  case atStart => exact ⟨0, Nat.zero_le _, rfl, fun j k hj => by omega, Touch.refl _ _⟩
  case round =>
    obtain ⟨i, hi, rfl, hno, hT⟩ := hrel
    have HNo := Lib.hid hno
    by_cases hlt : i < n
    · obtain ⟨k, hk⟩ : ∃ k, l[i]? = some k := ⟨l[i]'(by have := HN.out; omega), List.getElem?_eq_getElem _⟩
      obtain ⟨hsz, b, off, rfl, hb, -, c0, c1, c2⟩ := HK.out.touch hT i k hk
      have HC := Lib.hid (fclosure_any k s p wr (Nat.lt_of_lt_of_le HP.out.1 hT.size) ((hT.cell (p := ⟨p, 0, none⟩) HP.out.1 (fun e => e)).trans HP.out.2))
      obtain ⟨q, hq⟩ : ∃ q, eqS k.nm s = q := ⟨_, rfl⟩
      rw [hq] at HC
      have HQ := Lib.hid hq
      have Hk := Lib.hid hk
      have HT := Lib.hid hT
      clear hq hk hT hno hsz
      cases q
      · go_wp2_with (go_at_fn 100; refine HC.out.mono ?_; rintro e w1 ⟨rfl, hT1⟩; have HT1 := Lib.hid (HT.out.same hT1); clear hT1)
        go_roundw
        case rel => exact ⟨i + 1, by have := HN.out; omega, by go_num, fun j x hj hx => by
          by_cases e : j = i
          · subst e; rw [Hk.out] at hx; injection hx with hx; subst hx; exact HQ.out
          · exact HNo.out j x (by omega) hx, HT1.out⟩
        case measure => simp [intOf]; omega
      · go_wp2_with (go_at_fn 100; refine HC.out.mono ?_; rintro e w1 ⟨rfl, hT1⟩; have HT1 := Lib.hid (HT.out.same hT1); clear hT1)
        go_ret
        exact ⟨ret_int (by rw [findK_some Hk.out HQ.out HNo.out]; rfl), HT1.out⟩
    · have hin : i = n := by have := HN.out; omega
      subst hin
      have HT := Lib.hid hT
      clear hT hno
      go_wp2
      go_ret
      exact ⟨ret_int (by rw [findK_none (fun j k hk => HNo.out j k (by have := (List.getElem?_eq_some_iff.1 hk).1; have := HN.out; omega) hk)]; rfl), HT.out⟩

/-- A schema lies at block g: its keys; every block of it is in F. -/
def SK (w : World) (F : Nat → Prop) (g : Nat) (l : List Ky) : Prop :=
  ∃ v, w.heap[g]? = some (.cells #[v] 128 (0, 0)) ∧ w.ownsRow 0 57 3 v l.length (kc l) ∧ F g ∧ (∀ k, v.ownBlock = some k → F k) ∧ ∀ (j : Nat) (k : Ky), l[j]? = some k → k.nm.size ≤ 9223372036854775807
theorem SK.keep {w w' : World} {F G : Nat → Prop} {g : Nat} {l : List Ky} (h : SK w F g l) (t : Touch G w w') (d : Dis F G) : SK w' F g l := by
  obtain ⟨v, hg, hr, f0, f1, hs⟩ := h
  exact ⟨v, by rw [t.block g (blk_lt hg) (fun x => d g f0 x)]; exact hg, row_touch hr t (fun k hk x => d k (f1 k hk) x), f0, f1, hs⟩
theorem SK.quiet {w w' : World} {F : Nat → Prop} {g : Nat} {l : List Ky} (h : SK w F g l) (t : Touch NoB w w') : SK w' F g l := h.keep t (fun _ _ x => x)
/-- A row of keys is a list of keys in memory. -/
theorem row_kat {w : World} {base n cap : Nat} {A : Option Addr} {l : List Ky} (h : w.ownsRow base 57 3 (.slice A n cap) n (kc l)) (hn : l.length = n) (hs : ∀ (j : Nat) (k : Ky), l[j]? = some k → k.nm.size ≤ 9223372036854775807) : KAt w NoB A l := by
  intro j k hj
  have hjl : j < l.length := (List.getElem?_eq_some_iff.1 hj).1
  obtain ⟨g, cap', hv, _, _, hob⟩ := row_form h (by omega)
  injection hv with hA _ hc
  subst hA hc
  have hlt := row_lt h hob
  refine ⟨hs j k hj, g, 0, rfl, hlt, fun x => x, ?_, ?_, ?_⟩
  · rw [Nat.zero_add, h.cellAt (j * 3) (by omega), show j * 3 = j * 3 + 0 from rfl, kc_at l j 0 (by decide), hj]; rfl
  · rw [Nat.zero_add, h.cellAt (j * 3 + 1) (by omega), kc_at l j 1 (by decide), hj]; rfl
  · rw [Nat.zero_add, h.cellAt (j * 3 + 2) (by omega), kc_at l j 2 (by decide), hj]; rfl

/-- What Find returns. -/
def fndV : Option Nat → Value
  | none => .tuple #[.int .i64 0, .bool false]
  | some i => .tuple #[.int .i64 i, .bool true]
theorem find_any (g : Nat) (l : List Ky) (s : ByteArray) (F : Nat → Prop) (w : World) (h : SK w F g l) (hl : l.length ≤ 1000000) :
    Calls Tryz.prog 83 #[.pointer (some ⟨g, 0, none⟩), .string s] w fun e w' => e = .returned (fndV (findK l s)) ∧ Touch NoB w w' := by
  obtain ⟨v, hg, hr, f0, f1, hs⟩ := h
  obtain ⟨A, cap, rfl, hc1, hc2⟩ := row_any hr
  unfold maxLen at hc2
  have hgl := blk_lt hg
  have k0 : w.cell? ⟨g, 0, none⟩ = some (.slice A l.length cap) := cell_blk hg 0
  obtain ⟨n, hn⟩ : ∃ n, l.length = n := ⟨_, rfl⟩
  rw [hn] at k0 hr hl hc1
  have HI := Lib.hid (indexfunc_any A n cap w.heap.size l s (w.alloc (.cells #[.string s] 9)) hn hl ((row_kat hr hn hs).touch ((Touch.refl _ _).alloc _)) (by simp) (cell_blk (alloc_blk w _ 9 rfl) 0))
  have HN := Lib.hid hn
  clear hr f0 f1 hs hg hn
  cases hf : findK l s
  · rw [hf] at HI
    clear hf
    unfold posV at HI
    go_enter Tryz.func83, Tryz.ntmps83
    go_wp2_with fail
    refine HI.out.mono ?_
    rintro e w1 ⟨rfl, hT⟩
    have HT := Lib.hid (((Touch.refl _ w).alloc _).same hT)
    clear hT
    go_wp2
    exact bodyPost_ret (v := .tuple #[.int .i64 0, .bool false]) (by simp [results, Tryz.results83, go_sem]) rfl ⟨rfl, HT.out⟩
  · rename_i i
    rw [hf] at HI
    clear hf
    unfold posV at HI
    go_enter Tryz.func83, Tryz.ntmps83
    go_wp2_with fail
    refine HI.out.mono ?_
    rintro e w1 ⟨rfl, hT⟩
    have HT := Lib.hid (((Touch.refl _ w).alloc _).same hT)
    clear hT
    go_wp2
    exact bodyPost_ret (v := .tuple #[.int .i64 i, .bool true]) (by simp [results, Tryz.results83, go_sem]) rfl ⟨rfl, HT.out⟩
end Go.Proofs.YtnphaaahdlkmhaaGreat.K7
end
/-
  What add of package schema returns, and what it leaves in memory.
-/
section
namespace Go.Proofs.YtnphaaahdlkmhaaGreat.K7
open Go.ChangeShapes Go.WideShapes Go.ChangeAt Go.RowKit
set_option maxRecDepth 100000
set_option maxHeartbeats 4000000

theorem info_key : (Tryz.prog.info? 57).map (fun i => (i.zero, i.size, i.bytes)) = some (some (.agg #[.string ⟨#[]⟩, .int .i64 0, .bool false]), 3, 32) := by kernel_rfl
theorem new_blk {F : Nat → Prop} {W w1 : World} {cs : Array Value} {t : TypeId} {N : Nat} (hT : Touch F (W.alloc (.cells cs t)) w1) (hN : W.heap.size = N) (hF : ¬ F N) : w1.heap[N]? = some (.cells cs t (0, 0)) := by
  subst hN
  rw [hT.block _ (by simp) hF]
  exact heap_alloc_new W _

theorem add_no (g : Nat) (l : List Ky) (k : Ky) (F : Nat → Prop) (w : World) (h : SK w F g l) (hl : l.length ≤ 1000) (hs : k.nm.size ≤ 9223372036854775807) (he : errAt l k ≠ 0) :
    Calls Tryz.prog 63 #[.pointer (some ⟨g, 0, none⟩), .agg #[.string k.nm, .int .i64 k.kd, .bool k.sh]] w fun e w' => e = .returned (.int .i64 (errAt l k)) ∧ Touch NoB w w' := by
  obtain ⟨nm, kd, sh⟩ := k
  simp only at hs
  have HD := Lib.hid (fun w => name_any nm hs w)
  have HI := Lib.hid (fun w => iskind_any kd w)
  have HF := Lib.hid (fun w' (t : Touch NoB w w') => find_any g l nm F w' (h.quiet t) (by omega))
  cases hb1 : nameB nm
  · have e5 : errAt l ⟨nm, kd, sh⟩ = 5 := by unfold errAt; simp [hb1]
    rw [e5]
    rw [hb1] at HD
    clear h he e5 hb1 HI HF
    go_enter Tryz.func63, Tryz.ntmps63
    go_wp2_with fail
    refine (HD.out _).mono ?_
    rintro e w' ⟨rfl, rfl⟩
    go_wp2
    go_ret
    exact ⟨rfl, (Touch.refl _ _).alloc _⟩
  · rw [hb1] at HD
    cases hk : kindB kd
    · have e7 : errAt l ⟨nm, kd, sh⟩ = 7 := by unfold errAt; simp [hb1, hk]
      rw [e7]
      rw [hk] at HI
      clear h he e7 hb1 hk HF
      go_enter Tryz.func63, Tryz.ntmps63
      go_wp2_with fail
      refine (HD.out _).mono ?_
      rintro e w' ⟨rfl, rfl⟩
      go_wp2_with fail
      refine (HI.out _).mono ?_
      rintro e w1 ⟨rfl, hT⟩
      have HT := Lib.hid (((Touch.refl _ w).alloc _).same hT)
      clear hT
      go_wp2
      go_ret
      exact ⟨rfl, HT.out⟩
    · rw [hk] at HI
      cases hf : findK l nm
      · exact absurd (show errAt l ⟨nm, kd, sh⟩ = 0 by unfold errAt; simp [hb1, hk, hf]) he
      · have e6 : errAt l ⟨nm, kd, sh⟩ = 6 := by unfold errAt; simp [hb1, hk, hf]
        rw [e6]
        rw [hf] at HF
        unfold fndV at HF
        clear h he e6 hb1 hk hf
        go_enter Tryz.func63, Tryz.ntmps63
        go_wp2_with fail
        refine (HD.out _).mono ?_
        rintro e w' ⟨rfl, rfl⟩
        go_wp2_with fail
        refine (HI.out _).mono ?_
        rintro e w1 ⟨rfl, hT⟩
        have hb := new_blk hT rfl (fun x => x)
        have c0 : w1.cell? ⟨w.heap.size, 0, none⟩ = some (.string nm) := cell_blk hb 0
        have HT := Lib.hid (((Touch.refl _ w).alloc _).same hT)
        clear hT hb
        go_wp2_with fail
        refine (HF.out _ HT.out).mono ?_
        rintro e w2 ⟨rfl, hT⟩
        have HT2 := Lib.hid (HT.out.same hT)
        clear hT
        go_wp2
        go_ret
        exact ⟨rfl, HT2.out⟩

theorem add_yes (g : Nat) (l : List Ky) (k : Ky) (F : Nat → Prop) (w : World) (h : SK w F g l) (hF : InW w 0 F) (hl : l.length ≤ 1000) (hs : k.nm.size ≤ 9223372036854775807) (he : errAt l k = 0) :
    Calls Tryz.prog 63 #[.pointer (some ⟨g, 0, none⟩), .agg #[.string k.nm, .int .i64 k.kd, .bool k.sh]] w fun e w' => e = .returned (.int .i64 0) ∧ SK w' (Ext F w w') g (l ++ [k]) ∧ Touch F w w' := by
  have hbits : nameB k.nm = true ∧ kindB k.kd = true ∧ findK l k.nm = none := by
    unfold errAt at he
    cases h1 : nameB k.nm
    · simp [h1] at he
    · cases h2 : kindB k.kd
      · simp [h1, h2] at he
      · cases h3 : findK l k.nm
        · exact ⟨rfl, rfl, rfl⟩
        · simp [h1, h2, h3] at he
  obtain ⟨hb1, hk, hf⟩ := hbits
  have HS0 := Lib.hid hs
  obtain ⟨nm, kd, sh⟩ := k
  simp only at hs hb1 hk hf
  have HD := Lib.hid (fun w => name_any nm hs w)
  have HI := Lib.hid (fun w => iskind_any kd w)
  have HF := Lib.hid (fun w' (t : Touch NoB w w') => find_any g l nm F w' (h.quiet t) (by omega))
  rw [hb1] at HD
  rw [hk] at HI
  rw [hf] at HF
  unfold fndV at HF
  have H0 := Lib.hid h
  have HFI := Lib.hid hF
  obtain ⟨i0, hi, hz0, hz1, hz2⟩ := info_parts info_key
  clear h he hb1 hk hf hF
  go_enter Tryz.func63, Tryz.ntmps63
  go_wp2_with fail
  refine (HD.out _).mono ?_
  rintro e w' ⟨rfl, rfl⟩
  go_wp2_with fail
  refine (HI.out _).mono ?_
  rintro e w1 ⟨rfl, hT⟩
  have hb := new_blk hT rfl (fun x => x)
  have c0 : w1.cell? ⟨w.heap.size, 0, none⟩ = some (.string nm) := cell_blk hb 0
  have HT := Lib.hid (((Touch.refl _ w).alloc _).same hT)
  have Hb := Lib.hid hb
  clear hT hb
  go_wp2_with fail
  refine (HF.out _ HT.out).mono ?_
  rintro e ws ⟨rfl, hT⟩
  have HT2 := Lib.hid (HT.out.same hT)
  have hb := (hT.block _ (blk_lt Hb.out) (fun x => x)).trans Hb.out
  obtain ⟨v, hg, hr, f0, f1, hsz⟩ := H0.out.quiet HT2.out
  obtain ⟨A, cap, rfl, hc1, hc2⟩ := row_any hr
  unfold maxLen at hc2
  have hgl := blk_lt hg
  have hbl := blk_lt hb
  have hnF : ¬ F w.heap.size := fun e => by have := (HFI.out _ e).2; omega
  have hne : w.heap.size ≠ g := fun e => hnF (by rw [e]; exact f0)
  have k0 : ws.cell? ⟨g, 0, none⟩ = some (.slice A l.length cap) := cell_blk hg 0
  have z0 : ws.frozen? ⟨g, 0, none⟩ = false := free_blk hg 0
  have b0 : ws.cell? ⟨w.heap.size, 0, none⟩ = some (.string nm) := cell_blk hb 0
  have b1 : ws.cell? ⟨w.heap.size, 1, none⟩ = some (.int .i64 kd) := cell_blk hb 1
  have b2 : ws.cell? ⟨w.heap.size, 2, none⟩ = some (.bool sh) := cell_blk hb 2
  have hfg : (Value.slice A l.length cap).ownBlock ≠ some g := row_ne hr hg (by decide)
  obtain ⟨n, hn⟩ : ∃ n, l.length = n := ⟨_, rfl⟩
  rw [hn] at k0 hr hc1 hfg f1 hl
  have HN := Lib.hid hn
  have R1 := Lib.hid hr
  have HG := Lib.hid hg
  have HFG := Lib.hid hfg
  have HFS := Lib.hid (And.intro f0 (And.intro f1 hsz))
  clear hT hb hg hr f0 f1 hsz hn hfg c0
  go_wp2
  go_region_law (refine step_append_lies _ rfl (.tmp 27) (.tmp 29) 25 rfl 0 57 i0 (.agg #[.string ⟨#[]⟩, .int .i64 0, .bool false]) 3 32 Tryz.underlying25 hi hz0 hz1 hz2 rfl (by decide) (.slice A n cap) n (kc l) (by simp [Act.eval]) (by exact (R1.out.alloc _)) ⟨ws.heap.size, 0, none⟩ 1 1 [.string nm, .int .i64 kd, .bool sh] (by simp [Act.eval]) rfl (by exact World.news_of_block (cs := #[.string nm, .int .i64 kd, .bool sh]) (alloc_blk ws.drew _ 57 rfl)) (by intro u hu; simp at hu; rcases hu with rfl | rfl | rfl <;> rfl) (by decide) (by unfold maxLen; omega) (by omega) (Nat.zero_le _) (ws.heap.size + 1) (by simp) ?_
                 intro gd cap1 wx hown hgrow hat hlt
                 have TR : Touch (fun b => (Value.slice A n cap).ownBlock = some b) ws wx := (((Touch.refl _ ws).alloc _).drew).grown hgrow (fun _ e => .inl e)
                 have hgx := (TR.block g hgl HFG.out).trans HG.out
                 have kx : wx.cell? ⟨g, 0, none⟩ = some (.slice A n cap) := (cell_blk hgx 0).trans (by rw [← HN.out]; rfl)
                 have zx : wx.frozen? ⟨g, 0, none⟩ = false := free_blk hgx 0
                 have HX := Lib.hid (And.intro hown (And.intro hat (And.intro TR hgx)))
                 clear hown hgrow hat TR hgx)
  all_goals
    go_wp2
    go_ret
    obtain ⟨hown, hat, TR, hgx⟩ := HX.out
    obtain ⟨f0, f1, hsz⟩ := HFS.out
    have hgrown : wx.grownBy (wx.setCell ⟨g, 0, none⟩ (.slice (some ⟨gd, 0, none⟩) (n + 1) cap1)) (some g) :=
      ⟨rfl, rfl, rfl, by simp [World.setCell], fun x _ hx => Below.heap_setCell _ _ _ _ (fun e => hx (by rw [e]))⟩
    have hs1 := set_blk hgx 0 (.slice (some ⟨gd, 0, none⟩) (n + 1) cap1)
    have hr3 := hown.kept hgrown (.inr (row_ne hown hgx (by decide)))
    have hTx : Touch F w wx := (HT2.out.mono (fun _ e => e.elim)).trans TR (fun b hb => .inl (f1 b hb))
    have hsy : (wx.setCell ⟨g, 0, none⟩ (.slice (some ⟨gd, 0, none⟩) (n + 1) cap1)).heap.size = wx.heap.size := by simp [World.setCell]
    have hws := HT2.out.size
    refine ⟨rfl, ⟨_, by simpa using hs1, by rw [List.length_append, HN.out, kc_snoc]; exact hr3, .inl f0, fun j hj => ?_, fun j x hx => ?_⟩, hTx.setCell (.inl f0) _⟩
    · have e1 : gd = j := by simpa [Value.ownBlock] using hj
      subst e1
      rcases hat with e | e
      · exact .inl (f1 _ e)
      · exact .inr ⟨by omega, by rw [hsy]; exact hlt⟩
    · by_cases hj : j < l.length
      · rw [List.getElem?_append_left hj] at hx
        exact hsz j x hx
      · rw [List.getElem?_append_right (by omega)] at hx
        obtain ⟨h0, h1⟩ := List.getElem?_eq_some_iff.1 hx
        simp at h1
        subst h1
        exact HS0.out
end Go.Proofs.YtnphaaahdlkmhaaGreat.K7
end
/-
  What schema.New returns, and what it leaves in memory; the example of the document.
-/
section
namespace Go.Proofs.YtnphaaahdlkmhaaGreat.K7
open Go.ChangeShapes Go.WideShapes Go.ChangeAt Go.RowKit
set_option maxRecDepth 100000
set_option maxHeartbeats 4000000

theorem SK.more {w : World} {F G : Nat → Prop} {g : Nat} {l : List Ky} (h : SK w F g l) (d : ∀ b, F b → G b) : SK w G g l := by
  obtain ⟨v, hg, hr, f0, f1, hs⟩ := h
  exact ⟨v, hg, hr, d _ f0, fun k hk => d _ (f1 k hk), hs⟩
theorem noext_in (w wr : World) : InW wr 0 (Ext NoB w wr) := by
  rintro b (hb | ⟨_, h2⟩)
  · exact hb.elim
  · exact ⟨Nat.zero_le _, h2⟩
theorem noext_ext {w a b c : World} (h1 : w.heap.size ≤ a.heap.size) (h2 : a.heap.size ≤ b.heap.size) (h3 : b.heap.size ≤ c.heap.size) : ∀ k, Ext (Ext NoB w a) b c k → Ext NoB w c k := by
  rintro k ((x | ⟨x, y⟩) | ⟨x, y⟩)
  · exact x.elim
  · exact .inr ⟨x, by omega⟩
  · exact .inr ⟨by omega, y⟩

/-- New's answers: a schema of the keys in new memory, or none and the error. -/
def NewYes (w : World) (l : List Ky) (e : Ending) (w' : World) : Prop := ∃ g : Nat, e = .returned (.tuple #[.pointer (some ⟨g, 0, none⟩), .int .i64 0]) ∧ SK w' (Ext NoB w w') g l ∧ Touch NoB w w'
def NewNo (w : World) (x : Int) (e : Ending) (w' : World) : Prop := e = .returned (.tuple #[.pointer none, .int .i64 x]) ∧ Touch NoB w w'
def NewPost (w : World) (l : List Ky) (e : Ending) (w' : World) : Prop := (errK l = 0 ∧ NewYes w l e w') ∨ (errK l ≠ 0 ∧ NewNo w (errK l) e w')
def NwRel (w : World) (l : List Ky) (v15 : Value) (wr : World) : Prop := ∃ i : Nat, i ≤ l.length ∧ v15 = .int .i64 i ∧ errI l i = errI l 0 ∧ SK wr (Ext NoB w wr) w.heap.size (l.take i) ∧ Touch NoB w wr

theorem new_any (A : Option Addr) (n cap : Nat) (l : List Ky) (w : World) (hn : l.length = n) (hn2 : n ≤ 1000000) (h : KAt w NoB A l) :
    Calls Tryz.prog 39 #[.slice A n cap] w (NewPost w l) := by
  by_cases h100 : 100 < n
  · have e9 : errK l = 9 := by unfold errK; rw [if_pos (by omega)]
    go_enter Tryz.func39, Tryz.ntmps39
    go_wp2
    exact bodyPost_ret (v := .tuple #[.pointer none, .int .i64 9]) (by simp [results, Tryz.results39, go_sem]) rfl (.inr ⟨by rw [e9]; decide, by rw [e9], Touch.refl _ _⟩)
  · have e9 : errK l = errI l 0 := by unfold errK; rw [if_neg (by omega), errI_zero]
    have HE := Lib.hid e9
    have HK := Lib.hid h
    have HN := Lib.hid hn
    clear e9 h hn
    go_enter Tryz.func39, Tryz.ntmps39
    go_wp2
    go_loopw [15] (fun v15 wr => NwRel w l v15 wr) (fun v15 _ => n - (intOf v15).toNat)
    case atStart => exact ⟨0, Nat.zero_le _, rfl, rfl, ⟨_, alloc_blk w _ 128 rfl, World.ownsRow_nil _ _ _ _, .inr ⟨Nat.le_refl _, by simp⟩, fun k hk => by simp [Value.ownBlock] at hk, fun j k hk => by simp at hk⟩, (Touch.refl _ _).alloc _⟩
    case round =>
      obtain ⟨i, hi, rfl, herr, hSK, hT⟩ := hrel
      by_cases hlt : i < n
      · obtain ⟨k, hk⟩ : ∃ k, l[i]? = some k := ⟨l[i]'(by have := HN.out; omega), List.getElem?_eq_getElem _⟩
        have hst := errI_step l i k hk
        rw [herr] at hst
        obtain ⟨hsz, b, off, rfl, hb, -, c0, c1, c2⟩ := HK.out.touch hT i k hk
        have htl : (l.take i).length ≤ 1000 := by rw [List.length_take]; omega
        by_cases he : errAt (l.take i) k = 0
        · have HA := Lib.hid (fun w' (t : Touch NoB wr w') => add_yes w.heap.size (l.take i) k (Ext NoB w wr) w' (hSK.quiet t) (fun x hx => ⟨Nat.zero_le _, Nat.lt_of_lt_of_le (noext_in w wr x hx).2 t.size⟩) htl hsz he)
          have e0 : errI l 0 = errI l (i + 1) := by rw [hst, if_pos he]
          have htk : l.take i ++ [k] = l.take (i + 1) := by
            have hil : i < l.length := by have := HN.out; omega
            rw [List.take_succ_eq_append_getElem hil]
            rw [List.getElem?_eq_getElem hil] at hk
            injection hk with hk
            rw [hk]
          rw [htk] at HA
          obtain ⟨nm, kd, sh⟩ := k
          simp only at c0 c1 c2 HA
          have HT := Lib.hid hT
          have H0 := Lib.hid e0
          clear hT herr hk hst he e0 htk hsz htl hSK
          go_wp2_with fail
          refine (HA.out _ (by repeat (first | with_reducible exact Touch.refl _ _ | with_reducible refine Touch.alloc ?_ _ | with_reducible refine Touch.setCell ?_ (.inr (by simp)) _))).mono ?_
          rintro e w1 ⟨rfl, hS1, hT1⟩
          have hsz1 := hT1.size
          have hw := HT.out.size
          simp only [World.size_alloc] at hsz1
          have hS2 := hS1.more (noext_ext (w := w) (a := wr) (b := _) (c := w1) hw (by simp) (by simp; omega))
          have hT2 : Touch NoB w w1 := (HT.out.alloc _).trans (G := Ext NoB w wr) hT1 (fun x hx => .inr (by rcases hx with hx | hx; exact hx.elim; exact hx.1))
          have HS2 := Lib.hid (And.intro hS2 hT2)
          clear hS1 hT1 hS2 hT2 hsz1 hw
          go_wp2
          go_roundw
          case rel => exact ⟨i + 1, by have := HN.out; omega, by go_num, H0.out.symm, HS2.out.1, HS2.out.2⟩
          case measure => simp [intOf]; omega
        · have HA := Lib.hid (fun w' (t : Touch NoB wr w') => add_no w.heap.size (l.take i) k (Ext NoB w wr) w' (hSK.quiet t) htl hsz he)
          have e0 : errK l = errAt (l.take i) k := by rw [HE.out, hst, if_neg he]
          obtain ⟨x, hx⟩ : ∃ x, errAt (l.take i) k = x := ⟨_, rfl⟩
          rw [hx] at HA e0 he
          obtain ⟨nm, kd, sh⟩ := k
          simp only at c0 c1 c2 HA
          have hne : (x != 0) = true := by simpa using he
          have HT := Lib.hid hT
          have H0 := Lib.hid e0
          have HX := Lib.hid he
          clear hT herr hk hst he e0 hsz htl hSK hx
          go_wp2_with fail
          refine (HA.out _ (by repeat (first | with_reducible exact Touch.refl _ _ | with_reducible refine Touch.alloc ?_ _ | with_reducible refine Touch.setCell ?_ (.inr (by simp)) _))).mono ?_
          rintro e w1 ⟨rfl, hT1⟩
          have HT1 := Lib.hid (HT.out.same (Touch.same (by repeat (first | with_reducible exact Touch.refl _ _ | with_reducible refine Touch.alloc ?_ _ | with_reducible refine Touch.setCell ?_ (.inr (by simp)) _)) hT1))
          clear hT1
          go_wp2
          exact bodyPost_ret (v := .tuple #[.pointer none, .int .i64 x]) (by simp [results, Tryz.results39, go_sem]) rfl (.inr ⟨by rw [H0.out]; exact HX.out, by rw [H0.out], HT1.out⟩)
      · have hin : i = n := by have := HN.out; omega
        subst hin
        have e0 : errK l = 0 := by rw [HE.out, ← herr]; exact errI_end l i (by have := HN.out; omega)
        have htk : l.take i = l := List.take_of_length_le (by have := HN.out; omega)
        rw [htk] at hSK
        have HS := Lib.hid (And.intro hSK hT)
        clear hT herr hSK htk
        go_wp2
        exact bodyPost_ret (v := .tuple #[.pointer (some ⟨w.heap.size, 0, none⟩), .int .i64 0]) (by simp [results, Tryz.results39, go_sem]) rfl (.inl ⟨e0, _, rfl, HS.out.1, HS.out.2⟩)
end Go.Proofs.YtnphaaahdlkmhaaGreat.K7
end
/-
  The document's own reader of tokens in memory: what its fail, now, is, take, want, name and number return. Conditions: those that each theorem names.
-/
section
namespace Go.Proofs.YtnphaaahdlkmhaaGreat
open Go.ChangeShapes Go.WideShapes Go.ChangeAt Go.RowKit
set_option maxRecDepth 100000
set_option maxHeartbeats 4000000

/-- The document's reader at place k with error e, in block gp; its tokens lie in block g. -/
structure RS (w : World) (gp g n cp : Nat) (ts : List Tk) (k e : Nat) : Prop where
  blk : ∃ bad : Nat, w.heap[gp]? = some (.cells #[.slice (some ⟨g, 0, none⟩) n cp, .int .i64 (k : Int), .int .i64 (e : Int), .int .i64 (bad : Int)] 50 (0, 0)) ∧ (e ≠ 0 → bad = k)
  tl : TL w g ts
  ne : g ≠ gp
  len : ts.length = n
  le : k ≤ n
  small : n ≤ 100000
theorem RS.lt {w : World} {gp g n cp : Nat} {ts : List Tk} {k e : Nat} (h : RS w gp g n cp ts k e) : gp < w.heap.size := by
  obtain ⟨bad, hb, -⟩ := h.blk; exact blk_lt hb
theorem RS.touch {w w' : World} {gp g n cp : Nat} {ts : List Tk} {k e : Nat} (h : RS w gp g n cp ts k e) (t : Touch NoB w w') : RS w' gp g n cp ts k e := by
  obtain ⟨bad, hb, he⟩ := h.blk
  exact ⟨⟨bad, (t.block gp (blk_lt hb) (fun x => x)).trans hb, he⟩, h.tl.touch t, h.ne, h.len, h.le, h.small⟩
theorem RS.touchX {w w' : World} {gp g n cp : Nat} {ts : List Tk} {k e s : Nat} (h : RS w gp g n cp ts k e) (t : Touch (fun b => b = s) w w') (h1 : gp < s) (h2 : g < s) : RS w' gp g n cp ts k e := by
  obtain ⟨bad, hb, he⟩ := h.blk
  refine ⟨⟨bad, (t.block gp (blk_lt hb) (by omega)).trans hb, he⟩, ?_, h.ne, h.len, h.le, h.small⟩
  refine ⟨Nat.lt_of_lt_of_le h.tl.lt t.size, fun k x hx => ?_⟩
  have hgs : ¬ g = s := by omega
  have e := fun j => t.cell (p := ⟨g, j, none⟩) h.tl.lt hgs
  obtain ⟨a, b, c, d⟩ := h.tl.at_ k x hx
  exact ⟨(e _).trans a, (e _).trans b, (e _).trans c, (e _).trans d⟩
theorem RS.nox {w : World} {gp g n cp : Nat} {ts : List Tk} {k e : Nat} (h : RS w gp g n cp ts k e) (Q : Nat → Prop) : NoX w (AtB gp) Q := by
  obtain ⟨bad, hbl, -⟩ := h.blk
  intro b cs fr hb _ hx
  unfold AtB at hb
  subst hb
  rw [hbl] at hx
  injection hx with hx
  injection hx with _ hx
  exact absurd hx (by decide)
/-- Its place written anew, where nothing failed. -/
theorem RS.setk {w : World} {gp g n cp : Nat} {ts : List Tk} {k : Nat} (h : RS w gp g n cp ts k 0) (j : Nat) (hj : j ≤ n) : RS (w.setCell ⟨gp, 1, none⟩ (.int .i64 (j : Int))) gp g n cp ts j 0 := by
  obtain ⟨bad, hb, -⟩ := h.blk
  have tt : Touch (AtB gp) w (w.setCell ⟨gp, 1, none⟩ (.int .i64 (j : Int))) := (Touch.refl (AtB gp) w).setCell (p := ⟨gp, 1, none⟩) (.inl rfl) _
  exact ⟨⟨bad, set_blk hb 1 _, fun e => absurd rfl e⟩, h.tl.touchP tt h.ne, h.ne, h.len, hj, h.small⟩
theorem RS.acc_lt {w : World} {gp g n cp : Nat} {ts : List Tk} {k e : Nat} {s : Bs} (h : RS w gp g n cp ts k e) (ha : acc (nxt ts k e) s = true) : k < n := by
  have := acc_zero ha
  subst this
  rw [acc_ok] at ha
  rw [← h.len]
  exact sg_lt ha
theorem rfail_no {w : World} {gp g n cp : Nat} {ts : List Tk} {k e : Nat} (h : RS w gp g n cp ts k e) (he : e ≠ 0) (c : Int) :
    Calls Tryz.prog 15 #[.pointer (some ⟨gp, 0, none⟩), .int .i64 c] w fun x w' => x = .returned (.tuple #[]) ∧ w = w' := by
  obtain ⟨bad, hb, -⟩ := h.blk
  have c2 : w.cell? ⟨gp, 2, none⟩ = some (.int .i64 (e : Int)) := cell_blk hb 2
  have hee : ((e : Int) == 0) = false := by simp; omega
  clear h hb
  go_enter Tryz.func15, Tryz.ntmps15
  go_wp2
  go_end0
  exact ⟨rfl, rfl⟩
theorem rfail_yes {w : World} {gp g n cp : Nat} {ts : List Tk} {k : Nat} (h : RS w gp g n cp ts k 0) (c : Nat) :
    Calls Tryz.prog 15 #[.pointer (some ⟨gp, 0, none⟩), .int .i64 (c : Int)] w fun x w' => x = .returned (.tuple #[]) ∧ RS w' gp g n cp ts k c ∧ Touch (AtB gp) w w' := by
  obtain ⟨bad, hb, -⟩ := h.blk
  have c2 : w.cell? ⟨gp, 2, none⟩ = some (.int .i64 ((0 : Nat) : Int)) := cell_blk hb 2
  have q2 : w.frozen? ⟨gp, 2, none⟩ = false := free_blk hb 2
  have hb1 := set_blk hb 2 (.int .i64 (c : Int))
  have c1 : (w.setCell ⟨gp, 2, none⟩ (.int .i64 (c : Int))).cell? ⟨gp, 1, none⟩ = some (.int .i64 (k : Int)) := cell_blk hb1 1
  have c3 : (w.setCell ⟨gp, 2, none⟩ (.int .i64 (c : Int))).cell? ⟨gp, 3, none⟩ = some (.int .i64 (bad : Int)) := cell_blk hb1 3
  have q3 : (w.setCell ⟨gp, 2, none⟩ (.int .i64 (c : Int))).frozen? ⟨gp, 3, none⟩ = false := free_blk hb1 3
  have hb2 := set_blk hb1 3 (.int .i64 (k : Int))
  have tt : Touch (AtB gp) w ((w.setCell ⟨gp, 2, none⟩ (.int .i64 (c : Int))).setCell ⟨gp, 3, none⟩ (.int .i64 (k : Int))) := touch_set (gp := gp) (touch_set (gp := gp) (Touch.refl _ w) 2 _) 3 _
  obtain ⟨W, hW⟩ : ∃ W, (w.setCell ⟨gp, 2, none⟩ (.int .i64 (c : Int))).setCell ⟨gp, 3, none⟩ (.int .i64 (k : Int)) = W := ⟨_, rfl⟩
  rw [hW] at hb2 tt
  have d3 : W.drew.cell? ⟨gp, 3, none⟩ = some (.int .i64 (k : Int)) := cell_blk (w := W.drew) hb2 3
  have d0 : W.drew.cell? ⟨gp, 0, none⟩ = some (.slice (some ⟨g, 0, none⟩) n cp) := cell_blk (w := W.drew) hb2 0
  have h0 : decide ((k : Int) < 0) = false := by simp
  have h1 : decide ((n : Int) < (k : Int)) = false := by have := h.le; simp; omega
  have h1' : decide (n < k) = false := by have := h.le; simp; omega
  have hks : (k : Int) ≤ 100000 := by have := h.le; have := h.small; omega
  have hl := h.lt
  have HE := Lib.hid (show RS W.drew gp g n cp ts k c from ⟨⟨k, hb2, fun _ => rfl⟩, (h.tl.touchP tt h.ne).touch (Touch.refl NoB W).drew, h.ne, h.len, h.le, h.small⟩)
  have HT := Lib.hid tt
  clear h hb hb1 hb2 tt
  go_enter Tryz.func15, Tryz.ntmps15
  go_upto_region 3 with fail
  try rw [hW]
  clear hW c1 q3 q2 c2 c3
  go_region
  go_wp2
  go_end0
  exact ⟨rfl, HE.out, HT.out.drew⟩
theorem rfail_any {w : World} {gp g n cp : Nat} {ts : List Tk} {k e : Nat} (h : RS w gp g n cp ts k e) (c : Nat) :
    Calls Tryz.prog 15 #[.pointer (some ⟨gp, 0, none⟩), .int .i64 (c : Int)] w fun x w' => x = .returned (.tuple #[]) ∧ RS w' gp g n cp ts k (if e = 0 then c else e) ∧ Touch (AtB gp) w w' := by
  by_cases he : e = 0
  · subst he
    exact (rfail_yes h c).mono (fun x w' q => by simpa using q)
  · exact (rfail_no h he c).mono (fun x w' q => by obtain ⟨rfl, rfl⟩ := q; rw [if_neg he]; exact ⟨rfl, h, Touch.refl _ _⟩)
/-- The token that comes, whatever failed. -/
theorem rnow_any {w : World} {gp g n cp : Nat} {ts : List Tk} {k e : Nat} (h : RS w gp g n cp ts k e) :
    Calls Tryz.prog 13 #[.pointer (some ⟨gp, 0, none⟩)] w fun x w' => x = .returned (.agg #[.int .i64 (nxt ts k 0).kd, .int .i64 (nxt ts k 0).n, .int .i64 (nxt ts k 0).pl, .string (bs (nxt ts k 0).tx)]) ∧ Touch NoB w w' := by
  have hgp := h.lt
  obtain ⟨W, hW⟩ : ∃ W, w.alloc (.cells #[.int .i64 0, .int .i64 0, .int .i64 0, .string ⟨#[]⟩] 52) = W := ⟨_, rfl⟩
  have hT : Touch NoB w W := by rw [← hW]; exact (Touch.refl _ _).alloc _
  have hN : W.heap[w.heap.size]? = some (.cells #[.int .i64 0, .int .i64 0, .int .i64 0, .string ⟨#[]⟩] 52 (0, 0)) := by rw [← hW]; exact alloc_blk _ _ _ rfl
  have hr := (h.touch hT)
  obtain ⟨bad, hb, -⟩ := hr.blk
  have c0 : W.drew.cell? ⟨gp, 0, none⟩ = some (.slice (some ⟨g, 0, none⟩) n cp) := cell_blk (w := W.drew) hb 0
  have c1 : W.drew.cell? ⟨gp, 1, none⟩ = some (.int .i64 (k : Int)) := cell_blk (w := W.drew) hb 1
  have b0 : W.drew.drew.cell? ⟨gp, 0, none⟩ = some (.slice (some ⟨g, 0, none⟩) n cp) := cell_blk (w := W.drew.drew) hb 0
  have b1 : W.drew.drew.cell? ⟨gp, 1, none⟩ = some (.int .i64 (k : Int)) := cell_blk (w := W.drew.drew) hb 1
  have n0 : W.cell? ⟨w.heap.size, 0, none⟩ = some (.int .i64 0) := cell_blk hN 0
  have n1 : W.cell? ⟨w.heap.size, 1, none⟩ = some (.int .i64 0) := cell_blk hN 1
  have n2 : W.cell? ⟨w.heap.size, 2, none⟩ = some (.int .i64 0) := cell_blk hN 2
  have n3 : W.cell? ⟨w.heap.size, 3, none⟩ = some (.string ⟨#[]⟩) := cell_blk hN 3
  have f0 : W.frozen? ⟨w.heap.size, 0, none⟩ = false := free_blk hN 0
  have f1 : W.frozen? ⟨w.heap.size, 1, none⟩ = false := free_blk hN 1
  have f2 : W.frozen? ⟨w.heap.size, 2, none⟩ = false := free_blk hN 2
  have f3 : W.frozen? ⟨w.heap.size, 3, none⟩ = false := free_blk hN 3
  have nl : w.heap.size < W.heap.size := blk_lt hN
  have hks : (k : Int) ≤ 100000 := by have := h.le; have := h.small; omega
  have hsm := h.small
  have h00 : decide ((k : Int) < 0) = false := by simp
  have HT := Lib.hid hT
  by_cases hlt : k < n
  · obtain ⟨t, ht⟩ : ∃ t, ts[k]? = some t := ⟨ts[k]'(by rw [h.len]; exact hlt), List.getElem?_eq_getElem _⟩
    obtain ⟨a0, a1, a2, a3⟩ := hr.tl.at_ k t ht
    have al := hr.tl.lt
    rw [nxt_at ht]
    have p0 : W.drew.drew.cell? ⟨g, k * 4, none⟩ = some (.int .i64 t.kd) := a0
    have p1 : W.drew.drew.cell? ⟨g, k * 4 + 1, none⟩ = some (.int .i64 t.n) := a1
    have p2 : W.drew.drew.cell? ⟨g, k * 4 + 2, none⟩ = some (.int .i64 t.pl) := a2
    have p3 : W.drew.drew.cell? ⟨g, k * 4 + 3, none⟩ = some (.string (bs t.tx)) := a3
    have hkn : decide ((n : Int) ≤ (k : Int)) = false := by simp; omega
    have hkn' : decide (n ≤ k) = false := by simp; omega
    have hgn : w.heap.size ≠ gp := by omega
    have hgg : w.heap.size ≠ g := by have := h.tl.lt; omega
    clear h hr hN hT a0 a1 a2 a3 hb
    go_enter Tryz.func13, Tryz.ntmps13
    go_upto_region 1 with fail
    go_region
    go_wp2
    go_region
    go_wp2
    exact bodyPost_ret (v := .agg #[.int .i64 t.kd, .int .i64 t.n, .int .i64 t.pl, .string (bs t.tx)]) (by simp [results, Tryz.results13, go_sem, n0, n1, n2, n3]) rfl ⟨rfl, by
      have hnew : ∀ b, b = w.heap.size → NoB b ∨ w.heap.size ≤ b := fun b e => .inr (by omega)
      repeat (first | with_reducible exact HT.out | with_reducible refine Touch.drew ?_ | with_reducible refine Touch.setCell ?_ (hnew _ rfl) _)⟩
  · obtain rfl : k = n := by have := h.le; omega
    have hnx : nxt ts k 0 = ⟨0, 0, 0, []⟩ := by rw [← h.len]; exact nxt_end
    have hkn : decide ((k : Int) ≤ (k : Int)) = true := by simp
    have hkn' : decide (k ≤ k) = true := by simp
    have hgn : w.heap.size ≠ gp := by omega
    rw [hnx]
    have hbs : bs [] = ⟨#[]⟩ := rfl
    simp only [hbs]
    clear h hr hN hT hnx hbs hb
    go_enter Tryz.func13, Tryz.ntmps13
    go_upto_region 1 with fail
    go_region
    go_wp2
    exact bodyPost_ret (v := .agg #[.int .i64 0, .int .i64 0, .int .i64 0, .string ⟨#[]⟩]) (by simp [results, Tryz.results13, go_sem, n0, n1, n2, n3]) rfl ⟨rfl, by
      have hnew : ∀ b, b = w.heap.size → NoB b ∨ w.heap.size ≤ b := fun b e => .inr (by omega)
      repeat (first | with_reducible exact HT.out | with_reducible refine Touch.drew ?_ | with_reducible refine Touch.setCell ?_ (hnew _ rfl) _)⟩
end Go.Proofs.YtnphaaahdlkmhaaGreat
end
/-
  The document's own reader of tokens in memory: what its is, take, want, name and number return. Conditions: those that each theorem names.
-/
section
namespace Go.Proofs.YtnphaaahdlkmhaaGreat
open Go.ChangeShapes Go.WideShapes Go.ChangeAt Go.RowKit
set_option maxRecDepth 100000
set_option maxHeartbeats 4000000

theorem ris_any {w : World} {gp g n cp : Nat} {ts : List Tk} {k e : Nat} {s : Bs} (h : RS w gp g n cp ts k e) :
    Calls Tryz.prog 14 #[.pointer (some ⟨gp, 0, none⟩), .string (bs s)] w fun x w' => x = .returned (.bool (acc (nxt ts k 0) s)) ∧ Touch NoB w w' := by
  have HN := Lib.hid (rnow_any h)
  obtain ⟨t, ht⟩ : ∃ t, nxt ts k 0 = t := ⟨_, rfl⟩
  rw [ht] at HN ⊢
  unfold acc
  have hbl : (bs t.tx).toList = t.tx := bs_toList _
  have hsl : (bs s).toList = s := bs_toList _
  have hx : ((bs t.tx).toList == (bs s).toList) = (t.tx == s) := by rw [hbl, hsl]
  have hk2 : ((t.kd : Int) == 2) = (t.kd == 2) := eq_nat _ 2
  have hk4 : ((t.kd : Int) == 4) = (t.kd == 4) := eq_nat _ 4
  clear h ht hbl hsl
  obtain ⟨sx, hsx⟩ : ∃ sx, bs t.tx = sx := ⟨_, rfl⟩
  obtain ⟨sy, hsy⟩ : ∃ sy, bs s = sy := ⟨_, rfl⟩
  rw [hsx] at HN hx
  rw [hsy] at hx ⊢
  clear hsx hsy
  obtain ⟨kd, nn, pl, tx⟩ := t
  simp only at HN hx hk2 hk4 ⊢
  have hk24 : (kd == 2) = true → (kd == 4) = false := by intro h; rw [beq_iff_eq] at h; subst h; rfl
  cases h1 : (kd == 2) <;> cases h2 : (kd == 4) <;> cases h3 : (tx == s) <;> rw [h1] at hk2 hk24 <;> rw [h2] at hk4 hk24 <;> rw [h3] at hx <;> (try (exact absurd (hk24 rfl) (by decide)))
  all_goals
    clear h1 h2 h3 hk24
    go_enter Tryz.func14, Tryz.ntmps14
    go_wp2_with fail
    refine HN.out.mono ?_
    rintro x w1 ⟨rfl, hT1⟩
    have HT1 := Lib.hid hT1
    clear hT1
    go_wp2
    go_ret
    exact ⟨rfl, HT1.out.alloc (.cells #[.int .i64 (kd : Int), .int .i64 (nn : Int), .int .i64 (pl : Int), .string sx] 52)⟩
theorem rtake_no {w : World} {gp g n cp : Nat} {ts : List Tk} {k e : Nat} {s : Bs} (h : RS w gp g n cp ts k e) (ha : acc (nxt ts k e) s = false) :
    Calls Tryz.prog 16 #[.pointer (some ⟨gp, 0, none⟩), .string (bs s)] w fun x w' => x = .returned (.bool false) ∧ RS w' gp g n cp ts k e ∧ Touch NoB w w' := by
  obtain ⟨bad, hb, -⟩ := h.blk
  have c2 : w.cell? ⟨gp, 2, none⟩ = some (.int .i64 (e : Int)) := cell_blk hb 2
  by_cases he : e = 0
  · subst he
    have hee : (((0 : Nat) : Int) == 0) = true := rfl
    have HI := Lib.hid (ris_any (s := s) h)
    rw [ha] at HI
    have HP := Lib.hid h
    clear h hb ha
    go_enter Tryz.func16, Tryz.ntmps16
    go_wp2_with fail
    refine HI.out.mono ?_
    rintro x w1 ⟨rfl, hT1⟩
    have HE := Lib.hid (And.intro (HP.out.touch hT1) hT1)
    clear hT1
    go_wp2
    go_ret
    exact ⟨rfl, HE.out.1, HE.out.2⟩
  · have hee : ((e : Int) == 0) = false := by simp; omega
    have HP := Lib.hid h
    clear h hb ha
    go_enter Tryz.func16, Tryz.ntmps16
    go_wp2
    go_ret
    exact ⟨rfl, HP.out, Touch.refl _ _⟩
theorem rtake_yes {w : World} {gp g n cp : Nat} {ts : List Tk} {k e : Nat} {s : Bs} (h : RS w gp g n cp ts k e) (ha : acc (nxt ts k e) s = true) :
    Calls Tryz.prog 16 #[.pointer (some ⟨gp, 0, none⟩), .string (bs s)] w fun x w' => x = .returned (.bool true) ∧ RS w' gp g n cp ts (k + 1) e ∧ Touch (AtB gp) w w' := by
  have hlt := h.acc_lt ha
  obtain rfl := acc_zero ha
  obtain ⟨bad, hb, -⟩ := h.blk
  have c2 : w.cell? ⟨gp, 2, none⟩ = some (.int .i64 ((0 : Nat) : Int)) := cell_blk hb 2
  have hee : (((0 : Nat) : Int) == 0) = true := rfl
  have HI := Lib.hid (ris_any (s := s) h)
  rw [ha] at HI
  have HP := Lib.hid h
  have hsm := h.small
  obtain ⟨k1, hkk⟩ : ∃ k1, k + 1 = k1 := ⟨_, rfl⟩
  have hk1 : IntKind.i64.wrap ((k : Int) + 1) = (k1 : Int) := by rw [show (k : Int) + 1 = (k1 : Int) from by omega]; exact IntWalk.i64_in _ (by omega)
  rw [hkk]
  have hk1n : k1 ≤ n := by omega
  clear hkk hlt hsm h ha hb
  go_enter Tryz.func16, Tryz.ntmps16
  go_wp2_with fail
  refine HI.out.mono ?_
  rintro x W ⟨rfl, hT2⟩
  have hp2 := HP.out.touch hT2
  obtain ⟨bad2, hb2, -⟩ := hp2.blk
  have c1 : W.cell? ⟨gp, 1, none⟩ = some (.int .i64 (k : Int)) := cell_blk hb2 1
  have q1 : W.frozen? ⟨gp, 1, none⟩ = false := free_blk hb2 1
  have HE := Lib.hid (And.intro (hp2.setk k1 hk1n) (touch_set (gp := gp) (Touch.anyB hT2) 1 (.int .i64 (k1 : Int))))
  clear hT2 hp2 hb2
  go_wp2
  go_ret
  exact ⟨rfl, HE.out.1, HE.out.2⟩
/-- A sign or word that must come. -/
theorem rwant_any {w : World} {gp g n cp : Nat} {ts : List Tk} {k e : Nat} {s : Bs} (h : RS w gp g n cp ts k e) :
    Calls Tryz.prog 19 #[.pointer (some ⟨gp, 0, none⟩), .string (bs s)] w fun x w' => x = .returned (.tuple #[]) ∧
      RS w' gp g n cp ts (if acc (nxt ts k e) s = true then k + 1 else k) (if acc (nxt ts k e) s = true then e else if e = 0 then 2 else e) ∧ Touch (AtB gp) w w' := by
  obtain ⟨bad, hb, -⟩ := h.blk
  have c2 : w.cell? ⟨gp, 2, none⟩ = some (.int .i64 (e : Int)) := cell_blk hb 2
  by_cases he : e = 0
  · subst he
    have hee : (((0 : Nat) : Int) == 0) = true := rfl
    cases ha : acc (nxt ts k 0) s
    · have HI := Lib.hid (rtake_no (s := s) h ha)
      simp only [Bool.false_eq_true, if_false, if_true]
      clear h hb ha
      go_enter Tryz.func19, Tryz.ntmps19
      go_wp2_with fail
      refine HI.out.mono ?_
      rintro x w1 ⟨rfl, h1, hT1⟩
      have HF := Lib.hid (rfail_yes h1 2)
      have HT := Lib.hid hT1
      clear h1 hT1
      go_wp2_with fail
      refine HF.out.mono ?_
      rintro x w2 ⟨rfl, h1, hT1⟩
      have HE := Lib.hid (And.intro h1 ((Touch.anyB HT.out).same hT1))
      clear h1 hT1
      go_wp2
      go_end0
      exact ⟨rfl, HE.out.1, HE.out.2⟩
    · have HI := Lib.hid (rtake_yes (s := s) h ha)
      simp only [if_true]
      clear h hb ha
      go_enter Tryz.func19, Tryz.ntmps19
      go_wp2_with fail
      refine HI.out.mono ?_
      rintro x w1 ⟨rfl, h1, hT1⟩
      have HE := Lib.hid (And.intro h1 hT1)
      clear h1 hT1
      go_wp2
      go_end0
      exact ⟨rfl, HE.out.1, HE.out.2⟩
  · have hee : ((e : Int) == 0) = false := by simp; omega
    rw [acc_bad he]
    simp only [Bool.false_eq_true, if_false]
    rw [if_neg he]
    have HP := Lib.hid h
    clear h hb
    go_enter Tryz.func19, Tryz.ntmps19
    go_wp2
    go_end0
    exact ⟨rfl, HP.out, Touch.refl _ _⟩
end Go.Proofs.YtnphaaahdlkmhaaGreat
end
