/-
  What isKind, slices.IndexFunc, Find and add of package schema return, and what they leave in memory.
-/
import Derived.Test.YteacpfknfbmjkaaKb
import Derived.Shelf.Abstract
namespace Go.Proofs.Yteacpfknfbmjkaa
open Go.ChangeShapes Go.WideShapes Go.ChangeAt Go.RowKit
set_option maxRecDepth 100000
set_option maxHeartbeats 1000000

theorem field_kind (k : Int) (w : World) : (Instr.field 36 (.agg #[.int .i64 k, .int .i64 0, .int .i64 0, .string ⟨#[]⟩, .complex .f64 0 0]) 0).run Try.prog w = .ok (.int .i64 k) w := by kernel_rfl
theorem iskind_any (k : Int) (w : World) :
    Calls Try.prog 26 #[.int .i64 k] w fun e w' => e = .returned (.bool (kindB k)) ∧ Touch NoB w w' := by
  have HZ := Lib.hid (zero_any k w)
  have hb : (kindV k == k) = kindB k := by
    unfold kindV kindB
    by_cases h : 0 ≤ k ∧ k ≤ 4
    · rw [if_pos h]; simp [h]
    · rw [if_neg h]; simp only [h, decide_false]; simp; omega
  have hf := field_kind (kindV k)
  unfold zv val at HZ
  go_enter Try.func26, Try.ntmps26
  go_wp2_with fail
  refine HZ.out.mono ?_
  rintro e w1 ⟨rfl, hT⟩
  have HT := Lib.hid hT
  clear hT
  go_wp2
  go_ret
  exact ⟨rfl, HT.out⟩

/-- Find's closure: is a key's name the one that lies at p? -/
theorem fclosure_any (k : Ky) (s : ByteArray) (p : Nat) (w : World) (hp : p < w.heap.size) (hc : w.cell? ⟨p, 0, none⟩ = some (.string s)) :
    Calls Try.prog 28 #[.agg #[.string k.nm, .int .i64 k.kd, .bool k.sh], .pointer (some ⟨p, 0, none⟩)] w fun e w' => e = .returned (.bool (eqS k.nm s)) ∧ Touch NoB w w' := by
  obtain ⟨nm, kd, sh⟩ := k
  obtain ⟨q, hq⟩ : ∃ q, eqS nm s = q := ⟨_, rfl⟩
  have hqq : (nm.toList == s.toList) = q := (eqS_list _ _).trans hq
  rw [hq]
  go_enter Try.func28, Try.ntmps28
  go_wp2
  go_ret
  exact ⟨rfl, (Touch.refl _ _).alloc _⟩

def IfRel (w : World) (l : List Ky) (s : ByteArray) (v8 : Value) (wr : World) : Prop := ∃ i : Nat, i ≤ l.length ∧ v8 = .int .i64 i ∧ (∀ (j : Nat) (k : Ky), j < i → l[j]? = some k → eqS k.nm s = false) ∧ Touch NoB w wr
theorem indexfunc_any (A : Option Addr) (n cap p : Nat) (l : List Ky) (s : ByteArray) (w : World) (hn : l.length = n) (hn2 : n ≤ 1000000) (h : KAt w NoB A l) (hp : p < w.heap.size) (hc : w.cell? ⟨p, 0, none⟩ = some (.string s)) :
    Calls Try.prog 27 #[.slice A n cap, .func (.func 28) #[] #[.pointer (some ⟨p, 0, none⟩)]] w fun e w' => e = .returned (.int .i64 (posV (findK l s))) ∧ Touch NoB w w' := by
  have e19 : ∀ (args : Array Value) (w : World), (callFunc 28 args).run Try.prog w = .ok (.enter 28 args) w := enters_of Try.func28 (by kernel_rfl) rfl
  have HK := Lib.hid h
  have HN := Lib.hid hn
  have HP := Lib.hid (And.intro hp hc)
  clear h hn hp hc
  go_enter Try.func27, Try.ntmps27
  go_wp2
  go_loopw [8] (fun v8 wr => IfRel w l s v8 wr) (fun v8 _ => n - (intOf v8).toNat)
  case atStart => exact ⟨0, Nat.zero_le _, rfl, fun j k hj => by omega, Touch.refl _ _⟩
  case round =>
    obtain ⟨i, hi, rfl, hno, hT⟩ := hrel
    have HNo := Lib.hid hno
    by_cases hlt : i < n
    · obtain ⟨k, hk⟩ : ∃ k, l[i]? = some k := ⟨l[i]'(by have := HN.out; omega), List.getElem?_eq_getElem _⟩
      obtain ⟨hsz, b, off, rfl, hb, -, c0, c1, c2⟩ := HK.out.touch hT i k hk
      have HC := Lib.hid (fclosure_any k s p wr (Nat.lt_of_lt_of_le HP.out.1 hT.size) ((hT.cell (p := ⟨p, 0, none⟩) HP.out.1 (fun e => e)).trans HP.out.2))
      obtain ⟨q, hq⟩ : ∃ q, eqS k.nm s = q := ⟨_, rfl⟩
      rw [hq] at HC
      have HQ := Lib.hid hq
      have Hk := Lib.hid hk
      have HT := Lib.hid hT
      clear hq hk hT hno hsz
      cases q
      · go_wp2_with (go_at_fn 28; refine HC.out.mono ?_; rintro e w1 ⟨rfl, hT1⟩; have HT1 := Lib.hid (HT.out.same hT1); clear hT1)
        go_roundw
        case rel => exact ⟨i + 1, by have := HN.out; omega, by go_num, fun j x hj hx => by
          by_cases e : j = i
          · subst e; rw [Hk.out] at hx; injection hx with hx; subst hx; exact HQ.out
          · exact HNo.out j x (by omega) hx, HT1.out⟩
        case measure => simp [intOf]; omega
      · go_wp2_with (go_at_fn 28; refine HC.out.mono ?_; rintro e w1 ⟨rfl, hT1⟩; have HT1 := Lib.hid (HT.out.same hT1); clear hT1)
        go_ret
        exact ⟨ret_int (by rw [findK_some Hk.out HQ.out HNo.out]; rfl), HT1.out⟩
    · have hin : i = n := by have := HN.out; omega
      subst hin
      have HT := Lib.hid hT
      clear hT hno
      go_wp2
      go_ret
      exact ⟨ret_int (by rw [findK_none (fun j k hk => HNo.out j k (by have := (List.getElem?_eq_some_iff.1 hk).1; have := HN.out; omega) hk)]; rfl), HT.out⟩

/-- A schema lies at block g: its keys; every block of it is in F. -/
def SK (w : World) (F : Nat → Prop) (g : Nat) (l : List Ky) : Prop :=
  ∃ v, w.heap[g]? = some (.cells #[v] 54 (0, 0)) ∧ w.ownsRow 0 30 3 v l.length (kc l) ∧ F g ∧ (∀ k, v.ownBlock = some k → F k) ∧ ∀ (j : Nat) (k : Ky), l[j]? = some k → k.nm.size ≤ 9223372036854775807
theorem SK.keep {w w' : World} {F G : Nat → Prop} {g : Nat} {l : List Ky} (h : SK w F g l) (t : Touch G w w') (d : Dis F G) : SK w' F g l := by
  obtain ⟨v, hg, hr, f0, f1, hs⟩ := h
  exact ⟨v, by rw [t.block g (blk_lt hg) (fun x => d g f0 x)]; exact hg, row_touch hr t (fun k hk x => d k (f1 k hk) x), f0, f1, hs⟩
theorem SK.quiet {w w' : World} {F : Nat → Prop} {g : Nat} {l : List Ky} (h : SK w F g l) (t : Touch NoB w w') : SK w' F g l := h.keep t (fun _ _ x => x)
/-- A row of keys is a list of keys in memory. -/
theorem row_kat {w : World} {base n cap : Nat} {A : Option Addr} {l : List Ky} (h : w.ownsRow base 30 3 (.slice A n cap) n (kc l)) (hn : l.length = n) (hs : ∀ (j : Nat) (k : Ky), l[j]? = some k → k.nm.size ≤ 9223372036854775807) : KAt w NoB A l := by
  intro j k hj
  have hjl : j < l.length := (List.getElem?_eq_some_iff.1 hj).1
  obtain ⟨g, cap', hv, _, _, hob⟩ := row_form h (by omega)
  injection hv with hA _ hc
  subst hA hc
  have hlt := row_lt h hob
  refine ⟨hs j k hj, g, 0, rfl, hlt, fun x => x, ?_, ?_, ?_⟩
  · rw [Nat.zero_add, h.cellAt (j * 3) (by omega), show j * 3 = j * 3 + 0 from rfl, kc_at l j 0 (by decide), hj]; rfl
  · rw [Nat.zero_add, h.cellAt (j * 3 + 1) (by omega), kc_at l j 1 (by decide), hj]; rfl
  · rw [Nat.zero_add, h.cellAt (j * 3 + 2) (by omega), kc_at l j 2 (by decide), hj]; rfl

/-- What Find returns. -/
def fndV : Option Nat → Value
  | none => .tuple #[.int .i64 0, .bool false]
  | some i => .tuple #[.int .i64 i, .bool true]
theorem find_any (g : Nat) (l : List Ky) (s : ByteArray) (F : Nat → Prop) (w : World) (h : SK w F g l) (hl : l.length ≤ 1000000) :
    Calls Try.prog 20 #[.pointer (some ⟨g, 0, none⟩), .string s] w fun e w' => e = .returned (fndV (findK l s)) ∧ Touch NoB w w' := by
  obtain ⟨v, hg, hr, f0, f1, hs⟩ := h
  obtain ⟨A, cap, rfl, hc1, hc2⟩ := row_any hr
  unfold maxLen at hc2
  have hgl := blk_lt hg
  have k0 : w.cell? ⟨g, 0, none⟩ = some (.slice A l.length cap) := cell_blk hg 0
  obtain ⟨n, hn⟩ : ∃ n, l.length = n := ⟨_, rfl⟩
  rw [hn] at k0 hr hl hc1
  have HI := Lib.hid (indexfunc_any A n cap w.heap.size l s (w.alloc (.cells #[.string s] 9)) hn hl ((row_kat hr hn hs).touch ((Touch.refl _ _).alloc _)) (by simp) (cell_blk (alloc_blk w _ 9 rfl) 0))
  have HN := Lib.hid hn
  clear hr f0 f1 hs hg hn
  cases hf : findK l s
  · rw [hf] at HI
    clear hf
    unfold posV at HI
    go_enter Try.func20, Try.ntmps20
    go_wp2_with fail
    refine HI.out.mono ?_
    rintro e w1 ⟨rfl, hT⟩
    have HT := Lib.hid (((Touch.refl _ w).alloc _).same hT)
    clear hT
    go_wp2
    exact bodyPost_ret (v := .tuple #[.int .i64 0, .bool false]) (by simp [results, Try.results20, go_sem]) rfl ⟨rfl, HT.out⟩
  · rename_i i
    rw [hf] at HI
    clear hf
    unfold posV at HI
    go_enter Try.func20, Try.ntmps20
    go_wp2_with fail
    refine HI.out.mono ?_
    rintro e w1 ⟨rfl, hT⟩
    have HT := Lib.hid (((Touch.refl _ w).alloc _).same hT)
    clear hT
    go_wp2
    exact bodyPost_ret (v := .tuple #[.int .i64 i, .bool true]) (by simp [results, Try.results20, go_sem]) rfl ⟨rfl, HT.out⟩
end Go.Proofs.Yteacpfknfbmjkaa
