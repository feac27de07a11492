/-
  A Board that a statement has made, beside the statement's own blocks: each call in these terms; the example of the document.
-/
import Derived.Test.YteacpfknfbmjkaaBg
namespace Go.Proofs.Yteacpfknfbmjkaa
open Go.ChangeShapes Go.WideShapes Go.ChangeAt Go.RowKit Go.Maps
set_option maxRecDepth 100000
set_option maxHeartbeats 4000000

attribute [local go_sem] run_equalIn_complex run_store_complex

/-- Since w a Board was made, at g; L: the statement's own blocks, which no call on the Board turns. -/
def SB (w w1 : World) (L : Nat → Prop) (g : Nat) (l : List Ky) (C : Ow → Nat → Int × Int) (now : Int) (cnt : Nat) : Prop :=
  ∃ F, BD w1 F g l C now cnt ∧ InW w1 w.heap.size F ∧ (∀ b, L b → ¬ F b ∧ b < w1.heap.size) ∧ Touch NoB w w1
/-- The blocks of L are as they were. -/
def Kept (L : Nat → Prop) (w w' : World) : Prop := (∀ b, L b → w'.heap[b]? = w.heap[b]?) ∧ w.heap.size ≤ w'.heap.size
section
variable {w w1 w2 : World} {L : Nat → Prop} {g : Nat} {l : List Ky} {C : Ow → Nat → Int × Int} {now : Int} {cnt : Nat}
theorem SB.touch (h : SB w w1 L g l C now cnt) : Touch NoB w w1 := let ⟨_, _, _, _, t⟩ := h; t
theorem SB.lt (h : SB w w1 L g l C now cnt) {b : Nat} (hb : L b) : b < w1.heap.size := let ⟨_, _, _, d, _⟩ := h; (d b hb).2
theorem SB.quiet (h : SB w w1 L g l C now cnt) (t : Touch NoB w1 w2) : SB w w2 L g l C now cnt := by
  obtain ⟨F, h1, h2, h3, h4⟩ := h
  exact ⟨F, h1.quiet t, h2.more t.size, fun b hb => ⟨(h3 b hb).1, Nat.lt_of_lt_of_le (h3 b hb).2 t.size⟩, h4.same t⟩
/-- A block more of the statement's own. -/
theorem SB.own (h : SB w w1 L g l C now cnt) (t : Touch NoB w1 w2) {b : Nat} (h1 : w1.heap.size ≤ b) (h2 : b < w2.heap.size) : SB w w2 (fun k => L k ∨ k = b) g l C now cnt := by
  obtain ⟨F, a1, a2, a3, a4⟩ := h
  refine ⟨F, a1.quiet t, a2.more t.size, fun k hk => ?_, a4.same t⟩
  rcases hk with hk | rfl
  · exact ⟨(a3 k hk).1, Nat.lt_of_lt_of_le (a3 k hk).2 t.size⟩
  · exact ⟨fun e => by have := (a2 k e).2; omega, h2⟩
theorem SB.less {M : Nat → Prop} (h : SB w w1 L g l C now cnt) (d : ∀ b, M b → L b) : SB w w1 M g l C now cnt := by
  obtain ⟨F, a1, a2, a3, a4⟩ := h
  exact ⟨F, a1, a2, fun b hb => a3 b (d b hb), a4⟩

theorem NewB.sb {w w0 w' : World} {l : List Ky} {e : Ending} (h : NewB w0 l e w') (t : Touch NoB w w0) (hL : ∀ b, L b → b < w0.heap.size) : ∃ g : Nat, e = .returned (.tuple #[.pointer (some ⟨g, 0, none⟩), .int .i64 0]) ∧ SB w w' L g l C0 0 0 ∧ Touch NoB w0 w' := by
  obtain ⟨g, rfl, hD, hT⟩ := h
  refine ⟨g, rfl, ⟨_, hD, fun b hb => ?_, fun b hb => ⟨fun e => ?_, Nat.lt_of_lt_of_le (hL b hb) hT.size⟩, t.same hT⟩, hT⟩
  · rcases hb with hb | hb
    · exact hb.elim
    · exact ⟨Nat.le_trans t.size hb.1, hb.2⟩
  · rcases e with e | e
    · exact e.elim
    · have := hL b hb; omega

theorem sb_write (h : SB w w1 L g l C now cnt) (hc : cnt ≤ 1000) (hl : l.length ≤ 100) {s : ByteArray} {j : Nat} {k : Ky} (hf : findK l s = some j) (hj : l[j]? = some k) {i x : Int} (hi : I64 i) (hx : I64 x) (n : Int) (hn0 : 0 ≤ now) (hn1 : now ≤ 1000) :
    Calls Try.prog 9 #[.pointer (some ⟨g, 0, none⟩), .agg #[.int .i64 i, .int .i64 x], .string s, .agg #[.int .i64 0, .int .i64 n, .int .i64 0, .string ⟨#[]⟩, .complex .f64 0 0]] w1 fun e w2 => e = .returned (.int .i64 0) ∧ SB w w2 L g l (wrC C (ownO k i x) j n now) (wrN C (ownO k i x) j n now) (cnt + 2) ∧ Kept L w1 w2 := by
  obtain ⟨F, ⟨v, bo, D, a1⟩, a2, a3, a4⟩ := h
  refine (write_yes a1 (fun b hb => ⟨Nat.zero_le _, (a2 b hb).2⟩) hc hl hf hj hi hx n hn0 hn1).mono ?_
  rintro e w2 ⟨rfl, hD, hT⟩
  refine ⟨rfl, ⟨_, hD, a2.ext hT.size (by have := a4.size; omega), fun b hb => ⟨fun e => ?_, Nat.lt_of_lt_of_le (a3 b hb).2 hT.size⟩, a4.trans hT (fun b hb => .inr (a2 b hb).1)⟩, fun b hb => hT.block b (a3 b hb).2 (a3 b hb).1, hT.size⟩
  rcases e with e | e
  · exact (a3 b hb).1 e
  · have := (a3 b hb).2; omega
theorem sb_forget (h : SB w w1 L g l C now cnt) {i x : Int} (hi : I64 i) (hx : I64 x) :
    Calls Try.prog 13 #[.pointer (some ⟨g, 0, none⟩), .agg #[.int .i64 i, .int .i64 x]] w1 fun e w2 => e = .returned (.tuple #[]) ∧ SB w w2 L g l (noC C ⟨i, x, false⟩) now cnt ∧ Kept L w1 w2 := by
  obtain ⟨F, ⟨v, bo, D, a1⟩, a2, a3, a4⟩ := h
  refine (forget_any a1 hi hx).mono ?_
  rintro e w2 ⟨rfl, hD, hT⟩
  exact ⟨rfl, ⟨F, hD, a2.more hT.size, fun b hb => ⟨(a3 b hb).1, Nat.lt_of_lt_of_le (a3 b hb).2 hT.size⟩, a4.trans hT (fun b hb => .inr (a2 b hb).1)⟩, fun b hb => hT.block b (a3 b hb).2 (a3 b hb).1, hT.size⟩
theorem sb_read (h : SB w w1 L g l C now cnt) (hl : l.length ≤ 100) {s : ByteArray} {j : Nat} {k : Ky} (hf : findK l s = some j) (hj : l[j]? = some k) {i x : Int} (hi : I64 i) (hx : I64 x) :
    Calls Try.prog 10 #[.pointer (some ⟨g, 0, none⟩), .agg #[.int .i64 i, .int .i64 x], .string s] w1 fun e w2 => e = .returned (.tuple #[.agg #[.int .i64 0, .int .i64 (C (ownO k i x) j).1, .int .i64 0, .string ⟨#[]⟩, .complex .f64 0 0], .int .i64 0]) ∧ Touch NoB w1 w2 := by
  obtain ⟨F, ⟨v, bo, D, a1⟩, _⟩ := h
  exact read_yes a1 hl hf hj hi hx
theorem sb_stamp (h : SB w w1 L g l C now cnt) (hl : l.length ≤ 100) {s : ByteArray} {j : Nat} {k : Ky} (hf : findK l s = some j) (hj : l[j]? = some k) {i x : Int} (hi : I64 i) (hx : I64 x) :
    Calls Try.prog 11 #[.pointer (some ⟨g, 0, none⟩), .agg #[.int .i64 i, .int .i64 x], .string s] w1 fun e w2 => e = .returned (.tuple #[.int .i64 (C (ownO k i x) j).2, .int .i64 0]) ∧ Touch NoB w1 w2 := by
  obtain ⟨F, ⟨v, bo, D, a1⟩, _⟩ := h
  exact stamp_yes a1 hl hf hj hi hx
theorem sb_now (h : SB w w1 L g l C now cnt) :
    Calls Try.prog 12 #[.pointer (some ⟨g, 0, none⟩)] w1 fun e w2 => e = .returned (.int .i64 now) ∧ w1 = w2 := by
  obtain ⟨F, ⟨v, bo, D, a1⟩, _⟩ := h
  exact now_any a1
end

theorem i64_zero : I64 0 := i64_mk (by decide) (by decide)
theorem i64_one : I64 1 := i64_mk (by decide) (by decide)
theorem bkeys_A : ∀ (j : Nat) (k : Ky), [keyA][j]? = some k → k.nm.size ≤ 1000 ∧ k.kd = 0 := by
  intro j k hj
  rcases j with _ | j
  · simp at hj; subst hj; exact ⟨by decide, rfl⟩
  · simp at hj
theorem alive_any (w : World) :
    Calls Try.prog 6 #[] w fun e w' => e = .returned (.bool true) ∧ Touch NoB w w' := by
  have HN := Lib.hid (fun w' (h : KAt w' NoB (some ⟨w.heap.size, 0, none⟩) [keyA]) => bnew_yes (some ⟨w.heap.size, 0, none⟩) 1 1 [keyA] w' rfl (by decide) h errK_A bkeys_A)
  have hK : KAt (w.alloc (.cells #[.string ⟨#[97]⟩, .int .i64 0, .bool false] 30)) NoB (some ⟨w.heap.size, 0, none⟩) [keyA] := kat_blk (alloc_blk w _ _ rfl) rfl (by intro k hk; simp at hk; subst hk; decide)
  have HK := Lib.hid hK
  clear hK
  go_enter Try.func6, Try.ntmps6
  go_wp2_with fail
  refine (HN.out _ HK.out).mono ?_
  intro e w1 hP
  obtain ⟨g, rfl, hS, -⟩ := hP.sb (L := NoB) ((Touch.refl NoB w).alloc _) (fun b hb => hb.elim)
  have HS := Lib.hid hS
  clear hS hP
  go_wp2_with fail
  refine (sb_now HS.out).mono ?_
  rintro e w2 ⟨rfl, rfl⟩
  go_wp2_with fail
  refine (sb_write HS.out (by decide) (by decide) find_a (k := keyA) rfl i64_zero i64_zero 3 (by decide) (by decide)).mono ?_
  rintro e w2 ⟨rfl, hS2, -⟩
  have HS2 := Lib.hid hS2
  clear hS2
  go_wp2_with fail
  refine (sb_read HS2.out (by decide) find_a (k := keyA) rfl i64_zero i64_zero).mono ?_
  rintro e w3 ⟨rfl, hT3⟩
  have HT3 := Lib.hid (HS2.out.touch.same hT3)
  clear hT3
  have e3 : (wrC C0 (ownO keyA 0 0) 0 3 0 (ownO keyA 0 0) 0).1 = 3 := by
    unfold wrC
    rw [if_neg (by decide), setC_same]
  rw [e3]
  go_wp2_with fail
  refine (num_any _ _).mono ?_
  rintro e w' ⟨rfl, rfl⟩
  go_wp2_with fail
  refine (num_any _ _).mono ?_
  rintro e w' ⟨rfl, rfl⟩
  go_wp2_with fail
  refine (num_any _ _).mono ?_
  rintro e w' ⟨rfl, rfl⟩
  go_wp2
  go_ret
  exact ⟨rfl, HT3.out.alloc _⟩
end Go.Proofs.Yteacpfknfbmjkaa
