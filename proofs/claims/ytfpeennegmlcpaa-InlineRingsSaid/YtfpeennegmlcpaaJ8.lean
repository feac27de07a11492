/-
  The given example of chapter 14's statements holds. Conditions: those that each theorem names.
-/
import Derived.Test.YtfpeennegmlcpaaJ5
import Derived.Test.YtfpeennegmlcpaaJ6
import Derived.Test.YtfpeennegmlcpaaJ7
namespace Go.Proofs.Ytfpeennegmlcpaa
open Go.ChangeShapes Go.WideShapes Go.ChangeAt Go.RowKit
set_option maxRecDepth 100000
set_option maxHeartbeats 4000000
attribute [local go_sem ↓] loadN_of storeN_of

theorem nat13 : ((13 : Nat) : Int) = 13 := rfl
theorem num_any (e : Int) (w : World) : Calls Try.prog 21 #[.int .i64 e] w fun x w' => x = .returned (.int .i64 e) ∧ w = w' := by
  go_enter Try.func21, Try.ntmps21
  go_wp2
  go_ret
  exact ⟨rfl, rfl⟩
def nmA : ByteArray := ⟨#[97]⟩
def nmB : ByteArray := ⟨#[98]⟩
def tsA : List TrP := [(nmA, .mk 10 nmB []), (nmB, .mk 13 nmE [])]
theorem aliveM : nodM tsA 41 1 (List.replicate tsA.length false) 0 (.mk 10 nmA []) = .ok (.mk 13 nmE [], [false, false], 1) := by
  have hk0 : kdN (nmsT tsA) nmA = some 0 := by simp [nmsT, tsA, kdN, eqN, nmA]
  have hk1 : kdN (nmsT tsA) nmB = some 1 := by simp [nmsT, tsA, kdN, eqN, nmA, nmB]
  have hf : folM tsA (tsA.length + 1) (List.replicate tsA.length false) (.mk 10 nmA []) = .ok (.mk 13 nmE [], [0, 1], [true, true]) := by
    have h1 := folM_use (ts := tsA) (f := 2) (k := 10) (o := [false, false]) (ks := []) (t := (nmA, .mk 10 nmB [])) rfl hk0 rfl rfl []
    have h2 := folM_one (ts := tsA) (f := 0) (o := [true, false]) (ks := []) (t := (nmB, .mk 13 nmE [])) hk1 rfl rfl (by simp [BN.kd])
    rw [comb_nil] at h1
    refine h1.trans ?_
    show comb ([] ++ [0]) (folM tsA 2 [true, false] (.mk 10 nmB [])) = _
    rw [h2]
    rfl
  exact nodM_ok (f := 40) (d := 1) (c := 0) hf (by omega) (by omega) rfl
/-- The two trees of the example, as the literal lays them. -/
def cellsA : Array Value := #[.string nmA, .int .i64 10, .int .i64 0, .int .i64 0, .string nmB, .int .i64 0, .int .i64 0, .string ⟨#[]⟩, .slice none 0 0, .slice none 0 0, .slice none 0 0, .string nmB, .int .i64 13, .int .i64 0, .int .i64 0, .string ⟨#[]⟩, .int .i64 0, .int .i64 0, .string ⟨#[]⟩, .slice none 0 0, .slice none 0 0, .slice none 0 0]
theorem tl_two {W : World} {tb D : Nat} {T : TypeId} {n1 n2 : ByteArray} {k1 k2 : Nat} {s1 s2 : ByteArray} {l1 l2 : List BN} {u1 u2 : Value} {Q : Nat → Prop} (hb : W.heap[tb]? = some (.cells (trC (n1, .mk k1 s1 l1) u1 ++ trC (n2, .mk k2 s2 l2) u2).toArray T (0, 0))) (hq : Q tb) (h1 : KL W Q D l1 u1) (h2 : KL W Q D l2 u2) (hs : n1.size ≤ 100 ∧ n2.size ≤ 100 ∧ s1.size ≤ 100 ∧ s2.size ≤ 100 ∧ k1 ≤ 1000 ∧ k2 ≤ 1000) : TL W Q D [(n1, .mk k1 s1 l1), (n2, .mk k2 s2 l2)] tb := by
  refine ⟨_, T, hb, hq, by simp, fun i t ht => ?_⟩
  match i, ht with
  | 0, ht =>
    injection ht with ht
    subst ht
    refine ⟨⟨by simp only [BN.kd]; omega, by simp only [BN.nm]; omega⟩, by simp only; omega, u1, fun j x hx => ?_, h1⟩
    rw [Nat.zero_mul, Nat.zero_add, List.getElem?_toArray, List.getElem?_append_left (List.getElem?_eq_some_iff.1 hx).1]
    exact hx
  | 1, ht =>
    injection ht with ht
    subst ht
    refine ⟨⟨by simp only [BN.kd]; omega, by simp only [BN.nm]; omega⟩, by simp only; omega, u2, fun j x hx => ?_, h2⟩
    rw [List.getElem?_toArray, List.getElem?_append_right (by simp [trC, ndC])]
    rw [show 1 * 11 + j - (trC (n1, .mk k1 s1 l1) u1).length = j by simp [trC, ndC]]
    exact hx
theorem alive14_any (w : World) : Calls Try.prog 15 #[] w fun e w' => e = .returned (.bool true) ∧ Touch NoB w w' := by
  obtain ⟨W1, hW1⟩ : ∃ W1, w.alloc (.cells cellsA 32) = W1 := ⟨_, rfl⟩
  have t1 : Touch NoB w W1 := hW1 ▸ (Touch.refl NoB w).alloc _
  have hb1 : W1.heap[w.heap.size]? = some (.cells cellsA 32 (0, 0)) := hW1 ▸ mk_blk w _ _ rfl
  have hsz : w.heap.size < W1.heap.size := blk_lt hb1
  have hTL : TL W1 (fun b => b < W1.heap.size) 0 tsA w.heap.size := tl_two (k1 := 10) (k2 := 13) (u1 := .slice none 0 0) (u2 := .slice none 0 0) hb1 hsz KL.nil KL.nil ⟨by decide, by decide, by decide, by decide, by omega, by omega⟩
  have hC := tree_any (nm := nmA) hTL 2 (by decide)
  rw [aliveM] at hC
  have hC2 : Calls Try.prog 18 #[.slice (some ⟨w.heap.size, 0, none⟩) 2 2, .string ⟨#[97]⟩] W1 (TrPost W1 41 (.ok (.mk 13 nmE [], [false, false], 1))) := hC
  have HC := Lib.hid hC2
  have HT := Lib.hid t1
  simp only [cellsA, nmA, nmB] at hW1
  have HW1 := Lib.hid hW1
  have hCN := (fun (W : World) => count_any (w := W) (d := 0) (n := .mk 13 nmE []) (u := .slice none 0 0) (Q := fun _ => True) KL.nil (by simp [BN.tt, Tt.cnt, ttL, cntT]))
  have hcn1 : (BN.mk 13 nmE []).tt.cnt = 1 := by simp [BN.tt, Tt.cnt, ttL, cntT]
  rw [hcn1] at hCN
  unfold ndV at hCN
  simp only [BN.kd, BN.nm, nmE, nat13] at hCN
  have nat1 : ((1 : Nat) : Int) = 1 := rfl
  rw [nat1] at hCN
  clear nat1
  have HCN := Lib.hid hCN
  clear hCN hcn1 hC hC2 hTL hb1 t1 hW1
  go_enter Try.func15, Try.ntmps15
  go_wp2_with fail
  rw [HW1.out]
  refine HC.out.mono ?_
  rintro r w2 ⟨t2, -, hok⟩
  obtain ⟨-, -, u, he, hkl⟩ := hok _ _ _ rfl
  obtain rfl : u = .slice none 0 0 := by
    rcases hkl.form with ⟨-, h⟩ | ⟨g, m, c, -, -, h3, h4, -⟩
    · exact h
    · simp [BN.ks] at h3; omega
  unfold ndV at he
  simp only [BN.kd, BN.nm, nmE, nat13] at he
  subst he
  obtain ⟨W3, hW3⟩ : ∃ W3, w2.alloc (.cells #[.int .i64 0, .int .i64 0, .int .i64 0, .string ⟨#[]⟩, .int .i64 0, .int .i64 0, .string ⟨#[]⟩, .slice none 0 0, .slice none 0 0, .slice none 0 0] 30) = W3 := ⟨_, rfl⟩
  have t3 : Touch NoB w2 W3 := hW3 ▸ (Touch.refl NoB w2).alloc _
  have hb3 : BxAt W3 w2.heap.size 0 ⟨#[]⟩ (.slice none 0 0) := hW3 ▸ BxAt.new (k := 0) (s := ⟨#[]⟩) (u := .slice none 0 0) (mk_blk w2 _ _ rfl)
  obtain ⟨W4, hst4, hb4, t4⟩ := hb3.store (.mk 13 nmE []) (u' := .slice none 0 0) rfl
  have hc4 := hb4.cell0.1
  have hl4 := hb4.lt
  unfold ndV at hst4
  simp only [BN.kd, BN.nm, nmE, nat13] at hst4 hc4
  have HW3 := Lib.hid hW3
  have HT4 := Lib.hid (((HT.out.same t2).same t3).trans t4 (fun b hb => .inr (by subst hb; have := HT.out.size; have := t2.size; omega)))
  have HB4 := Lib.hid hb4
  clear hok hkl t2 t3 hb3 hW3 t4 hb4
  go_wp2_with fail
  rw [HW3.out, hst4]
  go_wp2_with fail
  refine (HCN.out _).mono ?_
  rintro r w5 ⟨rfl, t5⟩
  have c5 := (t5.cell (p := ⟨w2.heap.size, 0, none⟩) hl4 (fun f => f)).trans hc4
  have HT5 := Lib.hid (HT4.out.same t5)
  clear t5
  go_wp2_with fail
  refine (num_any 0 _).mono ?_
  rintro r w6 ⟨rfl, rfl⟩
  go_wp2
  go_ret
  exact ⟨rfl, HT5.out⟩
end Go.Proofs.Ytfpeennegmlcpaa
