/-
  Rows of trees of bare nodes, in memory; a list of one node. Conditions: those that each theorem names.
-/
import Derived.Test.YtfpeennegmlcpaaR1
import Derived.Test.YtfpeennegmlcpaaJ8
namespace Go.Proofs.Ytfpeennegmlcpaa
open Go.ChangeShapes Go.WideShapes Go.ChangeAt Go.RowKit
set_option maxRecDepth 100000
set_option maxHeartbeats 4000000

/-- The cells of trees in a row. -/
def flatT : List (TrP × Value) → List Value
  | [] => []
  | p :: l => trC p.1 p.2 ++ flatT l
theorem flatT_len : ∀ l : List (TrP × Value), (flatT l).length = l.length * 11
  | [] => rfl
  | p :: l => by rw [flatT, List.length_append, flatT_len l, List.length_cons]; simp [trC, ndC]; omega
theorem flatT_snoc : ∀ (l : List (TrP × Value)) (p : TrP × Value), flatT (l ++ [p]) = flatT l ++ trC p.1 p.2
  | [], p => by simp [flatT]
  | q :: l, p => by rw [List.cons_append, flatT, flatT_snoc l p, flatT, List.append_assoc]
theorem flatT_at : ∀ {l : List (TrP × Value)} {i : Nat} {p : TrP × Value}, l[i]? = some p → ∀ j x, (trC p.1 p.2)[j]? = some x → (flatT l)[i * 11 + j]? = some x
  | [], i, p, h => by simp at h
  | q :: l, 0, p, h => by
    intro j x hj
    simp at h
    subst h
    have : j < 11 := by have := (List.getElem?_eq_some_iff.1 hj).1; simpa [trC, ndC] using this
    rw [flatT, List.getElem?_append_left (by simp [trC, ndC]; omega), Nat.zero_mul, Nat.zero_add]
    exact hj
  | q :: l, i + 1, p, h => by
    intro j x hj
    rw [flatT, List.getElem?_append_right (by simp [trC, ndC]; omega)]
    have e : (i + 1) * 11 + j - (trC q.1 q.2).length = i * 11 + j := by simp [trC, ndC]; omega
    rw [e]
    exact flatT_at (by simpa using h) j x hj
/-- A row of one's own, read as the trees that Tree takes. -/
theorem tl_of_row {w : World} {base T : Nat} {v : Value} {ps : List (TrP × Value)} {Q R : Nat → Prop} {d : Nat} (h : w.ownsRow base T 11 v ps.length (flatT ps)) (hq : ∀ p ∈ ps, (p.1.2.ok ∧ p.1.1.size ≤ 9223372036854775807) ∧ KL w Q d p.1.2.ks p.2) (hR : ∀ b, Q b → R b) (hg : ∀ g, v.ownBlock = some g → R g) (h0 : 0 < ps.length) (h1 : ps.length ≤ 1000) : ∃ tb c, v = .slice (some ⟨tb, 0, none⟩) ps.length c ∧ TL w R d (ps.map (·.1)) tb := by
  rcases h.2 with ⟨-, h2⟩ | ⟨g, cap, cur, rfl, hB, hg2, hc, hm, hs, ht⟩
  · exact absurd h2 (by omega)
  · refine ⟨g, cap, rfl, cur, T, hg2, hg g rfl, by simpa using h1, fun i y hy => ?_⟩
    rw [List.getElem?_map] at hy
    obtain ⟨p, hp, rfl⟩ : ∃ p, ps[i]? = some p ∧ p.1 = y := by
      cases hx : ps[i]? with
      | none => rw [hx] at hy; cases hy
      | some p => rw [hx] at hy; injection hy with hy; exact ⟨p, rfl, hy⟩
    obtain ⟨q1, q2⟩ := hq p (List.mem_of_getElem? hp)
    refine ⟨q1.1, q1.2, p.2, fun j x hj => ?_, q2.via (Touch.refl NoB w) (fun b hb => ⟨fun f => f, hR b hb⟩)⟩
    have h3 := flatT_at hp j x hj
    rw [← ht] at h3
    have hlt := (List.getElem?_eq_some_iff.1 h3).1
    rw [List.getElem?_take_of_lt (by simp at hlt; omega), Array.getElem?_toList] at h3
    exact h3
/-- A list of one node without kids, in a block of its own. -/
theorem kl_one {W : World} {Q : Nat → Prop} {b k : Nat} {s : ByteArray} {T : TypeId} (hb : W.heap[b]? = some (.cells (ndC k s (.slice none 0 0)).toArray T (0, 0))) (hq : Q b) (hk : k ≤ 1000) (hs : s.size ≤ 100) : KL W Q 1 [.mk k s []] (.slice (some ⟨b, 0, none⟩) 1 1) := by
  refine .inr ⟨b, 1, 1, _, T, rfl, hq, rfl, Nat.one_pos, Nat.le_refl _, by unfold maxLen; omega, hb, fun j y hy => ?_⟩
  match j, hy with
  | 0, hy =>
    injection hy with hy
    subst hy
    refine ⟨⟨by simp only [BN.kd]; omega, by simp only [BN.nm]; omega⟩, .slice none 0 0, fun j x hx => ?_, KL.nil⟩
    rw [Nat.zero_mul, Nat.zero_add, List.getElem?_toArray]
    exact hx
def tsK (n i : Nat) (ring : Bool) : List TrP := (List.range i).map fun i => (nmI i, .mk 5 nmE [xR n i ring])
theorem tsK_all (n : Nat) (ring : Bool) : tsK n n ring = tsR n ring := rfl
theorem tsK_snoc (n i : Nat) (ring : Bool) : tsK n (i + 1) ring = tsK n i ring ++ [(nmI i, .mk 5 nmE [xR n i ring])] := by simp [tsK, List.range_succ]
theorem tsK_len (n i : Nat) (ring : Bool) : (tsK n i ring).length = i := by simp [tsK]
theorem info_tree : ∃ i0, Try.prog.info? 32 = some i0 ∧ i0.zero = some (.agg #[.string ⟨#[]⟩, .int .i64 0, .int .i64 0, .int .i64 0, .string ⟨#[]⟩, .int .i64 0, .int .i64 0, .string ⟨#[]⟩, .slice none 0 0, .slice none 0 0, .slice none 0 0]) ∧ i0.size = 11 ∧ i0.bytes = 160 := by
  have h : (Try.prog.info? 32).map (fun i => (i.zero, i.size, i.bytes)) = some (some (.agg #[.string ⟨#[]⟩, .int .i64 0, .int .i64 0, .int .i64 0, .string ⟨#[]⟩, .int .i64 0, .int .i64 0, .string ⟨#[]⟩, .slice none 0 0, .slice none 0 0, .slice none 0 0]), 11, 160) := by kernel_rfl
  cases hi : Try.prog.info? 32 with
  | none => rw [hi] at h; cases h
  | some i0 =>
    rw [hi] at h
    simp only [Option.map_some, Option.some.injEq, Prod.mk.injEq] at h
    exact ⟨i0, rfl, h.1, h.2.1, h.2.2⟩
theorem nmE_size : nmE.size = 0 := rfl
/-- The rows of the first i trees, and what is kept about them. -/
def RRel (w : World) (N : Nat) (ring : Bool) (k : Nat) (v6 v7 : Value) (wr : World) : Prop := ∃ (i : Nat) (ps : List (TrP × Value)), v7 = .int .i64 (i : Int) ∧ i ≤ N ∧ k = N - i ∧ wr.ownsRow w.heap.size 32 11 v6 i (flatT ps) ∧ ps.map (·.1) = tsK N i ring ∧ (∀ p ∈ ps, (p.1.2.ok ∧ p.1.1.size ≤ 9223372036854775807) ∧ KL wr (fun b => w.heap.size ≤ b ∧ b < wr.heap.size ∧ v6.ownBlock ≠ some b) 1 p.1.2.ks p.2) ∧ Touch NoB w wr
theorem rr_tl {w wr : World} {N : Nat} {ring : Bool} {v6 : Value} {ps : List (TrP × Value)} (h1 : 1 ≤ N) (h2 : N ≤ 30) (hrow : wr.ownsRow w.heap.size 32 11 v6 N (flatT ps)) (hm : ps.map (·.1) = tsK N N ring) (hq : ∀ p ∈ ps, (p.1.2.ok ∧ p.1.1.size ≤ 9223372036854775807) ∧ KL wr (fun b => w.heap.size ≤ b ∧ b < wr.heap.size ∧ v6.ownBlock ≠ some b) 1 p.1.2.ks p.2) : ∃ tb c, v6 = .slice (some ⟨tb, 0, none⟩) N c ∧ TL wr (fun b => b < wr.heap.size) 1 (tsR N ring) tb := by
  have hl : ps.length = N := by rw [← List.length_map (f := (·.1)), hm, tsK_len]
  obtain ⟨tb, c, e, h⟩ := tl_of_row (R := fun b => b < wr.heap.size) (ps := ps) (by rw [hl]; exact hrow) hq (fun b hb => hb.2.1) (fun g hg => (hrow.lt g hg).2) (by omega) (by omega)
  rw [hl] at e
  rw [hm, tsK_all] at h
  exact ⟨tb, c, e, h⟩
/-- One tree more. -/
theorem rr_step {w wr W6 w' : World} {N i g' cap' k n6 : Nat} {ring : Bool} {v6 : Value} {ps : List (TrP × Value)} {s : ByteArray} (hi : i < N) (h2 : N ≤ 30) (hw : w.heap.size ≤ wr.heap.size) (h6 : wr.heap.size ≤ W6.heap.size) (hn6 : W6.heap.size = n6) (hrow0 : ∀ b, v6.ownBlock = some b → w.heap.size ≤ b ∧ b < wr.heap.size) (hm : ps.map (·.1) = tsK N i ring) (hq : ∀ p ∈ ps, (p.1.2.ok ∧ p.1.1.size ≤ 9223372036854775807) ∧ KL wr (fun b => w.heap.size ≤ b ∧ b < wr.heap.size ∧ v6.ownBlock ≠ some b) 1 p.1.2.ks p.2) (hT : Touch NoB w wr) (t6 : Touch (fun b => b = wr.heap.size) wr W6)
    (hx : xR N i ring = .mk k s []) (hk : k ≤ 1000) (hs : s.size ≤ 100)
    {Wa : World} (hWa : Touch NoB W6 Wa) (hWs : Wa.heap.size = n6 + 2) (hb : Wa.heap[n6]? = some (.cells (ndC k s (.slice none 0 0)).toArray 30 (0, 0)))
    (hown : w'.ownsRow w.heap.size 32 11 (.slice (some ⟨g', 0, none⟩) (i + 1) cap') (i + 1) (flatT ps ++ trC (nmI i, .mk 5 nmE []) (.slice (some ⟨n6, 0, none⟩) 1 1))) (hgrow : Wa.grownBy w' v6.ownBlock) (hat : v6.ownBlock = some g' ∨ g' = n6 + 2) :
    RRel w N ring (N - (i + 1)) (.slice (some ⟨g', 0, none⟩) (i + 1) cap') (.int .i64 ((i + 1 : Nat) : Int)) w' := by
  subst hn6
  have ta : Touch (fun b => v6.ownBlock = some b) Wa w' := (Touch.refl _ Wa).grown hgrow (fun k e => .inl e)
  have sa := ta.size
  have TR : Touch (fun b => b = wr.heap.size ∨ v6.ownBlock = some b) wr w' := ((t6.mono (fun b h => .inl h)).trans hWa (fun b f => f.elim)).trans ta (fun b h => .inl (.inr h))
  refine ⟨i + 1, ps ++ [((nmI i, .mk 5 nmE [xR N i ring]), .slice (some ⟨W6.heap.size, 0, none⟩) 1 1)], rfl, hi, rfl, ?_, ?_, ?_, ?_⟩
  · rw [flatT_snoc]; exact hown
  · rw [List.map_append, hm, tsK_snoc]; rfl
  · intro p hp
    rcases List.mem_append.1 hp with hp | hp
    · obtain ⟨z1, z2⟩ := hq p hp
      refine ⟨z1, z2.via TR (fun b hb' => ⟨?_, hb'.1, by omega, ?_⟩)⟩
      · rintro (rfl | h)
        · omega
        · exact hb'.2.2 h
      · intro e
        simp only [Value.ownBlock, Option.some.injEq] at e
        rcases hat with h | h
        · exact hb'.2.2 (by rw [h, e])
        · omega
    · rw [List.mem_singleton] at hp
      subst hp
      refine ⟨⟨⟨by simp only [BN.kd]; omega, by simp only [BN.nm, nmE_size]; omega⟩, by have := nmI_size i (by omega); simp only; omega⟩, ?_⟩
      simp only [BN.ks, hx]
      have h := kl_one (Q := fun b => b = W6.heap.size) hb rfl hk hs
      refine h.via ta (fun b hb' => ?_)
      subst hb'
      refine ⟨fun h => by have := (hrow0 _ h).2; omega, by omega, by omega, fun e => ?_⟩
      simp only [Value.ownBlock, Option.some.injEq] at e
      rcases hat with h | h
      · have := (hrow0 _ h).2; omega
      · omega
  · exact hT.trans TR (fun b hb => by
      rcases hb with rfl | h
      · exact .inr hw
      · exact .inr (hrow0 b h).1)
end Go.Proofs.Ytfpeennegmlcpaa
