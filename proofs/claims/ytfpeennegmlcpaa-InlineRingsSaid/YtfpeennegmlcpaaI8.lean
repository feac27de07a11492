/-
  Package inline's expander in memory; what its follow is to leave. No condition beyond those that each theorem names.
-/
import Derived.Test.YtfpeennegmlcpaaI7
namespace Go.Proofs.Ytfpeennegmlcpaa
open Go.RowKit
set_option maxRecDepth 100000
set_option maxHeartbeats 1000000

theorem kdN_mem {i : Nat} {s : ByteArray} : ∀ {l : List NmP}, kdN l s = some i → ∃ x ∈ l, x.2 = i ∧ x.1 = s
  | [], h => by cases h
  | x :: l, h => by
    unfold kdN at h
    split at h
    · rename_i he
      injection h with h
      exact ⟨x, by simp, h, eqN_iff.1 he⟩
    · obtain ⟨y, hy, e⟩ := kdN_mem h
      exact ⟨y, List.mem_cons_of_mem _ hy, e⟩
theorem kdN_get {ts : List TrP} {i : Nat} {s : ByteArray} (h : kdN (nmsT ts) s = some i) : ∃ t, ts[i]? = some t ∧ t.1 = s := by
  obtain ⟨x, hx, h1, h2⟩ := kdN_mem h
  obtain ⟨j, hj⟩ := List.getElem?_of_mem hx
  unfold nmsT at hj
  rw [List.getElem?_map, List.getElem?_zipIdx] at hj
  cases ht : ts[j]? with
  | none => rw [ht] at hj; cases hj
  | some t =>
    rw [ht] at hj
    simp at hj
    subst hj
    simp only at h1 h2
    subst h1
    exact ⟨t, ht, h2⟩
/-- How many are not open. -/
def shutN (o : List Bool) : Nat := (o.filter (fun b => !b)).length
theorem shutN_cons (b : Bool) (o : List Bool) : shutN (b :: o) = (if b then 0 else 1) + shutN o := by
  unfold shutN
  cases b
  · simp; omega
  · simp
theorem shutN_le : ∀ o : List Bool, shutN o ≤ o.length
  | [] => by simp [shutN]
  | b :: o => by rw [shutN_cons, List.length_cons]; have := shutN_le o; split <;> omega
theorem shutN_set : ∀ {o : List Bool} {i : Nat}, o[i]? = some false → shutN (o.set i true) + 1 = shutN o
  | [], i, h => by simp at h
  | b :: o, 0, h => by
    simp at h
    subst h
    rw [List.set_cons_zero, shutN_cons, shutN_cons]
    simp
    omega
  | b :: o, i + 1, h => by
    rw [List.set_cons_succ, shutN_cons, shutN_cons]
    have := shutN_set (o := o) (i := i) (by simpa using h)
    omega
section
variable (w : World) (B eb ob mb tb D : Nat) (ts : List TrP)
/-- The expander at eb: the trees at tb lie below B, the map from names to places at mb, what is open at ob; c nodes and x expressions have been made. -/
def EX (o : List Bool) (c x : Nat) : Prop := (∃ tc, w.heap[eb]? = some (.cells #[.slice (some ⟨tb, 0, none⟩) ts.length tc, .map (some mb), .slice (some ⟨ob, 0, none⟩) ts.length ts.length, .int .i64 (c : Int), .int .i64 (x : Int)] 75 (0, 0))) ∧
  w.heap[ob]? = some (.cells (o.map Value.bool).toArray 4 (0, 0)) ∧ o.length = ts.length ∧ PK w mb ts.length (nmsT ts) ∧ TL w (fun b => b < B) D ts tb ∧ (B ≤ eb ∧ B ≤ ob ∧ B ≤ mb ∧ eb ≠ ob ∧ mb ≠ eb ∧ mb ≠ ob)
end
section
variable {w w' : World} {B eb ob mb tb D c x : Nat} {ts : List TrP} {o : List Bool}
theorem EX.keep (h : EX w B eb ob mb tb D ts o c x) (t : Touch NoB w w') : EX w' B eb ob mb tb D ts o c x := by
  obtain ⟨⟨tc, a1⟩, a2, a3, a4, a5, a6⟩ := h
  exact ⟨⟨tc, (t.block eb (blk_lt a1) (fun f => f)).trans a1⟩, (t.block ob (blk_lt a2) (fun f => f)).trans a2, a3, a4.touch t (fun f => f), a5.via t (fun b _ f => f), a6⟩
theorem EX.keepF (h : EX w B eb ob mb tb D ts o c x) {F : Nat → Prop} (t : Touch F w w') (hF : ∀ b, F b → b ≠ eb ∧ b ≠ ob ∧ b ≠ mb ∧ B ≤ b) : EX w' B eb ob mb tb D ts o c x := by
  obtain ⟨⟨tc, a1⟩, a2, a3, a4, a5, a6⟩ := h
  exact ⟨⟨tc, (t.block eb (blk_lt a1) (fun f => (hF _ f).1 rfl)).trans a1⟩, (t.block ob (blk_lt a2) (fun f => (hF _ f).2.1 rfl)).trans a2, a3, a4.touch t (fun f => (hF _ f).2.2.1 rfl), a5.via t (fun b hb f => by have := (hF _ f).2.2.2; omega), a6⟩
theorem EX.lts (h : EX w B eb ob mb tb D ts o c x) : eb < w.heap.size ∧ ob < w.heap.size ∧ mb < w.heap.size ∧ B ≤ eb ∧ B ≤ ob ∧ B ≤ mb := by
  obtain ⟨⟨tc, a1⟩, a2, a3, a4, a5, b1, b2, b3, -⟩ := h
  exact ⟨blk_lt a1, blk_lt a2, a4.lt, b1, b2, b3⟩
/-- Behind a store to what is open. -/
theorem EX.opens (h : EX w B eb ob mb tb D ts o c x) {o' : List Bool} (ho : o'.length = o.length) (t : Touch (fun b => b = ob) w w') (hb : w'.heap[ob]? = some (.cells (o'.map Value.bool).toArray 4 (0, 0))) : EX w' B eb ob mb tb D ts o' c x := by
  obtain ⟨⟨tc, a1⟩, a2, a3, a4, a5, b1, b2, b3, b4, b5, b6⟩ := h
  exact ⟨⟨tc, (t.block eb (blk_lt a1) b4).trans a1⟩, hb, ho.trans a3, a4.touch t b6, a5.via t (fun b hb e => by subst e; exact absurd hb (by omega)), b1, b2, b3, b4, b5, b6⟩
/-- Behind a store to the expander's own cells. -/
theorem EX.own (h : EX w B eb ob mb tb D ts o c x) {c' x' : Nat} (t : Touch (fun b => b = eb) w w') (hb : ∀ tc, w.heap[eb]? = some (.cells #[.slice (some ⟨tb, 0, none⟩) ts.length tc, .map (some mb), .slice (some ⟨ob, 0, none⟩) ts.length ts.length, .int .i64 (c : Int), .int .i64 (x : Int)] 75 (0, 0)) → w'.heap[eb]? = some (.cells #[.slice (some ⟨tb, 0, none⟩) ts.length tc, .map (some mb), .slice (some ⟨ob, 0, none⟩) ts.length ts.length, .int .i64 (c' : Int), .int .i64 (x' : Int)] 75 (0, 0))) : EX w' B eb ob mb tb D ts o c' x' := by
  obtain ⟨⟨tc, a1⟩, a2, a3, a4, a5, b1, b2, b3, b4, b5, b6⟩ := h
  exact ⟨⟨tc, hb tc a1⟩, (t.block ob (blk_lt a2) (fun e => b4 e.symm)).trans a2, a3, a4.touch t b5, a5.via t (fun b hb e => by subst e; exact absurd hb (by omega)), b1, b2, b3, b4, b5, b6⟩
/-- One node more. -/
theorem EX.count (h : EX w B eb ob mb tb D ts o c x) (c' : Nat) : EX (w.setCell ⟨eb, 3, none⟩ (.int .i64 (c' : Int))) B eb ob mb tb D ts o c' x ∧ Touch (fun k => k = eb) w (w.setCell ⟨eb, 3, none⟩ (.int .i64 (c' : Int))) := by
  have t : Touch (fun k => k = eb) w (w.setCell ⟨eb, 3, none⟩ (.int .i64 (c' : Int))) := (Touch.refl (fun k => k = eb) w).setCell (p := ⟨eb, 3, none⟩) (.inl rfl) _
  exact ⟨h.own t (fun _ hb => set_blk hb 3 _), t⟩
/-- The expressions that have been made. -/
theorem EX.exprs (h : EX w B eb ob mb tb D ts o c x) {x' : Nat} (t : Touch (fun k => k = eb) w w') (hb : ∀ cs T, w.heap[eb]? = some (.cells cs T (0, 0)) → w'.heap[eb]? = some (.cells (cs.setIfInBounds 4 (.int .i64 (x' : Int))) T (0, 0))) : EX w' B eb ob mb tb D ts o c x' :=
  h.own t (fun _ h1 => hb _ _ h1)
theorem folM_lt {ts : List TrP} : ∀ {f : Nat} {o : List Bool} {n n' : BN} {l : List Nat} {o' : List Bool}, folM ts f o n = .ok (n', l, o') → ∀ a ∈ l, a < ts.length
  | 0, _, _, _, _, _, h => by simp only [folM] at h; cases h
  | f + 1, o, n, n', l, o', h => by
    simp only [folM] at h
    split at h
    · split at h
      · cases h
      · split at h
        · cases h
        · split at h
          · cases h
          · rename_i ht
            split at h
            · cases h
            · rename_i h2
              injection h with h
              injection h with h3 h4
              injection h4 with h4 h5
              subst h4
              intro a ha
              rcases List.mem_cons.1 ha with rfl | ha
              · exact (List.getElem?_eq_some_iff.1 ht).1
              · exact folM_lt h2 a ha
    · injection h with h
      injection h with h3 h4
      injection h4 with h4 h5
      subst h4
      intro a ha
      simp at ha
theorem shutM_app : ∀ (l : List Nat) (o : List Bool) (a : Nat), shutM o (l ++ [a]) = (shutM o l).set a false
  | [], o, a => rfl
  | b :: l, o, a => by rw [List.cons_append, shutM, shutM_app l, shutM]
theorem bools_set (o : List Bool) (i : Nat) (b : Bool) : ((o.map Value.bool).toArray.setIfInBounds i (.bool b)) = ((o.set i b).map Value.bool).toArray := by
  rw [List.map_set]
  simp
/-- A store of one bool. -/
theorem EX.flip (h : EX w B eb ob mb tb D ts o c x) (i : Nat) (b : Bool) : EX (w.setCell ⟨ob, i, none⟩ (.bool b)) B eb ob mb tb D ts (o.set i b) c x ∧ Touch (fun k => k = ob) w (w.setCell ⟨ob, i, none⟩ (.bool b)) := by
  have t : Touch (fun k => k = ob) w (w.setCell ⟨ob, i, none⟩ (.bool b)) := (Touch.refl (fun k => k = ob) w).setCell (p := ⟨ob, i, none⟩) (.inl rfl) _
  refine ⟨h.opens (by simp) t ?_, t⟩
  rw [← bools_set]
  exact set_blk h.2.1 i _
end
/-- With places that were opened ahead. -/
def comb (l : List Nat) : Except Nat (BN × List Nat × List Bool) → Except Nat (BN × List Nat × List Bool)
  | .error e => .error e
  | .ok (n, l2, o) => .ok (n, l ++ l2, o)
def intsN (l : List Nat) : List Value := l.map fun i : Nat => Value.int .i64 (i : Int)
/-- What follow leaves. -/
def FoPost (w : World) (B eb ob mb tb D : Nat) (ts : List TrP) (c x : Nat) (R : Except Nat (BN × List Nat × List Bool)) (e : Ending) (w' : World) : Prop :=
  Touch (fun b => b = ob) w w' ∧
  (∀ er, R = .error er → e = .returned (.tuple #[ndV (.mk 0 ⟨#[]⟩ []) (.slice none 0 0), .slice none 0 0, .int .i64 (er : Int)])) ∧
  (∀ n l o, R = .ok (n, l, o) → n.ok ∧ n.kd ≠ 10 ∧ ∃ u v, e = .returned (.tuple #[ndV n u, v, .int .i64 0]) ∧ KL w' (fun b => b < B) D n.ks u ∧ w'.ownsRow w.heap.size 3 1 v l.length (intsN l) ∧ EX w' B eb ob mb tb D ts o c x)
end Go.Proofs.Ytfpeennegmlcpaa
