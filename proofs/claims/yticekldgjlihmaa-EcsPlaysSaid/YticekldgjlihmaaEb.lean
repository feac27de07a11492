/-
  What slices.Insert of one pointer returns, and what it leaves in memory.
-/
import Derived.Test.YticekldgjlihmaaEa
import Derived.Test.YticekldgjlihmaaM2
import Derived.Lib.Overlaps
import Derived.Lib.AppendZerosOnto
import Derived.Laws.CopyOwn
import Derived.Deep.RegionLaw
import Derived.Deep.AppendLies
namespace Go.Proofs.Yticekldgjlihmaa
open Go.ChangeShapes Go.WideShapes Go.ChangeAt Go.RowKit
set_option maxRecDepth 100000
set_option maxHeartbeats 1000000

/-- A copy whose outcome is known, as one step of a region. -/
theorem step_copied {P : Program} {ops : Array Oper} {o : Oper} {a : Act} {w w1 : World} {K : Act → World → Prop} {Q : Exit → Act → World → Prop} {E : Prop} {T : TypeId} {d s : Operand} {x y r : Value} (hop : o.op = .call { callee := .builtin .copy, args := #[d, s], argTypes := #[T, T] })
    (hrun : (Builtin.copy_ #[T, T] o.type #[x, y]).run P w = .ok r w1) (hgd : o.guard = none) (hx : a.eval d = x) (hy : a.eval s = y) (hK : K (a.put o.dst r) w1) : if Region.wanted o (yielded ops a.tmps) = true then Oper.wp P o a w K Q else E := by
  have h1 : Region.wanted o (yielded ops a.tmps) = true := by simp [Region.wanted, hgd]
  rw [if_pos h1]
  unfold Oper.wp
  simp [execOp, hop, resolve, invoke, builtin, hx, hy, hrun, Result.andThen]
  exact hK
/-- .. and in a region whose order is told. -/
theorem list_copied {P : Program} {ops : Array Oper} {rest : List Oper} {o : Oper} {a : Act} {w w1 : World} {Q : Exit → Act → World → Prop} {T : TypeId} {d s : Operand} {x y r : Value} (hop : o.op = .call { callee := .builtin .copy, args := #[d, s], argTypes := #[T, T] })
    (hrun : (Builtin.copy_ #[T, T] o.type #[x, y]).run P w = .ok r w1) (hgd : o.guard = none) (hx : a.eval d = x) (hy : a.eval s = y) (hK : wpList P ops Q rest (a.put o.dst r) w1) : wpList P ops Q (o :: rest) a w := by
  refine wpList_plain hgd fun K hk => ?_
  unfold Oper.wp
  simp [execOp, hop, resolve, invoke, builtin, hx, hy, hrun, Result.andThen]
  exact hk _ _ hK

def InsPost (w : World) (v : Value) (xs : List Value) (i : Nat) (x : Value) (n : Nat) (e : Ending) (w' : World) : Prop :=
  ∃ v', e = .returned v' ∧ w'.ownsRow 0 81 1 v' (n + 1) (xs.take i ++ (x :: xs.drop i)) ∧ Touch (fun b => v.ownBlock = some b) w w' ∧ ∀ k, v'.ownBlock = some k → v.ownBlock = some k ∨ w.heap.size ≤ k

theorem info_ptr : (Try.prog.info? 81).map (fun i => (i.zero, i.size, i.bytes)) = some (some (.pointer none), 1, 8) := by kernel_rfl
theorem Touch.setRow {F : Nat → Prop} {a w : World} (h : Touch F a w) {g : Nat} (hg : F g ∨ a.heap.size ≤ g) (cs : Array Value) : Touch F a (w.setRow g cs) :=
  h.trans (G := fun b => b = g) ⟨rfl, rfl, rfl, by simp [World.setRow], fun k _ hn => setRow_other w g k cs hn⟩ (fun x hx => by subst hx; exact hg)

/-- At the end. -/
theorem insert_end (v : Value) (n vb : Nat) (xs : List Value) (x : Value) (w : World) (hr : w.ownsRow 0 81 1 v n xs) (hv : w.heap[vb]? = some (.cells #[x] 81 (0, 0))) (h1 : x.oneCell' = true) (hn : n ≤ 1000000) :
    Calls Try.prog 72 #[v, .int .i64 n, .slice (some ⟨vb, 0, none⟩) 1 1] w (InsPost w v xs n x n) := by
  obtain ⟨i0, hi, hz0, hz1, hz2⟩ := info_parts info_ptr
  have hlen : xs.length = n := by have := hr.1; omega
  have e1 : xs.take n ++ (x :: xs.drop n) = xs ++ [x] := by rw [List.take_of_length_le (by omega), List.drop_eq_nil_of_le (by omega)]
  have hpost : ∀ v' w', w'.ownsRow 0 81 1 v' (n + 1) (xs ++ [x]) → w.grownBy w' v.ownBlock → (v'.ownBlock = v.ownBlock ∨ v'.ownBlock = some w.heap.size) → InsPost w v xs n x n (.returned v') w' := by
    intro v' w' h2 h3 h4
    refine ⟨v', rfl, by rw [e1]; exact h2, (Touch.refl _ w).grown h3 (fun k e => .inl e), fun k hk => ?_⟩
    rcases h4 with e | e
    · exact .inl (e ▸ hk)
    · rw [e] at hk; injection hk with hk; right; omega
  have HP := Lib.hid hpost
  have HV := Lib.hid hv
  have HR := Lib.hid hr
  have hforms : (v = .slice none 0 0 ∧ n = 0) ∨ ∃ g cap, v = .slice (some ⟨g, 0, none⟩) n cap ∧ n ≤ cap ∧ cap ≤ maxLen := by
    rcases hr.2 with h | ⟨g, cap, cur, rfl, _, _, h4, h5, _⟩
    · exact .inl h
    · exact .inr ⟨g, cap, rfl, h4, h5⟩
  clear hr hv hpost e1 hlen
  rcases hforms with ⟨rfl, rfl⟩ | ⟨g, cap, rfl, hc1, hc2⟩
  · go_enter Try.func72, Try.ntmps72
    go_wp2_with (at_builtin; refine wpList_append_own_at _ rfl (.tmp 23) (.tmp 24) 62 rfl 0 81 i0 _ 1 8 Try.underlying62 hi hz0 hz1 hz2 rfl (by decide) (.slice none 0 0) 0 xs rfl HR.out ⟨vb, 0, none⟩ 1 1 [x] rfl rfl ?c1 ?c2 ?c3 ?c4 (Nat.zero_le _) ?go)
    case c1 => exact World.news_of_block (cs := #[x]) HV.out
    case c2 => intro u hu; simp at hu; subst hu; exact h1
    case c3 => unfold maxLen; omega
    case c4 => omega
    case go =>
    intro v1 w1 hown hgrow _ hat
    have HQ := Lib.hid (HP.out v1 w1 hown hgrow hat)
    clear hown hgrow hat
    go_wp2
    go_ret
    exact HQ.out
  · unfold maxLen at hc2
    by_cases hcn : cap = n
    · subst hcn
      go_enter Try.func72, Try.ntmps72
      go_wp2_with (at_builtin; refine wpList_append_own_at _ rfl (.tmp 23) (.tmp 24) 62 rfl 0 81 i0 _ 1 8 Try.underlying62 hi hz0 hz1 hz2 rfl (by decide) (.slice (some ⟨g, 0, none⟩) cap cap) cap xs rfl HR.out ⟨vb, 0, none⟩ 1 1 [x] rfl rfl ?k1 ?k2 ?k3 ?k4 (Nat.zero_le _) ?ko)
      case k1 => exact World.news_of_block (cs := #[x]) HV.out
      case k2 => intro u hu; simp at hu; subst hu; exact h1
      case k3 => unfold maxLen; omega
      case k4 => omega
      case ko =>
      intro v1 w1 hown hgrow _ hat
      have HQ := Lib.hid (HP.out v1 w1 hown hgrow hat)
      clear hown hgrow hat
      go_wp2
      go_ret
      exact HQ.out
    · go_enter Try.func72, Try.ntmps72
      go_wp2_with (at_builtin; refine wpList_append_own_at _ rfl (.tmp 23) (.tmp 24) 62 rfl 0 81 i0 _ 1 8 Try.underlying62 hi hz0 hz1 hz2 rfl (by decide) (.slice (some ⟨g, 0, none⟩) n cap) n xs rfl HR.out ⟨vb, 0, none⟩ 1 1 [x] rfl rfl ?m1 ?m2 ?m3 ?m4 (Nat.zero_le _) ?mo)
      case m1 => exact World.news_of_block (cs := #[x]) HV.out
      case m2 => intro u hu; simp at hu; subst hu; exact h1
      case m3 => unfold maxLen; omega
      case m4 => omega
      case mo =>
      intro v1 w1 hown hgrow _ hat
      have HQ := Lib.hid (HP.out v1 w1 hown hgrow hat)
      clear hown hgrow hat
      go_wp2
      go_ret
      exact HQ.out

theorem shape_of {w : World} {g : Nat} {cs : Array Value} {t : TypeId} {fr : Nat × Nat} (h : w.heap[g]? = some (.cells cs t fr)) : w.shape? g = some (t, cs.size) := by simp [World.shape?, h]

/-- Within, in place. -/
theorem insert_shift (g n cap i vb : Nat) (xs : List Value) (x : Value) (w : World) (hr : w.ownsRow 0 81 1 (.slice (some ⟨g, 0, none⟩) n cap) n xs) (hv : w.heap[vb]? = some (.cells #[x] 81 (0, 0))) (hne : vb ≠ g) (h1 : x.oneCell' = true) (h2 : ∀ u ∈ xs, u.oneCell' = true) (hn : n ≤ 1000000) (hin : i < n) (hroom : n + 1 ≤ cap) :
    Calls Try.prog 72 #[.slice (some ⟨g, 0, none⟩) n cap, .int .i64 i, .slice (some ⟨vb, 0, none⟩) 1 1] w (InsPost w (.slice (some ⟨g, 0, none⟩) n cap) xs i x n) := by
  obtain ⟨hlen, hr2⟩ := hr
  rcases hr2 with ⟨e, _⟩ | ⟨g', cap', cur, e, _, hg, hc1, hc2, hcs, hct⟩
  · cases e
  injection e with a1 a2 a3
  injection a1 with a1
  injection a1 with a1
  subst a1 a3
  clear a2
  have hlg := blk_lt hg
  have hlv := blk_lt hv
  have hov : ∀ lb cb, (callFunc 76 #[.slice (some ⟨vb, 0, none⟩) 1 1, .slice (some ⟨g, i + 1, none⟩) lb cb]).run Try.prog w = .ok (.value (.bool false)) w := fun lb cb => by
    rw [run_callFunc_extern Try.func76 (by kernel_rfl) (by kernel_rfl) (by kernel_rfl) (e := Extern.SlicesOverlaps.overlaps #[62, 62] #[4]) (by kernel_rfl),
      Lib.run_overlaps_apart w 62 4 81 Try.underlying62 1 (fun w => by kernel_rfl) ⟨vb, 0, none⟩ ⟨g, i + 1, none⟩ 1 1 lb cb hne _ _ _ _ (shape_of hv) (shape_of hg) (by omega) (free_blk hv 0) (free_blk hv _)]
    rfl
  have hsz : (Try.prog.info? 81).map (·.size) = some 1 := by kernel_rfl
  rw [Nat.mul_one] at hct hlen
  have hxl : cur.toList.length = cap := by simpa using hcs
  obtain ⟨R1, hR1⟩ : ∃ R1, R1 = (cur.toList.take (i + 1) ++ xs.drop i ++ cur.toList.drop (i + 1 + (xs.drop i).length)).toArray := ⟨_, rfl⟩
  have hcp1 : ∀ (W : World) ty dc sc, W.heap[g]? = some (.cells cur 81 (0, 0)) → (Builtin.copy_ #[62, 62] ty #[.slice (some ⟨g, i + 1, none⟩) (n - i) dc, .slice (some ⟨g, i, none⟩) (n + 1 - i) sc]).run Try.prog W = .ok (goInt (xs.drop i).length) (W.setRow g R1) := fun W ty dc sc hW => by
    rw [hR1]
    refine run_copy_row (P := Try.prog) W _ _ ty 81 g (i + 1) (n - i) dc ⟨g, i, none⟩ (n + 1 - i) sc cur _ (xs.drop i) Try.underlying62 hsz hW (by rw [List.length_drop, hlen]; simp only [Nat.min_def]; split <;> omega) (fun j u hj => ?_) (by rw [List.length_drop, hlen]; omega) (fun u hu => h2 u (List.mem_of_mem_drop hu))
    rw [Addr.add_lit, cell_blk hW]
    rw [List.getElem?_drop, ← hct, List.getElem?_take] at hj
    split at hj
    · simpa using hj
    · cases hj
  have hR1l : R1.toList.length = cap := by
    rw [hR1]
    simp only [List.length_append, List.length_take, List.length_drop]
    omega
  obtain ⟨R2, hR2⟩ : ∃ R2, R2 = (R1.toList.take i ++ [x] ++ R1.toList.drop (i + [x].length)).toArray := ⟨_, rfl⟩
  have hcp2 : ∀ (W : World) ty dc, W.heap[g]? = some (.cells R1 81 (0, 0)) → W.heap[vb]? = some (.cells #[x] 81 (0, 0)) → (Builtin.copy_ #[62, 62] ty #[.slice (some ⟨g, i, none⟩) (n + 1 - i) dc, .slice (some ⟨vb, 0, none⟩) 1 1]).run Try.prog W = .ok (goInt 1) (W.setRow g R2) := fun W ty dc hW hWv => by
    rw [hR2]
    refine run_copy_row (P := Try.prog) W _ _ ty 81 g i (n + 1 - i) dc ⟨vb, 0, none⟩ 1 1 R1 _ [x] Try.underlying62 hsz hW (by simp only [Nat.min_def, List.length_singleton]; split <;> omega) (fun j u hj => ?_) (by rw [← Array.length_toList, hR1l]; simp; omega) (fun u hu => by simp at hu; subst hu; exact h1)
    rw [Addr.add_lit, cell_blk hWv]
    simpa using hj
  have hfin : R2.toList.take (n + 1) = xs.take i ++ (x :: xs.drop i) := by
    have t1 : R1.toList.take i = xs.take i := by
      rw [hR1, List.toList_toArray, List.append_assoc, List.take_append_of_le_length (by rw [List.length_take]; omega), List.take_take, ← hct, List.take_take]
      congr 1
      omega
    have t2 : (R1.toList.drop (i + 1)).take (n - i) = xs.drop i := by
      rw [hR1, List.toList_toArray, List.append_assoc, List.drop_append_of_le_length (by rw [List.length_take]; omega), List.drop_eq_nil_of_le (by rw [List.length_take]; omega), List.nil_append, List.take_append_of_le_length (by rw [List.length_drop]; omega), List.take_of_length_le (by rw [List.length_drop]; omega)]
    rw [hR2, List.toList_toArray, List.append_assoc, t1, List.take_append]
    have l1 : (xs.take i).length = i := by rw [List.length_take]; omega
    rw [List.take_of_length_le (by omega), l1, show n + 1 - i = (n - i) + 1 from by omega, List.singleton_append, List.take_succ_cons]
    simp only [List.length_singleton]
    rw [t2]
  have hR2s : R2.size = cap := by
    rw [hR2]
    simp only [List.size_toArray, List.length_append, List.length_take, List.length_drop, List.length_singleton]
    omega
  have hpost : ∀ W1 : World, Touch (fun b => (Value.slice (some ⟨g, 0, none⟩) n cap).ownBlock = some b) w W1 → W1.heap[g]? = some (.cells R2 81 (0, 0)) → InsPost w (.slice (some ⟨g, 0, none⟩) n cap) xs i x n (.returned (.slice (some ⟨g, 0, none⟩) (n + 1) cap)) W1 := by
    intro W1 hT hW1
    refine ⟨_, rfl, ⟨?_, .inr ⟨g, cap, R2, rfl, Nat.zero_le _, hW1, hroom, hc2, by omega, by rw [Nat.mul_one]; exact hfin⟩⟩, hT, fun k hk => .inl hk⟩
    simp only [List.length_append, List.length_take, List.length_cons, List.length_drop]
    omega
  have HP := Lib.hid hpost
  have HG := Lib.hid hg
  have HV := Lib.hid hv
  have hw1 : IntKind.i64.wrap ((i : Int) + 1) = (i : Int) + 1 := by rw [IntKind.wrap_i64]; omega
  have hb1 : (0 : Int) ≤ (i : Int) + 1 := by omega
  have htn : ((i : Int) + 1).toNat = i + 1 := by omega
  have hb2 : ¬ (cap = i + 1) := by omega
  have hb3 : (i : Int) ≤ (n : Int) + 1 := by omega
  have hb4 : ¬ (cap = i) := by omega
  have hb5 : i ≤ n := by omega
  unfold maxLen at hc2
  have HC1 := Lib.hid hcp1
  have HC2 := Lib.hid hcp2
  clear hpost hg hv hct hcs hxl hfin hR1l hR2s hR1 hR2 hcp1 hcp2 h2 hlen
  go_enter Try.func72, Try.ntmps72
  go_wp2_with (simp only [hov])
  go_region_law (refine step_copied (T := 62) (d := .tmp 73) (s := .tmp 76) rfl (HC1.out w.drew _ (cap - (i + 1)) (cap - i) HG.out) rfl (by simp [Act.eval, Act.put]) (by simp [Act.eval, Act.put]) ?_)
  have hW1 : (w.drew.setRow g R1).heap[g]? = some (.cells R1 81 (0, 0)) := setRow_heap _ g _ R1 _ _ HG.out
  have hW1v : (w.drew.setRow g R1).heap[vb]? = some (.cells #[x] 81 (0, 0)) := (setRow_other _ g vb R1 hne).trans HV.out
  have HW1 := Lib.hid hW1
  have HW1v := Lib.hid hW1v
  clear hW1 hW1v
  go_wp2_with (with_reducible refine list_copied (T := 62) (d := .tmp 80) (s := .tmp 81) rfl (HC2.out _ _ (cap - i) HW1.out HW1v.out) rfl rfl rfl ?_)
  have hQ := HP.out ((w.drew.setRow g R1).setRow g R2) ((((Touch.refl (fun b => (Value.slice (some ⟨g, 0, none⟩) n cap).ownBlock = some b) w).drew).setRow (g := g) (.inl rfl) R1).setRow (g := g) (.inl rfl) R2) (setRow_heap _ g _ R2 _ _ HW1.out)
  have HQ := Lib.hid hQ
  clear hQ
  go_wp2
  go_ret
  exact HQ.out

/-- Within, where there is no room: a new row. -/
theorem insert_grow (g n cap i vb : Nat) (xs : List Value) (x : Value) (w : World) (hr : w.ownsRow 0 81 1 (.slice (some ⟨g, 0, none⟩) n cap) n xs) (hv : w.heap[vb]? = some (.cells #[x] 81 (0, 0))) (h1 : x.oneCell' = true) (h2 : ∀ u ∈ xs, u.oneCell' = true) (hn : n ≤ 1000000) (hin : i < n) (hroom : cap < n + 1) :
    Calls Try.prog 72 #[.slice (some ⟨g, 0, none⟩) n cap, .int .i64 i, .slice (some ⟨vb, 0, none⟩) 1 1] w (InsPost w (.slice (some ⟨g, 0, none⟩) n cap) xs i x n) := by
  obtain ⟨i0, hi0, hz0, hz1, hz2⟩ := info_parts info_ptr
  have hr' := hr
  obtain ⟨hlen, hr2⟩ := hr
  rcases hr2 with ⟨e, _⟩ | ⟨g', cap', cur, e, _, hg, hc1, hc2, hcs, hct⟩
  · cases e
  injection e with a1 a2 a3
  injection a1 with a1
  injection a1 with a1
  subst a1 a3
  clear a2
  obtain rfl : cap = n := by omega
  have hlg := blk_lt hg
  have hlv := blk_lt hv
  rw [Nat.mul_one] at hlen hct
  have hcx : ∀ j u, xs[j]? = some u → w.cell? ⟨g, j, none⟩ = some u := fun j u hj => by
    rw [cell_blk hg]
    rw [← hct, List.getElem?_take] at hj
    split at hj
    · simpa using hj
    · cases hj
  have hsz : (Try.prog.info? 81).map (·.size) = some 1 := by kernel_rfl
  have hold : (Builtin.firstCells i0.size i (.slice (some ⟨g, 0, none⟩) i cap)).run Try.prog w.drew = .ok (xs.take i).toArray w.drew := by
    rw [hz1]
    refine run_firstCells_some w.drew 1 i ⟨g, 0, none⟩ i cap (xs.take i) (by rw [List.length_take]; omega) (fun j u hj => ?_)
    rw [Addr.add_lit, Nat.zero_add]
    rw [List.getElem?_take] at hj
    split at hj
    · exact hcx j u hj
    · cases hj
  obtain ⟨G, hG⟩ : ∃ G, G = grownCap w (cap + 1) cap 81 := ⟨_, rfl⟩
  obtain ⟨R0, hR0⟩ : ∃ R0 : Array Value, R0 = (xs.take i).toArray ++ Builtin.zeroCells (Value.pointer none).cells (cap + 1 - i) ++ Builtin.zeroCells (Value.pointer none).cells (G - (cap + 1)) := ⟨_, rfl⟩
  have hap : ∀ ty, (Builtin.append_ #[62, 3] ty #[.slice (some ⟨g, 0, none⟩) i cap, .int .i64 ((cap : Int) + 1 - (i : Int))]).run Try.prog w = .ok (.slice (some ⟨w.heap.size, 0, none⟩) (cap + 1) G) (w.drew.alloc (.cells R0 81)) := fun ty => by
    have h := Lib.run_append_grow_zeros w 62 3 ty 81 i0 _ .i64 .i64 Try.underlying62 Try.underlying3 hi0 hz0 (some ⟨g, 0, none⟩) i cap (xs.take i) hold (cap + 1 - i) (by omega) (by omega) (by omega) (by omega) (by rw [hz2]; omega) (by rw [hz2, show i + (cap + 1 - i) = cap + 1 from by omega]; exact growslice_fits hroom (by omega))
    rw [show i + (cap + 1 - i) = cap + 1 from by omega, ← hG, ← hR0] at h
    rw [show (cap : Int) + 1 - (i : Int) = ((cap + 1 - i : Nat) : Int) from by omega]
    exact h
  have hGn : cap + 1 ≤ G := by rw [hG]; exact grownCap_ge w _ _ _
  have hGm : G ≤ maxLen := by rw [hG]; exact grownCap_le_maxLen w _ _ _ (by unfold maxLen; omega)
  have hR0s : R0.size = G := by
    rw [hR0]
    simp [Builtin.zeroCells, Value.cells]
    omega
  have hR0t : R0.toList.take i = xs.take i := by
    rw [hR0, Array.toList_append, Array.toList_append, List.append_assoc, List.take_append_of_le_length (by simp; omega), List.toList_toArray, List.take_take, Nat.min_self]
  obtain ⟨R1, hR1⟩ : ∃ R1, R1 = (R0.toList.take i ++ [x] ++ R0.toList.drop (i + [x].length)).toArray := ⟨_, rfl⟩
  have hR1s : R1.size = G := by
    have : R0.toList.length = G := by simpa using hR0s
    rw [hR1]
    simp only [List.size_toArray, List.length_append, List.length_take, List.length_drop, List.length_singleton]
    omega
  obtain ⟨R2, hR2⟩ : ∃ R2, R2 = (R1.toList.take (i + 1) ++ xs.drop i ++ R1.toList.drop (i + 1 + (xs.drop i).length)).toArray := ⟨_, rfl⟩
  have hR2s : R2.size = G := by
    have : R1.toList.length = G := by simpa using hR1s
    rw [hR2]
    simp only [List.size_toArray, List.length_append, List.length_take, List.length_drop]
    omega
  have hfin : R2.toList.take (cap + 1) = xs.take i ++ (x :: xs.drop i) := by
    have t1 : R1.toList.take (i + 1) = xs.take i ++ [x] := by
      have hl0 : R0.toList.length = G := by simpa using hR0s
      rw [hR1, List.toList_toArray, List.append_assoc, ← List.append_assoc, List.take_append_of_le_length (by simp only [List.length_append, List.length_take, List.length_singleton]; omega), hR0t, List.take_of_length_le (by simp only [List.length_append, List.length_take, List.length_singleton]; omega)]
    rw [hR2, List.toList_toArray, List.append_assoc, t1, ← List.append_assoc, List.take_append_of_le_length (by simp only [List.length_append, List.length_take, List.length_singleton, List.length_drop]; omega), List.take_of_length_le (by simp only [List.length_append, List.length_take, List.length_singleton, List.length_drop]; omega), List.append_assoc]
    rfl
  have hcpA : ∀ (W : World) ty dc, W.heap[w.heap.size]? = some (.cells R0 81 (0, 0)) → W.heap[vb]? = some (.cells #[x] 81 (0, 0)) → (Builtin.copy_ #[62, 62] ty #[.slice (some ⟨w.heap.size, i, none⟩) (cap + 1 - i) dc, .slice (some ⟨vb, 0, none⟩) 1 1]).run Try.prog W = .ok (goInt 1) (W.setRow w.heap.size R1) := fun W ty dc hW hWv => by
    rw [hR1]
    refine run_copy_row (P := Try.prog) W _ _ ty 81 w.heap.size i (cap + 1 - i) dc ⟨vb, 0, none⟩ 1 1 R0 _ [x] Try.underlying62 hsz hW (by simp only [Nat.min_def, List.length_singleton]; split <;> omega) (fun j u hj => ?_) (by rw [hR0s]; simp; omega) (fun u hu => by simp at hu; subst hu; exact h1)
    rw [Addr.add_lit, cell_blk hWv]
    simpa using hj
  have hcpB : ∀ (W : World) ty dc sc, W.heap[w.heap.size]? = some (.cells R1 81 (0, 0)) → W.heap[g]? = some (.cells cur 81 (0, 0)) → (Builtin.copy_ #[62, 62] ty #[.slice (some ⟨w.heap.size, i + 1, none⟩) (cap - i) dc, .slice (some ⟨g, i, none⟩) (cap - i) sc]).run Try.prog W = .ok (goInt (xs.drop i).length) (W.setRow w.heap.size R2) := fun W ty dc sc hW hWg => by
    rw [hR2]
    refine run_copy_row (P := Try.prog) W _ _ ty 81 w.heap.size (i + 1) (cap - i) dc ⟨g, i, none⟩ (cap - i) sc R1 _ (xs.drop i) Try.underlying62 hsz hW (by rw [List.length_drop, hlen]; simp) (fun j u hj => ?_) (by rw [List.length_drop, hlen, hR1s]; omega) (fun u hu => h2 u (List.mem_of_mem_drop hu))
    rw [Addr.add_lit, cell_blk hWg, ← cell_blk hg]
    exact hcx _ u (by rwa [List.getElem?_drop] at hj)
  have hpost : ∀ W1 : World, Touch NoB w W1 → W1.heap[w.heap.size]? = some (.cells R2 81 (0, 0)) → InsPost w (.slice (some ⟨g, 0, none⟩) cap cap) xs i x cap (.returned (.slice (some ⟨w.heap.size, 0, none⟩) (cap + 1) G)) W1 := by
    intro W1 hT hW1
    refine ⟨_, rfl, ⟨?_, .inr ⟨w.heap.size, G, R2, rfl, Nat.zero_le _, hW1, hGn, hGm, by omega, by rw [Nat.mul_one]; exact hfin⟩⟩, hT.mono (fun _ e => e.elim), fun k hk => by right; simp [Value.ownBlock] at hk; omega⟩
    simp only [List.length_append, List.length_take, List.length_cons, List.length_drop]
    omega
  have HP := Lib.hid hpost
  have HG := Lib.hid hg
  have HV := Lib.hid hv
  have HA := Lib.hid hcpA
  have HB := Lib.hid hcpB
  have hw1 : IntKind.i64.wrap ((i : Int) + 1) = (i : Int) + 1 := by rw [IntKind.wrap_i64]; omega
  have hb1 : (0 : Int) ≤ (i : Int) + 1 := by omega
  have htn : ((i : Int) + 1).toNat = i + 1 := by omega
  unfold maxLen at hc2 hGm
  have hGi : ¬ (G = i) := by omega
  have hGi1 : ¬ (G = i + 1) := by omega
  have hb3 : (i : Int) ≤ (cap : Int) + 1 := by omega
  have hb4 : ¬ (cap = i) := by omega
  have hb5 : i ≤ cap := by omega
  have hN : (w.alloc (.cells R0 81)).drew.heap[w.heap.size]? = some (.cells R0 81 (0, 0)) := alloc_blk w _ _ rfl
  have hNv : (w.alloc (.cells R0 81)).drew.heap[vb]? = some (.cells #[x] 81 (0, 0)) := ((((Touch.refl NoB w).alloc (.cells R0 81)).drew).block vb hlv (fun e => e)).trans hv
  have HN := Lib.hid hN
  have HNv := Lib.hid hNv
  have hM : ((w.alloc (.cells R0 81)).drew.setRow w.heap.size R1).drew.heap[w.heap.size]? = some (.cells R1 81 (0, 0)) := setRow_heap _ _ _ R1 _ _ hN
  have hMg : ((w.alloc (.cells R0 81)).drew.setRow w.heap.size R1).drew.heap[g]? = some (.cells cur 81 (0, 0)) := (setRow_other _ _ g R1 (by omega)).trans (((((Touch.refl NoB w).alloc (.cells R0 81)).drew).block g hlg (fun e => e)).trans hg)
  have hQ := HP.out (((w.alloc (.cells R0 81)).drew.setRow w.heap.size R1).drew.setRow w.heap.size R2) ((((((Touch.refl NoB w).alloc _).drew).setRow (.inr (Nat.le_refl _)) R1).drew).setRow (.inr (Nat.le_refl _)) R2) (setRow_heap _ _ _ R2 _ _ hM)
  have HM := Lib.hid hM
  have HMg := Lib.hid hMg
  have HQ := Lib.hid hQ
  clear hpost hg hv hct hcs hfin hR1s hR2s hR0s hR0t hR0 hR1 hR2 hcpA hcpB h2 hlen hr' hcx hold hG hN hNv hM hMg hQ
  go_enter Try.func72, Try.ntmps72
  go_wp2_with (first
    | (at_builtin; refine Lib.wpList_append_run _ rfl _ _ _ _ rfl _ _ rfl rfl _ _ (hap _) ?_)
    | (with_reducible refine list_copied (T := 62) (d := .tmp 43) (s := .tmp 44) rfl (HA.out _ _ (G - i) HN.out HNv.out) rfl rfl rfl ?_))
  go_region_law (refine step_copied (T := 62) (d := .tmp 50) (s := .tmp 53) rfl (HB.out _ _ (G - (i + 1)) (cap - i) HM.out HMg.out) rfl (by simp [Act.eval, Act.put]) (by simp [Act.eval, Act.put]) ?_)
  go_wp2
  go_ret
  exact HQ.out

/-- Wherever. -/
theorem insert_any (v : Value) (n i vb : Nat) (xs : List Value) (x : Value) (w : World) (hr : w.ownsRow 0 81 1 v n xs) (hv : w.heap[vb]? = some (.cells #[x] 81 (0, 0))) (hne : v.ownBlock ≠ some vb) (h1 : x.oneCell' = true) (h2 : ∀ u ∈ xs, u.oneCell' = true) (hn : n ≤ 1000000) (hin : i ≤ n) :
    Calls Try.prog 72 #[v, .int .i64 i, .slice (some ⟨vb, 0, none⟩) 1 1] w (InsPost w v xs i x n) := by
  rcases Nat.lt_or_ge i n with h | h
  · obtain ⟨g, cap, rfl, _, _, _⟩ := row_form hr (by omega)
    rcases Nat.lt_or_ge cap (n + 1) with hc | hc
    · exact insert_grow g n cap i vb xs x w hr hv h1 h2 hn h hc
    · exact insert_shift g n cap i vb xs x w hr hv (fun e => hne (by rw [e]; rfl)) h1 h2 hn h hc
  · obtain rfl : i = n := by omega
    exact insert_end v i vb xs x w hr hv h1 hn
end Go.Proofs.Yticekldgjlihmaa
