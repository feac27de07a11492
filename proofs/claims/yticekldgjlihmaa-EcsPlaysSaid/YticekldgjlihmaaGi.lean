/-
  move of the document's own Store.
-/
import Derived.Test.YticekldgjlihmaaGh
namespace Go.Proofs.Yticekldgjlihmaa
open Go.ChangeShapes Go.WideShapes Go.ChangeAt Go.RowKit Go.Maps
set_option maxRecDepth 100000
set_option maxHeartbeats 4000000

/-- 'append' to a row of the call's own, as one step of a region; where the row then lies. -/
theorem step_append_own2 {P : Program} {ops : Array Oper} {o : Oper} {a : Act} {w : World} {K : Act → World → Prop} {Q : Exit → Act → World → Prop} {E : Prop} (hgd : o.guard = none) (s x : Operand) (t : TypeId)
    (ho : o.op = .call { callee := .builtin .append, args := #[s, x], argTypes := #[t, t] })
    (base : Nat) (e : TypeId) (i : TypeInfo) (z : Value) (size bytes : Nat) (ht : P.underlying t = some (.slice e)) (hi : P.info? e = some i) (hz : i.zero = some z)
    (hsize : i.size = size) (hby : i.bytes = bytes) (hzs : z.cells.size = size) (hsz : 0 < size)
    (v : Value) (n : Nat) (xs : List Value) (hs : a.eval s = v) (hown : w.ownsRow base e size v n xs)
    (ad : Addr) (m c : Nat) (news : List Value) (hx : a.eval x = .slice (some ad) m c) (hl : news.length = m * size) (hnews : ∀ j u, news[j]? = some u → w.cell? (ad.add j) = some u) (h1 : ∀ u ∈ news, u.oneCell' = true)
    (h63 : n + m ≤ maxLen) (hbytes : (n + m) * bytes ≤ 140737488355328) (hbase : base ≤ w.heap.size)
    (h : ∀ v' w', w'.ownsRow base e size v' (n + m) (xs ++ news) → w.grownBy w' v.ownBlock → (v'.ownBlock = v.ownBlock ∨ v'.ownBlock = some w.heap.size) → K (a.put o.dst v') w') :
    if Region.wanted o (yielded ops a.tmps) = true then Oper.wp P o a w K Q else E := by
  have hw : Region.wanted o (yielded ops a.tmps) = true := by simp [Region.wanted, hgd]
  rw [if_pos hw]
  obtain ⟨v', w', hr, h2, h3, _, h4⟩ := run_append_own_at (P := P) w base t o.type e i z size bytes ht hi hz hsize hby hzs hsz v n xs hown ad m c news hl hnews h1 h63 hbytes hbase
  unfold Oper.wp execOp
  simp only [ho, resolve, invoke, builtin, Sem.run_bind, Sem.run_pure, Result.andThen_ok, List.map_toArray, List.map_cons, List.map_nil, hs, hx, hr]
  exact h v' w' h2 h3 h4

theorem masks_cut {bs : List Tb} {j : Nat} {b b' : Tb} (hb : bs[j]? = some b) (hm : b'.m = b.m) : (bs.set j b').map Tb.m = bs.map Tb.m := by
  rw [List.map_set, hm, set_same (by rw [List.getElem?_map, hb]; rfl)]
theorem posB_masks {bs bs' : List Tb} (h : bs.map Tb.m = bs'.map Tb.m) (m : Int) : posB bs m = posB bs' m := by
  have e : ∀ l : List Tb, posB l m = (l.map Tb.m).countP (fun y => decide (y < m)) := fun l => by
    unfold posB
    rw [List.countP_map]
    rfl
  rw [e, e, h]
theorem hasB_masks {bs bs' : List Tb} (h : bs.map Tb.m = bs'.map Tb.m) (m : Int) : hasB bs m = hasB bs' m := by
  have e : ∀ (l : List Tb) (k : Nat), (match l[k]? with | some b => b.m == m | none => false) = (match (l.map Tb.m)[k]? with | some y => y == m | none => false) := fun l k => by
    rw [List.getElem?_map]
    cases l[k]? <;> rfl
  have e2 : ∀ l : List Tb, hasB l m = (match l[posB l m]? with | some b => b.m == m | none => false) := fun l => by
    unfold hasB
    cases l[posB l m]? <;> rfl
  rw [e2, e2, e, e, posB_masks h, h]

section
variable {w : World} {F : Nat → Prop} {g : Nat} {room most : Int} {ps : List (Int × Bool)} {ds : List Int} {bs : List Tb}
theorem rs_table2 {φ : Nat → Int} {gi : Nat} {ts : List RTb} {vl : Value} (h : RSG w φ g gi room most ps ds ts vl) (m : Int) (hm : 0 ≤ m ∧ m < 65536) (hf : (hasB (ts.map RTb.b) m || decide (((ts.map RTb.b).length : Int) < most)) = true) (hl : ts.length ≤ 1000) :
    Calls Try.prog 31 #[.pointer (some ⟨g, 0, none⟩), .int .u16 m] w fun e w' => ∃ φ' ts' vl' t, e = .returned (.pointer (some ⟨RTb.g t, 0, none⟩)) ∧ RSG w' φ' g gi room most ps ds ts' vl' ∧ ts'.map RTb.b = openB (ts.map RTb.b) m ∧ ts'[posB (ts.map RTb.b) m]? = some t ∧ t.m = m ∧ (∀ b, φ' b ≠ 0 → φ b ≠ 0 ∨ w.heap.size ≤ b) ∧ Touch (fun b => φ b = 1) w w' ∧ ∀ (j : Nat) (q : RTb), ts[j]? = some q → ∃ j' : Nat, ts'[j']? = some q := by
  cases hh : hasL (rm ts) m
  · rw [rhasB, hh, Bool.false_or, List.length_map] at hf
    refine (rs_table_new h m hm hh (by simpa using hf) hl).mono ?_
    rintro e w' ⟨φ', vl', rfl, h1, h2, h3⟩
    refine ⟨φ', _, vl', ⟨w.heap.size, m, []⟩, rfl, h1, openR hh _, ?_, rfl, h2, h3, fun j q hq => ?_⟩
    · rw [rposB]
      exact insT_at _ (by rw [← rm_length]; exact posL_le _ _)
    · have hin : q ∈ insT ts (posL (rm ts) m) ⟨w.heap.size, m, []⟩ := by
        have hmem := List.mem_of_getElem? hq
        rw [← List.take_append_drop (posL (rm ts) m) ts] at hmem
        unfold insT
        rcases List.mem_append.1 hmem with h | h
        · exact List.mem_append.2 (.inl h)
        · exact List.mem_append.2 (.inr (List.mem_cons_of_mem _ h))
      exact List.mem_iff_getElem?.1 hin
  · obtain ⟨a, ha⟩ := hasL_true hh
    obtain ⟨t, ht, e⟩ := rm_some ha
    injection e with e1 e2
    refine (rs_table_old h m hh ht).mono ?_
    rintro e w' ⟨rfl, rfl⟩
    refine ⟨φ, ts, vl, t, rfl, h, ?_, by rw [rposB]; exact ht, e2.symm, fun b hb => .inl hb, Touch.refl _ _, fun j q hq => ⟨j, hq⟩⟩
    unfold openB
    rw [rhasB, if_pos hh]
def RMoveEnd (w : World) (F : Nat → Prop) (g : Nat) (room most : Int) (ps : List (Int × Bool)) (ds : List Int) (bs : List Tb) (j k : Nat) (b : Tb) (m : Int) (p : Int × Int) (more : List (Int × Int)) (z : Int) (w' : World) : Prop :=
  if (hasB bs m || decide ((bs.length : Int) < most)) = true then z = 0 ∧ RSt w' (Ext F w w') g room most ps ds (moveB bs j k b m p more) ∧ Touch F w w' else z = 10 ∧ Touch NoB w w'

theorem rs_remove2 {w0 W : World} {φ : Nat → Int} {gi : Nat} {ts : List RTb} {vl : Value} (h : RSG w0 φ g gi room most ps ds ts vl) (hW : Touch NoB w0 W) {j k : Nat} {t : RTb} (ht : ts[j]? = some t) (hk : k < t.l.length) (hl : t.l.length < 1000000) :
    Calls Try.prog 37 #[.pointer (some ⟨t.g, 0, none⟩), .int .i64 k] W fun e w' => ∃ v, e = .returned (.tuple #[v, .bool true]) ∧ w'.ownsRow W.heap.size 32 2 v (outI t.b.m t.b.cf k 16).length (idc (outI t.b.m t.b.cf k 16)) ∧ (∃ ts' l', RSG w' φ g gi room most ps ds ts' vl ∧ ts'.map RTb.b = (ts.map RTb.b).set j (cutB t.b k) ∧ ts'[j]? = some ⟨t.g, t.m, l'⟩) ∧ Touch (fun b => φ b = 4 + t.m) w0 w' ∧ Touch (fun b => φ b = 4 + t.m) W w' := by
  have h1 := h.quiet hW
  have hm := h1.m0 j t ht
  obtain ⟨p, hp⟩ : ∃ p, t.l[k]? = some p := ⟨_, List.getElem?_eq_getElem hk⟩
  obtain ⟨M, hM⟩ : ∃ M, t.l.length = M + 1 := ⟨t.l.length - 1, by omega⟩
  obtain ⟨q, hq⟩ : ∃ q, t.l[M]? = some q := ⟨_, List.getElem?_eq_getElem (by omega)⟩
  refine (rtremove_yes t.g k M t.m p q t.l _ W (h1.tab j t ht) (fun b (hb : φ b = 4 + t.m) => ⟨Nat.zero_le _, h1.wf b (by omega)⟩) hm.1 hm.2 hM hl hp hq).mono ?_
  rintro e w' ⟨v, rfl, hr, ho, hT⟩
  refine ⟨v, rfl, ?_, ⟨_, _, h1.putTab0 ht hT ho, cutR ts j t k, List.getElem?_set_self (List.getElem?_eq_some_iff.1 ht).1⟩, (hW.mono (fun _ e => e.elim)).trans hT (fun b e => .inl e), hT⟩
  rw [show outI t.b.m t.b.cf k 16 = outR t.m p from cols_out hp]
  exact hr
/-- .. and the moved entity's old table still shows its mask. -/
def RMoveAll (w : World) (F : Nat → Prop) (φ : Nat → Int) (g : Nat) (room most : Int) (ps : List (Int × Bool)) (ds : List Int) (bs : List Tb) (j k : Nat) (t : RTb) (m : Int) (p : Int × Int) (more : List (Int × Int)) (z : Int) (w' : World) : Prop :=
  RMoveEnd w F g room most ps ds bs j k t.b m p more z w' ∧ w'.cell? ⟨t.g, 0, none⟩ = some (.int .u16 t.m) ∧ Touch (fun b => φ b ≠ 0) w w'
theorem rs_move {φ : Nat → Int} {gi : Nat} {ts : List RTb} {vl : Value} (h1 : RSG w φ g gi room most ps ds ts vl) (h2 : ts.map RTb.b = bs) (h3 : ∀ b, φ b ≠ 0 → F b) (hu : UniqB bs) (hbl : bs.length ≤ 1000) (hll : ∀ b ∈ bs, b.ids.length < 1000000) (i x m c v : Int) (hm : 0 ≤ m ∧ m < 65536) {j k : Nat} {t : RTb} (ht : ts[j]? = some t) (hk' : (t.l.map Prod.fst)[k]? = some (i, x)) (hne' : m ≠ t.m) :
    Calls Try.prog 46 #[.pointer (some ⟨g, 0, none⟩), .agg #[.int .i64 i, .int .i64 x], .int .u16 m, .agg #[.int .i64 c, .int .i64 v]] w fun e w' => ∃ z, e = .returned (.int .i64 z) ∧ RMoveAll w F φ g room most ps ds bs j k t m (i, x) [(c, v)] z w' := by
  obtain ⟨b, hbt⟩ : ∃ b, t.b = b := ⟨_, rfl⟩
  have hb : bs[j]? = some b := by rw [← h2, List.getElem?_map, ht, ← hbt]; rfl
  have hk : b.ids[k]? = some (i, x) := by rw [← hbt]; exact hk'
  have hne : m ≠ b.m := by rw [← hbt]; exact hne'
  have hlb := hll b (List.mem_of_getElem? hb)
  have htl : ts.length ≤ 1000 := by rw [← List.length_map (f := RTb.b), h2]; exact hbl
  have hkl : k < t.l.length := by have := (List.getElem?_eq_some_iff.1 hk').1; simpa using this
  have hl : t.l.length < 1000000 := by rw [← hbt] at hlb; have h' : (t.l.map Prod.fst).length < 1000000 := hlb; simpa using h'
  have hu' : UniqB (ts.map RTb.b) := by rw [h2]; exact hu
  have hOF := fun W (hW : Touch NoB w W) => rs_of (h1.quiet hW) hu' ht hk'
  have hREM := fun W (hW : Touch NoB w W) => rs_remove2 h1 hW ht hkl hl
  have hROOM := fun W (hW : Touch NoB w W) => rs_room (h1.quiet hW) m
  rw [h2] at hREM hROOM
  rw [hbt] at hREM
  obtain ⟨ct, hgl, _⟩ := (h1.tab j t ht).mask
  have hgf : φ t.g = 4 + t.m := (h1.tab j t ht).mask.2.2
  have HBT := Lib.hid hbt
  have HCT := Lib.hid (And.intro ct (And.intro hgl (And.intro hgf (And.intro hne' (h1.m0 j t ht).1))))
  obtain ⟨G, hG⟩ : ∃ G, t.g = G := ⟨_, rfl⟩
  have HG := Lib.hid hG
  rw [hG] at hOF hREM
  have hz : ∀ b, w.heap.size ≤ b → φ b = 0 := fun b hb => by
    by_cases e : φ b = 0
    · exact e
    · have := h1.wf _ e; omega
  have htm : 4 + t.m ≠ 0 := by have := (h1.m0 _ _ ht).1; omega
  -- the tables behind the cut
  have hmk : (bs.set j (cutB b k)).map Tb.m = bs.map Tb.m := masks_cut hb rfl
  have hnid : ∀ b' ∈ bs.set j (cutB b k), b'.m = m → (i, x) ∉ b'.ids ∧ b'.ids.length < 1000000 := by
    intro b' hb' hm'
    obtain ⟨l, hl'⟩ := List.mem_iff_getElem?.1 hb'
    rcases set_get hl' with ⟨_, rfl, _⟩ | ⟨hne', hl'⟩
    · exact absurd hm'.symm hne
    · refine ⟨fun hin => ?_, hll b' (List.mem_of_getElem? hl')⟩
      obtain ⟨r, hr⟩ := List.mem_iff_getElem?.1 hin
      exact hne' (hu _ _ _ _ _ _ _ hb hk hl' hr).1.symm
  have HOF := Lib.hid hOF
  have HREM := Lib.hid hREM
  have HROOM := Lib.hid hROOM
  have HF := Lib.hid (And.intro h3 (And.intro hz htm))
  have HB := Lib.hid (And.intro hmk hnid)
  have HTL := Lib.hid (And.intro htl (And.intro h1.wf (congrArg List.length h2)))
  have HM := Lib.hid hm
  clear h1 h3 hb hk hk' hu hu' ht hll hlb hkl hl hOF hREM hROOM hz htm hmk hnid hG hbt htl hm hne hne' ct hgl hgf
  obtain ⟨R, hR⟩ : ∃ R : Int → World → Prop, R = fun z w' => RMoveAll w F φ g room most ps ds bs j k t m (i, x) [(c, v)] z w' := ⟨_, rfl⟩
  have e1 : ∀ z w', RMoveAll w F φ g room most ps ds bs j k t m (i, x) [(c, v)] z w' = R z w' := fun z w' => by rw [hR]
  simp only [e1]
  have HE := Lib.hid e1
  clear hR e1
  go_enter Try.func46, Try.ntmps46
  go_wp2_with fail
  have hn0 := two_new w (.cells #[.int .i64 i, .int .i64 x] 30) (.cells #[.int .i64 c, .int .i64 v] 32)
  refine (HROOM.out _ (((Touch.refl NoB w).alloc (.cells #[.int .i64 i, .int .i64 x] 30)).alloc (.cells #[.int .i64 c, .int .i64 v] 32))).mono ?_
  rintro e w1 ⟨rfl, hT1⟩
  have hA := (hT1.block w.heap.size (by simp; omega) (fun e => e)).trans hn0.1
  have hC := (hT1.block (w.heap.size + 1) (by simp) (fun e => e)).trans hn0.2
  have HT1 := Lib.hid ((((Touch.refl NoB w).alloc (.cells #[.int .i64 i, .int .i64 x] 30)).alloc (.cells #[.int .i64 c, .int .i64 v] 32)).same hT1)
  have HAC := Lib.hid (And.intro hA hC)
  have hi0 : w1.cell? ⟨w.heap.size, 0, none⟩ = some (.int .i64 i) := cell_blk hA 0
  have hi1 : w1.cell? ⟨w.heap.size, 1, none⟩ = some (.int .i64 x) := cell_blk hA 1
  have hl1 := blk_lt hC
  have hl0 := blk_lt hA
  clear hn0 hT1 hA hC
  cases hf : (hasB bs m || decide ((bs.length : Int) < most))
  · have HFL := Lib.hid hf
    clear hf
    go_wp2
    go_ret
    refine ⟨10, rfl, ?_⟩
    rw [← HE.out]
    have hTq := HT1.out.same (by repeat (first | with_reducible exact Touch.refl _ _ | with_reducible refine Touch.alloc ?_ _ | with_reducible refine Touch.drewN ?_ _ | with_reducible refine Touch.drew ?_))
    unfold RMoveAll RMoveEnd
    rw [if_neg (by rw [HFL.out]; decide)]
    exact ⟨⟨rfl, hTq⟩, (hTq.cell (p := ⟨t.g, 0, none⟩) HCT.out.2.1 (fun e => e)).trans HCT.out.1, hTq.mono (fun _ e => e.elim)⟩
  · have HFL := Lib.hid hf
    clear hf
    go_wp2_with fail
    refine (HOF.out _ HT1.out).mono ?_
    rintro e w2 ⟨rfl, hT2⟩
    have hA := (hT2.block w.heap.size hl0 (fun e => e)).trans HAC.out.1
    have hC := (hT2.block (w.heap.size + 1) hl1 (fun e => e)).trans HAC.out.2
    have HT2 := Lib.hid (HT1.out.same hT2)
    have HAC2 := Lib.hid (And.intro hA hC)
    clear hT2 hA hC hi0 hi1
    go_wp2_with fail
    refine (HREM.out _ HT2.out).mono ?_
    rintro e w4 ⟨v4, rfl, hr4, ⟨ts4, l4, h4, hm4, hj4⟩, hT4, hT24⟩
    obtain ⟨i0, hi, hz0, hz1, hz2⟩ := info_parts info_cell
    obtain ⟨out, hout⟩ : ∃ o, outI b.m b.cf k 16 = o := ⟨_, rfl⟩
    have hn16 : out.length ≤ 16 := by rw [← hout]; exact outI_length _ _ _ _
    obtain ⟨n4, hn4⟩ : ∃ n, out.length = n := ⟨_, rfl⟩
    rw [hout, hn4] at hr4
    rw [hn4] at hn16
    obtain ⟨A4, cap4, rfl, _, hcap4⟩ := row_any hr4
    unfold maxLen at hcap4
    obtain ⟨B4, hB4⟩ : ∃ B, w2.heap.size = B := ⟨_, rfl⟩
    have hB1 : w.heap.size + 1 < B4 := by rw [← hB4]; exact blk_lt HAC2.out.2
    have hB2 : B4 ≤ w4.heap.size := by rw [← hB4]; exact hT24.size
    rw [hB4] at hr4
    have hTw4 : Touch F w w4 := hT4.mono (fun b (e : φ b = 4 + t.m) => HF.out.1 b (by have := HF.out.2.2; omega))
    have hA := (hT24.block w.heap.size (blk_lt HAC2.out.1) (fun (e : φ w.heap.size = 4 + t.m) => by have := HF.out.2.1 w.heap.size (Nat.le_refl _); have := HF.out.2.2; omega)).trans HAC2.out.1
    have hC := (hT24.block (w.heap.size + 1) (blk_lt HAC2.out.2) (fun (e : φ (w.heap.size + 1) = 4 + t.m) => by have := HF.out.2.1 (w.heap.size + 1) (by omega); have := HF.out.2.2; omega)).trans HAC2.out.2
    have q0 : w4.cell? ⟨w.heap.size, 0, none⟩ = some (.int .i64 i) := cell_blk hA 0
    have q1 : w4.cell? ⟨w.heap.size, 1, none⟩ = some (.int .i64 x) := cell_blk hA 1
    have q2 : w4.cell? ⟨w.heap.size + 1, 0, none⟩ = some (.int .i64 c) := cell_blk hC 0
    have q3 : w4.cell? ⟨w.heap.size + 1, 1, none⟩ = some (.int .i64 v) := cell_blk hC 1
    have hq4 : w.heap.size + 1 < w4.heap.size := by omega
    have hq40 : w.heap.size < w4.heap.size := by omega
    have hvo : ∀ b, (Value.slice A4 n4 cap4).ownBlock = some b → B4 ≤ b ∧ b < w4.heap.size := fun b hb => hr4.lt b hb
    have hft : (hasB (ts4.map RTb.b) m || decide (((ts4.map RTb.b).length : Int) < most)) = true := by
      rw [hm4, hasB_masks HB.out.1, List.length_set]
      exact HFL.out
    have htl4 : ts4.length ≤ 1000 := by
      have e1 := congrArg List.length hm4
      have e2 := HTL.out.2.2
      have e3 := HTL.out.1
      simp only [List.length_map, List.length_set] at e1 e2
      omega
    have HT40 := Lib.hid hT4
    have hadd : ∀ (w6 : World) (φ6 : Nat → Int) (ts6 : List RTb) (vl6 : Value) (t6 : RTb), RSG w6 φ6 g gi room most ps ds ts6 vl6 → ts6.map RTb.b = openB (ts4.map RTb.b) m → ts6[posB (ts4.map RTb.b) m]? = some t6 → t6.m = m → (∃ j' : Nat, ts6[j']? = some ⟨G, t.m, l4⟩) → (∀ b, φ6 b ≠ 0 → φ b ≠ 0 ∨ w4.heap.size ≤ b) → Touch (fun b => φ b = 1) w4 w6 → ∀ (W : World) (A3 : Option Addr) (cap3 : Nat), Touch (fun b => B4 ≤ b ∧ b < w4.heap.size) w6 W → W.ownsRow B4 32 2 (.slice A3 (n4 + 1) cap3) (n4 + 1) (idc (out ++ [(c, v)])) → (∀ b, (Value.slice A3 (n4 + 1) cap3).ownBlock = some b → φ6 b = 0) →
        Calls Try.prog 32 #[.pointer (some ⟨t6.g, 0, none⟩), .agg #[.int .i64 i, .int .i64 x], .slice A3 (n4 + 1) cap3] W fun e w7 => e = .returned (.int .i64 t6.l.length) ∧ R 0 w7 := by
      intro w6 φ6 ts6 vl6 t6 hR6 ho6 ht6 htm hold hin6 hT6 W A3 cap3 hW hrow hob
      rw [hm4] at ho6 ht6
      have hd6 : ∀ b, φ6 b ≠ 0 → ¬ (B4 ≤ b ∧ b < w4.heap.size) := by
        rintro b hb ⟨a1, a2⟩
        rcases hin6 b hb with h | h
        · exact h (HF.out.2.1 b (by omega))
        · omega
      have hi6 : ∀ b, φ6 b ≠ 0 → F b ∨ w.heap.size ≤ b := fun b hb => by
        rcases hin6 b hb with h | h
        · exact .inl (HF.out.1 b h)
        · exact .inr (by omega)
      have hRW := hR6.keep hW hd6
      have htm' := hRW.m0 _ t6 ht6
      have hmem : t6.b ∈ openB (bs.set j (cutB b k)) m := by
        rw [← ho6]
        exact List.mem_of_getElem? (by rw [List.getElem?_map, ht6]; rfl)
      have hids : (i, x) ∉ t6.l.map Prod.fst ∧ t6.l.length < 1000000 := by
        rcases open_mem hmem with h | h
        · have h1 := HB.out.2 t6.b h htm
          unfold RTb.b at h1
          simpa using h1
        · have h' : t6.l.map Prod.fst = [] := h
          rw [h']
          have : t6.l = [] := by simpa using h'
          rw [this]
          exact ⟨by simp, by simp⟩
      have hCW : CellsAt W (fun b => φ6 b = 4 + t6.m) A3 (out ++ [(c, v)]) := cells_row' hrow (fun b hb (e : φ6 b = 4 + t6.m) => by have := hob b hb; omega)
      refine (rtadd_yes t6.g t6.m i x A3 (n4 + 1) cap3 (out ++ [(c, v)]) t6.l _ W (hRW.tab _ t6 ht6) (fun b (hb : φ6 b = 4 + t6.m) => ⟨Nat.zero_le _, hRW.wf b (by omega)⟩) (rowOf_not hids.1) htm'.1 htm'.2 hids.2 (by simp [hn4]) (by omega) hCW).mono ?_
      rintro e w7 ⟨rfl, hRT, hT7⟩
      have h7 := hRW.putTab ht6 hT7 hRT
      have hTW : Touch F w W := (hTw4.trans hT6 (fun b (e : φ b = 1) => .inl (HF.out.1 b (by omega)))).trans hW (fun b hb => .inr (by omega))
      refine ⟨rfl, ?_⟩
      rw [← HE.out]
      have hTZ : Touch (fun b => φ b ≠ 0) w w7 := (((HT40.out.mono (fun b (e : φ b = 4 + t.m) => by have := HCT.out.2.2.2.2; omega)).trans hT6 (fun b (e : φ b = 1) => .inl (by omega))).trans hW (fun b hb => .inr (by omega))).trans hT7 (fun b (hb : φ6 b = 4 + t6.m) => by
        rcases hin6 b (by omega) with h | h
        · exact .inl h
        · exact .inr (by omega))
      unfold RMoveAll RMoveEnd
      rw [if_pos HFL.out]
      refine ⟨⟨rfl, ⟨_, gi, _, vl6, h7, ?_, fun b hb => ?_⟩, hTW.trans hT7 (fun b (hb : φ6 b = 4 + t6.m) => hi6 b (by omega))⟩, ?_, hTZ⟩
      · unfold moveB
        rw [HBT.out, hout]
        exact enteredR ho6 ht6 i x (out ++ [(c, v)])
      · rcases relab_or b hb with h | h
        · rcases hi6 b h with h | h
          · exact .inl h
          · exact .inr ⟨h, h7.wf b hb⟩
        · exact .inr ⟨Nat.le_trans hTW.size h, h7.wf b hb⟩
      · obtain ⟨j', hj'⟩ := hold
        have hne7 : posB (bs.set j (cutB b k)) m ≠ j' := by
          intro e
          rw [e, hj'] at ht6
          injection ht6 with ht6
          exact HCT.out.2.2.2.1 (by rw [← htm, ← ht6])
        rw [HG.out]
        exact (h7.tab j' ⟨G, t.m, l4⟩ (by rw [List.getElem?_set_ne hne7]; exact hj')).mask.1
    have ADD := Lib.hid hadd
    have H4 := Lib.hid h4
    have HJ4 := Lib.hid hj4
    have HV := Lib.hid hr4
    have HVO := Lib.hid hvo
    have HFT := Lib.hid (And.intro hft htl4)
    have HT4 := Lib.hid (And.intro hT4 hTw4)
    have HAC4 := Lib.hid (And.intro hA hC)
    have HN4 := Lib.hid hn4
    clear hadd h4 hj4 hr4 hvo hft htl4 hT4 hTw4 hA hC hT24 hm4 hn4 hout hB4
    go_wp2_with fail
    go_region_law
      (first | (go_simp; go_at_call 31; refine (rs_table2 (H4.out.quiet (by repeat (first | with_reducible exact Touch.refl _ _ | with_reducible refine Touch.alloc ?_ _ | with_reducible refine Touch.drewN ?_ _ | with_reducible refine Touch.drew ?_))) m HM.out HFT.out.1 HFT.out.2).mono ?_; rintro e w6 ⟨φ6, ts6, vl6, t6, rfl, hR6, ho6, ht6, htm, hin6, hT6, hkp6⟩; have hqq : Touch (fun b => φ b = 1) w4 w6 := Touch.trans (by repeat (first | with_reducible exact Touch.refl _ _ | with_reducible refine Touch.alloc ?_ _ | with_reducible refine Touch.drewN ?_ _ | with_reducible refine Touch.drew ?_)) hT6 (fun b e => .inl e); (try have hlit : w6.heap[w4.heap.size]? = some (.cells #[.int .i64 c, .int .i64 v] 32 (0, 0)) := (hT6.block w4.heap.size (by simp) (fun (e : φ w4.heap.size = 1) => by have := HF.out.2.1 w4.heap.size (by omega); omega)).trans (alloc_blk w4.drew #[.int .i64 c, .int .i64 v] 32 rfl)); have k0 := (Touch.cell hqq (p := ⟨w.heap.size, 0, none⟩) (Nat.lt_of_succ_lt hq4) (fun (e : φ w.heap.size = 1) => by have := HF.out.2.1 w.heap.size (Nat.le_refl _); omega)).trans q0; have k1 := (Touch.cell hqq (p := ⟨w.heap.size, 1, none⟩) (Nat.lt_of_succ_lt hq4) (fun (e : φ w.heap.size = 1) => by have := HF.out.2.1 w.heap.size (Nat.le_refl _); omega)).trans q1; have k2 := (Touch.cell hqq (p := ⟨w.heap.size + 1, 0, none⟩) hq4 (fun (e : φ (w.heap.size + 1) = 1) => by have := HF.out.2.1 (w.heap.size + 1) (by omega); omega)).trans q2; have k3 := (Touch.cell hqq (p := ⟨w.heap.size + 1, 1, none⟩) hq4 (fun (e : φ (w.heap.size + 1) = 1) => by have := HF.out.2.1 (w.heap.size + 1) (by omega); omega)).trans q3; have hl6 : w.heap.size + 1 < w6.heap.size := Nat.lt_of_lt_of_le hq4 (Touch.size hqq); have hl60 := Nat.lt_of_succ_lt hl6; have HV6 := Lib.hid (row_touch HV.out hqq (fun b hb (e : φ b = 1) => by have h5 := HVO.out b hb; have := HF.out.2.1 b (by omega); omega)); have hin6' : ∀ b, φ6 b ≠ 0 → φ b ≠ 0 ∨ w4.heap.size ≤ b := (fun b hb => (hin6 b hb).imp id (fun h => Nat.le_trans (Touch.size (F := NoB) (by repeat (first | with_reducible exact Touch.refl _ _ | with_reducible refine Touch.alloc ?_ _ | with_reducible refine Touch.drewN ?_ _ | with_reducible refine Touch.drew ?_))) h)); have H6 := Lib.hid (And.intro hR6 (And.intro ho6 (And.intro ht6 (And.intro htm (And.intro (hkp6 _ _ HJ4.out) (And.intro hin6' hqq)))))); have hB6 : B4 ≤ w6.heap.size := Nat.le_trans hB2 (Touch.size hqq); clear hR6 ho6 ht6 htm hin6 hin6' hT6 hqq hkp6)
             | (refine step_append_own2 rfl (.tmp 33) (.tmp 35) 33 rfl B4 32 i0 _ 2 16 Try.underlying33 hi hz0 hz1 hz2 rfl (by decide) (.slice A4 n4 cap4) n4 (idc out) rfl (row_touch HV6.out (by repeat (first | with_reducible exact Touch.refl _ _ | with_reducible refine Touch.alloc ?_ _ | with_reducible refine Touch.drewN ?_ _ | with_reducible refine Touch.drew ?_)) (fun _ _ e => e)) ⟨_, 0, none⟩ 1 1 [.int .i64 c, .int .i64 v] rfl rfl (by first | exact World.news_of_block (cs := #[.int .i64 c, .int .i64 v]) (alloc_blk _ _ _ rfl) | exact World.news_of_block (cs := #[.int .i64 c, .int .i64 v]) hlit) (fun u hu => by simp at hu; rcases hu with rfl | rfl <;> rfl) (by unfold maxLen; omega) (by omega) (Nat.le_trans hB6 (Touch.size (F := NoB) (by repeat (first | with_reducible exact Touch.refl _ _ | with_reducible refine Touch.alloc ?_ _ | with_reducible refine Touch.drewN ?_ _ | with_reducible refine Touch.drew ?_)))) ?_; intro v3 wx hown hgrow hob3; obtain ⟨A3, cap3, rfl, _, _⟩ := row_any hown; have hTx : Touch (fun b => B4 ≤ b ∧ b < w4.heap.size) w6 wx := Touch.grown (by repeat (first | with_reducible exact Touch.refl _ _ | with_reducible refine Touch.alloc ?_ _ | with_reducible refine Touch.drewN ?_ _ | with_reducible refine Touch.drew ?_)) hgrow (fun k hk => .inl (HVO.out k hk)); have hob : ∀ b, (Value.slice A3 (n4 + 1) cap3).ownBlock = some b → φ6 b = 0 := (fun b hb => by rcases hob3 with h | h; (have h5 := HVO.out b (by rw [← h]; exact hb); exact Classical.byContradiction fun e => by rcases H6.out.2.2.2.2.2.1 b e with h | h; exact h (HF.out.2.1 b (by omega)); omega); (rw [hb] at h; injection h with h; exact Classical.byContradiction fun e => by have h6 := H6.out.1.wf b e; have h7 : w6.heap.size ≤ b := (by rw [h]; exact Touch.size (F := NoB) (by repeat (first | with_reducible exact Touch.refl _ _ | with_reducible refine Touch.alloc ?_ _ | with_reducible refine Touch.drewN ?_ _ | with_reducible refine Touch.drew ?_))); omega)); have x0 := (Touch.cell hTx (p := ⟨w.heap.size, 0, none⟩) (Nat.lt_of_succ_lt hl6) (fun e => by have := e.1; simp at this; omega)).trans k0; have x1 := (Touch.cell hTx (p := ⟨w.heap.size, 1, none⟩) (Nat.lt_of_succ_lt hl6) (fun e => by have := e.1; simp at this; omega)).trans k1; have hlx : w.heap.size + 1 < wx.heap.size := Nat.lt_of_lt_of_le hl6 (Touch.size hTx); have hlx0 := Nat.lt_of_succ_lt hlx; have HX := Lib.hid (And.intro hTx (And.intro hob (show wx.ownsRow B4 32 2 (.slice A3 (n4 + 1) cap3) (n4 + 1) (idc (out ++ [(c, v)])) by rw [idc_snoc]; exact hown))); clear hTx hob hown hgrow hob3)
             | (go_simp; go_at_call 32; refine (ADD.out _ _ _ _ _ H6.out.1 H6.out.2.1 H6.out.2.2.1 H6.out.2.2.2.1 H6.out.2.2.2.2.1 H6.out.2.2.2.2.2.1 H6.out.2.2.2.2.2.2 _ _ _ (Touch.same HX.out.1 (by repeat (first | with_reducible exact Touch.refl _ _ | with_reducible refine Touch.alloc ?_ _ | with_reducible refine Touch.drewN ?_ _ | with_reducible refine Touch.drew ?_))) (row_touch HX.out.2.2 (by repeat (first | with_reducible exact Touch.refl _ _ | with_reducible refine Touch.alloc ?_ _ | with_reducible refine Touch.drewN ?_ _ | with_reducible refine Touch.drew ?_)) (fun _ _ e => e)) HX.out.2.1).mono ?_; rintro e w7 ⟨rfl, hEnd⟩; have HEnd := Lib.hid hEnd; clear hEnd))
    all_goals
      go_wp2
      go_ret
      exact ⟨0, rfl, HEnd.out⟩
end
end Go.Proofs.Yticekldgjlihmaa
