/-
  The document's own Table: what Add returns, and what it leaves in memory.
-/
import Derived.Test.YticekldgjlihmaaRc
import Derived.Laws.Tables
namespace Go.Proofs.Yticekldgjlihmaa
open Go.ChangeShapes Go.WideShapes Go.ChangeAt Go.RowKit Go.Maps

theorem info_row : (Try.prog.info? 121).map (fun i => (i.zero, i.size, i.bytes)) = some (some (.agg #[.int .i64 0, .int .i64 0, .int .i64 0, .int .i64 0, .int .i64 0, .int .i64 0, .int .i64 0, .int .i64 0, .int .i64 0, .int .i64 0, .int .i64 0, .int .i64 0, .int .i64 0, .int .i64 0, .int .i64 0, .int .i64 0, .int .i64 0, .int .i64 0]), 18, 144) := by kernel_rfl

set_option maxHeartbeats 1000000 in
theorem rtadd_no (g : Nat) (m i x : Int) (vcells : Value) (l : List Rw) (F : Nat → Prop) (w : World) (h : RT w F g m l) {r : Nat} (hr : rowOf (l.map Prod.fst) (i, x) = some r) :
    Calls Try.prog 32 #[.pointer (some ⟨g, 0, none⟩), .agg #[.int .i64 i, .int .i64 x], vcells] w fun e w' => e = .returned (.int .i64 (-1)) ∧ Touch NoB w w' := by
  have HR := Lib.hid (rtrow_any g m i x l F (w.alloc (.cells #[.int .i64 i, .int .i64 x] 30)) (h.quiet ((Touch.refl _ _).alloc _)))
  rw [rowV_some hr] at HR
  clear h hr
  go_enter Try.func32, Try.ntmps32
  go_wp2_with fail
  refine HR.out.mono ?_
  rintro e w1 ⟨rfl, hT⟩
  have HT := Lib.hid hT
  clear hT
  go_wp2
  go_ret
  exact ⟨rfl, ((Touch.refl _ _).alloc _).same HT.out⟩

/-- The values of a new row. -/
def newVals (m : Int) (cl : List (Int × Int)) : Nat → Int := fun c => if c < 16 ∧ bitB m c = true then lastI cl c else 0
theorem newVals_nil (m : Int) : newVals m [] = fun _ => 0 := by funext c; simp [newVals, lastI]
theorem newVals_no {m : Int} {cl : List (Int × Int)} {c v : Int} (h : colB m c = false) : newVals m (cl ++ [(c, v)]) = newVals m cl := by
  funext d
  unfold newVals
  by_cases hd : d < 16 ∧ bitB m d = true
  · rw [if_pos hd, if_pos hd, lastI_snoc, if_neg]
    rintro rfl
    unfold colB at h
    simp [hd.2] at h
    omega
  · rw [if_neg hd, if_neg hd]
theorem newVals_yes {m : Int} {cl : List (Int × Int)} {c : Nat} {v : Int} (hc : c < 16) (hb : bitB m c = true) : valAt (newVals m cl) c v = newVals m (cl ++ [((c : Int), v)]) := by
  funext d
  unfold valAt newVals
  by_cases e : d = c
  · subst e
    rw [if_pos rfl, if_pos ⟨hc, hb⟩, lastI_snoc, if_pos rfl]
  · rw [if_neg e]
    by_cases hd : d < 16 ∧ bitB m d = true
    · rw [if_pos hd, if_pos hd, lastI_snoc, if_neg (by simp; omega)]
    · rw [if_neg hd, if_neg hd]

/-- The block of the row that Add fills. -/
def RowAt (wr : World) (b : Nat) (i x : Int) (f : Nat → Int) : Prop := ∃ cs : Array Value, wr.heap[b]? = some (.cells cs 121 (0, 0)) ∧ cs.toList = oneRow ((i, x), f)
/-- What holds at the head of Add's loop over the cells. -/
def RAddRel (w : World) (b : Nat) (m i x : Int) (cl : List (Int × Int)) (j : Value) (wr : World) : Prop :=
  ∃ k : Nat, k ≤ cl.length ∧ j = .int .i64 k ∧ RowAt wr b i x (newVals m (cl.take k)) ∧ Touch (fun q => q = b) w wr

theorem RowAt.get {wr : World} {b : Nat} {i x : Int} {f : Nat → Int} (h : RowAt wr b i x f) {c : Nat} (hc : c < 16) : wr.cell? ⟨b, 2 + c, none⟩ = some (.int .i64 (f c)) := by
  obtain ⟨cs, hb, hcs⟩ := h
  rw [cell_blk hb, ← Array.getElem?_toList, hcs, oneRow_val _ hc]
theorem RowAt.free {wr : World} {b : Nat} {i x : Int} {f : Nat → Int} (h : RowAt wr b i x f) (j : Nat) : wr.frozen? ⟨b, j, none⟩ = false := by
  obtain ⟨cs, hb, hcs⟩ := h
  exact free_blk hb _
theorem RowAt.set {wr : World} {b : Nat} {i x : Int} {f : Nat → Int} (h : RowAt wr b i x f) {c : Nat} (hc : c < 16) (v : Int) : RowAt (wr.setCell ⟨b, 2 + c, none⟩ (.int .i64 v)) b i x (valAt f c v) := by
  obtain ⟨cs, hb, hcs⟩ := h
  refine ⟨_, set_blk hb (2 + c) (.int .i64 v), ?_⟩
  rw [Array.toList_setIfInBounds, hcs, oneRow_set ((i, x), f) hc v]

theorem built_row (i x : Int) : Try.prog.built 121 [(0, .agg #[.int .i64 i, .int .i64 x])] = some #[.int .i64 i, .int .i64 x, .int .i64 0, .int .i64 0, .int .i64 0, .int .i64 0, .int .i64 0, .int .i64 0, .int .i64 0, .int .i64 0, .int .i64 0, .int .i64 0, .int .i64 0, .int .i64 0, .int .i64 0, .int .i64 0, .int .i64 0, .int .i64 0] := by kernel_rfl
theorem wpList_build_as {P : Program} {ops : Array Oper} {rest : List Oper} {o : Oper} {a : Act} {w : World} {Q : Exit → Act → World → Prop} (hg : o.guard = none) (t : TypeId) (parts : Array (Nat × Operand)) (ho : o.op = .build t parts) (cells : Array Value)
    (hf : P.built t (parts.map fun (i, x) => (i, a.eval x)).toList = some cells) (h : wpList P ops Q rest (a.put o.dst (.agg cells)) w) : wpList P ops Q (o :: rest) a w :=
  wpList_build hg t parts ho (by rw [hf]; rfl) (by rw [hf]; exact h)
theorem all_one (i x : Int) : (#[.int .i64 i, .int .i64 x, .int .i64 0, .int .i64 0, .int .i64 0, .int .i64 0, .int .i64 0, .int .i64 0, .int .i64 0, .int .i64 0, .int .i64 0, .int .i64 0, .int .i64 0, .int .i64 0, .int .i64 0, .int .i64 0, .int .i64 0, .int .i64 0] : Array Value).all (·.oneCell') = true := by simp [Value.oneCell']
theorem row_set_same {W : World} {g : Nat} {old : Array Value} {t : TypeId} (h : W.heap[g]? = some (.cells old t (0, 0))) (cs : Array Value) : (W.setRow g cs).heap[g]? = some (.cells cs t (0, 0)) := setRow_heap W g old cs t (0, 0) h
theorem row_set_touch {F : Nat → Prop} {a W : World} (h : Touch F a W) {g : Nat} (hg : a.heap.size ≤ g) (cs : Array Value) : Touch F a (W.setRow g cs) :=
  h.trans (G := fun b => b = g) ⟨rfl, rfl, rfl, by simp, fun k _ hn => setRow_other W g k cs hn⟩ (fun x hx => .inr (by rw [hx]; exact hg))
theorem oneRow_one (p : Rw) : ∀ u ∈ oneRow p, u.oneCell' = true := by
  intro u hu
  unfold oneRow at hu
  rcases List.mem_cons.1 hu with rfl | hu
  · rfl
  · rcases List.mem_cons.1 hu with rfl | hu
    · rfl
    · unfold vals16 at hu
      obtain ⟨c, _, rfl⟩ := List.mem_map.1 hu
      rfl
theorem RowAt.get0 {wr : World} {b : Nat} {i x : Int} {f : Nat → Int} (h : RowAt wr b i x f) : wr.cell? ⟨b, 0, none⟩ = some (.int .i64 i) ∧ wr.cell? ⟨b, 1, none⟩ = some (.int .i64 x) := by
  obtain ⟨cs, hb, hcs⟩ := h
  exact ⟨by rw [cell_blk hb, ← Array.getElem?_toList, hcs]; rfl, by rw [cell_blk hb, ← Array.getElem?_toList, hcs]; rfl⟩

set_option maxHeartbeats 4000000 in
set_option maxRecDepth 100000 in
theorem rtadd_yes (g : Nat) (m i x : Int) (A : Option Addr) (N cap : Nat) (cl : List (Int × Int)) (l : List Rw) (F : Nat → Prop) (w : World) (h : RT w F g m l) (hF : InW w 0 F) (hr : rowOf (l.map Prod.fst) (i, x) = none)
    (hm : 0 ≤ m) (hm2 : m < 65536) (hL : l.length < 1000000) (hN : cl.length = N) (hN2 : N ≤ 1000) (hC : CellsAt w F A cl) :
    Calls Try.prog 32 #[.pointer (some ⟨g, 0, none⟩), .agg #[.int .i64 i, .int .i64 x], .slice A N cap] w fun e w' => e = .returned (.int .i64 l.length) ∧ RT w' (Ext F w w') g m (l ++ [((i, x), newVals m cl)]) ∧ Touch F w w' := by
  have HR := Lib.hid (rtrow_any g m i x l F (w.alloc (.cells #[.int .i64 i, .int .i64 x] 30)) (h.quiet ((Touch.refl _ _).alloc _)))
  rw [rowV_none hr] at HR
  have H0 := Lib.hid h
  have HF := Lib.hid hF
  have HC := Lib.hid hC
  have HN := Lib.hid hN
  clear h hr hF hC hN
  obtain ⟨j0, hj, hy0, hy1, hy2⟩ := info_parts info_row
  go_enter Try.func32, Try.ntmps32
  go_wp2_with fail
  refine HR.out.mono ?_
  rintro e w1 ⟨rfl, hT⟩
  have hb1 := new_blk hT rfl (fun x => x)
  have hT1 : Touch NoB w w1 := ((Touch.refl _ w).alloc _).same hT
  have hs1 : w.heap.size < w1.heap.size := by have := hT.size; simp at this; omega
  have b0 : w1.cell? ⟨w.heap.size, 0, none⟩ = some (.int .i64 i) := cell_blk hb1 0
  have b1 : w1.cell? ⟨w.heap.size, 1, none⟩ = some (.int .i64 x) := cell_blk hb1 1
  have HT1 := Lib.hid hT1
  clear hT hT1 hb1 HR
  go_wp2_with (first | (refine wpList_build_as rfl 121 #[(0, .tmp 13)] rfl #[.int .i64 i, .int .i64 x, .int .i64 0, .int .i64 0, .int .i64 0, .int .i64 0, .int .i64 0, .int .i64 0, .int .i64 0, .int .i64 0, .int .i64 0, .int .i64 0, .int .i64 0, .int .i64 0, .int .i64 0, .int .i64 0, .int .i64 0, .int .i64 0] (by exact built_row i x) ?_) | refine wpList_store_row rfl 121 (.tmp 7) (.tmp 14) rfl w1.heap.size #[.int .i64 i, .int .i64 x, .int .i64 0, .int .i64 0, .int .i64 0, .int .i64 0, .int .i64 0, .int .i64 0, .int .i64 0, .int .i64 0, .int .i64 0, .int .i64 0, .int .i64 0, .int .i64 0, .int .i64 0, .int .i64 0, .int .i64 0, .int .i64 0] rfl rfl 121 #[.int .i64 0, .int .i64 0, .int .i64 0, .int .i64 0, .int .i64 0, .int .i64 0, .int .i64 0, .int .i64 0, .int .i64 0, .int .i64 0, .int .i64 0, .int .i64 0, .int .i64 0, .int .i64 0, .int .i64 0, .int .i64 0, .int .i64 0, .int .i64 0] (by exact alloc_blk w1 _ _ rfl) (by rw [hj]; simp [hy1]) rfl (all_one i x) ?_)
  obtain ⟨w2, hw2⟩ : ∃ w2, (w1.alloc (.cells #[.int .i64 0, .int .i64 0, .int .i64 0, .int .i64 0, .int .i64 0, .int .i64 0, .int .i64 0, .int .i64 0, .int .i64 0, .int .i64 0, .int .i64 0, .int .i64 0, .int .i64 0, .int .i64 0, .int .i64 0, .int .i64 0, .int .i64 0, .int .i64 0] 121)).setRow w1.heap.size #[.int .i64 i, .int .i64 x, .int .i64 0, .int .i64 0, .int .i64 0, .int .i64 0, .int .i64 0, .int .i64 0, .int .i64 0, .int .i64 0, .int .i64 0, .int .i64 0, .int .i64 0, .int .i64 0, .int .i64 0, .int .i64 0, .int .i64 0, .int .i64 0] = w2 := ⟨_, rfl⟩
  have hall := alloc_blk w1 #[.int .i64 0, .int .i64 0, .int .i64 0, .int .i64 0, .int .i64 0, .int .i64 0, .int .i64 0, .int .i64 0, .int .i64 0, .int .i64 0, .int .i64 0, .int .i64 0, .int .i64 0, .int .i64 0, .int .i64 0, .int .i64 0, .int .i64 0, .int .i64 0] 121 rfl
  have hRA0 : RowAt w2 w1.heap.size i x (newVals m []) := by
    rw [← hw2]
    exact ⟨_, row_set_same hall _, by rw [newVals_nil]; rfl⟩
  have hT2 : Touch NoB w w2 := by
    rw [← hw2]
    exact row_set_touch (HT1.out.alloc _) (by omega) _
  have hs2 : w1.heap.size < w2.heap.size := by obtain ⟨_, hq, _⟩ := hRA0; exact blk_lt hq
  rw [hw2]
  obtain ⟨v14, hv14⟩ : ∃ v14, Value.agg #[.int .i64 i, .int .i64 x, .int .i64 0, .int .i64 0, .int .i64 0, .int .i64 0, .int .i64 0, .int .i64 0, .int .i64 0, .int .i64 0, .int .i64 0, .int .i64 0, .int .i64 0, .int .i64 0, .int .i64 0, .int .i64 0, .int .i64 0, .int .i64 0] = v14 := ⟨_, rfl⟩
  rw [hv14]
  clear hv14
  have HRA0 := Lib.hid hRA0
  have HT2 := Lib.hid hT2
  have hnb : ∀ q, F q → q ≠ w1.heap.size := fun q hq e => by have := (HF.out q hq).2; omega
  have HNB := Lib.hid hnb
  have hgF : F g := by obtain ⟨_, _, _, f0, _⟩ := H0.out; exact f0
  have hgl : g < w.heap.size := (HF.out g hgF).2
  clear hw2 hRA0 hT2 hnb HT1 b0 b1 hall
  obtain ⟨b, hbb⟩ : ∃ b, w1.heap.size = b := ⟨_, rfl⟩
  rw [hbb] at HRA0 hs2 HNB hs1
  rw [hbb]
  clear hbb
  go_loopw [8] (fun j wr => RAddRel w2 b m i x cl j wr) (fun j _ => N - (intOf j).toNat)
  case atStart => exact ⟨0, Nat.zero_le _, rfl, HRA0.out, Touch.refl _ _⟩
  case round =>
    obtain ⟨k, hk, rfl, hRA, hT⟩ := hrel
    rw [HN.out] at hk
    have hRT : RT wr F g m l := (H0.out.quiet HT2.out).keep hT (fun q hq e => HNB.out q hq e)
    have hsr := hT.size
    have hTF : Touch F w wr := HT2.out.mono (fun _ e => e.elim) |>.trans hT (fun q e => .inr (by rw [e]; omega))
    obtain ⟨vl, hg1, hrl, _, hfl⟩ := hRT
    have k0 : wr.cell? ⟨g, 0, none⟩ = some (.int .u16 m) := cell_blk hg1 0
    by_cases hlt : k < N
    · obtain ⟨c, v, hcv⟩ : ∃ c v, cl[k]? = some (c, v) := ⟨_, _, List.getElem?_eq_getElem (by have := HN.out; omega)⟩
      obtain ⟨ba, off, rfl, hba, hnba, e1, e2⟩ := HC.out.touch hTF k c v hcv
      have htk : cl.take (k + 1) = cl.take k ++ [(c, v)] := by
        rw [List.take_succ_eq_append_getElem (by have := HN.out; omega)]
        congr 1
        have := (List.getElem?_eq_some_iff.1 hcv).2
        rw [this]
      have HHA := Lib.hid (rthas_any g m c wr hm hm2 k0)
      have hglr := blk_lt hg1
      cases hcol : colB m c
      · rw [hcol] at HHA
        have HNX : Hid (RAddRel w2 b m i x cl (.int .i64 ((k + 1 : Nat) : Int)) wr) := ⟨k + 1, by rw [HN.out]; omega, rfl, by rw [htk, newVals_no hcol]; exact hRA, hT⟩
        clear hRA hT hTF hg1 hrl hfl hcv htk hcol k0
        go_wp2_with fail
        refine HHA.out.mono ?_
        rintro e wz ⟨rfl, rfl⟩
        go_wp2
        go_roundw
        case rel => exact HNX.out
        case measure => simp [intOf]; omega
      · rw [hcol] at HHA
        obtain ⟨q, rfl, hq, hqb⟩ := colB_true hcol
        have p1 := hRA.get hq
        have p2 := hRA.free (2 + q)
        have hbl : b < wr.heap.size := by omega
        have HNX : Hid (RAddRel w2 b m i x cl (.int .i64 ((k + 1 : Nat) : Int)) (wr.setCell ⟨b, 2 + q, none⟩ (.int .i64 v)).drew) :=
          ⟨k + 1, by rw [HN.out]; omega, rfl, by
            rw [htk, ← newVals_yes hq hqb]
            obtain ⟨cs, hb, hcs⟩ := hRA.set hq v
            exact ⟨cs, hb, hcs⟩, (hT.setCell (p := ⟨b, 2 + q, none⟩) (.inl rfl) _).drew⟩
        obtain ⟨z, hz⟩ : ∃ z, newVals m (cl.take k) q = z := ⟨_, rfl⟩
        rw [hz] at p1
        clear hRA hT hTF hg1 hrl hfl hcv htk hcol k0 hqb hz
        go_wp2_with fail
        refine HHA.out.mono ?_
        rintro e wz ⟨rfl, rfl⟩
        go_wp2
        go_region
        all_goals
          go_wp2
          go_roundw
          case rel => exact HNX.out
          case measure => simp [intOf]; omega
    · obtain rfl : k = N := by omega
      rw [List.take_of_length_le (by have := HN.out; omega)] at hRA
      obtain ⟨f, hf⟩ : ∃ f, newVals m cl = f := ⟨_, rfl⟩
      rw [hf] at hRA
      obtain ⟨A1, cap1, rfl, hc1, hc2⟩ := row_any hrl
      unfold maxLen at hc2
      have k1 : wr.cell? ⟨g, 1, none⟩ = some (.slice A1 l.length cap1) := cell_blk hg1 1
      have z1 : wr.frozen? ⟨g, 1, none⟩ = false := free_blk hg1 1
      obtain ⟨c0, c1⟩ := hRA.get0
      have c2 := hRA.get (c := 0) (by omega)
      have c3 := hRA.get (c := 1) (by omega)
      have c4 := hRA.get (c := 2) (by omega)
      have c5 := hRA.get (c := 3) (by omega)
      have c6 := hRA.get (c := 4) (by omega)
      have c7 := hRA.get (c := 5) (by omega)
      have c8 := hRA.get (c := 6) (by omega)
      have c9 := hRA.get (c := 7) (by omega)
      have c10 := hRA.get (c := 8) (by omega)
      have c11 := hRA.get (c := 9) (by omega)
      have c12 := hRA.get (c := 10) (by omega)
      have c13 := hRA.get (c := 11) (by omega)
      have c14 := hRA.get (c := 12) (by omega)
      have c15 := hRA.get (c := 13) (by omega)
      have c16 := hRA.get (c := 14) (by omega)
      have c17 := hRA.get (c := 15) (by omega)
      simp only [Nat.reduceAdd] at c2 c3 c4 c5 c6 c7 c8 c9 c10 c11 c12 c13 c14 c15 c16 c17
      have hglr := blk_lt hg1
      have hbl : b < wr.heap.size := by omega
      have hfg : (Value.slice A1 l.length cap1).ownBlock ≠ some g := row_ne hrl hg1 (by decide)
      obtain ⟨L, hL9⟩ : ∃ L, l.length = L := ⟨_, rfl⟩
      rw [hL9] at k1 hrl hfg hc1 hL hg1 hfl
      have R1 := Lib.hid hrl
      have HG1 := Lib.hid hg1
      have HFG := Lib.hid hfg
      have HFL := Lib.hid hfl
      have HTF := Lib.hid hTF
      have HFE := Lib.hid hf
      have HL9 := Lib.hid hL9
      clear hRA hT hTF hg1 hrl hfl hfg k0 hf hL9 H0 HT2 HRA0
      go_wp2
      go_region_law (refine step_append_lies _ rfl (.tmp 44) (.tmp 46) 98 rfl 0 121 j0 (.agg #[.int .i64 0, .int .i64 0, .int .i64 0, .int .i64 0, .int .i64 0, .int .i64 0, .int .i64 0, .int .i64 0, .int .i64 0, .int .i64 0, .int .i64 0, .int .i64 0, .int .i64 0, .int .i64 0, .int .i64 0, .int .i64 0, .int .i64 0, .int .i64 0]) 18 144 Try.underlying98 hj hy0 hy1 hy2 rfl (by decide) (.slice A1 L cap1) L (rowc l) (by simp [Act.eval]) (by exact (R1.out.alloc _)) ⟨wr.heap.size, 0, none⟩ 1 1 [.int .i64 i, .int .i64 x, .int .i64 (f 0), .int .i64 (f 1), .int .i64 (f 2), .int .i64 (f 3), .int .i64 (f 4), .int .i64 (f 5), .int .i64 (f 6), .int .i64 (f 7), .int .i64 (f 8), .int .i64 (f 9), .int .i64 (f 10), .int .i64 (f 11), .int .i64 (f 12), .int .i64 (f 13), .int .i64 (f 14), .int .i64 (f 15)] (by simp [Act.eval]) rfl (by exact World.news_of_block (cs := #[.int .i64 i, .int .i64 x, .int .i64 (f 0), .int .i64 (f 1), .int .i64 (f 2), .int .i64 (f 3), .int .i64 (f 4), .int .i64 (f 5), .int .i64 (f 6), .int .i64 (f 7), .int .i64 (f 8), .int .i64 (f 9), .int .i64 (f 10), .int .i64 (f 11), .int .i64 (f 12), .int .i64 (f 13), .int .i64 (f 14), .int .i64 (f 15)]) (alloc_blk wr.drew _ 121 rfl)) (by exact oneRow_one ((i, x), f)) (by decide) (by unfold maxLen; omega) (by omega) (Nat.zero_le _) (wr.heap.size + 1) (by simp) ?_
                     intro gd cap2 wx hown hgrow hat hlx
                     have TR : Touch (fun q => (Value.slice A1 L cap1).ownBlock = some q) wr wx := (((Touch.refl _ wr).alloc _).drew).grown hgrow (fun _ e => .inl e)
                     have hgx := (TR.block g hglr HFG.out).trans HG1.out
                     have kx : wx.cell? ⟨g, 1, none⟩ = some (.slice A1 L cap1) := cell_blk hgx 1
                     have zx : wx.frozen? ⟨g, 1, none⟩ = false := free_blk hgx 1
                     have hglx : g < wx.heap.size := blk_lt hgx
                     have HX := Lib.hid (And.intro hown (And.intro hat (And.intro TR hgx)))
                     clear hown hgrow hat TR hgx)
      all_goals
        clear k1 z1 c0 c1 c2 c3 c4 c5 c6 c7 c8 c9 c10 c11 c12 c13 c14 c15 c16 c17
        go_wp2
        go_ret
        obtain ⟨hown, hat, TR, hgx⟩ := HX.out
        have hTx : Touch F w wx := HTF.out.trans TR (fun q hq => .inl (HFL.out q hq))
        have hsy : (wx.setCell ⟨g, 1, none⟩ (.slice (some ⟨gd, 0, none⟩) (L + 1) cap2)).heap.size = wx.heap.size := by simp [World.setCell]
        refine ⟨ret_int (by have := HL9.out; omega), ⟨.slice (some ⟨gd, 0, none⟩) (L + 1) cap2, by simpa using set_blk hgx 1 _, ?_, .inl hgF, fun q hq => ?_⟩, hTx.setCell (p := ⟨g, 1, none⟩) (.inl hgF) _⟩
        · have h8 : wx.ownsRow 0 121 18 (.slice (some ⟨gd, 0, none⟩) (L + 1) cap2) (l ++ [((i, x), newVals m cl)]).length (rowc (l ++ [((i, x), newVals m cl)])) := by
            rw [List.length_append, HL9.out, rowc_snoc, HFE.out]
            exact hown
          exact row_touch h8 (set_touch _ g _ _) (fun q hq (e : q = g) => row_ne h8 hgx (by decide) (e ▸ hq))
        · have e1 : gd = q := by simpa [Value.ownBlock] using hq
          subst e1
          rcases hat with e | e
          · exact .inl (HFL.out _ e)
          · exact .inr ⟨by omega, by rw [hsy]; exact hlx⟩
end Go.Proofs.Yticekldgjlihmaa
