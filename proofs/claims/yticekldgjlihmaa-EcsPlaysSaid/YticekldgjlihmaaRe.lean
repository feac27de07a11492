/-
  The document's own Table: what Remove returns, and what it leaves in memory.
-/
import Derived.Test.YticekldgjlihmaaTp
import Derived.Deep.MidRow
namespace Go.Proofs.Yticekldgjlihmaa
open Go.ChangeShapes Go.WideShapes Go.ChangeAt Go.RowKit Go.Maps

/-- The cells of the first k components of a row. -/
def outK (m : Int) (p : Rw) (k : Nat) : List (Int × Int) := ((List.range k).filter (bitB m)).map (fun (c : Nat) => ((c : Int), p.2 c))
theorem outK_all (m : Int) (p : Rw) : outK m p 16 = outR m p := rfl
theorem outK_yes {m : Int} {p : Rw} {k : Nat} (h : bitB m k = true) : outK m p (k + 1) = outK m p k ++ [((k : Int), p.2 k)] := by
  simp [outK, List.range_succ, List.filter_append, h]
theorem outK_no {m : Int} {p : Rw} {k : Nat} (h : bitB m k = false) : outK m p (k + 1) = outK m p k := by
  simp [outK, List.range_succ, List.filter_append, h]
theorem outK_length (m : Int) (p : Rw) (k : Nat) : (outK m p k).length ≤ k := by
  unfold outK
  rw [List.length_map]
  have := List.length_filter_le (bitB m) (List.range k)
  simpa using this

/-- The list xs with vs from place o on. -/
def setL (xs : List Value) : Nat → List Value → List Value
  | _, [] => xs
  | o, v :: vs => setL (xs.set o v) (o + 1) vs
theorem setL_length (vs : List Value) : ∀ (o : Nat) (xs : List Value), (setL xs o vs).length = xs.length := by
  induction vs with
  | nil => intro o xs; rfl
  | cons v vs ih => intro o xs; rw [setL, ih, List.length_set]
theorem setL_get (vs : List Value) : ∀ (o : Nat) (xs : List Value) (j : Nat), o + vs.length ≤ xs.length → (setL xs o vs)[j]? = if o ≤ j ∧ j < o + vs.length then vs[j - o]? else xs[j]? := by
  induction vs with
  | nil => intro o xs j _; rw [if_neg (by simp)]; rfl
  | cons v vs ih =>
    intro o xs j h
    rw [List.length_cons] at h
    rw [setL, ih (o + 1) (xs.set o v) j (by rw [List.length_set]; omega), List.length_cons]
    by_cases e : j = o
    · subst e
      rw [if_neg (by omega), if_pos (by omega), List.getElem?_set_self (by omega), Nat.sub_self]
      rfl
    · by_cases e2 : o + 1 ≤ j ∧ j < o + 1 + vs.length
      · rw [if_pos e2, if_pos (by omega), show j - o = (j - (o + 1)) + 1 from by omega, List.getElem?_cons_succ]
      · rw [if_neg e2, if_neg (by omega), List.getElem?_set_ne (fun x => e x.symm)]
theorem rowc_put (l : List Rw) (r : Nat) (q : Rw) (hr : r < l.length) : setL (rowc l) (r * 18) (oneRow q) = rowc (l.set r q) := by
  have hlen : r * 18 + (oneRow q).length ≤ (rowc l).length := by rw [rowc_length, oneRow_length]; omega
  apply List.ext_getElem?
  intro j
  rw [setL_get _ _ _ _ hlen, oneRow_length]
  have hj : j = (j / 18) * 18 + j % 18 := by omega
  have hm : j % 18 < 18 := by omega
  generalize j / 18 = a at hj
  generalize j % 18 = b at hj hm
  subst hj
  rw [rowc_at _ a b hm, rowc_at _ a b hm]
  by_cases e : a = r
  · subst e
    rw [if_pos (by omega), List.getElem?_set_self hr]
    congr 1
    omega
  · rw [if_neg (by omega), List.getElem?_set_ne (fun x => e x.symm)]
theorem rowc_take (l : List Rw) (k : Nat) : (rowc l).take (k * 18) = rowc (l.take k) := by
  apply List.ext_getElem?
  intro j
  rw [List.getElem?_take]
  have hj : j = (j / 18) * 18 + j % 18 := by omega
  have hm : j % 18 < 18 := by omega
  generalize j / 18 = a at hj
  generalize j % 18 = b at hj hm
  subst hj
  rw [rowc_at _ a b hm, rowc_at _ a b hm, List.getElem?_take]
  by_cases e : a < k
  · rw [if_pos (by omega), if_pos e]
  · rw [if_neg (by omega), if_neg e]
    rfl

/-- A row of many cells stored into a row of one's own. -/
theorem row_cells {base : Nat} {e : TypeId} {size g n cap : Nat} (vs : List Value) : ∀ (o : Nat) (w : World) (xs : List Value), w.ownsRow base e size (.slice (some ⟨g, 0, none⟩) n cap) n xs →
    (w.setCells g o vs).ownsRow base e size (.slice (some ⟨g, 0, none⟩) n cap) n (setL xs o vs) ∧ Touch (fun b => b = g) w (w.setCells g o vs) := by
  induction vs with
  | nil => intro o w xs h; exact ⟨h, Touch.refl _ _⟩
  | cons v vs ih =>
    intro o w xs h
    obtain ⟨h1, h2⟩ := ih (o + 1) _ _ (h.stored o v).1
    exact ⟨h1, (set_touch w g o v).same h2⟩

/-- What holds at the head of Remove's loop. -/
def RRemRel (w : World) (m : Int) (p : Rw) (v c : Value) (wr : World) : Prop :=
  ∃ k : Nat, k ≤ 16 ∧ c = .int .i64 k ∧ wr.ownsRow w.heap.size 32 2 v (outK m p k).length (idc (outK m p k)) ∧ Touch NoB w wr
/-- What Remove leaves. -/
def RRemPost (w : World) (F : Nat → Prop) (g : Nat) (m : Int) (l : List Rw) (p : Rw) (r : Nat) (e : Ending) (w' : World) : Prop :=
  ∃ v, e = .returned (.tuple #[v, .bool true]) ∧ w'.ownsRow w.heap.size 32 2 v (outR m p).length (idc (outR m p)) ∧ RT w' F g m (cutAt noRow l r) ∧ Touch F w w'

/-- The load, and the store, of a whole row: closed to the walk's simp. -/
def LoadRowS (v : Value) : Sem Value := Instr.loadAt 121 v
def StoreRowS (x y : Value) : Sem Unit := Instr.storeAt 121 x y
theorem loadRowS_of (v : Value) : Instr.loadAt 121 v = LoadRowS v := rfl
theorem storeRowS_of (x y : Value) : Instr.storeAt 121 x y = StoreRowS x y := rfl
attribute [local go_sem ↓] loadRowS_of storeRowS_of
theorem isRow_row : (Try.prog.underlying 121).map TypeDesc.isRow = some true := by kernel_rfl
theorem size_row : (Try.prog.info? 121).map (·.size) = some 18 := by kernel_rfl
theorem run_LoadRowS (W : World) (b o : Nat) (p : Rw) (hc : W.rangeAt b o (oneRow p)) : (LoadRowS (.pointer (some ⟨b, o, none⟩))).run Try.prog W = .ok (.agg (oneRow p).toArray) W := by
  cases hu : Try.prog.underlying 121 with
  | none => have := isRow_row; rw [hu] at this; cases this
  | some d =>
    have h := isRow_row
    rw [hu] at h
    exact run_loadAt_mid W b o _ (oneRow p) d hc hu (by injection h) (by rw [oneRow_length]; exact size_row)
theorem run_StoreRowS (W : World) (b o : Nat) (p : Rw) (ht : W.there b o 18) : (StoreRowS (.pointer (some ⟨b, o, none⟩)) (.agg (oneRow p).toArray)).run Try.prog W = .ok () (W.setCells b o (oneRow p)) := by
  have := run_storeAt_mid W b o 121 (oneRow p).toArray (by simpa [oneRow_length] using ht) (P := Try.prog) (by rw [List.size_toArray, oneRow_length]; exact size_row) (all_oneCell_toArray (oneRow_one p))
  exact this
/-- What holds behind the last row's move. -/
def RRemMid (wr : World) (gl L cap : Nat) (xs : List Value) (v7 v : Value) (wx : World) : Prop :=
  v = v7 ∧ wx.ownsRow 0 121 18 (.slice (some ⟨gl, 0, none⟩) L cap) L xs ∧ Touch (fun b => b = gl) wr wx

set_option maxHeartbeats 400000 in
theorem rtremove_no (g : Nat) (m r : Int) (l : List Rw) (F : Nat → Prop) (w : World) (h : RT w F g m l) (hno : rowB l.length r = false) :
    Calls Try.prog 37 #[.pointer (some ⟨g, 0, none⟩), .int .i64 r] w fun e w' => e = .returned (.tuple #[.slice none 0 0, .bool false]) ∧ w = w' := by
  obtain ⟨v, hg, hr, f0, f1⟩ := h
  obtain ⟨A, cap, rfl, h1, h2⟩ := row_any hr
  unfold maxLen at h2
  have k1 : w.cell? ⟨g, 1, none⟩ = some (.slice A l.length cap) := cell_blk hg 1
  clear hg hr f0 f1
  generalize l.length = L at *
  by_cases h3 : r < 0
  · clear hno
    go_enter Try.func37, Try.ntmps37
    go_wp2
    go_ret2
    exact ⟨rfl, rfl⟩
  · have h4 : (L : Int) ≤ r := by
      unfold rowB at hno
      simp at hno
      omega
    clear hno
    go_enter Try.func37, Try.ntmps37
    go_wp2
    go_ret2
    exact ⟨rfl, rfl⟩

set_option maxHeartbeats 4000000 in
set_option maxRecDepth 100000 in
theorem rtremove_yes (g r M : Nat) (m : Int) (p q : Rw) (l : List Rw) (F : Nat → Prop) (w : World) (h : RT w F g m l) (hF : InW w 0 F) (hm : 0 ≤ m) (hm2 : m < 65536) (hL : l.length = M + 1) (hL2 : l.length < 1000000) (hp : l[r]? = some p) (hq : l[M]? = some q) :
    Calls Try.prog 37 #[.pointer (some ⟨g, 0, none⟩), .int .i64 r] w (RRemPost w F g m l p r) := by
  have hrl : r < l.length := (List.getElem?_eq_some_iff.1 hp).1
  have hcut : cutAt noRow l r = (l.set r q).take M := by
    unfold cutAt
    rw [hL, show M + 1 - 1 = M from rfl, List.getD_eq_getElem?_getD, hq]
    rfl
  obtain ⟨v, hg, hr, f0, f1⟩ := h
  obtain ⟨gl, cap, rfl, h1, h2, hob⟩ := row_form hr (by omega)
  unfold maxLen at h2
  have hnF : ∀ b, w.heap.size ≤ b → ¬ F b := fun b hb hf => by have := (hF b hf).2; omega
  have hgll := row_lt hr hob
  have hgg : gl ≠ g := fun e => row_ne hr hg (by decide) (by rw [e]; rfl)
  have hgl := blk_lt hg
  have k1 : w.cell? ⟨g, 1, none⟩ = some (.slice (some ⟨gl, 0, none⟩) l.length cap) := cell_blk hg 1
  have hput := rowc_put l r q hrl
  have htk := rowc_take (l.set r q) M
  have hltk : ((l.set r q).take M).length = M := by rw [List.length_take, List.length_set]; omega
  have HG := Lib.hid hg
  have HR := Lib.hid hr
  have HPQ := Lib.hid (And.intro hp hq)
  have HF := Lib.hid (And.intro f0 (And.intro (f1 gl hob) f1))
  have HNF := Lib.hid hnF
  have HX := Lib.hid (And.intro hcut (And.intro hput (And.intro htk (And.intro hltk hgg))))
  obtain ⟨L, hLe⟩ : ∃ L, l.length = L := ⟨_, rfl⟩
  rw [hLe] at k1 hrl h1 hL2
  have hLM : (L : Int) - 1 = (M : Int) := by omega
  have hML : M < L := by omega
  have hrM : r ≤ M := by omega
  have HL := Lib.hid hLe
  clear hg hr hp hq f0 f1 hnF hcut hput htk hltk hob hF hLe hL
  have dr0 : decide ((r : Int) < 0) = false := by simp
  have dr1 : decide (L ≤ r) = false := by simp; omega
  obtain ⟨j0, hj, hy0, hy1, hy2⟩ := info_parts info_cell
  go_enter Try.func37, Try.ntmps37
  go_wp2
  clear k1
  go_loopw [6, 7] (fun v c wr => RRemRel w m p v c wr) (fun _ c _ => 16 - (intOf c).toNat)
  case atStart => exact ⟨0, by omega, rfl, World.ownsRow_nil _ _ _ _, Touch.refl _ _⟩
  case round =>
    obtain ⟨k, hk, rfl, ho, hT⟩ := hrel
    have hsr := hT.size
    have hg1 := (hT.block g hgl (fun e => e)).trans HG.out
    have k0 : wr.cell? ⟨g, 0, none⟩ = some (.int .u16 m) := cell_blk hg1 0
    have k1 : wr.cell? ⟨g, 1, none⟩ = some (.slice (some ⟨gl, 0, none⟩) L cap) := by rw [cell_blk hg1 1, ← HL.out]; rfl
    have hgr := blk_lt hg1
    have r1 := row_touch HR.out hT (fun _ _ e => e)
    rw [HL.out] at r1
    have hglr := row_lt r1 rfl
    obtain ⟨A7, cap7, rfl, hc7, hc8⟩ := row_any ho
    unfold maxLen at hc8
    by_cases hlt : k < 16
    · have HC := Lib.hid (rthas_any g m k wr hm hm2 k0)
      cases hbit : bitB m k
      · have e1 : colB m (k : Int) = false := by unfold colB; simp [hbit]
        rw [e1] at HC
        have HN : Hid (RRemRel w m p (.slice A7 (outK m p k).length cap7) (.int .i64 ((k + 1 : Nat) : Int)) wr) := ⟨k + 1, by omega, rfl, by rw [outK_no hbit]; exact ho, hT⟩
        clear ho hT hg1 k0 k1 r1 hbit e1 hc7
        go_wp2_with fail
        refine HC.out.mono ?_
        rintro e wz ⟨rfl, rfl⟩
        go_wp2
        go_roundw
        case rel =>
          have := HN.out
          exact this
        case measure => simp [intOf]; omega
      · rw [colB_nat hlt hbit] at HC
        have k2 : wr.cell? ⟨gl, r * 18 + 2 + k, none⟩ = some (.int .i64 (p.2 k)) := by rw [r1.cellAt (r * 18 + 2 + k) (by omega), rowc_val HPQ.out.1 hlt]
        have hol := outK_length m p k
        obtain ⟨z, hz⟩ : ∃ z, p.2 k = z := ⟨_, rfl⟩
        obtain ⟨out, hout⟩ : ∃ out, outK m p k = out := ⟨_, rfl⟩
        rw [hout] at hol ho hc7
        rw [hout]
        obtain ⟨K7, hK7⟩ : ∃ K7, out.length = K7 := ⟨_, rfl⟩
        rw [hK7] at hol ho hc7
        rw [hK7]
        rw [hz] at k2
        have HOUT := Lib.hid (And.intro hout (And.intro hK7 hz))
        have HO := Lib.hid ho
        have HT := Lib.hid hT
        have HB := Lib.hid hbit
        clear ho hT hg1 k0 r1 hbit hout hK7 hz
        go_wp2_with fail
        refine HC.out.mono ?_
        rintro e wz ⟨rfl, rfl⟩
        go_wp2_with (at_builtin; refine wpList_append_own_at _ rfl (.tmp 26) (.tmp 39) 33 rfl w.heap.size 32 j0 _ 2 16 Try.underlying33 hj hy0 hy1 hy2 rfl (by decide) (.slice A7 K7 cap7) K7 (idc out) rfl ?o1 ⟨wr.heap.size, 0, none⟩ 1 1 [.int .i64 k, .int .i64 z] rfl rfl ?c1 ?c2 ?c3 ?c4 ?c5 ?go)
        case o1 => exact HO.out.alloc _
        case c1 => exact World.news_of_block (cs := #[.int .i64 k, .int .i64 z]) (alloc_blk wr _ 32 rfl)
        case c2 => intro u hu; simp at hu; rcases hu with rfl | rfl <;> rfl
        case c3 => unfold maxLen; omega
        case c4 => omega
        case c5 => simp; omega
        case go =>
        intro v7 wx hown hgrow _ hat
        have hTx : Touch NoB w wx := (HT.out.alloc _).grown hgrow (fun q e => .inr (HO.out.lt q e).1)
        have HN : Hid (RRemRel w m p v7 (.int .i64 ((k + 1 : Nat) : Int)) wx) := ⟨k + 1, by omega, rfl, by rw [outK_yes HB.out, HOUT.out.1, List.length_append, HOUT.out.2.1, idc_snoc, HOUT.out.2.2]; exact hown, hTx⟩
        clear hown hgrow hat hTx HO HT k1 k2
        go_wp2
        go_roundw
        case rel => exact HN.out
        case measure => simp [intOf]; omega
    · obtain rfl : k = 16 := by omega
      rw [outK_all] at ho hc7
      rw [outK_all]
      have hc : ∀ (a j : Nat) (x : Value), a < L → j < 18 → (rowc l)[a * 18 + j]? = some x → wr.cell? ⟨gl, a * 18 + j, none⟩ = some x := fun a j x ha hj hx => by rw [r1.cellAt (a * 18 + j) (by omega)]; exact hx
      have hz : ∀ j, wr.frozen? ⟨gl, j, none⟩ = false := fun j => r1.frozenAt j
      have HO := Lib.hid ho
      have HT := Lib.hid hT
      have HG1 := Lib.hid hg1
      have R1 := Lib.hid r1
      have z1 : wr.frozen? ⟨g, 1, none⟩ = false := free_blk hg1 1
      have hld := run_LoadRowS wr.drew gl (M * 18) q (fun j x hx => by
        have hj : j < 18 := by have := (List.getElem?_eq_some_iff.1 hx).1; rwa [oneRow_length] at this
        exact hc M j x (by omega) hj (by rw [rowc_at _ M j hj, HPQ.out.2]; exact hx))
      have hst := run_StoreRowS wr.drew gl (r * 18) q (fun j hj => ⟨by
        have hx := rowc_at l r j hj
        rw [HPQ.out.1] at hx
        have := hc r j _ (by omega) hj (hx.trans (List.getElem?_eq_getElem (by rw [oneRow_length]; exact hj)))
        show (wr.cell? ⟨gl, r * 18 + j, none⟩).isSome = true
        rw [this]; rfl, hz _⟩)
      obtain ⟨cq, hcq⟩ : ∃ cq, (oneRow q).toArray = cq := ⟨_, rfl⟩
      rw [hcq] at hld hst
      have hrc := row_cells (oneRow q) (r * 18) wr.drew (rowc l) r1.drew
      rw [HX.out.2.1] at hrc
      obtain ⟨W9, hW9⟩ : ∃ W9, wr.drew.setCells gl (r * 18) (oneRow q) = W9 := ⟨_, rfl⟩
      rw [hW9] at hst hrc
      have HS := Lib.hid (And.intro hrc.1 ((((Touch.refl (fun b => b = gl) wr).drew)).same hrc.2))
      clear hc hz hrc ho hT hg1 r1 k0 hcq hW9
      rw [show ((16 : Nat) : Int) = 16 from rfl]
      go_upto_region 10 with fail
      go_cut [6] (fun v wx => RRemMid wr gl L cap (rowc (l.set r q)) (.slice A7 (outR m p).length cap7) v wx)
      case first =>
        go_region
        all_goals
          go_wp2
          go_meet
          exact ⟨rfl, HS.out⟩
      case rest =>
        clear HS hld hst k1 z1
        obtain ⟨rfl, hrow, hTm⟩ := hcut
        have hgc := (hTm.block g hgr (fun e => HX.out.2.2.2.2 e.symm)).trans HG1.out
        have k1 : wc.cell? ⟨g, 1, none⟩ = some (.slice (some ⟨gl, 0, none⟩) L cap) := by rw [cell_blk hgc 1, ← HL.out]; rfl
        have z1 : wc.frozen? ⟨g, 1, none⟩ = false := free_blk hgc 1
        have hglc := blk_lt hgc
        have hcutr := row_cut hrow (m := M) (by omega)
        rw [HX.out.2.2.1] at hcutr
        have hP : RRemPost w F g m l p r (.returned (.tuple #[.slice A7 (outR m p).length cap7, .bool true])) (wc.setCell ⟨g, 1, none⟩ (.slice (some ⟨gl, 0, none⟩) M cap)).drew := by
          have hTF : Touch F w wc := HT.out.mono (fun _ e => e.elim) |>.trans hTm (fun b (e : b = gl) => .inl (e ▸ HF.out.2.1))
          refine ⟨_, rfl, ?_, ⟨.slice (some ⟨gl, 0, none⟩) M cap, ?_, ?_, HF.out.1, fun b hb => ?_⟩, ((hTF.setCell (p := ⟨g, 1, none⟩) (.inl HF.out.1) _).drew)⟩
          · refine (row_touch (row_touch HO.out hTm ?_) (set_touch wc g _ _) ?_).drew
            · intro b hb (e : b = gl)
              exact HNF.out b (HO.out.lt b hb).1 (e ▸ HF.out.2.1)
            · intro b hb (e : b = g)
              exact HNF.out b (HO.out.lt b hb).1 (e ▸ HF.out.1)
          · exact set_blk hgc 1 _
          · rw [HX.out.1, HX.out.2.2.2.1]
            exact (row_touch hcutr (set_touch wc g _ _) (fun b hb (e : b = g) => HX.out.2.2.2.2 (by have e1 : gl = b := (by simpa [Value.ownBlock] using hb); rw [e1, e]))).drew
          · have e1 : gl = b := by simpa [Value.ownBlock] using hb
            exact e1 ▸ HF.out.2.1
        have HP := Lib.hid hP
        clear hgc hcutr hrow hTm hP HO HT HG1 R1
        go_wp2
        go_region
        all_goals
          go_wp2
          go_ret2
          exact HP.out
end Go.Proofs.Yticekldgjlihmaa
