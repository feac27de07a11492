/-
  What table.Remove returns, and what it leaves in memory.
-/
import Derived.Test.YticekldgjlihmaaM3
namespace Go.Proofs.Yticekldgjlihmaa
open Go.ChangeShapes Go.WideShapes Go.ChangeAt Go.RowKit Go.Maps

theorem index_col (v : Nat → Value) (k : Nat) (hk : k < 16) (W : World) : (Instr.index 123 (.agg #[v 0, v 1, v 2, v 3, v 4, v 5, v 6, v 7, v 8, v 9, v 10, v 11, v 12, v 13, v 14, v 15]) (.int .i64 (k : Int))).run Try.prog W = .ok (v k) W := by
  rcases k with _ | _ | _ | _ | _ | _ | _ | _ | _ | _ | _ | _ | _ | _ | _ | _ | k
  all_goals first | (exfalso; omega) | kernel_rfl

theorem info_cell : (Try.prog.info? 32).map (fun i => (i.zero, i.size, i.bytes)) = some (some (.agg #[.int .i64 0, .int .i64 0]), 2, 16) := by kernel_rfl
theorem idc_set (l : List (Int × Int)) (r : Nat) (i x : Int) : idc (l.set r (i, x)) = ((idc l).set (r * 2) (.int .i64 i)).set (r * 2 + 1) (.int .i64 x) := by
  induction l generalizing r with
  | nil => simp [idc]
  | cons p l ih =>
    cases r with
    | zero => simp [idc]
    | succ r =>
      have := ih r
      simp only [idc, List.flatMap_cons, List.set_cons_succ] at this ⊢
      rw [this, show (r + 1) * 2 = r * 2 + 1 + 1 from by omega]
      rfl

section
variable {w : World} {F : Nat → Prop} {g : Nat} {m : Int} {ids : List (Int × Int)} {cf : Nat → List Int} {D : DataW Unit} {n : Nat} {vi vm : Value} {vc : Nat → Value} {cs : Array Value}
/-- A cell of the list of entities is stored. -/
theorem TG.seti (h : TG w F g m ids cf D n vi vm vc cs) {gp L cap : Nat} (hv : vi = .slice (some ⟨gp, 0, none⟩) L cap) (hL : ids.length = L) (r : Nat) (i x : Int) :
    TG ((w.setCell ⟨gp, r * 2, none⟩ (.int .i64 i)).setCell ⟨gp, r * 2 + 1, none⟩ (.int .i64 x)) F g m (ids.set r (i, x)) cf D n vi vm vc cs := by
  have hob : vi.ownBlock = some gp := by rw [hv]; rfl
  have s : Touch (fun b => b = gp) w ((w.setCell ⟨gp, r * 2, none⟩ (.int .i64 i)).setCell ⟨gp, r * 2 + 1, none⟩ (.int .i64 x)) := (set_touch w gp _ _).same (set_touch _ gp _ _)
  refine ⟨(s.block g h.lt (fun (e : g = gp) => row_ne h.ri h.blk (by decide) (e ▸ hob))).trans h.blk, h.size, h.c0, h.c1, h.c2, h.cc, ?_, fun c hc => row_touch (h.rc c hc) s (fun k hk (e : k = gp) => row_row_ne h.ri (h.rc c hc) (by decide) hob (e ▸ hk)), h.mp.touch s (fun b hb (e : b = gp) => row_ne_map h.ri h.mp hb (e ▸ hob)), h.ap, h.fg, h.fi, h.fc, h.fm⟩
  have h1 := h.ri
  rw [hL, hv] at h1
  have h2 := ((h1.stored (r * 2) (.int .i64 i)).1.stored (r * 2 + 1) (.int .i64 x)).1
  rw [idc_set, List.length_set, hL, hv]
  exact h2
end

/-- What holds at the head of Remove's loop over the columns. -/
def RemRel (w : World) (F : Nat → Prop) (g : Nat) (m : Int) (ids : List (Int × Int)) (cf : Nat → List Int) (D : DataW Unit) (n r : Nat) (vi vm : Value) (vc : Nat → Value) (v i : Value) (wr : World) : Prop :=
  ∃ k : Nat, k ≤ 16 ∧ i = .int .i64 k ∧ (∃ vc' cs', TG wr F g m ids (remCol m cf r k) D n vi vm vc' cs' ∧ ∀ c, k ≤ c → vc' c = vc c) ∧ wr.ownsRow w.heap.size 32 2 v (outI m cf r k).length (idc (outI m cf r k)) ∧ Touch F w wr
/-- What holds behind 'removed, moved := ..'. -/
def RemMid (wb : World) (i0 x0 i1 x1 : Int) (va vb : Value) (wr : World) : Prop :=
  ∃ a b, va = .pointer (some ⟨a, 0, none⟩) ∧ vb = .pointer (some ⟨b, 0, none⟩) ∧ wb.heap.size ≤ a ∧ wb.heap.size ≤ b ∧ wr.heap[a]? = some (.cells #[.int .i64 i0, .int .i64 x0] 30 (0, 0)) ∧ wr.heap[b]? = some (.cells #[.int .i64 i1, .int .i64 x1] 30 (0, 0)) ∧ Touch NoB wb wr

theorem two_new (W : World) (X Y : Obj) : ((W.alloc X).alloc Y).heap[W.heap.size]? = some X ∧ ((W.alloc X).alloc Y).heap[W.heap.size + 1]? = some Y := by
  constructor
  · rw [Below.heap_alloc _ _ _ (by simp)]
    exact heap_alloc_new W X
  · have := heap_alloc_new (W.alloc X) Y
    simpa using this
theorem map_some {w : World} {vm : Value} {n : Nat} {D : DataW Unit} {kl : Lit} {d : DataW Unit} (hm : IsMap D) (hk : WideAt.IsKeyLit kl) (h : MapAt w vm n (D.put kl d)) : ∃ b, vm = .map (some b) ∧ w.ownsMap Try.prog 30 (plainElem Try.prog 3) b n (D.put kl d) := by
  rcases h with ⟨_, e⟩ | h
  · have := has_put_same hm hk d
    rw [e] at this
    cases this
  · exact h
theorem MapAt.isMap {w : World} {vm : Value} {n : Nat} {D : DataW Unit} (h : MapAt w vm n D) : IsMap D := by
  rcases h with ⟨_, rfl⟩ | ⟨b, _, h⟩
  · exact ⟨_, rfl⟩
  · exact h.isMap

/-- What Remove leaves. -/
def RemPost (w : World) (F : Nat → Prop) (g : Nat) (m : Int) (ids : List (Int × Int)) (cf : Nat → List Int) (D : DataW Unit) (n r : Nat) (e : Ending) (w' : World) : Prop :=
  ∃ v, e = .returned (.tuple #[v, .bool true]) ∧ w'.ownsRow w.heap.size 32 2 v (outI m cf r 16).length (idc (outI m cf r 16)) ∧ TO w' (Ext F w w') g m (cutAt (0, 0) ids r) (remCol m cf r 16) D n ∧ Touch F w w'

set_option maxHeartbeats 4000000 in
set_option maxRecDepth 100000 in
theorem tremove_yes (g r : Nat) (m i0 x0 i1 x1 : Int) (ids : List (Int × Int)) (cf : Nat → List Int) (D : DataW Unit) (n : Nat) (F : Nat → Prop) (w : World) (h : TO w F g m ids cf D n) (hF : InW w 0 F)
    (hm : 0 ≤ m) (hm2 : m < 65536) (hn : n < 1000000) (hL : ids.length < 1000000) (hr : r < ids.length) (hlen : ∀ c, c < 16 → bitB m c = true → (cf c).length = ids.length) (h0 : ids[r]? = some (i0, x0)) (h9 : ids[ids.length - 1]? = some (i1, x1)) (w0 : I64 i0 ∧ I64 x0) (w9 : I64 i1 ∧ I64 x1) :
    Calls Try.prog 63 #[.pointer (some ⟨g, 0, none⟩), .int .i64 r] w (RemPost w F g m ids cf ((D.put (klI i1 x1) (.lit (.int .i64 r))).del (klI i0 x0)) (n + 1) r) := by
  obtain ⟨vi, vm, vc, cs, h1⟩ := h
  have hL0 := hL
  obtain ⟨gi, cap1, rfl, hc1, hc2, hobi⟩ := row_form h1.ri (by omega)
  unfold maxLen at hc2
  have HR := Lib.hid (hasRow_any g r (some ⟨gi, 0, none⟩) ids.length cap1 w (by omega) h1.at1)
  rw [rowB_nat hr] at HR
  have k1 := h1.at1
  have q0 := h1.atc 0 (by omega)
  have q1 := h1.atc 1 (by omega)
  have q2 := h1.atc 2 (by omega)
  have q3 := h1.atc 3 (by omega)
  have q4 := h1.atc 4 (by omega)
  have q5 := h1.atc 5 (by omega)
  have q6 := h1.atc 6 (by omega)
  have q7 := h1.atc 7 (by omega)
  have q8 := h1.atc 8 (by omega)
  have q9 := h1.atc 9 (by omega)
  have q10 := h1.atc 10 (by omega)
  have q11 := h1.atc 11 (by omega)
  have q12 := h1.atc 12 (by omega)
  have q13 := h1.atc 13 (by omega)
  have q14 := h1.atc 14 (by omega)
  have q15 := h1.atc 15 (by omega)
  simp only [Nat.reduceAdd] at q0 q1 q2 q3 q4 q5 q6 q7 q8 q9 q10 q11 q12 q13 q14 q15
  have hix := index_col vc
  obtain ⟨ca, hca⟩ : ∃ ca, #[vc 0, vc 1, vc 2, vc 3, vc 4, vc 5, vc 6, vc 7, vc 8, vc 9, vc 10, vc 11, vc 12, vc 13, vc 14, vc 15] = ca := ⟨_, rfl⟩
  rw [hca] at hix
  have HIX := Lib.hid hix
  have HCA := Lib.hid hca
  obtain ⟨L, hLe⟩ : ∃ L, ids.length = L := ⟨_, rfl⟩
  have hL1 := hL
  rw [hLe] at k1 hr hL hc1 hlen h9
  obtain ⟨M, hM⟩ : ∃ M : Nat, L = M + 1 := ⟨L - 1, by omega⟩
  have hM1 : (L : Int) - 1 = (M : Int) := by omega
  have hrM : r ≤ M := by omega
  have hML : M < L := by omega
  have hl := h1.lt
  have H1 := Lib.hid h1
  have HF := Lib.hid hF
  have HLEN := Lib.hid hlen
  have HL := Lib.hid hLe
  have HW := Lib.hid (And.intro w0 w9)
  have H09 := Lib.hid (And.intro h0 h9)
  have HM := Lib.hid hM
  clear h1 hlen hLe hix hca hF w0 w9 h0 h9 hobi hL0 hL1 hM
  obtain ⟨j0, hj, hy0, hy1, hy2⟩ := info_parts info_cell
  go_enter Try.func63, Try.ntmps63
  go_wp2_with fail
  refine HR.out.mono ?_
  rintro e w1 ⟨rfl, rfl⟩
  go_wp2
  rw [HCA.out]
  clear q0 q1 q2 q3 q4 q5 q6 q7 q8 q9 q10 q11 q12 q13 q14 q15 k1 HR
  go_loopw [7, 26] (fun v i wr => RemRel w F g m ids cf D n r (.slice (some ⟨gi, 0, none⟩) ids.length cap1) vm vc v i wr) (fun _ i _ => 16 - (intOf i).toNat)
  case atStart => exact ⟨0, by omega, rfl, ⟨vc, cs, by rw [remCol_zero]; exact H1.out, fun _ _ => rfl⟩, World.ownsRow_nil _ _ _ _, Touch.refl _ _⟩
  case round =>
    obtain ⟨k, hk, rfl, ⟨vc', cs', h4, hsame⟩, ho4, hT4⟩ := hrel
    have hsr := hT4.size
    by_cases hlt : k < 16
    · have HCO := Lib.hid (hasCol_any g m k wr hm hm2 h4.at0)
      have hidx := HIX.out k hlt
      cases hbit : bitB m k
      · have e1 : colB m (k : Int) = false := by unfold colB; simp [hbit]
        rw [e1] at HCO
        have HN : Hid (RemRel w F g m ids cf D n r (.slice (some ⟨gi, 0, none⟩) ids.length cap1) vm vc u7 (.int .i64 ((k + 1 : Nat) : Int)) wr) := ⟨k + 1, by omega, rfl, ⟨vc', cs', by rw [remCol_no hbit]; exact h4, fun c hc => hsame c (by omega)⟩, by rw [outI_no hbit]; exact ho4, hT4⟩
        clear h4 hT4 ho4 hsame hbit e1
        go_wp2_with fail
        refine HCO.out.mono ?_
        rintro e wz ⟨rfl, rfl⟩
        go_wp2
        go_roundw
        case rel =>
          have := HN.out
          exact this
        case measure => simp [intOf]; omega
      · rw [colB_nat hlt hbit] at HCO
        have hr4 := h4.rc k hlt
        rw [hsame k (Nat.le_refl _), remCol_at, HLEN.out k hlt hbit] at hr4
        obtain ⟨gp, cap4, hv4, hc5, hc6, hob4⟩ := row_form hr4 (by omega)
        unfold maxLen at hc6
        rw [hv4] at hidx hr4
        have hlk := HLEN.out k hlt hbit
        obtain ⟨y, hy⟩ : ∃ y, (cf k)[r]? = some y := ⟨_, List.getElem?_eq_getElem (by omega)⟩
        obtain ⟨z, hz⟩ : ∃ z, (cf k)[M]? = some z := ⟨_, List.getElem?_eq_getElem (by omega)⟩
        have kr : wr.cell? ⟨gp, r, none⟩ = some (.int .i64 y) := by rw [hr4.cellAt r (by omega)]; simp [ic, hy]
        have hgpF : F gp := h4.fc k hlt gp (by rw [hsame k (Nat.le_refl _), hv4]; rfl)
        have hgpl : gp < wr.heap.size := row_lt hr4 rfl
        have hgl : g < wr.heap.size := h4.lt
        have hgg : gp ≠ g := fun e => row_ne hr4 h4.blk (by decide) (by rw [e]; rfl)
        have k3 : wr.cell? ⟨g, 3 + k, none⟩ = some (.slice (some ⟨gp, 0, none⟩) L cap4) := by rw [h4.atc k hlt, hsame k (Nat.le_refl _), hv4]
        have hol := outI_length m cf r k
        obtain ⟨A7, cap7, rfl, hc7, hc8⟩ := row_any ho4
        unfold maxLen at hc8
        obtain ⟨out, hout⟩ : ∃ out, outI m cf r k = out := ⟨_, rfl⟩
        rw [hout] at hol ho4 hc7
        rw [hout]
        obtain ⟨K7, hK7⟩ : ∃ K7, out.length = K7 := ⟨_, rfl⟩
        rw [hK7] at hol ho4 hc7
        rw [hK7]
        have hnF : ∀ b, (Value.slice A7 K7 cap7).ownBlock = some b → ¬ F b := fun b hb hf => by have h8 := (ho4.lt b hb).1; have h9 := (HF.out b hf).2; omega
        have H4 := Lib.hid h4
        have HS := Lib.hid hsame
        have R4 := Lib.hid hr4
        have HO4 := Lib.hid ho4
        have HT4 := Lib.hid hT4
        have HV4 := Lib.hid hv4
        have HB := Lib.hid hbit
        have HYZ := Lib.hid (And.intro hlk (And.intro hy hz))
        have HOUT := Lib.hid (And.intro hout hK7)
        have HNF := Lib.hid hnF
        have HGF := Lib.hid hgpF
        clear h4 hsame hr4 ho4 hT4 hv4 hbit hlk hy hz hout hK7 hnF hgpF hob4
        go_wp2_with fail
        refine HCO.out.mono ?_
        rintro e wz ⟨rfl, rfl⟩
        go_wp2_with (at_builtin; refine wpList_append_own_at _ rfl (.tmp 33) (.tmp 40) 33 rfl w.heap.size 32 j0 _ 2 16 Try.underlying33 hj hy0 hy1 hy2 rfl (by decide) (.slice A7 K7 cap7) K7 (idc out) rfl ?o1 ⟨wr.heap.size, 0, none⟩ 1 1 [.int .i64 k, .int .i64 y] rfl rfl ?c1 ?c2 ?c3 ?c4 ?c5 ?go)
        case o1 => exact HO4.out.alloc _
        case c1 => exact World.news_of_block (cs := #[.int .i64 k, .int .i64 y]) (alloc_blk wr _ 32 rfl)
        case c2 => intro u hu; simp at hu; rcases hu with rfl | rfl <;> rfl
        case c3 => unfold maxLen; omega
        case c4 => omega
        case c5 => simp; omega
        case go =>
        intro v7 wx hown hgrow _ hat
        have TR : Touch (fun b => (Value.slice A7 K7 cap7).ownBlock = some b) wr wx := ((Touch.refl _ wr).alloc _).grown hgrow (fun _ e => .inl e)
        have hGF : ∀ b (c : Nat), (Value.slice (some ⟨gp, 0, none⟩) c cap4).ownBlock = some b → F b := by
          intro b c hb
          have e : gp = b := by simpa [Value.ownBlock] using hb
          subst e
          exact HGF.out
        have h5 := H4.out.keep TR (fun b hb e => HNF.out b e hb)
        have r5 := row_touch R4.out TR (fun b hb e => HNF.out b e (hGF b _ hb))
        have f1 : wx.cell? ⟨gp, r, none⟩ = some (.int .i64 y) := by rw [r5.cellAt r (by omega)]; simp [ic, HYZ.out.2.1]
        have f2 : wx.cell? ⟨gp, M, none⟩ = some (.int .i64 z) := by rw [r5.cellAt M (by omega)]; simp [ic, HYZ.out.2.2]
        have f3 : wx.frozen? ⟨gp, r, none⟩ = false := r5.frozenAt _
        have f4 : wx.cell? ⟨g, 3 + k, none⟩ = some (.slice (some ⟨gp, 0, none⟩) L cap4) := by rw [h5.atc k hlt, HS.out k (Nat.le_refl _), HV4.out]
        have f5 : wx.frozen? ⟨g, 3 + k, none⟩ = false := h5.free _
        have f6 : gp < wx.heap.size := by have := TR.size; omega
        have f7 : g < wx.heap.size := by have := TR.size; omega
        have hvk : vc' k = .slice (some ⟨gp, 0, none⟩) L cap4 := by rw [HS.out k (Nat.le_refl _), HV4.out]
        have hlk2 : (remCol m cf r k k).length = L := by rw [remCol_at]; exact HYZ.out.1
        have h6 := h5.setc hlt hvk hlk2 r z
        have r6 := (r5.stored r (.int .i64 z)).1
        have r7 := row_cut r6 (m := M) (by omega)
        have ecut : ((ic (cf k)).set r (.int .i64 z)).take (M * 1) = ic (cutAt 0 (cf k) r) := by
          unfold cutAt
          rw [HYZ.out.1, HM.out, show M + 1 - 1 = M from rfl, List.getD_eq_getElem?_getD, HYZ.out.2.2]
          simp [ic, List.map_take, List.map_set]
        rw [ecut] at r7
        have hcl : (cutAt 0 (cf k) r).length = M := by rw [cutAt_length, HYZ.out.1, HM.out]; rfl
        have h7 := h6.putc hlt (Touch.refl _ _) (v' := .slice (some ⟨gp, 0, none⟩) M cap4) (l' := cutAt 0 (cf k) r) (G := F) (by rw [hcl]; exact r7) (fun _ e => e) (fun b hb => hGF b _ hb) (fun b hb => .inl (by rw [hvk]; exact hb))
        have ecol : colSet (colSet (remCol m cf r k) k ((remCol m cf r k k).set r z)) k (cutAt 0 (cf k) r) = remCol m cf r (k + 1) := by
          rw [← remCol_yes HB.out]
          funext c
          unfold colSet
          split <;> rfl
        rw [ecol] at h7
        have hTx : Touch F w wx := HT4.out.trans TR (fun b hb => .inr (HO4.out.lt b hb).1)
        have T7 : Touch F w ((wx.setCell ⟨gp, r, none⟩ (.int .i64 z)).setCell ⟨g, 3 + k, none⟩ (.slice (some ⟨gp, 0, none⟩) M cap4)) :=
          Touch.setCell (Touch.setCell hTx (p := ⟨gp, r, none⟩) (.inl HGF.out) _) (p := ⟨g, 3 + k, none⟩) (.inl H4.out.fg) _
        have ho7 : ((wx.setCell ⟨gp, r, none⟩ (.int .i64 z)).setCell ⟨g, 3 + k, none⟩ (.slice (some ⟨gp, 0, none⟩) M cap4)).ownsRow w.heap.size 32 2 v7 (outI m cf r (k + 1)).length (idc (outI m cf r (k + 1))) := by
          have h8 : wx.ownsRow w.heap.size 32 2 v7 (outI m cf r (k + 1)).length (idc (outI m cf r (k + 1))) := by
            rw [outI_yes HB.out, HOUT.out.1, List.length_append, HOUT.out.2, idc_snoc, List.getD_eq_getElem?_getD, HYZ.out.2.1]
            exact hown
          refine row_touch (row_touch h8 (set_touch _ gp _ _) ?_) (set_touch _ g _ _) ?_
          · intro b hb (e : b = gp)
            exact row_row_ne h8 r5 (by decide) hb (by rw [e]; rfl)
          · intro b hb (e : b = g)
            exact row_ne h8 h5.blk (by decide) (by rw [← e]; exact hb)
        have HN : Hid (RemRel w F g m ids cf D n r (.slice (some ⟨gi, 0, none⟩) ids.length cap1) vm vc v7 (.int .i64 ((k + 1 : Nat) : Int)) ((wx.setCell ⟨gp, r, none⟩ (.int .i64 z)).setCell ⟨g, 3 + k, none⟩ (.slice (some ⟨gp, 0, none⟩) M cap4)).drew) :=
          ⟨k + 1, by omega, rfl, ⟨_, _, h7.quiet ((Touch.refl _ _).drew), fun c hc => by rw [valSet_other _ (by omega)]; exact HS.out c (by omega)⟩, ho7.drew, T7.drew⟩
        clear hown hgrow hat TR hGF h5 r5 hvk hlk2 h6 r6 r7 ecut hcl h7 ecol hTx T7 ho7 H4 R4 HO4 HT4 HS kr k3 hgpl hgl
        go_wp2
        go_region
        all_goals
          go_wp2
          go_roundw
          case rel =>
            have := HN.out
            exact this
          case measure => simp [intOf]; omega
    · obtain rfl : k = 16 := by omega
      have hri := h4.ri
      have hi0 := H09.out.1
      have hi9 := H09.out.2
      rw [HL.out] at hri
      have hMe : L - 1 = M := by have := HM.out; omega
      rw [hMe] at hi9
      have c0 : wr.cell? ⟨gi, r * 2, none⟩ = some (.int .i64 i0) := by rw [hri.cellAt (r * 2) (by omega), idc_at0, hi0]; rfl
      have c1 : wr.cell? ⟨gi, r * 2 + 1, none⟩ = some (.int .i64 x0) := by rw [hri.cellAt (r * 2 + 1) (by omega), idc_at1, hi0]; rfl
      have c2 : wr.cell? ⟨gi, M * 2, none⟩ = some (.int .i64 i1) := by rw [hri.cellAt (M * 2) (by omega), idc_at0, hi9]; rfl
      have c3 : wr.cell? ⟨gi, M * 2 + 1, none⟩ = some (.int .i64 x1) := by rw [hri.cellAt (M * 2 + 1) (by omega), idc_at1, hi9]; rfl
      have k1 : wr.cell? ⟨g, 1, none⟩ = some (.slice (some ⟨gi, 0, none⟩) L cap1) := by rw [h4.at1, HL.out]
      have hgl : g < wr.heap.size := h4.lt
      have hgil : gi < wr.heap.size := row_lt hri rfl
      obtain ⟨A7, cap7, rfl, hc7, hc8⟩ := row_any ho4
      have H4 := Lib.hid h4
      have HO4 := Lib.hid ho4
      have HT4 := Lib.hid hT4
      have RI := Lib.hid hri
      have H9 := Lib.hid hi9
      clear h4 ho4 hT4 hri hi0 hi9 hsame hMe hc7 hc8
      rw [show ((16 : Nat) : Int) = 16 from rfl]
      go_upto_region 13 with fail
      go_cut [10, 11] (fun va vb wx => RemMid wr i0 x0 i1 x1 va vb wx)
      case first =>
        go_region
        all_goals
          go_wp2
          go_meet
          first
            | exact ⟨_, _, rfl, rfl, by simp, by simp, (two_new wr _ _).1, (two_new wr _ _).2, ((((Touch.refl _ _).alloc _).alloc _).drew)⟩
            | exact ⟨_, _, rfl, rfl, by simp, by simp, (two_new wr _ _).2, (two_new wr _ _).1, ((((Touch.refl _ _).alloc _).alloc _).drew)⟩
      case rest =>
        obtain ⟨a, b, rfl, rfl, ha, hb, hA, hB, hT5⟩ := hcut
        have h5 := H4.out.quiet hT5
        have r5 := row_touch RI.out hT5 (fun _ _ e => e)
        have b0 : wc.cell? ⟨b, 0, none⟩ = some (.int .i64 i1) := cell_blk hB 0
        have b1 : wc.cell? ⟨b, 1, none⟩ = some (.int .i64 x1) := cell_blk hB 1
        have e0 : wc.cell? ⟨gi, r * 2, none⟩ = some (.int .i64 i0) := (hT5.cell (p := ⟨gi, r * 2, none⟩) hgil (fun e => e)).trans c0
        have e1 : wc.cell? ⟨gi, r * 2 + 1, none⟩ = some (.int .i64 x0) := (hT5.cell (p := ⟨gi, r * 2 + 1, none⟩) hgil (fun e => e)).trans c1
        have e2 : wc.frozen? ⟨gi, r * 2, none⟩ = false := r5.frozenAt _
        have e3 : wc.frozen? ⟨gi, r * 2 + 1, none⟩ = false := r5.frozenAt _
        have e4 : wc.cell? ⟨g, 1, none⟩ = some (.slice (some ⟨gi, 0, none⟩) L cap1) := by rw [h5.at1, HL.out]
        have e5 : wc.frozen? ⟨g, 1, none⟩ = false := h5.free 1
        have hgic : gi < wc.heap.size := by have := hT5.size; omega
        have hgc : g < wc.heap.size := by have := hT5.size; omega
        have hgne : gi ≠ g := fun e => row_ne r5 h5.blk (by decide) (by rw [e]; rfl)
        have hbgi : b ≠ gi := by omega
        have hbg : b ≠ g := by omega
        have h6 := h5.seti (L := ids.length) rfl rfl r i1 x1
        have r6 := ((r5.stored (r * 2) (.int .i64 i1)).1.stored (r * 2 + 1) (.int .i64 x1)).1
        have r7 := row_cut r6 (m := M) (by omega)
        have ecut : (((idc ids).set (r * 2) (.int .i64 i1)).set (r * 2 + 1) (.int .i64 x1)).take (M * 2) = idc (cutAt (0, 0) ids r) := by
          rw [← idc_set]
          unfold cutAt
          rw [HL.out, HM.out, show M + 1 - 1 = M from rfl, List.getD_eq_getElem?_getD, H9.out]
          have key : ∀ (l : List (Int × Int)) (q : Nat), (idc l).take (q * 2) = idc (l.take q) := by
            intro l
            induction l with
            | nil => intro q; simp [idc]
            | cons p l ih =>
              intro q
              cases q with
              | zero => simp [idc]
              | succ q =>
                have := ih q
                simp only [idc, List.flatMap_cons, List.take_succ_cons] at this ⊢
                rw [← this, show (q + 1) * 2 = q * 2 + 1 + 1 from by omega]
                rfl
          exact key _ _
        rw [ecut] at r7
        have hcl : (cutAt (0, 0) ids r).length = M := by rw [cutAt_length, HL.out, HM.out]; rfl
        have hfi : ∀ q, (Value.slice (some ⟨gi, 0, none⟩) M cap1).ownBlock = some q → F q := by
          intro q hq
          exact h5.fi q (by simpa [Value.ownBlock] using hq)
        have h7 := h6.put1 (Touch.refl _ _) (vi' := .slice (some ⟨gi, 0, none⟩) M cap1) (ids' := cutAt (0, 0) ids r) (G := F) (by rw [hcl]; exact r7) (fun _ e => e) hfi
        have T7 : Touch F wr (((wc.setCell ⟨gi, r * 2, none⟩ (.int .i64 i1)).setCell ⟨gi, r * 2 + 1, none⟩ (.int .i64 x1)).setCell ⟨g, 1, none⟩ (.slice (some ⟨gi, 0, none⟩) M cap1)) :=
          Touch.setCell (Touch.setCell (Touch.setCell (hT5.mono (fun _ e => e.elim)) (p := ⟨gi, r * 2, none⟩) (.inl (hfi gi rfl)) _) (p := ⟨gi, r * 2 + 1, none⟩) (.inl (hfi gi rfl)) _) (p := ⟨g, 1, none⟩) (.inl h5.fg) _
        obtain ⟨w3, hw3⟩ : ∃ w3, (((wc.setCell ⟨gi, r * 2, none⟩ (.int .i64 i1)).setCell ⟨gi, r * 2 + 1, none⟩ (.int .i64 x1)).setCell ⟨g, 1, none⟩ (.slice (some ⟨gi, 0, none⟩) M cap1)).drew = w3 := ⟨_, rfl⟩
        have h8 := h7.quiet ((Touch.refl _ _).drew)
        have T8 := T7.drew
        rw [hw3] at h8 T8
        have nF : ∀ q, wr.heap.size ≤ q → ¬ F q := fun q hq hf => by have h1 := (HF.out q hf).2; have h2 := HT4.out.size; omega
        have hA3 : w3.heap[a]? = some (.cells #[.int .i64 i0, .int .i64 x0] 30 (0, 0)) := by
          rw [← hw3]
          show (((wc.setCell ⟨gi, r * 2, none⟩ (.int .i64 i1)).setCell ⟨gi, r * 2 + 1, none⟩ (.int .i64 x1)).setCell ⟨g, 1, none⟩ (.slice (some ⟨gi, 0, none⟩) M cap1)).heap[a]? = _
          rw [Below.heap_setCell _ _ _ _ (by show a ≠ g; omega), Below.heap_setCell _ _ _ _ (by show a ≠ gi; omega), Below.heap_setCell _ _ _ _ (by show a ≠ gi; omega)]
          exact hA
        have hB3 : w3.heap[b]? = some (.cells #[.int .i64 i1, .int .i64 x1] 30 (0, 0)) := by
          rw [← hw3]
          show (((wc.setCell ⟨gi, r * 2, none⟩ (.int .i64 i1)).setCell ⟨gi, r * 2 + 1, none⟩ (.int .i64 x1)).setCell ⟨g, 1, none⟩ (.slice (some ⟨gi, 0, none⟩) M cap1)).heap[b]? = _
          rw [Below.heap_setCell _ _ _ _ (by show b ≠ g; omega), Below.heap_setCell _ _ _ _ (by show b ≠ gi; omega), Below.heap_setCell _ _ _ _ (by show b ≠ gi; omega)]
          exact hB
        have d0 : w3.cell? ⟨b, 0, none⟩ = some (.int .i64 i1) := cell_blk hB3 0
        have d1 : w3.cell? ⟨b, 1, none⟩ = some (.int .i64 x1) := cell_blk hB3 1
        have HPL := Lib.hid (place_any g m i1 x1 r _ _ D n _ vm _ _ F w3 h8 HW.out.2.1 HW.out.2.2 (nat_i64 (by omega)) hn)
        have hal := blk_lt hA3
        have HW3 := Lib.hid hw3
        have HA3 := Lib.hid hA3
        have T8H := Lib.hid T8
        have H8 := Lib.hid h8
        have NF := Lib.hid (nF a ha)
        clear h5 r5 h6 r6 r7 ecut hcl hfi h7 T7 hw3 h8 T8 nF hA3 hB3 hA hB hT5 c0 c1 c2 c3 k1 H4 RI
        go_wp2
        go_region
        go_wp2_with fail
        rw [HW3.out]
        refine HPL.out.mono ?_
        rintro e w6 ⟨rfl, ⟨vm6, cs6, h9⟩, hT9⟩
        obtain ⟨b6, rfl, hown6⟩ := map_some H8.out.mp.isMap (kl_key HW.out.2.1 HW.out.2.2) h9.mp
        have hA6 : w6.heap[a]? = some (.cells #[.int .i64 i0, .int .i64 x0] 30 (0, 0)) := (hT9.block a hal NF.out).trans HA3.out
        have f0 : w6.cell? ⟨a, 0, none⟩ = some (.int .i64 i0) := cell_blk hA6 0
        have f1 : w6.cell? ⟨a, 1, none⟩ = some (.int .i64 x0) := cell_blk hA6 1
        have f2 : w6.cell? ⟨g, 2, none⟩ = some (.map (some b6)) := h9.at2
        have hg6 := h9.lt
        have ha6 := blk_lt hA6
        obtain ⟨w8, hrun, ho8, ht8⟩ := World.ownsMap.drop (hown6.drew) lawId Try.underlying122 (key_id HW.out.1.1 HW.out.1.2) 0
        have hz8 : w6.heap.size ≤ w8.heap.size := ht8.grown.size
        have h10 := (h9.quiet ((Touch.refl _ _).drew)).putm rfl ht8.grown ho8
        have T10 : Touch F wr w8 := by
          have e1 : Touch (Ext F w3 w6) w6 w8 := ((Touch.refl _ w6).drew).grown ht8.grown (fun q e => by injection e with e; subst e; exact .inl (h9.fm b6 rfl))
          exact (T8H.out.same hT9).trans e1 (fun q hq => hq.elim .inl (fun e => .inr (by have := T8H.out.size; omega)))
        have T11 : Touch F w w8 := HT4.out.trans T10 (fun q hq => .inl hq)
        have ho11 : w8.ownsRow w.heap.size 32 2 (.slice A7 (outI m cf r 16).length cap7) (outI m cf r 16).length (idc (outI m cf r 16)) :=
          row_touch HO4.out T10 (fun q hq hf => by have h1 := (HO4.out.lt q hq).1; have h2 := (HF.out q hf).2; omega)
        have HP : Hid (RemPost w F g m ids cf ((D.put (klI i1 x1) (.lit (.int .i64 r))).del (klI i0 x0)) (n + 1) r (.returned (.tuple #[.slice A7 (outI m cf r 16).length cap7, .bool true])) w8) :=
          ⟨_, rfl, ho11, ⟨_, _, _, _, h10.more (fun q hq => by
            rcases hq with x | ⟨x, y⟩
            · exact .inl x
            · exact .inr ⟨by have h1 := T8H.out.size; have h2 := HT4.out.size; omega, by omega⟩)⟩, T11⟩
        clear h9 hT9 hown6 hA6 ho8 ht8 h10 T10 T11 ho11
        go_wp2
        go_region
        go_wp2
        go_ret2
        exact HP.out

set_option maxHeartbeats 1000000 in
theorem tremove_no (g : Nat) (m r : Int) (ids : List (Int × Int)) (cf : Nat → List Int) (D : DataW Unit) (n : Nat) (F : Nat → Prop) (w : World) (h : TO w F g m ids cf D n) (hno : rowB ids.length r = false) :
    Calls Try.prog 63 #[.pointer (some ⟨g, 0, none⟩), .int .i64 r] w fun e w' => e = .returned (.tuple #[.slice none 0 0, .bool false]) ∧ w = w' := by
  have hL := h.len
  obtain ⟨vi, vm, vc, cs, hT⟩ := h
  obtain ⟨A, cap, rfl, h1, h2⟩ := row_any hT.ri
  have HR := Lib.hid (hasRow_any g r A ids.length cap w hL hT.at1)
  rw [hno] at HR
  clear hT
  go_enter Try.func63, Try.ntmps63
  go_wp2_with fail
  refine HR.out.mono ?_
  rintro e w' ⟨rfl, rfl⟩
  go_wp2
  go_ret2
  exact ⟨rfl, rfl⟩
end Go.Proofs.Yticekldgjlihmaa
