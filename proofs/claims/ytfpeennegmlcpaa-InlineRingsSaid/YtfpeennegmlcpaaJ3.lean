/-
  Package inline's node over bare nodes. Conditions: those that each theorem names.
-/
import Derived.Test.YtfpeennegmlcpaaJ2
import Derived.Test.YtfpeennegmlcpaaI4
namespace Go.Proofs.Ytfpeennegmlcpaa
open Go.ChangeShapes Go.WideShapes Go.ChangeAt Go.RowKit
set_option maxRecDepth 100000
set_option maxHeartbeats 20000000
attribute [local go_sem ↓] loadN_of storeN_of loadE_of storeE_of

/-- Behind a store to one cell of a node's box. -/
theorem BxAt.setj {W : World} {bx k : Nat} {s : ByteArray} {u u' v : Value} (h : BxAt W bx k s u) (j : Nat) (hj : (ndC k s u')[j]? = some v) (ho : ∀ i x, (ndC k s u')[i]? = some x → i ≠ j → (ndC k s u)[i]? = some x) : BxAt (W.setCell ⟨bx, j, none⟩ v) bx k s u' ∧ Touch (fun b => b = bx) W (W.setCell ⟨bx, j, none⟩ v) := by
  obtain ⟨us, h1, h2, h3⟩ := h
  have hj10 : j < 10 := by have := (List.getElem?_eq_some_iff.1 hj).1; simpa [ndC] using this
  have hb := set_blk h1 j v
  refine ⟨⟨_, hb, by rw [Array.size_setIfInBounds]; exact h2, fun i x hx => ?_⟩, (Touch.refl (fun b => b = bx) W).setCell (p := ⟨bx, j, none⟩) (.inl rfl) _⟩
  rw [Nat.zero_add, cell_blk hb i]
  by_cases e : i = j
  · subst e
    rw [Array.getElem?_setIfInBounds_self_of_lt (by omega)]
    rw [hj] at hx
    exact hx
  · rw [Array.getElem?_setIfInBounds_ne (fun h => e h.symm), ← cell_blk h1 i]
    have := h3 i x (ho i x hx e)
    rw [Nat.zero_add] at this
    exact this
theorem BxAt.set8 {W : World} {bx k : Nat} {s : ByteArray} {u : Value} (h : BxAt W bx k s u) (v : Value) : BxAt (W.setCell ⟨bx, 8, none⟩ v) bx k s v ∧ Touch (fun b => b = bx) W (W.setCell ⟨bx, 8, none⟩ v) :=
  h.setj 8 rfl (fun i x hx hi => by
    have : i < 10 := by have := (List.getElem?_eq_some_iff.1 hx).1; simpa [ndC] using this
    match i, this with
    | 0, _ => exact hx | 1, _ => exact hx | 2, _ => exact hx | 3, _ => exact hx | 4, _ => exact hx | 5, _ => exact hx | 6, _ => exact hx | 7, _ => exact hx | 8, _ => exact absurd rfl hi | 9, _ => exact hx)
theorem BxAt.set9 {W : World} {bx k : Nat} {s : ByteArray} {u : Value} (h : BxAt W bx k s u) : BxAt (W.setCell ⟨bx, 9, none⟩ (.slice none 0 0)) bx k s u ∧ Touch (fun b => b = bx) W (W.setCell ⟨bx, 9, none⟩ (.slice none 0 0)) :=
  h.setj 9 rfl (fun _ _ hx _ => hx)
/-- The expression in a node's box, loaded and stored again. -/
theorem BxAt.loadE {W : World} {bx k : Nat} {s : ByteArray} {u : Value} (h : BxAt W bx k s u) : (LoadE (.pointer (some ⟨bx, 4, none⟩))).run Try.prog W = .ok (.agg #[.int .i64 0, .int .i64 0, .string ⟨#[]⟩, .slice none 0 0]) W := by
  obtain ⟨us, h1, h2, h3⟩ := h
  refine run_LoadE W bx 4 zE rfl (fun j v hj => ?_)
  have h4 : (ndC k s u)[4 + j]? = some v := by
    have : j < 4 := by have := (List.getElem?_eq_some_iff.1 hj).1; simpa [zE] using this
    match j, this with
    | 0, _ => exact hj | 1, _ => exact hj | 2, _ => exact hj | 3, _ => exact hj
  have := h3 (4 + j) v h4
  rw [Nat.zero_add] at this
  exact this
theorem BxAt.storeE {W : World} {bx k : Nat} {s : ByteArray} {u : Value} (h : BxAt W bx k s u) : ∃ W', (StoreE (.pointer (some ⟨bx, 4, none⟩)) (.agg #[.int .i64 0, .int .i64 0, .string ⟨#[]⟩, .slice none 0 0])).run Try.prog W = .ok () W' ∧ BxAt W' bx k s u ∧ Touch (fun b => b = bx) W W' := by
  obtain ⟨us, h1, h2, h3⟩ := h
  have ht : W.there bx 4 zE.length := fun j hj => ⟨by rw [Lib.cell_of_heap h1]; simp; simp [zE] at hj; omega, free_blk h1 _⟩
  obtain ⟨us', hb', hs'⟩ := blk_setCells bx zE 4 W h1
  refine ⟨W.setCells bx 4 zE, ?_, ⟨us', hb', hs'.trans h2, fun i x hx => ?_⟩, touch_setCells bx zE 4 W W (Touch.refl _ _)⟩
  · have := run_storeAt_mid W bx 4 27 zE.toArray (by simpa using ht) (P := Try.prog) (by rw [List.size_toArray]; exact size_e) (all_oneCell_toArray (by intro u hu; simp only [zE, List.mem_cons, List.not_mem_nil, or_false] at hu; rcases hu with rfl | rfl | rfl | rfl <;> rfl))
    have e : zE.toArray.toList = zE := by simp
    rw [e] at this
    exact this
  · by_cases hi : 4 ≤ i ∧ i < 8
    · have h4 := World.rangeAt_setCells_same W bx 4 zE ht (i - 4) x (by
        have hi8 := hi.2
        have hi4 := hi.1
        obtain ⟨j, rfl⟩ : ∃ j, i = 4 + j := ⟨i - 4, by omega⟩
        have : j < 4 := by omega
        rw [Nat.add_sub_cancel_left]
        match j, this with
        | 0, _ => exact hx | 1, _ => exact hx | 2, _ => exact hx | 3, _ => exact hx)
      rw [show 4 + (i - 4) = 0 + i by omega] at h4
      exact h4
    · rw [World.cell?_setCells_out bx zE 4 W ⟨bx, 0 + i, none⟩ (fun _ _ => by simp [zE]; omega)]
      exact h3 i x hx
theorem BxAt.free {W : World} {bx k : Nat} {s : ByteArray} {u : Value} (h : BxAt W bx k s u) (j : Nat) : W.frozen? ⟨bx, j, none⟩ = false := by obtain ⟨us, h1, -⟩ := h; exact free_blk h1 j
section
variable (w : World) (B eb ob mb tb D : Nat) (ts : List TrP)
/-- At the head of a round of the loop that shuts the trees again, of which k are still to come. -/
def LpRel (B0 : Nat) (ls : List Nat) (o2 : List Bool) (c2 x3 k' : Nat) (s' : ByteArray) (v1 v2 : Value) (lo : Nat) (f : Nat) (kl : List BN) (k : Nat) (v : Value) (wr : World) : Prop :=
  ∃ i : Nat, v = .int .i64 (i : Int) ∧ i ≤ ls.length ∧ k = ls.length - i ∧ EX wr B eb ob mb tb D ts (shutM o2 (ls.take i)) c2 x3 ∧ BxAt wr w.heap.size k' s' v2 ∧ BxAt wr (w.heap.size + 1) 0 ⟨#[]⟩ (.slice none 0 0) ∧ wr.ownsRow B0 3 1 v1 ls.length (intsN ls) ∧ Touch (fun b => b = eb ∨ b = ob) w wr ∧ KL wr (fun b => lo ≤ b ∧ b < wr.heap.size) f kl v2
end
theorem node_any {B eb ob mb tb D : Nat} {ts : List TrP} : ∀ {f d : Nat}, d + f = 42 → 1 ≤ f → NoOk B eb ob mb tb D ts f d
  | 0, d, _, h1 => absurd h1 (by omega)
  | f + 1, d, hdf, _ => by
    intro w o c x n u h hx hc hn hu
    have HL := Lib.hid h.lts
    obtain ⟨R, hR⟩ : ∃ R, nodM ts (f + 1) d o c n = R := ⟨_, rfl⟩
    rw [hR]
    have HF := Lib.hid (fun (W : World) (t : Touch NoB w W) => follow_any (h.keep t) hn (hu.via t (fun b hb => ⟨fun f => f, hb⟩)))
    have HE := Lib.hid (And.intro hR (And.intro hx hc))
    clear h hn hu hR hx hc
    obtain ⟨W0, hW0⟩ : ∃ W0, (w.alloc (.cells (ndC n.kd n.nm u).toArray 30)).alloc (.cells (ndC 0 ⟨#[]⟩ (.slice none 0 0)).toArray 30) = W0 := ⟨_, rfl⟩
    have t0 : Touch NoB w W0 := hW0 ▸ ((Touch.refl NoB w).alloc _).alloc _
    have hbx : BxAt W0 w.heap.size n.kd n.nm u := hW0 ▸ (BxAt.new (mk_blk w _ _ rfl)).keep ((Touch.refl NoB _).alloc _) (fun f => f)
    have hrx : BxAt W0 (w.heap.size + 1) 0 ⟨#[]⟩ (.slice none 0 0) := hW0 ▸ BxAt.new (mk_blk (w.alloc _) _ _ (by simp))
    have hload := hbx.load
    have HF0 := Lib.hid (HF.out W0 t0)
    obtain ⟨k0, s0, ks0⟩ := n
    simp only [BN.kd, BN.nm, ndC, ndV, nat0] at hload hW0
    have HF1 := HF0
    unfold ndV at HF1
    simp only [BN.kd, BN.nm] at HF1
    have HW0 := Lib.hid hW0
    have HB := Lib.hid (And.intro hbx (And.intro hrx t0))
    clear hW0 hbx hrx t0 HF HF0
    unfold ndV
    simp only [BN.kd, BN.nm]
    go_enter Try.func43, Try.ntmps43
    go_wp2_with fail
    rw [HW0.out, hload]
    go_wp2_with fail
    refine HF1.out.mono ?_
    rintro r w1 ⟨t1, herr, hok⟩
    have hb := HL.out
    have hbx1 := HB.out.1.keep t1 (by omega)
    have hrx1 := HB.out.2.1.keep t1 (by omega)
    have T1 : Touch (fun b => b = eb ∨ b = ob) w w1 := (HB.out.2.2.mono (fun _ f => f.elim)).same (t1.mono (fun b hb => .inr hb))
    rcases hR1 : folM ts (ts.length + 1) o (.mk k0 s0 ks0) with er | ⟨n', ls, o'⟩
    · have he := herr er hR1
      have her := folM_pos hR1
      have hz : ((er : Int) != 0) = true := by simp; omega
      have HR2 : Hid (R = .error er) := Lib.hid (by rw [← HE.out.1]; simp only [nodM, hR1])
      unfold ndV at he
      simp only [BN.kd, BN.nm, nat0] at he
      subst he
      obtain ⟨W2, hst2, hbx2, t2⟩ := hbx1.store (.mk 0 ⟨#[]⟩ []) (u' := .slice none 0 0) rfl
      obtain ⟨W3, hst3, hrx3, t3⟩ := (hrx1.keep t2 (by omega)).store (.mk 0 ⟨#[]⟩ []) (u' := .slice none 0 0) rfl
      obtain ⟨c0, c1, c2, c3, c4, c5, c6, c7, c8, c9⟩ := hrx3.cells
      unfold ndV at hst2 hst3
      simp only [BN.kd, BN.nm, nat0] at hst2 hst3 c0 c3
      have HT3 := Lib.hid ((T1.trans t2 (fun b hb => .inr (by omega))).trans t3 (fun b hb => .inr (by omega)))
      clear herr hok hbx1 hrx1 T1 t1 t2 t3 hbx2 hrx3 hR1 hload
      go_wp2
      refine bodyPost_ret (v := .tuple #[ndV (.mk 0 ⟨#[]⟩ []) (.slice none 0 0), .int .i64 (er : Int)]) (by simp [results, Try.results43, go_sem, c0, c1, c2, c3, c4, c5, c6, c7, c8, c9, ndV, BN.kd, BN.nm]) rfl ?_
      refine ⟨HT3.out, fun er' he => ?_, fun n' o' c' he => (by rw [HR2.out] at he; cases he)⟩
      rw [HR2.out] at he
      injection he with he
      subst he
      rfl
    · obtain ⟨hnok, -, u1, v1, he, hkl1, hrow1, hex1⟩ := hok n' ls o' hR1
      obtain ⟨k', s', ks'⟩ := n'
      obtain ⟨W2, hst2, hbx2, t2⟩ := hbx1.store (.mk k' s' ks') (form_one hkl1)
      have hrx2 := hrx1.keep t2 (by omega)
      have hex2 := hex1.keepF t2 (fun b hb' => by subst hb'; omega)
      have hkl2 := hkl1.via t2 (R := fun b => b < B) (fun b hb' => ⟨fun e => by subst e; omega, hb'⟩)
      have hB0 := HB.out.2.2.size
      have hown2 : ∀ b, v1.ownBlock = some b → W0.heap.size ≤ b := fun b hb' => (hrow1.lt b hb').1
      have hbl0 := HB.out.1.lt
      have hrl0 := HB.out.2.1.lt
      have hrow2 := row_touch hrow1 t2 (fun b hb' e => by have := hown2 b hb'; omega)
      have T2 := T1.trans t2 (fun b hb' => .inr (by omega))
      obtain ⟨tc, hebk⟩ := hex2.1
      have e3 : W2.cell? ⟨eb, 3, none⟩ = some (.int .i64 (c : Int)) := cell_blk hebk 3
      have f3 := free_blk hebk 3
      have hebl := blk_lt hebk
      obtain ⟨cn, hcn⟩ : ∃ cn, c + 1 = cn := ⟨_, rfl⟩
      have hcw : IntKind.i64.wrap ((c : Int) + 1) = (cn : Int) := by rw [IntWalk.i64_in _ (by have := HE.out.2.2; omega)]; omega
      have hct := hex2.count cn
      obtain ⟨W3, hW3⟩ : ∃ W3, W2.setCell ⟨eb, 3, none⟩ (.int .i64 (cn : Int)) = W3 := ⟨_, rfl⟩
      rw [hW3] at hct
      have hbx3 := hbx2.keep hct.2 (by omega)
      have hrx3 := hrx2.keep hct.2 (by omega)
      have hkl3 := hkl2.via hct.2 (R := fun b => b < B) (fun b hb' => ⟨fun e => by subst e; omega, hb'⟩)
      have hrow3 := row_touch hrow2 hct.2 (fun b hb' e => by have := hown2 b hb'; omega)
      have T3 := T2.trans hct.2 (fun b hb' => .inl (.inl hb'))
      have hR3 : R = if 40 < d then .error 4 else if 4000 < cn then .error 9 else match kidM (nodM ts f (d + 1)) o' cn ks' with | .error e => .error e | .ok (kl, o2, c2) => .ok (.mk k' s' kl, shutM o2 ls, c2) := by rw [← HE.out.1, ← hcn]; simp only [nodM, hR1]; rfl
      have hlsb := folM_lt hR1
      unfold ndV at he hst2
      simp only [BN.kd, BN.nm, BN.ks] at he hst2 hbx3 hkl3
      subst he
      have HCN := Lib.hid hcn
      have HW3 := Lib.hid hW3
      have H3 := Lib.hid (And.intro hct.1 (And.intro hbx3 (And.intro hrx3 (And.intro hkl3 (And.intro hrow3 (And.intro T3 (And.intro hnok (And.intro hlsb hown2))))))))
      have HR3 := Lib.hid hR3
      clear herr hok hbx1 hrx1 T1 t1 hR1 hload hnok hkl1 hrow1 hex1 hbx2 t2 hrx2 hex2 hkl2 hown2 hrow2 T2 hebk hct hW3 hbx3 hrx3 hkl3 hrow3 T3 hR3 hlsb hcn
      by_cases hd : 40 < d
      · have hq : (40 : Int) < (d : Int) := by omega
        have HR4 : Hid (R = .error 4) := Lib.hid (by rw [HR3.out, if_pos hd])
        obtain ⟨W4, hst4, hrx4, t4⟩ := H3.out.2.2.1.store (.mk 0 ⟨#[]⟩ []) (u' := .slice none 0 0) rfl
        obtain ⟨c0, c1, c2, c3, c4, c5, c6, c7, c8, c9⟩ := hrx4.cells
        unfold ndV at hst4
        simp only [BN.kd, BN.nm, nat0] at hst4 c0 c3
        have HT4 := Lib.hid (H3.out.2.2.2.2.2.1.trans t4 (fun b hb => .inr (by omega)))
        clear hrx4 t4 hd
        go_wp2_with fail
        rw [HW3.out, hst4]
        go_wp2
        refine bodyPost_ret (v := .tuple #[ndV (.mk 0 ⟨#[]⟩ []) (.slice none 0 0), .int .i64 4]) (by simp [results, Try.results43, go_sem, c0, c1, c2, c3, c4, c5, c6, c7, c8, c9, ndV, BN.kd, BN.nm]) rfl ?_
        refine ⟨HT4.out, fun er' he => ?_, fun n' o' c' he => (by rw [HR4.out] at he; cases he)⟩
        rw [HR4.out] at he
        injection he with he
        subst he
        rfl
      · have hq : ¬ ((40 : Int) < (d : Int)) := by omega
        have h33 : W3.cell? ⟨eb, 3, none⟩ = some (.int .i64 (cn : Int)) := cell_blk H3.out.1.1.choose_spec 3
        have h3l := blk_lt H3.out.1.1.choose_spec
        by_cases hc4 : 4000 < cn
        · have hq2 : (4000 : Int) < (cn : Int) := by omega
          have HR4 : Hid (R = .error 9) := Lib.hid (by rw [HR3.out, if_neg hd, if_pos hc4])
          obtain ⟨W4, hst4, hrx4, t4⟩ := H3.out.2.2.1.store (.mk 0 ⟨#[]⟩ []) (u' := .slice none 0 0) rfl
          obtain ⟨c0, c1, c2, c3, c4, c5, c6, c7, c8, c9⟩ := hrx4.cells
          unfold ndV at hst4
          simp only [BN.kd, BN.nm, nat0] at hst4 c0 c3
          have HT4 := Lib.hid (H3.out.2.2.2.2.2.1.trans t4 (fun b hb => .inr (by omega)))
          clear hrx4 t4 hd hc4
          go_wp2_with fail
          rw [HW3.out, hst4]
          go_wp2
          refine bodyPost_ret (v := .tuple #[ndV (.mk 0 ⟨#[]⟩ []) (.slice none 0 0), .int .i64 9]) (by simp [results, Try.results43, go_sem, c0, c1, c2, c3, c4, c5, c6, c7, c8, c9, ndV, BN.kd, BN.nm]) rfl ?_
          refine ⟨HT4.out, fun er' he => ?_, fun n' o' c' he => (by rw [HR4.out] at he; cases he)⟩
          rw [HR4.out] at he
          injection he with he
          subst he
          rfl
        · have hq2 : ¬ ((4000 : Int) < (cn : Int)) := by omega
          have HR4 : Hid (R = match kidM (nodM ts f (d + 1)) o' cn ks' with | .error e => .error e | .ok (kl, o2, c2) => .ok (.mk k' s' kl, shutM o2 ls, c2)) := Lib.hid (by rw [HR3.out, if_neg hd, if_neg hc4])
          have hx := HE.out.2.1
          have hc := HCN.out
          obtain ⟨dn, hdn⟩ : ∃ dn, d + 1 = dn := ⟨_, rfl⟩
          have hK := kids_any (node_any (f := f) (d := d + 1) (by omega) (by omega)) H3.out.1 (show x ≤ cn by omega) (by omega) H3.out.2.2.2.1
          rw [hdn] at hK HR4
          have HK := Lib.hid hK
          have hdw : IntKind.i64.wrap ((d : Int) + 1) = (dn : Int) := by rw [IntWalk.i64_in _ (by omega)]; omega
          have hW3 := HW3.out
          have h38 : W3.cell? ⟨w.heap.size, 8, none⟩ = some u1 := H3.out.2.1.cell0.2.2
          have h38l := H3.out.2.1.lt
          clear hd hc4 hx hc hK hdn
          go_wp2_with fail
          refine HK.out.mono ?_
          rintro r w4 ⟨t4, herr4, hok4⟩
          have hbx4 := H3.out.2.1.keep t4 (by omega)
          have hrx4 := H3.out.2.2.1.keep t4 (by omega)
          have T4 := H3.out.2.2.2.2.2.1.same t4
          have hc8 := hbx4.cell0.2.2
          have hf8 := hbx4.free 8
          have hl8 := hbx4.lt
          clear h33 h3l h38 h38l hW3 hst2 e3 f3 hebl hcw hdw
          rcases hK : kidM (nodM ts f dn) o' cn ks' with er | ⟨kl, o2, c2⟩
          · have her := kidM_pos (fun o c n => nodM_pos) hK
            have he := herr4 er hK her
            have hz : ((er : Int) != 0) = true := by simp; omega
            have HR5 : Hid (R = .error er) := Lib.hid (by rw [HR4.out, hK])
            subst he
            have h5 := hbx4.set8 (.slice none 0 0)
            obtain ⟨W5, hW5⟩ : ∃ W5, w4.setCell ⟨w.heap.size, 8, none⟩ (.slice none 0 0) = W5 := ⟨_, rfl⟩
            rw [hW5] at h5
            obtain ⟨W6, hst6, hrx6, t6⟩ := (hrx4.keep h5.2 (by omega)).store (.mk 0 ⟨#[]⟩ []) (u' := .slice none 0 0) rfl
            obtain ⟨c0, c1, c2, c3, c4, c5, c6, c7, c8, c9⟩ := hrx6.cells
            unfold ndV at hst6
            simp only [BN.kd, BN.nm, nat0] at hst6 c0 c3
            have HT6 := Lib.hid ((T4.trans h5.2 (fun b hb => .inr (by omega))).trans t6 (fun b hb => .inr (by omega)))
            clear herr4 hok4 hbx4 hrx4 T4 hrx6 t6 t4 h5 hK
            go_wp2
            refine bodyPost_ret (v := .tuple #[ndV (.mk 0 ⟨#[]⟩ []) (.slice none 0 0), .int .i64 (er : Int)]) (by simp [results, Try.results43, go_sem, c0, c1, c2, c3, c4, c5, c6, c7, c8, c9, ndV, BN.kd, BN.nm]) rfl ?_
            refine ⟨HT6.out, fun er' he => ?_, fun n' o' c' he => (by rw [HR5.out] at he; cases he)⟩
            rw [HR5.out] at he
            injection he with he
            subst he
            rfl
          · obtain ⟨hc2, v2, x2, hx2, he, hkl4, hex4⟩ := hok4 kl o2 c2 hK
            have HR5 : Hid (R = .ok (.mk k' s' kl, shutM o2 ls, c2)) := Lib.hid (by rw [HR4.out, hK])
            subst he
            obtain ⟨A2, m2, c3, rfl⟩ : ∃ A2 m2 c3, v2 = .slice A2 m2 c3 := by
              rcases hkl4.form with ⟨-, rfl⟩ | ⟨g, m, c, rfl, -⟩
              · exact ⟨_, _, _, rfl⟩
              · exact ⟨_, _, _, rfl⟩
            have h5 := hbx4.set8 (.slice A2 m2 c3)
            obtain ⟨W5, hW5⟩ : ∃ W5, w4.setCell ⟨w.heap.size, 8, none⟩ (.slice A2 m2 c3) = W5 := ⟨_, rfl⟩
            rw [hW5] at h5
            have hrx5 := hrx4.keep h5.2 (by omega)
            have hex5 := hex4.keepF h5.2 (fun b hb' => by subst hb'; omega)
            have hv1 := H3.out.2.2.2.2.2.2.2.2
            have hsz3 := H3.out.2.2.2.2.2.1.size
            have hrow4 := row_touch H3.out.2.2.2.2.1 t4 (fun b hb' e => by have := hv1 b hb'; omega)
            have hrow5 := row_touch hrow4 h5.2 (fun b hb' e => by have := hv1 b hb'; omega)
            have T5 := T4.trans h5.2 (fun b hb => .inr (by omega))
            have hkl5 := hkl4.via h5.2 (R := fun b => W3.heap.size ≤ b ∧ b < w4.heap.size) (fun b hb' => ⟨fun e => by have := H3.out.2.1.lt; omega, hb'⟩)
            obtain ⟨tcb, heb5⟩ := hex5.1
            have hE := h5.1.loadE
            have hc9 := h5.1.cells.2.2.2.2.2.2.2.2.2
            have hbl5 := h5.1.lt
            have hebl5 := blk_lt heb5
            have HBo := Lib.hid (both_bare (w := W5.drew) (eb := eb) (ox := 4) x2 heb5 rfl (by have := HE.out.2.1; have := HE.out.2.2; omega))
            have HEd : (LoadE (.pointer (some ⟨w.heap.size, 4, none⟩))).run Try.prog W5.drew = .ok (.agg #[.int .i64 0, .int .i64 0, .string ⟨#[]⟩, .slice none 0 0]) W5.drew := (show BxAt W5.drew w.heap.size k' s' (.slice A2 m2 c3) from h5.1).loadE
            have H5 := Lib.hid (And.intro h5.1 (And.intro hrx5 (And.intro hex5 (And.intro hrow5 (And.intro T5 (And.intro hkl5 (And.intro (And.intro hc2 hx2) heb5)))))))
            have HSZ := Lib.hid (And.intro hsz3 (And.intro t4.size h5.2.size))
            clear herr4 hok4 hbx4 hrx4 T4 t4 h5 hK hrx5 hex5 hrow4 hrow5 T5 hkl5 hkl4 hex4 heb5 hE hv1 hc2 hx2
            go_wp2_with fail
            have hls : ls.length ≤ 9223372036854775807 := by rcases row_any H5.out.2.2.2.1 with ⟨A, cap, -, h1, h2⟩; unfold maxLen at h2; omega
            obtain ⟨A1, cp1, hv1, -, -⟩ := row_any H5.out.2.2.2.1
            obtain ⟨nl, hnl⟩ : ∃ nl, ls.length = nl := ⟨_, rfl⟩
            rw [hnl] at hv1
            subst hv1
            have HNL := Lib.hid hnl
            clear hnl
            (go_region_law? (go_simp; go_at_call 66
                             refine HBo.out.mono ?_
                             rintro r w6 ⟨rfl, hb6, t6⟩
                             have bx6 : BxAt w6 w.heap.size k' s' (.slice A2 m2 c3) := (show BxAt W5.drew w.heap.size k' s' (.slice A2 m2 c3) from H5.out.1).keep t6 (by have := HL.out; omega)
                             obtain ⟨W7, hst7, bx7, t7⟩ := bx6.storeE
                             have c79 : W7.cell? ⟨w.heap.size, 9, none⟩ = some (.slice none 0 0) := bx7.cells.2.2.2.2.2.2.2.2.2
                             have f79 := bx7.free 9
                             have l79 := bx7.lt
                             have H7 := Lib.hid (And.intro hb6 (And.intro t6 (And.intro bx7 t7)))
                             clear hb6 t6 bx6 bx7 t7))
            all_goals
              have hb := HL.out
              have t67 : Touch (fun b => b = eb) W5 w6 := ((Touch.refl (fun b => b = eb) W5).drew).same H7.out.2.1
              have ex6 : EX w6 B eb ob mb tb D ts o2 c2 (x2 + 1) := H5.out.2.2.1.exprs t67 (fun cs T h => by rw [H5.out.2.2.2.2.2.2.2] at h; injection h with h; injection h with h1 h2; subst h1 h2; exact H7.out.1)
              have ex7 := ex6.keepF H7.out.2.2.2 (fun b hb' => by subst hb'; omega)
              have h8 := H7.out.2.2.1.set9
              obtain ⟨W8, hW8⟩ : ∃ W8, W7.setCell ⟨w.heap.size, 9, none⟩ (.slice none 0 0) = W8 := ⟨_, rfl⟩
              rw [hW8] at h8
              have ex8 := ex7.keepF h8.2 (fun b hb' => by subst hb'; omega)
              have hv1 := H3.out.2.2.2.2.2.2.2.2
              have hsz3 := HSZ.out
              have t58 : Touch (fun b => b = eb ∨ b = w.heap.size) W5 W8 := ((t67.mono (fun b hb => .inl hb)).same (H7.out.2.2.2.mono (fun b hb => .inr hb))).same (h8.2.mono (fun b hb => .inr hb))
              have hrx8 := H5.out.2.1.keep t58 (by omega)
              have hrow8 := row_touch H5.out.2.2.2.1 t58 (fun b hb' e => by have := hv1 b hb'; omega)
              have T8 := H5.out.2.2.2.2.1.trans t58 (fun b hb' => by rcases hb' with h | h; · exact .inl (.inl h)
                                                                     · exact .inr (by omega))
              have hbx3l := H3.out.2.1.lt
              have hkl8 := H5.out.2.2.2.2.2.1.via t58 (R := fun b => W3.heap.size ≤ b ∧ b < W8.heap.size) (fun b hb' => ⟨fun e => by rcases e with e | e <;> omega, hb'.1, by have := t58.size; omega⟩)
              have hAt : LpRel w B eb ob mb tb D ts W0.heap.size ls o2 c2 (x2 + 1) k' s' (.slice A1 nl cp1) (.slice A2 m2 c3) W3.heap.size (f + 1) kl nl (.int .i64 0) W8 := by
                rw [HNL.out] at hrow8
                exact ⟨0, rfl, Nat.zero_le _, by rw [HNL.out]; rfl, by rw [List.take_zero]; exact ex8, h8.1, hrx8, by rw [HNL.out]; exact hrow8, T8, hkl8⟩
              have HAt := Lib.hid hAt
              clear t67 ex6 ex7 h8 ex8 hv1 hsz3 t58 hrx8 hrow8 T8 hkl8 hAt
              go_wp2
              go_loopg [75] nl (fun k v75 wr => LpRel w B eb ob mb tb D ts W0.heap.size ls o2 c2 (x2 + 1) k' s' (.slice A1 nl cp1) (.slice A2 m2 c3) W3.heap.size (f + 1) kl k v75 wr)
              case atStart => exact HAt.out
              case round =>
                obtain ⟨i, rfl, hi, hk, hex, hbx, hrx, hrow, hT, hkl⟩ := hrel
                have hb := HL.out
                rw [HNL.out] at hi hk hrow
                by_cases hlast : i = nl
                · have hload := hbx.load
                  obtain ⟨Wf, hstf, hrxf, tf⟩ := hrx.store (.mk k' s' []) (u' := .slice A2 m2 c3) rfl
                  obtain ⟨c0, c1, c2', c3', c4, c5, c6, c7, c8, c9⟩ := hrxf.cells
                  have hbl := hbx.lt
                  have hrl := hrx.lt
                  have htk : ls.take i = ls := List.take_of_length_le (by rw [HNL.out, hlast]; exact Nat.le_refl _)
                  rw [htk] at hex
                  have hsz3 := HSZ.out
                  have h3l := H3.out.2.1.lt
                  have h3r := H3.out.2.2.1.lt
                  have hTf := hT.trans tf (fun b hb => .inr (by omega))
                  have hklf := hkl.via tf (R := fun b => w.heap.size ≤ b ∧ b < Wf.heap.size) (fun b hb' => ⟨fun e => by omega, by omega, by have := tf.size; omega⟩)
                  have hexf := hex.keepF tf (fun b hb' => by subst hb'; omega)
                  have HFin := Lib.hid (And.intro hTf (And.intro hklf hexf))
                  have hq : ¬ ((i : Int) < (nl : Int)) := by omega
                  unfold ndV at hload hstf
                  simp only [BN.kd, BN.nm] at hload hstf c0 c3'
                  clear hex hbx hrx hrow hT hkl hrxf tf hTf hklf hexf htk hk hi hlast
                  go_wp2
                  refine bodyPost_ret (v := .tuple #[ndV (.mk k' s' kl) (.slice A2 m2 c3), .int .i64 0]) (by simp [results, Try.results43, go_sem, c0, c1, c2', c3', c4, c5, c6, c7, c8, c9, ndV, BN.kd, BN.nm]) rfl ?_
                  refine ⟨HFin.out.1, fun er' he => (by rw [HR5.out] at he; cases he), fun n' o' c' he => ?_⟩
                  rw [HR5.out] at he
                  injection he with he
                  injection he with g1 g2
                  injection g2 with g2 g3
                  subst g1 g2 g3
                  obtain ⟨z1, z2⟩ := H5.out.2.2.2.2.2.2.1
                  have z3 := HCN.out
                  exact ⟨z1, H3.out.2.2.2.2.2.2.1, _, x2 + 1, by omega, rfl, HFin.out.2.1, HFin.out.2.2⟩
                · obtain ⟨a, ha⟩ : ∃ a, ls[i]? = some a := ⟨_, List.getElem?_eq_getElem (by rw [HNL.out]; omega)⟩
                  have hat := H3.out.2.2.2.2.2.2.2.1 a (List.mem_of_getElem? ha)
                  obtain ⟨gv, cv, hgv, hcv, hmv, -⟩ := row_form hrow (by omega)
                  injection hgv with q1 q2 q3
                  subst q1 q3
                  have k1 : wr.cell? ⟨gv, i, none⟩ = some (.int .i64 (a : Int)) := by
                    rw [hrow.cellAt i (by omega)]
                    unfold intsN
                    rw [List.getElem?_map, ha]
                    rfl
                  obtain ⟨tcw, hebw⟩ := hex.1
                  have e2 : wr.cell? ⟨eb, 2, none⟩ = some (.slice (some ⟨ob, 0, none⟩) ts.length ts.length) := cell_blk hebw 2
                  have hol := hex.2.2.1
                  obtain ⟨b0, hb0⟩ : ∃ b0, (shutM o2 (ls.take i))[a]? = some b0 := ⟨_, List.getElem?_eq_getElem (by rw [hol]; exact hat)⟩
                  have eo : wr.cell? ⟨ob, a, none⟩ = some (.bool b0) := (cell_blk hex.2.1 a).trans (by simp [hb0])
                  have fo := free_blk hex.2.1 a
                  have hobl := blk_lt hex.2.1
                  have hebl := blk_lt hebw
                  have hat2 : (a : Int) < (ts.length : Int) := by omega
                  have hfl := hex.flip a false
                  have hq : (i : Int) < (nl : Int) := by omega
                  have htk : shutM o2 (ls.take (i + 1)) = (shutM o2 (ls.take i)).set a false := by rw [List.take_add_one, ha]; exact shutM_app _ _ _
                  have hv1 := H3.out.2.2.2.2.2.2.2.2
                  have hbxl := hbx.lt
                  have hsz3 := HSZ.out
                  have HN : Hid (LpRel w B eb ob mb tb D ts W0.heap.size ls o2 c2 (x2 + 1) k' s' (.slice (some ⟨gv, 0, none⟩) nl cp1) (.slice A2 m2 c3) W3.heap.size (f + 1) kl (nl - (i + 1)) (.int .i64 ((i + 1 : Nat) : Int)) (wr.setCell ⟨ob, a, none⟩ (.bool false))) := Lib.hid (by
                    refine ⟨i + 1, rfl, by rw [HNL.out]; omega, by rw [HNL.out], by rw [htk]; exact hfl.1, hbx.keep hfl.2 (by omega), hrx.keep hfl.2 (by omega), ?_, hT.trans hfl.2 (fun b hb => .inl (.inr hb)), hkl.via hfl.2 (fun b hb' => ⟨fun e => by have := hT.size; have := hb'.1; have := H3.out.2.1.lt; omega, hb'.1, by have := hfl.2.size; have := hb'.2; omega⟩)⟩
                    rw [HNL.out]
                    exact row_touch hrow hfl.2 (fun b hb' e => by have := hv1 b hb'; omega))
                  have HM : Hid (nl - (i + 1) < gk) := Lib.hid (by omega)
                  clear hex hbx hrx hrow hT hkl hk hi hlast ha hebw hol hb0 hfl htk hv1 hsz3 hcv hmv
                  go_wp2
                  go_roundg (nl - (i + 1))
                  case measure => exact HM.out
                  case rel =>
                    have h1 := HN.out
                    have hnl2 : nl ≤ 9223372036854775807 := by have := HNL.out; omega
                    have h2 : (Value.int .i64 ((i + 1 : Nat) : Int)) = .int .i64 (wrap64 ((i : Int) + 1)) := by rw [IntWalk.wrap64_in _ (by omega)]; rfl
                    rw [h2] at h1
                    exact h1
end Go.Proofs.Ytfpeennegmlcpaa
