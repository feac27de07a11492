/-
  What table.Add returns, and what it leaves in memory.
-/
import Derived.Test.YticekldgjlihmaaM2
import Derived.Deep.AppendLies
import Derived.Deep.DeepCutAuto
import Derived.Deep.RegionWith
namespace Go.Proofs.Yticekldgjlihmaa
open Go.ChangeShapes Go.WideShapes Go.ChangeAt Go.RowKit Go.Maps

/-- A list of cells lies at A, in no block of F. -/
def CellsAt (w : World) (F : Nat → Prop) (A : Option Addr) (cl : List (Int × Int)) : Prop :=
  ∀ (j : Nat) (c v : Int), cl[j]? = some (c, v) → ∃ b off, A = some ⟨b, off, none⟩ ∧ b < w.heap.size ∧ ¬ F b ∧ w.cell? ⟨b, off + j * 2, none⟩ = some (.int .i64 c) ∧ w.cell? ⟨b, off + j * 2 + 1, none⟩ = some (.int .i64 v)
theorem CellsAt.touch {w w' : World} {F : Nat → Prop} {A : Option Addr} {cl : List (Int × Int)} (h : CellsAt w F A cl) (t : Touch F w w') : CellsAt w' F A cl := by
  intro j c v hj
  obtain ⟨b, off, rfl, hb, hf, h1, h2⟩ := h j c v hj
  exact ⟨b, off, rfl, Nat.lt_of_lt_of_le hb t.size, hf, (t.cell (p := ⟨b, off + j * 2, none⟩) hb hf).trans h1, (t.cell (p := ⟨b, off + j * 2 + 1, none⟩) hb hf).trans h2⟩

set_option maxHeartbeats 1000000 in
theorem tadd_no (g : Nat) (m i x : Int) (vcells : Value) (ids : List (Int × Int)) (cf : Nat → List Int) (D : DataW Unit) (n : Nat) (F : Nat → Prop) (w : World) (h : TO w F g m ids cf D n) (hD : MapIs D ids) (hi : I64 i) (hx : I64 x) {r : Nat} (hr : rowOf ids (i, x) = some r) :
    Calls Try.prog 60 #[.pointer (some ⟨g, 0, none⟩), .agg #[.int .i64 i, .int .i64 x], vcells] w fun e w' => e = .returned (.int .i64 (-1)) ∧ Touch NoB w w' := by
  have HR := Lib.hid (trow_any g m i x ids cf D n F (w.alloc (.cells #[.int .i64 i, .int .i64 x] 30)) (h.quiet ((Touch.refl _ _).alloc _)) hD hi hx)
  rw [rowV_some hr] at HR
  clear h hD hr
  go_enter Try.func60, Try.ntmps60
  go_wp2_with fail
  refine HR.out.mono ?_
  rintro e w1 ⟨rfl, hT⟩
  have HT := Lib.hid hT
  clear hT
  go_wp2
  go_ret
  exact ⟨rfl, ((Touch.refl _ _).alloc _).same HT.out⟩

theorem ext_ext {F : Nat → Prop} {w a b : World} (h1 : w.heap.size ≤ a.heap.size) (h2 : a.heap.size ≤ b.heap.size) : ∀ k, Ext (Ext F w a) a b k → Ext F w b k := by
  rintro k ((x | ⟨x, y⟩) | ⟨x, y⟩)
  · exact .inl x
  · exact .inr ⟨x, by omega⟩
  · exact .inr ⟨by omega, y⟩
theorem ext_touch {F : Nat → Prop} {w a b : World} (h1 : Touch F w a) (h2 : Touch (Ext F w a) a b) : Touch F w b :=
  h1.trans h2 (fun _ hx => hx.elim .inl (fun e => .inr e.1))
theorem nat_i64 {k : Nat} (h : k < 1000000000) : I64 (k : Int) := i64_mk (by omega) (by omega)

/-- What Add's own steps leave: entities ids, columns cf, the map D. -/
def AddAt (w : World) (F : Nat → Prop) (g : Nat) (m : Int) (ids : List (Int × Int)) (cf : Nat → List Int) (D : DataW Unit) (n : Nat) (wr : World) : Prop :=
  TO wr (Ext F w wr) g m ids cf D n ∧ Touch F w wr
def AddMid (w : World) (F : Nat → Prop) (g : Nat) (m : Int) (ids : List (Int × Int)) (cf : Nat → List Int) (D : DataW Unit) (n L : Nat) (i x : Int) (v : Value) (wr : World) : Prop :=
  v = .int .i64 L ∧ AddAt w F g m ids cf D n wr ∧ wr.heap[w.heap.size]? = some (.cells #[.int .i64 i, .int .i64 x] 30 (0, 0))
def AddRel1 (w : World) (F : Nat → Prop) (g : Nat) (m : Int) (ids : List (Int × Int)) (cf : Nat → List Int) (D : DataW Unit) (n : Nat) (i : Value) (wr : World) : Prop :=
  ∃ k : Nat, k ≤ 16 ∧ i = .int .i64 k ∧ AddAt w F g m ids (upCol m cf k) D n wr
def AddRel2 (w : World) (F : Nat → Prop) (g : Nat) (m : Int) (ids : List (Int × Int)) (cf : Nat → List Int) (D : DataW Unit) (n : Nat) (cl : List (Int × Int)) (i : Value) (wr : World) : Prop :=
  ∃ k : Nat, k ≤ cl.length ∧ i = .int .i64 k ∧ AddAt w F g m ids (newCol m cf (cl.take k)) D n wr

set_option maxHeartbeats 4000000 in
set_option maxRecDepth 100000 in
theorem tadd_yes (g : Nat) (m i x : Int) (A : Option Addr) (N cap : Nat) (cl : List (Int × Int)) (ids : List (Int × Int)) (cf : Nat → List Int) (D : DataW Unit) (n : Nat) (F : Nat → Prop) (w : World) (h : TO w F g m ids cf D n) (hD : MapIs D ids) (hF : InW w 0 F) (hi : I64 i) (hx : I64 x) (hr : rowOf ids (i, x) = none)
    (hm : 0 ≤ m) (hm2 : m < 65536) (hn : n < 1000000) (hL : ids.length < 1000000) (hlen : ∀ c, c < 16 → bitB m c = true → (cf c).length = ids.length) (hN : cl.length = N) (hN2 : N ≤ 1000) (hC : CellsAt w F A cl) :
    Calls Try.prog 60 #[.pointer (some ⟨g, 0, none⟩), .agg #[.int .i64 i, .int .i64 x], .slice A N cap] w fun e w' => e = .returned (.int .i64 ids.length) ∧ AddAt w F g m (ids ++ [(i, x)]) (newCol m cf cl) (D.put (klI i x) (.lit (.int .i64 ids.length))) (n + 1) w' := by
  have HR := Lib.hid (trow_any g m i x ids cf D n F (w.alloc (.cells #[.int .i64 i, .int .i64 x] 30)) (h.quiet ((Touch.refl _ _).alloc _)) hD hi hx)
  rw [rowV_none hr] at HR
  have H0 := Lib.hid h
  have HF := Lib.hid hF
  have HC := Lib.hid hC
  have HLN := Lib.hid hlen
  have HN := Lib.hid hN
  have HI := Lib.hid (And.intro hi hx)
  clear h hD hr hF hC hlen hN hi hx
  obtain ⟨L, hLe⟩ : ∃ L, ids.length = L := ⟨_, rfl⟩
  rw [hLe] at hL HLN
  rw [hLe]
  have HL := Lib.hid hLe
  clear hLe
  obtain ⟨D', hD'⟩ : ∃ D', D.put (klI i x) (.lit (.int .i64 L)) = D' := ⟨_, rfl⟩
  obtain ⟨ids', hids'⟩ : ∃ l, ids ++ [(i, x)] = l := ⟨_, rfl⟩
  have hLn : ids'.length = L + 1 := by rw [← hids', List.length_append, HL.out]; rfl
  rw [hD', hids']
  have HDp := Lib.hid hD'
  have HIDS := Lib.hid hids'
  have HLn := Lib.hid hLn
  clear hD' hids' hLn
  obtain ⟨j0, hj, hy0, hy1, hy2⟩ := info_parts info_id
  obtain ⟨i0, hi, hz0, hz1, hz2⟩ := info_parts info_int
  go_enter Try.func60, Try.ntmps60
  go_wp2_with fail
  refine HR.out.mono ?_
  rintro e w1 ⟨rfl, hT⟩
  have hb1 := new_blk hT rfl (fun x => x)
  have hT1 : Touch NoB w w1 := ((Touch.refl _ w).alloc _).same hT
  have hs1 : w.heap.size < w1.heap.size := by have := hT.size; simp at this; omega
  obtain ⟨vi, vm, vc, cs, h1⟩ := H0.out.quiet hT1
  obtain ⟨A1, cap1, rfl, hc1, hc2⟩ := row_any h1.ri
  unfold maxLen at hc2
  rw [HL.out] at hc1
  have k1 : w1.cell? ⟨g, 1, none⟩ = some (.slice A1 L cap1) := by rw [h1.at1, HL.out]
  have z1 : w1.frozen? ⟨g, 1, none⟩ = false := h1.free 1
  have b0 : w1.cell? ⟨w.heap.size, 0, none⟩ = some (.int .i64 i) := cell_blk hb1 0
  have b1 : w1.cell? ⟨w.heap.size, 1, none⟩ = some (.int .i64 x) := cell_blk hb1 1
  have hl1 := h1.lt
  have H1 := Lib.hid h1
  have HT1 := Lib.hid hT1
  have HB1 := Lib.hid hb1
  clear hT hT1 hb1 h1 HR
  go_upto_region 4 with fail
  go_cut [7] (fun v wx => AddMid w F g m (ids ++ [(i, x)]) cf D n L i x v wx)
  case first =>
    have hr1 := H1.out.ri
    rw [HL.out] at hr1
    have hfg : (Value.slice A1 L cap1).ownBlock ≠ some g := row_ne hr1 H1.out.blk (by decide)
    have R1 := Lib.hid hr1
    have HFG := Lib.hid hfg
    clear hr1 hfg
    go_region_law (refine step_append_lies _ rfl (.tmp 24) (.tmp 26) 28 rfl 0 30 j0 (.agg #[.int .i64 0, .int .i64 0]) 2 16 Try.underlying28 hj hy0 hy1 hy2 rfl (by decide) (.slice A1 L cap1) L (idc ids) (by simp [Act.eval]) (by exact (R1.out.alloc _)) ⟨w1.heap.size, 0, none⟩ 1 1 [.int .i64 i, .int .i64 x] (by simp [Act.eval]) rfl (by exact World.news_of_block (cs := #[.int .i64 i, .int .i64 x]) (alloc_blk w1.drew _ 30 rfl)) (by intro u hu; simp at hu; rcases hu with rfl | rfl <;> rfl) (by decide) (by unfold maxLen; omega) (by omega) (Nat.zero_le _) (w1.heap.size + 1) (by simp) ?_
                   intro gd cap2 wx hown hgrow hat hlt
                   have TR : Touch (fun b => (Value.slice A1 L cap1).ownBlock = some b) w1 wx := (((Touch.refl _ w1).alloc _).drew).grown hgrow (fun _ e => .inl e)
                   have hgx := (TR.block g hl1 HFG.out).trans H1.out.blk
                   have kx : wx.cell? ⟨g, 1, none⟩ = some (.slice A1 L cap1) := (cell_blk hgx 1).trans (by rw [H1.out.c1, HL.out])
                   have zx : wx.frozen? ⟨g, 1, none⟩ = false := free_blk hgx 1
                   have HX := Lib.hid (And.intro hown (And.intro hat (And.intro TR hgx)))
                   clear hown hgrow hat TR hgx)
    all_goals
      go_wp2
      go_meet
      obtain ⟨hown, hat, TR, hgx⟩ := HX.out
      obtain rfl := HL.out
      have hTx : Touch F w wx := (HT1.out.mono (fun _ e => e.elim)).trans TR (fun b hb => .inl (H1.out.fi b hb))
      have hTy : Touch F w (wx.setCell ⟨g, 1, none⟩ (.slice (some ⟨gd, 0, none⟩) (ids.length + 1) cap2)) := hTx.setCell (p := ⟨g, 1, none⟩) (.inl H1.out.fg) _
      have hnF : ¬ F w.heap.size := fun e => by have := (HF.out _ e).2; omega
      have hsy : (wx.setCell ⟨g, 1, none⟩ (.slice (some ⟨gd, 0, none⟩) (ids.length + 1) cap2)).heap.size = wx.heap.size := by simp [World.setCell]
      refine ⟨rfl, ⟨⟨_, _, _, _, H1.out.put1 TR (ids' := ids ++ [(i, x)]) (by rw [List.length_append, idc_snoc]; exact hown) (fun k hk => .inl hk) (fun k hk => ?_)⟩, hTy⟩, ?_⟩
      · have e1 : gd = k := by simpa [Value.ownBlock] using hk
        subst e1
        rcases hat with e | e
        · exact .inl (H1.out.fi _ e)
        · exact .inr ⟨by omega, by rw [hsy]; exact hlt⟩
      · have hne : w.heap.size ≠ g := fun e => hnF (by rw [e]; exact H1.out.fg)
        rw [Below.heap_setCell _ _ _ _ hne, TR.block _ hs1 (fun e => hnF (H1.out.fi _ e))]
        exact HB1.out
  case rest =>
    obtain ⟨rfl, ⟨⟨vi2, vm2, vc2, cs2, h2⟩, hT2⟩, hb2⟩ := hcut
    have b2 : wc.cell? ⟨w.heap.size, 0, none⟩ = some (.int .i64 i) := cell_blk hb2 0
    have b3 : wc.cell? ⟨w.heap.size, 1, none⟩ = some (.int .i64 x) := cell_blk hb2 1
    have HP := Lib.hid (place_any g m i x L _ cf D n vi2 vm2 vc2 cs2 _ wc h2 HI.out.1 HI.out.2 (nat_i64 (by omega)) hn)
    have hl2 := h2.lt
    have HT2 := Lib.hid hT2
    clear h2 hT2 hb2 k1 z1 b0 b1 hl1 H1 HT1 HB1 hs1 H0 HI
    go_wp2_with fail
    refine HP.out.mono ?_
    rintro e w3 ⟨rfl, ⟨vm3, cs3, h3⟩, hT3⟩
    have hA : AddAt w F g m (ids ++ [(i, x)]) cf (D.put (klI i x) (.lit (.int .i64 L))) (n + 1) w3 :=
      ⟨⟨_, _, _, _, h3.more (ext_ext HT2.out.size hT3.size)⟩, ext_touch HT2.out hT3⟩
    rw [HDp.out, HIDS.out] at hA
    have HA := Lib.hid hA
    clear h3 hT3 hA HT2 HP b2 b3 hl2
    go_wp2
    go_loopw [34] (fun j wr => AddRel1 w F g m ids' cf D' (n + 1) j wr) (fun j _ => 16 - (intOf j).toNat)
    case atStart => exact ⟨0, by omega, rfl, by rw [upCol_zero]; exact HA.out⟩
    case round =>
      clear HA
      obtain ⟨k, hk, rfl, ⟨vi4, vm4, vc4, cs4, h4⟩, hT4⟩ := hrel
      have hsr := hT4.size
      by_cases hlt : k < 16
      · have HCO := Lib.hid (hasCol_any g m k wr hm hm2 h4.at0)
        cases hbit : bitB m k
        · have e1 : colB m (k : Int) = false := by unfold colB; simp [hbit]
          rw [e1] at HCO
          have HA4 : Hid (AddAt w F g m ids' (upCol m cf (k + 1)) D' (n + 1) wr) := ⟨⟨_, _, _, _, by rw [upCol_no hbit]; exact h4⟩, hT4⟩
          clear h4 hT4 hbit e1
          go_wp2_with fail
          refine HCO.out.mono ?_
          rintro e wz ⟨rfl, rfl⟩
          go_wp2
          go_roundw
          case rel => exact ⟨k + 1, by omega, by go_num, HA4.out⟩
          case measure => simp [intOf]; omega
        · rw [colB_nat hlt hbit] at HCO
          have hr4 := h4.rc k hlt
          have hck : upCol m cf k k = cf k := upCol_at k
          have hlk := HLN.out k hlt hbit
          rw [hck, hlk] at hr4
          obtain ⟨A4, cap4, hv4, hc5, hc6⟩ := row_any hr4
          unfold maxLen at hc6
          have k4 : wr.cell? ⟨g, 3 + k, none⟩ = some (.slice A4 L cap4) := by rw [h4.atc k hlt, hv4]
          have z4 : wr.frozen? ⟨g, 3 + k, none⟩ = false := h4.free _
          have hl4 := h4.lt
          have hfg : (Value.slice A4 L cap4).ownBlock ≠ some g := by rw [← hv4]; exact row_ne hr4 h4.blk (by decide)
          have R4 := Lib.hid (hv4 ▸ hr4 : wr.ownsRow 0 3 1 (.slice A4 L cap4) L (ic (cf k)))
          have H4 := Lib.hid h4
          have HT4 := Lib.hid hT4
          have HFG := Lib.hid hfg
          have HV4 := Lib.hid hv4
          have HBIT := Lib.hid hbit
          have HLK := Lib.hid hlk
          clear h4 hT4 hr4 hfg hv4 hbit hlk hck
          go_wp2_with fail
          refine HCO.out.mono ?_
          rintro e wz ⟨rfl, rfl⟩
          go_wp2
          go_region_law (refine step_append_lies _ rfl (.tmp 47) (.tmp 48) 55 rfl 0 3 i0 (.int .i64 0) 1 8 Try.underlying55 hi hz0 hz1 hz2 rfl (by decide) (.slice A4 L cap4) L (ic (cf k)) (by simp [Act.eval]) (by exact (R4.out.alloc _)) ⟨wr.heap.size, 0, none⟩ 1 1 [.int .i64 0] (by simp [Act.eval]) rfl (by exact World.news_of_block (cs := #[.int .i64 0]) (alloc_blk wr.drew _ 3 rfl)) (by intro u hu; simp at hu; subst hu; rfl) (by decide) (by unfold maxLen; omega) (by omega) (Nat.zero_le _) (wr.heap.size + 1) (by simp) ?_
                         intro gd cap5 wx hown hgrow hat hlx
                         have TR : Touch (fun b => (Value.slice A4 L cap4).ownBlock = some b) wr wx := (((Touch.refl _ wr).alloc _).drew).grown hgrow (fun _ e => .inl e)
                         have hgx := (TR.block g hl4 HFG.out).trans H4.out.blk
                         have kx : wx.cell? ⟨g, 3 + k, none⟩ = some (.slice A4 L cap4) := (cell_blk hgx (3 + k)).trans (by rw [H4.out.cc k hlt, HV4.out])
                         have zx : wx.frozen? ⟨g, 3 + k, none⟩ = false := free_blk hgx _
                         have HX := Lib.hid (And.intro hown (And.intro hat (And.intro TR hgx)))
                         clear hown hgrow hat TR hgx)
          all_goals
            go_wp2
            go_roundw
            case rel =>
              obtain ⟨hown, hat, TR, hgx⟩ := HX.out
              rw [← HV4.out] at TR hat
              have hTx : Touch F w wx := ext_touch HT4.out (TR.mono (fun b hb => H4.out.fc k hlt b hb))
              have hsy : (wx.setCell ⟨g, 3 + k, none⟩ (.slice (some ⟨gd, 0, none⟩) (L + 1) cap5)).heap.size = wx.heap.size := by simp [World.setCell]
              have hTy : Touch F w (wx.setCell ⟨g, 3 + k, none⟩ (.slice (some ⟨gd, 0, none⟩) (L + 1) cap5)) := by
                refine ext_touch HT4.out (Touch.setCell (TR.mono (fun b hb => H4.out.fc k hlt b hb)) (p := ⟨g, 3 + k, none⟩) (.inl H4.out.fg) _)
              have hput := H4.out.putc hlt TR (l' := cf k ++ [0]) (G := Ext F w (wx.setCell ⟨g, 3 + k, none⟩ (.slice (some ⟨gd, 0, none⟩) (L + 1) cap5))) (by rw [List.length_append, HLK.out]; simpa [ic] using hown)
                (fun b hb => hb.elim .inl (fun e => .inr ⟨e.1, by rw [hsy]; have := TR.size; omega⟩))
                (fun b hb => by
                  have e1 : gd = b := by simpa [Value.ownBlock] using hb
                  subst e1
                  rcases hat with e | e
                  · exact (H4.out.fc k hlt _ e).elim .inl (fun e => .inr ⟨e.1, by rw [hsy]; have := TR.size; omega⟩)
                  · exact .inr ⟨by omega, by rw [hsy]; exact hlx⟩)
                (fun b hb => by
                  have e1 : gd = b := by simpa [Value.ownBlock] using hb
                  subst e1
                  rcases hat with e | e
                  · exact .inl e
                  · right; omega)
              rw [upCol_yes HBIT.out] at hput
              exact ⟨k + 1, by omega, by go_num, ⟨⟨_, _, _, _, hput⟩, hTy⟩⟩
            case measure => simp [intOf]; omega
      · obtain rfl : k = 16 := by omega
        have HA : Hid (AddAt w F g m ids' (newCol m cf []) D' (n + 1) wr) := ⟨⟨_, _, _, _, by rw [newCol_nil]; exact h4⟩, hT4⟩
        clear h4 hT4 hsr
        obtain ⟨w5, hw5⟩ : ∃ w5, wr = w5 := ⟨_, rfl⟩
        rw [hw5] at HA
        rw [hw5]
        clear hw5
        rw [show ((16 : Nat) : Int) = 16 from rfl]
        go_wp2
        go_loopw [56] (fun j wr => AddRel2 w F g m ids' cf D' (n + 1) cl j wr) (fun j _ => N - (intOf j).toNat)
        case atStart => exact ⟨0, Nat.zero_le _, rfl, HA.out⟩
        case round =>
          clear HA
          obtain ⟨k, hk, rfl, hTO, hT6⟩ := hrel
          have hNl := HN.out
          by_cases hlt : k < N
          · obtain ⟨c, v, hcv⟩ : ∃ c v, cl[k]? = some (c, v) := ⟨_, _, List.getElem?_eq_getElem (by omega)⟩
            obtain ⟨b, off, rfl, hb, hnb, e1, e2⟩ := HC.out.touch hT6 k c v hcv
            have htk : cl.take (k + 1) = cl.take k ++ [(c, v)] := by
              rw [List.take_succ_eq_append_getElem (by omega)]
              congr 1
              have := (List.getElem?_eq_some_iff.1 hcv).2
              rw [this]
            have hTO' : TO (wr.alloc (.cells #[.int .i64 c, .int .i64 v] 32)) (Ext F w wr) g m ids' (newCol m cf (cl.take k)) D' (n + 1) := hTO.quiet ((Touch.refl _ _).alloc _)
            have hTa : Touch F w (wr.alloc (.cells #[.int .i64 c, .int .i64 v] 32)) := hT6.alloc _
            have HTa := Lib.hid hTa
            have HTK := Lib.hid htk
            have HTO := Lib.hid hTO'
            clear hTO hT6 hcv htk hTO' hTa hNl
            cases hcol : colB m c
            · have HS := Lib.hid (tset_no g m L c v ids' _ D' (n + 1) _ _ HTO.out hm hm2 (by rw [hcol, Bool.and_false]))
              have HCOL := Lib.hid hcol
              clear hcol
              go_wp2_with fail
              refine HS.out.mono ?_
              rintro e wz ⟨rfl, rfl⟩
              go_wp2
              go_roundw
              case rel =>
                refine ⟨k + 1, by have := HN.out; omega, by go_num, ?_, HTa.out⟩
                rw [HTK.out, newCol_no HCOL.out]
                refine HTO.out.more ?_
                rintro z (x | ⟨x, y⟩)
                · exact .inl x
                · exact .inr ⟨x, by simp; omega⟩
              case measure => simp [intOf]; omega
            · obtain ⟨q, rfl, hq, hqb⟩ := colB_true hcol
              have HS := Lib.hid (tset_yes g L q m v ids' _ D' (n + 1) _ _ HTO.out hm hm2 (by rw [HLn.out]; omega) hq hqb (by rw [newCol_len hq hqb (HLN.out q hq hqb)]; omega))
              have HQ := Lib.hid (And.intro hq hqb)
              clear hcol hqb
              go_wp2_with fail
              refine HS.out.mono ?_
              rintro e wz ⟨rfl, hO, hT⟩
              rw [newCol_yes HQ.out.1 HQ.out.2 (HLN.out q HQ.out.1 HQ.out.2), ← HTK.out] at hO
              have HO := Lib.hid hO
              have HT := Lib.hid hT
              clear hO hT
              go_wp2
              go_roundw
              case rel =>
                refine ⟨k + 1, by have := HN.out; omega, by go_num, HO.out.more ?_, HTa.out.trans HT.out (fun z hz => hz.elim .inl (fun e => .inr e.1))⟩
                rintro z (x | ⟨x, y⟩)
                · exact .inl x
                · exact .inr ⟨x, by have := HT.out.size; simp at this; omega⟩
              case measure => simp [intOf]; omega
          · obtain rfl : k = N := by omega
            have e1 : cl.take k = cl := List.take_of_length_le (by omega)
            rw [e1] at hTO
            have HE : Hid (AddAt w F g m ids' (newCol m cf cl) D' (n + 1) wr) := ⟨hTO, hT6⟩
            clear hTO hT6 e1 hNl
            go_wp2
            go_ret
            exact ⟨rfl, HE.out⟩
end Go.Proofs.Yticekldgjlihmaa
