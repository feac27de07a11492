/-
  What Query and Masks return.
-/
import Derived.Test.YticekldgjlihmaaEl
import Derived.Test.YticekldgjlihmaaM3
import Derived.Laws.AppendOwnNone
import Derived.Laws.MakeOwn
namespace Go.Proofs.Yticekldgjlihmaa
open Go.ChangeShapes Go.WideShapes Go.ChangeAt Go.RowKit Go.Maps
set_option maxRecDepth 100000
set_option maxHeartbeats 1000000

/-- Does a query ask for this mask? -/
def wantM (all nn m : Int) : Bool := (bits .and .u16 m all == all) && (bits .and .u16 m nn == 0)
def queryB (all nn : Int) (bs : List Tb) : List (Int × Int) := (bs.filter fun b => wantM all nn b.m).flatMap fun b => b.ids
def masksB (bs : List Tb) : List Int := bs.map fun b => b.m
/-- The cells of a row of masks. -/
def mc (l : List Int) : List Value := l.map (Value.int .u16)
theorem mc_length (l : List Int) : (mc l).length = l.length * 1 := by simp [mc]
theorem mc_at (l : List Int) (j : Nat) : (mc l)[j]? = (l[j]?).map (Value.int .u16) := by simp [mc]
theorem mc_snoc (l : List Int) (m : Int) : mc (l ++ [m]) = mc l ++ [.int .u16 m] := by simp [mc]
theorem idc_append (a b : List (Int × Int)) : idc (a ++ b) = idc a ++ idc b := by simp [idc]
theorem query_snoc (all nn : Int) (bs : List Tb) (b : Tb) : queryB all nn (bs ++ [b]) = queryB all nn bs ++ (if wantM all nn b.m = true then b.ids else []) := by
  unfold queryB
  rw [List.filter_append, List.flatMap_append]
  congr 1
  by_cases h : wantM all nn b.m = true
  · rw [if_pos h]; simp [h]
  · rw [if_neg h]; simp [h]
theorem query_len (all nn : Int) (c : Nat) : ∀ bs : List Tb, (∀ b ∈ bs, b.ids.length ≤ c) → (queryB all nn bs).length ≤ bs.length * c
  | [], _ => by simp [queryB]
  | b :: bs, h => by
    have ih := query_len all nn c bs (fun x hx => h x (List.mem_cons_of_mem _ hx))
    have hb := h b (List.mem_cons_self ..)
    unfold queryB at ih ⊢
    rw [List.length_cons, Nat.succ_mul]
    by_cases hw : wantM all nn b.m = true
    · rw [List.filter_cons, if_pos hw, List.flatMap_cons, List.length_append]; omega
    · rw [List.filter_cons, if_neg hw]; omega
theorem idc_one (l : List (Int × Int)) : ∀ u ∈ idc l, u.oneCell' = true := by
  intro u hu
  simp only [idc, List.mem_flatMap] at hu
  obtain ⟨a, _, hu⟩ := hu
  simp at hu
  rcases hu with rfl | rfl <;> rfl
theorem info_u16 : (Try.prog.info? 34).map (fun i => (i.zero, i.size, i.bytes)) = some (some (.int .u16 0), 1, 2) := by kernel_rfl

def QRel (w : World) (bs : List Tb) (all nn : Int) (v7 v15 : Value) (wr : World) : Prop :=
  ∃ k : Nat, k ≤ bs.length ∧ v15 = .int .i64 k ∧ wr.ownsRow w.heap.size 30 2 v7 (queryB all nn (bs.take k)).length (idc (queryB all nn (bs.take k))) ∧ Touch NoB w wr

section
variable {w : World} {F : Nat → Prop} {cnt g : Nat} {room tables : Int} {ps : List (Int × Bool)} {ds : List Int} {bs : List Tb}

theorem query_any (h : St w F cnt g room tables ps ds bs) (all nn : Int) (hc : cnt ≤ 1000) :
    Calls Try.prog 19 #[.pointer (some ⟨g, 0, none⟩), .int .u16 all, .int .u16 nn] w (NewRow w 30 2 (queryB all nn bs).length (idc (queryB all nn bs))) := by
  obtain ⟨φ, ts, H, nh, va, bh, h1, h2, h3, h4⟩ := h
  obtain ⟨i0, hi, hz0, hz1, hz2⟩ := info_parts info_id
  obtain ⟨A, cap, rfl, hc1, hc2⟩ := row_any h1.row
  unfold maxLen at hc2
  have hl := h2.len
  have hgl := h1.lt
  have k4 := h1.at4
  have hbl : bs.length = ts.length := by rw [← h3, List.length_map]
  have hids : ∀ b ∈ bs, b.ids.length ≤ 1000 := by
    intro b hb
    rw [← h3] at hb
    obtain ⟨r, hr, rfl⟩ := List.mem_map.1 hb
    obtain ⟨k, hk, e⟩ := List.getElem_of_mem hr
    have := (h2.t.ok k r (by rw [List.getElem?_eq_getElem hk, e])).2.2.2.1
    omega
  have H1 := Lib.hid h1
  have H2 := Lib.hid h2
  have H3 := Lib.hid h3
  have HB := Lib.hid hids
  obtain ⟨n, hn⟩ : ∃ n, ts.length = n := ⟨_, rfl⟩
  rw [hn] at k4 hc1 hl hbl
  have HN := Lib.hid hn
  have HBL := Lib.hid hbl
  clear h1 h2 h3 h4 hids hn hbl
  go_enter Try.func19, Try.ntmps19
  go_wp2
  go_loopw [7, 15] (fun v7 v15 wr => QRel w bs all nn v7 v15 wr) (fun _ v15 _ => n - (intOf v15).toNat)
  case atStart => exact ⟨0, Nat.zero_le _, rfl, World.ownsRow_nil _ _ _ _, Touch.refl _ _⟩
  case round =>
    obtain ⟨k, hk, rfl, hown, hTr⟩ := hrel
    rw [HBL.out] at hk
    by_cases hlt : k < n
    · obtain ⟨r, hr⟩ : ∃ r, ts[k]? = some r := ⟨_, List.getElem?_eq_getElem (by rw [HN.out]; exact hlt)⟩
      have hS := H1.out.quiet hTr
      obtain ⟨gv, cap', hv, _, _, hob⟩ := row_form hS.row (by rw [HN.out]; omega)
      injection hv with hv1 hv2 hv3
      subst hv1 hv3
      clear hv2
      have hgv := row_lt hS.row hob
      have k5 : wr.cell? ⟨gv, k, none⟩ = some (.pointer (some ⟨r.a, 0, none⟩)) := by rw [hS.row.cellAt k (by rw [HN.out]; omega), pvc_at, am_get, hr]; rfl
      have hra := (hS.arch k r hr).1
      have k6 : wr.cell? ⟨r.a, 0, none⟩ = some (.int .u16 r.b.m) := cell_blk hra 0
      have k7 : wr.cell? ⟨r.a, 1, none⟩ = some (.pointer (some ⟨r.t, 0, none⟩)) := cell_blk hra 1
      have hla := blk_lt hra
      have hok := (H2.out.t.ok k r hr).2.2.2.1
      have hbk : bs[k]? = some r.b := by rw [← H3.out, List.getElem?_map, hr]; rfl
      have hsn : queryB all nn (bs.take (k + 1)) = queryB all nn (bs.take k) ++ (if wantM all nn r.b.m = true then r.b.ids else []) := by
        obtain ⟨hkl, e⟩ := List.getElem?_eq_some_iff.1 hbk
        rw [List.take_succ_eq_append_getElem hkl, e, query_snoc]
      have hql : (queryB all nn (bs.take k)).length ≤ 1000 * 1000 := by
        have h1 := query_len all nn 1000 (bs.take k) (fun b hb => HB.out b (List.mem_of_mem_take hb))
        have h2 : (bs.take k).length ≤ 1000 := by rw [List.length_take]; omega
        have h3 := Nat.mul_le_mul_right 1000 h2
        omega
      have HIds := Lib.hid (tids_any r.t r.b.m r.b.ids r.b.cf r.D r.n _ wr (hS.tab k r hr) (by omega))
      have Hs := Lib.hid hsn
      have Ho := Lib.hid hown
      have HT := Lib.hid hTr
      clear hS hra hr hbk hsn hown hTr hob
      obtain ⟨ids, hid⟩ : ∃ ids, r.b.ids = ids := ⟨_, rfl⟩
      rw [hid] at HIds Hs hok
      obtain ⟨Q, hQ⟩ : ∃ Q, queryB all nn (bs.take k) = Q := ⟨_, rfl⟩
      rw [hQ] at Hs Ho hql
      clear hid hQ
      unfold wantM at Hs
      cases d1 : (bits .and .u16 r.b.m all == all)
      · rw [d1] at Hs
        go_wp2
        go_roundw
        case rel =>
          refine ⟨k + 1, by rw [HBL.out]; omega, by go_num, ?_, HT.out⟩
          rw [Hs.out]
          simpa using Ho.out
        case measure => simp [intOf]; omega
      · cases d2 : (bits .and .u16 r.b.m nn == 0)
        · rw [d1, d2] at Hs
          go_wp2
          go_roundw
          case rel =>
            refine ⟨k + 1, by rw [HBL.out]; omega, by go_num, ?_, HT.out⟩
            rw [Hs.out]
            simpa using Ho.out
          case measure => simp [intOf]; omega
        · rw [d1, d2] at Hs
          go_wp2_with fail
          refine HIds.out.mono ?_
          rintro e w1 ⟨v1, rfl, hown1, hT1⟩
          have hT1' := HT.out.same hT1
          have Ho1 := Lib.hid (row_touch Ho.out hT1 (fun _ _ e => e))
          have HT1 := Lib.hid hT1'
          have hsz := hT1'.size
          have hforms : (v1 = .slice none 0 0 ∧ ids.length = 0) ∨ ∃ g cap, v1 = .slice (some ⟨g, 0, none⟩) ids.length cap := by
            rcases hown1.2 with e | ⟨g, cap, cur, e, _⟩
            · exact .inl e
            · exact .inr ⟨g, cap, e⟩
          rcases hforms with ⟨rfl, h0⟩ | ⟨g1, cp1, rfl⟩
          · have e0 : ids = [] := List.eq_nil_of_length_eq_zero h0
            subst e0
            clear hT1 hT1' hown1
            go_wp2_with (at_builtin; refine wpList_append_own_none rfl (.tmp 36) (.tmp 41) 28 rfl w.heap.size 30 i0 2 Try.underlying28 hi _ Q.length (idc Q) rfl Ho1.out rfl ?_)
            go_roundw
            case rel =>
              refine ⟨k + 1, by rw [HBL.out]; omega, by go_num, ?_, HT1.out⟩
              rw [Hs.out]
              simpa using Ho1.out
            case measure => simp [intOf]; omega
          · have hnews := row_oneCell hown1 rfl
            have HNW := Lib.hid hnews
            clear hT1 hT1' hown1 hnews
            go_wp2_with (at_builtin; refine wpList_append_own_at _ rfl (.tmp 36) (.tmp 41) 28 rfl w.heap.size 30 i0 _ 2 16 Try.underlying28 hi hz0 hz1 hz2 rfl (by decide) _ Q.length (idc Q) rfl Ho1.out ⟨g1, 0, none⟩ ids.length cp1 (idc ids) rfl (idc_length ids) HNW.out (idc_one ids) ?c3 ?c4 ?c5 ?go)
            case c3 => unfold maxLen; omega
            case c4 => omega
            case c5 => omega
            case go =>
            intro v2 w2 hown2 hgrow _ _
            have hT2 : Touch NoB w w2 := HT1.out.grown hgrow (fun b e => .inr (Ho1.out.lt b e).1)
            have Ho2 := Lib.hid hown2
            have HT2 := Lib.hid hT2
            clear hown2 hgrow hT2
            go_wp2
            go_roundw
            case rel =>
              refine ⟨k + 1, by rw [HBL.out]; omega, by go_num, ?_, HT2.out⟩
              rw [Hs.out]
              simp only [Bool.and_self, if_true, List.length_append, idc_append]
              exact Ho2.out
            case measure => simp [intOf]; omega
    · obtain rfl : k = n := by omega
      have Ho := Lib.hid hown
      have HT := Lib.hid hTr
      have e : bs.take k = bs := List.take_of_length_le (by have := HBL.out; omega)
      rw [e] at Ho
      clear hown hTr e
      go_wp2
      go_ret
      exact ⟨_, rfl, Ho.out, HT.out⟩

def MRel (w : World) (bs : List Tb) (v3 v17 : Value) (wr : World) : Prop :=
  ∃ k : Nat, k ≤ bs.length ∧ v17 = .int .i64 k ∧ wr.ownsRow w.heap.size 34 1 v3 (masksB (bs.take k)).length (mc (masksB (bs.take k))) ∧ Touch NoB w wr

theorem masks_any (h : St w F cnt g room tables ps ds bs) (hc : cnt ≤ 1000) :
    Calls Try.prog 53 #[.pointer (some ⟨g, 0, none⟩)] w (NewRow w 34 1 (masksB bs).length (mc (masksB bs))) := by
  obtain ⟨φ, ts, H, nh, va, bh, h1, h2, h3, h4⟩ := h
  obtain ⟨i0, hi, hz0, hz1, hz2⟩ := info_parts info_u16
  obtain ⟨A, cap, rfl, hc1, hc2⟩ := row_any h1.row
  unfold maxLen at hc2
  have hl := h2.len
  have hgl := h1.lt
  have k4 := h1.at4
  have hbl : bs.length = ts.length := by rw [← h3, List.length_map]
  have H1 := Lib.hid h1
  have H3 := Lib.hid h3
  obtain ⟨n, hn⟩ : ∃ n, ts.length = n := ⟨_, rfl⟩
  rw [hn] at k4 hc1 hl hbl
  have HN := Lib.hid hn
  have HBL := Lib.hid hbl
  have hmk : ∀ W : World, (Instr.makeSlice 108 (.int .i64 0) (.int .i64 (n : Int))).run Try.prog W = .ok (.slice (some ⟨W.heap.size, 0, none⟩) 0 n) (W.alloc (.cells (madeCells #[.int .u16 0] (n * 1)) 34)) := by
    intro W
    have := run_make (P := Try.prog) W 108 34 i0 _ Try.underlying108 hi hz0 .i64 .i64 0 (n : Int) (by decide) (by omega) (by rw [hz2]; omega) (by omega)
    rw [hz1] at this
    simpa [Value.cells] using this
  clear h1 h2 h3 h4 hn hbl
  go_enter Try.func53, Try.ntmps53
  go_wp2
  go_loopw [3, 17] (fun v3 v17 wr => MRel w bs v3 v17 wr) (fun _ v17 _ => n - (intOf v17).toNat)
  case atStart =>
    refine ⟨0, Nat.zero_le _, rfl, ?_, (Touch.refl _ _).alloc _⟩
    have hh : (w.alloc (.cells (madeCells #[.int .u16 0] (n * 1)) 34)).ownsRow w.heap.size 34 1 (.slice (some ⟨w.heap.size, 0, none⟩) 0 n) 0 [] := World.ownsRow_made w _ n (Nat.le_refl _) (by unfold maxLen; omega) (size_madeCells _ _)
    simpa [masksB, mc] using hh
  case round =>
    obtain ⟨k, hk, rfl, hown, hTr⟩ := hrel
    rw [HBL.out] at hk
    by_cases hlt : k < n
    · obtain ⟨r, hr⟩ : ∃ r, ts[k]? = some r := ⟨_, List.getElem?_eq_getElem (by rw [HN.out]; exact hlt)⟩
      have hS := H1.out.quiet hTr
      obtain ⟨gv, cap', hv, _, _, hob⟩ := row_form hS.row (by rw [HN.out]; omega)
      injection hv with hv1 hv2 hv3
      subst hv1 hv3
      clear hv2
      have hgv := row_lt hS.row hob
      have k5 : wr.cell? ⟨gv, k, none⟩ = some (.pointer (some ⟨r.a, 0, none⟩)) := by rw [hS.row.cellAt k (by rw [HN.out]; omega), pvc_at, am_get, hr]; rfl
      have hra := (hS.arch k r hr).1
      have k6 : wr.cell? ⟨r.a, 0, none⟩ = some (.int .u16 r.b.m) := cell_blk hra 0
      have hla := blk_lt hra
      have hbk : bs[k]? = some r.b := by rw [← H3.out, List.getElem?_map, hr]; rfl
      have hsn : masksB (bs.take (k + 1)) = masksB (bs.take k) ++ [r.b.m] := by
        rw [take_one hbk]
        simp [masksB]
      have hql : (masksB (bs.take k)).length ≤ 1000 := by
        unfold masksB
        rw [List.length_map, List.length_take]; omega
      have Hs := Lib.hid hsn
      have Ho := Lib.hid hown
      have HT := Lib.hid hTr
      have hsz := hTr.size
      clear hS hra hr hbk hsn hown hTr hob
      obtain ⟨m, hm⟩ : ∃ m, r.b.m = m := ⟨_, rfl⟩
      rw [hm] at k6 Hs
      obtain ⟨Q, hQ⟩ : ∃ Q, masksB (bs.take k) = Q := ⟨_, rfl⟩
      rw [hQ] at Hs Ho hql
      clear hm hQ
      go_wp2_with (at_builtin; refine wpList_append_own_at _ rfl (.tmp 21) (.tmp 26) 108 rfl w.heap.size 34 i0 _ 1 2 Try.underlying108 hi hz0 hz1 hz2 rfl (by decide) _ Q.length (mc Q) rfl ?o1 ⟨wr.heap.size, 0, none⟩ 1 1 [.int .u16 m] rfl rfl ?c1 ?c2 ?c3 ?c4 ?c5 ?go)
      case o1 => exact Ho.out.alloc _
      case c1 => exact cell_one_new _ _ _
      case c2 => intro u hu; simp at hu; subst hu; rfl
      case c3 => unfold maxLen; omega
      case c4 => omega
      case c5 => first | omega | (rw [World.size_alloc]; omega) | (simp; omega)
      case go =>
      intro v2 w2 hown2 hgrow _ _
      have hT2 : Touch NoB w w2 := (HT.out.alloc _).grown hgrow (fun b e => .inr (Ho.out.lt b e).1)
      have Ho2 := Lib.hid hown2
      have HT2 := Lib.hid hT2
      clear hown2 hgrow hT2
      go_wp2
      go_roundw
      case rel =>
        refine ⟨k + 1, by rw [HBL.out]; omega, by go_num, ?_, HT2.out⟩
        rw [Hs.out, mc_snoc, List.length_append]
        exact Ho2.out
      case measure => simp [intOf]; omega
    · obtain rfl : k = n := by omega
      have Ho := Lib.hid hown
      have HT := Lib.hid hTr
      have e : bs.take k = bs := List.take_of_length_le (by have := HBL.out; omega)
      rw [e] at Ho
      clear hown hTr e
      go_wp2
      go_ret
      exact ⟨_, rfl, Ho.out, HT.out⟩
end
end Go.Proofs.Yticekldgjlihmaa
