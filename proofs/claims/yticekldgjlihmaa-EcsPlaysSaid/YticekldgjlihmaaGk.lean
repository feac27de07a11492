/-
  Query and Masks of the document's own Store.
-/
import Derived.Test.YticekldgjlihmaaGd
import Derived.Test.YticekldgjlihmaaEm
namespace Go.Proofs.Yticekldgjlihmaa
open Go.ChangeShapes Go.WideShapes Go.ChangeAt Go.RowKit Go.Maps
set_option maxRecDepth 100000
set_option maxHeartbeats 1000000

section
variable {w : World} {F : Nat → Prop} {g : Nat} {room most : Int} {ps : List (Int × Bool)} {ds : List Int} {bs : List Tb}
theorem rmasks_any (h : RSt w F g room most ps ds bs) (hl0 : bs.length ≤ 1000) :
    Calls Try.prog 54 #[.pointer (some ⟨g, 0, none⟩)] w (NewRow w 34 1 (masksB bs).length (mc (masksB bs))) := by
  obtain ⟨φ, gi, ts, vl, h1, h3, h4⟩ := h
  obtain ⟨i0, hi, hz0, hz1, hz2⟩ := info_parts info_u16
  obtain ⟨A, cap, rfl, hc1, hc2⟩ := row_any h1.row
  unfold maxLen at hc2
  have hgl := h1.lt
  have k4 := h1.c2
  have hbl : bs.length = ts.length := by rw [← h3, List.length_map]
  have H1 := Lib.hid h1
  have H3 := Lib.hid h3
  obtain ⟨n, hn⟩ : ∃ n, ts.length = n := ⟨_, rfl⟩
  rw [hn] at k4 hc1 hbl
  have hl : n ≤ 1000 := by omega
  have HN := Lib.hid hn
  have HBL := Lib.hid hbl
  clear h1 h3 h4 hn hbl hl0
  go_enter Try.func54, Try.ntmps54
  go_wp2
  go_loopw [3, 4] (fun v3 v4 wr => MRel w bs v3 v4 wr) (fun _ v4 _ => n - (intOf v4).toNat)
  case atStart => exact ⟨0, Nat.zero_le _, rfl, World.ownsRow_nil _ _ _ _, Touch.refl _ _⟩
  case round =>
    obtain ⟨k, hk, rfl, hown, hTr⟩ := hrel
    rw [HBL.out] at hk
    have k4r := (H1.out.quiet hTr).c2
    rw [HN.out] at k4r
    have hglr := (H1.out.quiet hTr).lt
    by_cases hlt : k < n
    · obtain ⟨r, hr⟩ : ∃ r, ts[k]? = some r := ⟨_, List.getElem?_eq_getElem (by rw [HN.out]; exact hlt)⟩
      have hS := H1.out.quiet hTr
      obtain ⟨gv, cap', hv, k5, hgv⟩ := hS.at hr
      rw [HN.out] at hv
      injection hv with hv1 hv2 hv3
      subst hv1
      clear hv2 hv3
      obtain ⟨k6, hla, _⟩ := (hS.tab k r hr).mask
      have hbk : bs[k]? = some r.b := by rw [← H3.out, List.getElem?_map, hr]; rfl
      have hsn : masksB (bs.take (k + 1)) = masksB (bs.take k) ++ [r.m] := by
        rw [take_one hbk]
        simp [masksB, RTb.b]
      have hql : (masksB (bs.take k)).length ≤ 1000 := by
        unfold masksB
        rw [List.length_map, List.length_take]; omega
      have Hs := Lib.hid hsn
      have Ho := Lib.hid hown
      have HT := Lib.hid hTr
      have hsz := hTr.size
      clear hS hr hbk hsn hown hTr
      obtain ⟨m, hm⟩ : ∃ m, r.m = m := ⟨_, rfl⟩
      obtain ⟨G, hG⟩ : ∃ G, r.g = G := ⟨_, rfl⟩
      rw [hm] at k6 Hs
      rw [hG] at k5 k6 hla
      obtain ⟨Q, hQ⟩ : ∃ Q, masksB (bs.take k) = Q := ⟨_, rfl⟩
      rw [hQ] at Hs Ho hql
      clear hm hQ hG
      go_wp2_with (at_builtin; refine wpList_append_own_at _ rfl (.tmp 14) (.tmp 25) 108 rfl w.heap.size 34 i0 _ 1 2 Try.underlying108 hi hz0 hz1 hz2 rfl (by decide) _ Q.length (mc Q) rfl ?o1 ⟨wr.heap.size, 0, none⟩ 1 1 [.int .u16 m] rfl rfl ?c1 ?c2 ?c3 ?c4 ?c5 ?go)
      case o1 => exact Ho.out.alloc _
      case c1 => exact cell_one_new _ _ _
      case c2 => intro u hu; simp at hu; subst hu; rfl
      case c3 => unfold maxLen; omega
      case c4 => omega
      case c5 => first | omega | (rw [World.size_alloc]; omega) | (simp; omega)
      case go =>
      intro v2 w2 hown2 hgrow _ _
      have hT2 : Touch NoB w w2 := (HT.out.alloc _).grown hgrow (fun b e => .inr (Ho.out.lt b e).1)
      have Ho2 := Lib.hid hown2
      have HT2 := Lib.hid hT2
      clear hown2 hgrow hT2
      go_wp2
      go_roundw
      case rel =>
        refine ⟨k + 1, by rw [HBL.out]; omega, by go_num, ?_, HT2.out⟩
        rw [Hs.out, mc_snoc, List.length_append]
        exact Ho2.out
      case measure => simp [intOf]; omega
    · obtain rfl : k = n := by omega
      have Ho := Lib.hid hown
      have HT := Lib.hid hTr
      have e : bs.take k = bs := List.take_of_length_le (by have := HBL.out; omega)
      rw [e] at Ho
      clear hown hTr e
      go_wp2
      go_ret
      exact ⟨_, rfl, Ho.out, HT.out⟩

theorem rquery_any (h : RSt w F g room most ps ds bs) (hl0 : bs.length ≤ 1000) (hids : ∀ b ∈ bs, b.ids.length ≤ 1000) (all nn : Int) :
    Calls Try.prog 52 #[.pointer (some ⟨g, 0, none⟩), .int .u16 all, .int .u16 nn] w (NewRow w 30 2 (queryB all nn bs).length (idc (queryB all nn bs))) := by
  obtain ⟨φ, gi, ts, vl, h1, h3, h4⟩ := h
  obtain ⟨i0, hi, hz0, hz1, hz2⟩ := info_parts info_id
  obtain ⟨A, cap, rfl, hc1, hc2⟩ := row_any h1.row
  unfold maxLen at hc2
  have hgl := h1.lt
  have k4 := h1.c2
  have hbl : bs.length = ts.length := by rw [← h3, List.length_map]
  have H1 := Lib.hid h1
  have H3 := Lib.hid h3
  have HB := Lib.hid hids
  obtain ⟨n, hn⟩ : ∃ n, ts.length = n := ⟨_, rfl⟩
  rw [hn] at k4 hc1 hbl
  have hl : n ≤ 1000 := by omega
  have HN := Lib.hid hn
  have HBL := Lib.hid hbl
  clear h1 h3 h4 hids hn hbl hl0
  go_enter Try.func52, Try.ntmps52
  go_wp2
  go_loopw [7, 8] (fun v7 v8 wr => QRel w bs all nn v7 v8 wr) (fun _ v8 _ => n - (intOf v8).toNat)
  case atStart => exact ⟨0, Nat.zero_le _, rfl, World.ownsRow_nil _ _ _ _, Touch.refl _ _⟩
  case round =>
    obtain ⟨k, hk, rfl, hown, hTr⟩ := hrel
    rw [HBL.out] at hk
    have k4r := (H1.out.quiet hTr).c2
    rw [HN.out] at k4r
    have hglr := (H1.out.quiet hTr).lt
    by_cases hlt : k < n
    · obtain ⟨r, hr⟩ : ∃ r, ts[k]? = some r := ⟨_, List.getElem?_eq_getElem (by rw [HN.out]; exact hlt)⟩
      have hS := H1.out.quiet hTr
      obtain ⟨gv, cap', hv, k5, hgv⟩ := hS.at hr
      rw [HN.out] at hv
      injection hv with hv1 hv2 hv3
      subst hv1
      clear hv2 hv3
      obtain ⟨k6, hla, _⟩ := (hS.tab k r hr).mask
      have hbk : bs[k]? = some r.b := by rw [← H3.out, List.getElem?_map, hr]; rfl
      have hok : r.l.length ≤ 1000 := by
        have := HB.out r.b (List.mem_of_getElem? hbk)
        have h' : (r.l.map Prod.fst).length ≤ 1000 := this
        simpa using h'
      have hsn : queryB all nn (bs.take (k + 1)) = queryB all nn (bs.take k) ++ (if wantM all nn r.m = true then r.l.map Prod.fst else []) := by
        obtain ⟨hkl, e⟩ := List.getElem?_eq_some_iff.1 hbk
        rw [List.take_succ_eq_append_getElem hkl, e, query_snoc]
        rfl
      have hql : (queryB all nn (bs.take k)).length ≤ 1000 * 1000 := by
        have h1 := query_len all nn 1000 (bs.take k) (fun b hb => HB.out b (List.mem_of_mem_take hb))
        have h2 : (bs.take k).length ≤ 1000 := by rw [List.length_take]; omega
        have h3 := Nat.mul_le_mul_right 1000 h2
        omega
      have HIds := Lib.hid (fun (W : World) (hW : Touch NoB wr W) => rtids_any r.g r.m r.l _ W ((hS.tab k r hr).quiet hW) (by omega))
      have Hs := Lib.hid hsn
      have Ho := Lib.hid hown
      have HT := Lib.hid hTr
      clear hS hr hbk hsn hown hTr
      have hle : r.l.length = (r.l.map Prod.fst).length := by simp
      rw [hle] at HIds hok
      clear hle
      obtain ⟨ids, hid⟩ : ∃ ids, r.l.map Prod.fst = ids := ⟨_, rfl⟩
      rw [hid] at HIds Hs hok
      obtain ⟨Q, hQ⟩ : ∃ Q, queryB all nn (bs.take k) = Q := ⟨_, rfl⟩
      rw [hQ] at Hs Ho hql
      obtain ⟨G, hG⟩ : ∃ G, r.g = G := ⟨_, rfl⟩
      rw [hG] at HIds k5 k6 hla
      obtain ⟨m, hm⟩ : ∃ m, r.m = m := ⟨_, rfl⟩
      rw [hm] at k6 Hs
      clear hid hQ hG hm
      unfold wantM at Hs
      cases d1 : (bits .and .u16 m all == all)
      · rw [d1] at Hs
        go_wp2
        go_roundw
        case rel =>
          refine ⟨k + 1, by rw [HBL.out]; omega, by go_num, ?_, HT.out⟩
          rw [Hs.out]
          simpa using Ho.out
        case measure => simp [intOf]; omega
      · cases d2 : (bits .and .u16 m nn == 0)
        · rw [d1, d2] at Hs
          go_wp2
          go_roundw
          case rel =>
            refine ⟨k + 1, by rw [HBL.out]; omega, by go_num, ?_, HT.out⟩
            rw [Hs.out]
            simpa using Ho.out
          case measure => simp [intOf]; omega
        · rw [d1, d2] at Hs
          go_wp2_with fail
          refine (HIds.out _ (Touch.refl _ _)).mono ?_
          rintro e w1 ⟨v1, rfl, hown1, hT1⟩
          have hT1' := HT.out.same hT1
          have Ho1 := Lib.hid (row_touch Ho.out hT1 (fun _ _ e => e))
          have HT1 := Lib.hid hT1'
          have hsz := hT1'.size
          have hforms : (v1 = .slice none 0 0 ∧ ids.length = 0) ∨ ∃ g cap, v1 = .slice (some ⟨g, 0, none⟩) ids.length cap := by
            rcases hown1.2 with e | ⟨g, cap, cur, e, _⟩
            · exact .inl e
            · exact .inr ⟨g, cap, e⟩
          rcases hforms with ⟨rfl, h0⟩ | ⟨g1, cp1, rfl⟩
          · have e0 : ids = [] := List.eq_nil_of_length_eq_zero h0
            subst e0
            clear hT1 hT1' hown1
            go_wp2_with (at_builtin; refine wpList_append_own_none rfl (.tmp 47) (.tmp 55) 28 rfl w.heap.size 30 i0 2 Try.underlying28 hi _ Q.length (idc Q) rfl Ho1.out rfl ?_)
            go_roundw
            case rel =>
              refine ⟨k + 1, by rw [HBL.out]; omega, by go_num, ?_, HT1.out⟩
              rw [Hs.out]
              simpa using Ho1.out
            case measure => simp [intOf]; omega
          · have hnews := row_oneCell hown1 rfl
            have HNW := Lib.hid hnews
            clear hT1 hT1' hown1 hnews
            go_wp2_with (at_builtin; refine wpList_append_own_at _ rfl (.tmp 47) (.tmp 55) 28 rfl w.heap.size 30 i0 _ 2 16 Try.underlying28 hi hz0 hz1 hz2 rfl (by decide) _ Q.length (idc Q) rfl Ho1.out ⟨g1, 0, none⟩ ids.length cp1 (idc ids) rfl (idc_length ids) HNW.out (idc_one ids) ?c3 ?c4 ?c5 ?go)
            case c3 => unfold maxLen; omega
            case c4 => omega
            case c5 => omega
            case go =>
            intro v2 w2 hown2 hgrow _ _
            have hT2 : Touch NoB w w2 := HT1.out.grown hgrow (fun b e => .inr (Ho1.out.lt b e).1)
            have Ho2 := Lib.hid hown2
            have HT2 := Lib.hid hT2
            clear hown2 hgrow hT2
            go_wp2
            go_roundw
            case rel =>
              refine ⟨k + 1, by rw [HBL.out]; omega, by go_num, ?_, HT2.out⟩
              rw [Hs.out]
              simp only [Bool.and_self, if_true, List.length_append, idc_append]
              exact Ho2.out
            case measure => simp [intOf]; omega
    · obtain rfl : k = n := by omega
      have Ho := Lib.hid hown
      have HT := Lib.hid hTr
      have e : bs.take k = bs := List.take_of_length_le (by have := HBL.out; omega)
      rw [e] at Ho
      clear hown hTr e
      go_wp2
      go_ret
      exact ⟨_, rfl, Ho.out, HT.out⟩
end
end Go.Proofs.Yticekldgjlihmaa
