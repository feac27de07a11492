/-
  The walk of SchemaKeys.
-/
import Derived.Test.YtmlnnmdidcbglaaKf
import Derived.Test.YtmlnnmdidcbglaaKg
import Derived.Deep.DeepCutAuto
import Derived.Deep.RegionHeld3
namespace Go.Proofs.Ytmlnnmdidcbglaa
open Go.ChangeShapes Go.WideShapes Go.ChangeAt Go.RowKit
set_option maxRecDepth 100000
set_option maxHeartbeats 80000000

theorem nms_add (l : List Ky) : (nmsB false l).length + (nmsB true l).length = l.length := by
  induction l with
  | nil => rfl
  | cons k l ih =>
    unfold nmsB at ih ⊢
    simp only [List.length_map] at ih ⊢
    obtain ⟨nm, kd, sh⟩ := k
    cases sh
    · simp only [List.filter_cons, List.length_cons, beq_self_eq_true, if_true, show (false == true) = false from rfl, Bool.false_eq_true, if_false]
      omega
    · simp only [List.filter_cons, List.length_cons, beq_self_eq_true, if_true, show (true == false) = false from rfl, Bool.false_eq_true, if_false]
      omega
theorem nms_split (b : Bool) (l : List Ky) (i : Nat) : nmsB b l = nmsB b (l.take i) ++ nmsB b (l.drop i) := by
  unfold nmsB
  rw [← List.map_append, ← List.filter_append, List.take_append_drop]
theorem nms_at {b : Bool} {l : List Ky} {i : Nat} {k : Ky} (hk : l[i]? = some k) (hs : k.sh = b) : (nmsB b l)[(nmsB b (l.take i)).length]? = some k.nm := by
  have hi := (List.getElem?_eq_some_iff.1 hk).1
  have hk' := (List.getElem?_eq_some_iff.1 hk).2
  rw [nms_split b l i, List.getElem?_append_right (Nat.le_refl _), Nat.sub_self, List.drop_eq_getElem_cons hi, hk']
  unfold nmsB
  simp [hs]
theorem nms_next {b : Bool} {l : List Ky} {i : Nat} {k : Ky} (hk : l[i]? = some k) : (nmsB b (l.take (i + 1))).length = (nmsB b (l.take i)).length + (if (k.sh == b) = true then 1 else 0) := by
  have hi := (List.getElem?_eq_some_iff.1 hk).1
  have hk' := (List.getElem?_eq_some_iff.1 hk).2
  rw [List.take_succ_eq_append_getElem hi, hk', nms_snoc, List.length_append]
  split <;> rfl
theorem sc_at (l : List ByteArray) (i : Nat) : (sc l)[i]? = (l[i]?).map Value.string := by simp [sc]

/-- The copy of the list of keys. -/
theorem kat_news {w : World} {F : Nat → Prop} {ad : Addr} {l : List Ky} (h : KAt w F (some ad) l) : ∀ j u, (kc l)[j]? = some u → w.cell? (ad.add j) = some u := by
  intro j u hu
  have hjl : j < l.length * 3 := by rw [← kc_length]; exact (List.getElem?_eq_some_iff.1 hu).1
  have hi : j / 3 < l.length := by omega
  obtain ⟨_, b, off, he, _, _, c0, c1, c2⟩ := h (j / 3) _ (List.getElem?_eq_getElem hi)
  injection he with he
  subst he
  have hj : j = j / 3 * 3 + j % 3 := by omega
  have hk := kc_at l (j / 3) (j % 3) (by omega)
  rw [← hj, hu, List.getElem?_eq_getElem hi] at hk
  rw [add_plain]
  have h3 : j % 3 = 0 ∨ j % 3 = 1 ∨ j % 3 = 2 := by omega
  rcases h3 with e | e | e
  · rw [e] at hk hj
    rw [hj, Nat.add_zero, c0]
    exact hk.symm
  · rw [e] at hk hj
    rw [hj, ← Nat.add_assoc, c1]
    exact hk.symm
  · rw [e] at hk hj
    rw [hj, ← Nat.add_assoc, c2]
    exact hk.symm
theorem kc_one (l : List Ky) : ∀ u ∈ kc l, u.oneCell' = true := by
  intro u hu
  unfold kc at hu
  obtain ⟨k, _, hk⟩ := List.mem_flatMap.1 hu
  simp at hk
  rcases hk with rfl | rfl | rfl <;> rfl

def KsRel (w : World) (l : List Ky) (v19 v20 v21 : Value) (wr : World) : Prop :=
  ∃ i : Nat, i ≤ l.length ∧ v19 = .int .i64 (nmsB false (l.take i)).length ∧ v20 = .int .i64 (nmsB true (l.take i)).length ∧ v21 = .int .i64 i ∧ Touch NoB w wr

theorem keys_some (ad : Addr) (n cap : Nat) (l : List Ky) (s : ByteArray) (at_ : Int) (w : World) (hn : l.length = n) (hn2 : n ≤ 120) (hs : s.size ≤ 60) (hnc : n ≤ cap) (hcap : cap ≤ 9223372036854775807) (h : KAt w NoB (some ad) l) :
    Calls Try.prog 3 #[.slice (some ad) n cap, .string s, .int .i64 at_] w fun e w' => e = .returned (.bool true) ∧ Touch NoB w w' := by
  obtain ⟨i0, hi, hz0, hz1, hz2⟩ := info_parts info_key
  have HK := Lib.hid h
  have HN := Lib.hid hn
  have g1 : ¬ 120 < (n : Int) := by omega
  have g2 : ¬ 60 < (s.size : Int) := by omega
  clear h hn
  go_enter Try.func3, Try.ntmps3
  go_wp2_with fail
  refine (alive_any _).mono ?_
  rintro e w1 ⟨rfl, hT1⟩
  have HT1 := Lib.hid hT1
  clear hT1
  go_wp2_with (at_builtin; refine wpList_append_own_at _ rfl (.const (.slice none 0 0)) (.tmp 37) 22 rfl w1.heap.size 35 i0 _ 3 32 Try.underlying22 hi hz0 hz1 hz2 rfl (by decide) (.slice none 0 0) 0 [] rfl ?o1 ad n cap (kc l) rfl ?c0 ?c1 (kc_one l) ?c3 ?c4 ?c5 ?go)
  case o1 => exact World.ownsRow_nil _ _ _ _
  case c0 => rw [kc_length, HN.out]
  case c1 => exact kat_news (HK.out.touch HT1.out)
  case c3 => unfold maxLen; omega
  case c4 => omega
  case c5 => exact Nat.le_refl _
  case go =>
  intro v2 w2 hown2 hgrow _ _
  have hT2 : Touch NoB w1 w2 := (Touch.refl NoB w1).grown hgrow (fun b e => by simp [Value.ownBlock] at e)
  obtain ⟨A2, cap2, rfl, hc1, hc2⟩ := row_any hown2
  have hsz : ∀ (j : Nat) (k : Ky), l[j]? = some k → k.nm.size ≤ 9223372036854775807 := fun j k hj => (HK.out j k hj).1
  have hK2 : KAt w2 NoB A2 l := row_kat hown2 HN.out hsz
  have HNew := Lib.hid (new_any A2 n cap2 l w2 HN.out (by omega) hK2)
  have HT2 := Lib.hid (HT1.out.same hT2)
  unfold maxLen at hc2
  clear hown2 hgrow hT2 hsz hK2
  go_wp2_with fail
  refine HNew.out.mono ?_
  rintro e w3 (⟨he, g, rfl, hS, hT3⟩ | ⟨he, rfl, hT3⟩)
  · have HS := Lib.hid hS
    have HT3 := Lib.hid (HT2.out.same hT3)
    have HE := Lib.hid he
    clear hS hT3 he HNew
    go_wp2_with fail
    refine (checkkeys_any (some ad) n cap l w3 HN.out (by omega) hnc hcap (HK.out.touch HT3.out)).mono ?_
    rintro e w4 ⟨p4, rfl, hT4⟩
    rw [HE.out]
    have HT4 := Lib.hid hT4
    clear hT4
    go_wp2_with fail
    refine (num_any _ _).mono ?_
    rintro e w' ⟨rfl, rfl⟩
    have hw : (∃ j k, at_ = ((j : Nat) : Int) ∧ l[j]? = some k ∧ keyV l at_ = .tuple #[.agg #[.string k.nm, .int .i64 k.kd, .bool k.sh], .bool true]) ∨ (at_ < 0 ∧ keyV l at_ = .tuple #[.agg #[.string ⟨#[]⟩, .int .i64 0, .bool false], .bool false]) ∨ (¬ at_ < 0 ∧ ¬ at_ < (n : Int) ∧ keyV l at_ = .tuple #[.agg #[.string ⟨#[]⟩, .int .i64 0, .bool false], .bool false]) := by
      have hn := HN.out
      by_cases h0 : at_ < 0
      · exact .inr (.inl ⟨h0, by unfold keyV; rw [if_neg (by omega)]⟩)
      · obtain ⟨j, rfl⟩ := Int.eq_ofNat_of_zero_le (by omega : 0 ≤ at_)
        by_cases h1 : j < n
        · have hk : l[j]? = some (l[j]'(by omega)) := List.getElem?_eq_getElem _
          exact .inl ⟨j, _, rfl, hk, by unfold keyV; rw [if_pos (by omega), show ((j : Int)).toNat = j from rfl, hk]⟩
        · exact .inr (.inr ⟨h0, by omega, by unfold keyV; rw [if_pos (by omega), show ((j : Int)).toNat = j from rfl, List.getElem?_eq_none (by omega)]⟩)
    have HA := Lib.hid (nms_add l)
    obtain ⟨na, hna⟩ : ∃ x, (nmsB false l).length = x := ⟨_, rfl⟩
    obtain ⟨nb, hnb⟩ : ∃ x, (nmsB true l).length = x := ⟨_, rfl⟩
    have HNA := Lib.hid hna
    have HNB := Lib.hid hnb
    have hab : ((na : Int) + (nb : Int)) = (n : Int) := by have := HA.out; have := HN.out; omega
    have hnb' : na + nb = n := by omega
    clear hna hnb
    obtain ⟨o, ho⟩ : ∃ o, findK l s = o := ⟨_, rfl⟩
    have HO := Lib.hid ho
    clear ho
    go_wp2_with fail
    refine (find_any g l s _ w4 (HS.out.quiet HT4.out) (by rw [HN.out]; omega)).mono ?_
    rintro e w5 ⟨rfl, hT5⟩
    have HT5 := Lib.hid (HT4.out.same hT5)
    clear hT5
    rw [HO.out]
    rcases o with _ | q
    all_goals
      unfold fndV
      go_wp2_with fail
      refine (findkey_any (some ad) n cap l s NoB w5 HN.out (by omega) (HK.out.touch (HT3.out.same HT5.out))).mono ?_
      rintro e w' ⟨rfl, rfl⟩
      rw [HO.out]
      unfold posV
      go_wp2_with fail
      refine (key_any g at_ l _ w5 (HS.out.quiet HT5.out)).mono ?_
      rintro e w6 ⟨rfl, hT6⟩
      have HT6 := Lib.hid (HT5.out.same hT6)
      clear hT6
      rcases hw with ⟨j, k, rfl, hj, hkv⟩ | ⟨h0, hkv⟩ | ⟨h0, h1, hkv⟩
      · rw [hkv]
        obtain ⟨hsz, b, off, hadd, hb, -, c0, c1, c2⟩ := (HK.out.touch (HT3.out.same HT6.out)) j k hj
        injection hadd with hadd
        subst hadd
        have hjn : (j : Int) < (n : Int) := by have := (List.getElem?_eq_some_iff.1 hj).1; have := HN.out; omega
        obtain ⟨nm, kd, sh⟩ := k
        simp only at c0 c1 c2
        clear hsz hj hkv
        go_wp2
        go_region
        go_wp2_with fail
        refine (own_any g l _ _ (HS.out.quiet (HT6.out.same (by repeat (first | with_reducible exact Touch.refl _ _ | with_reducible refine Touch.alloc ?_ _ | with_reducible refine Touch.drewN ?_ _ | with_reducible refine Touch.drew ?_)))) (by rw [HN.out]; omega)).mono ?_
        rintro e w7 ⟨v7, rfl, hr7, hT7⟩
        rw [HNA.out] at hr7
        obtain ⟨A7, cap7, rfl, hc7, hm7⟩ := row_any hr7
        have HT7 := Lib.hid (HT6.out.same (Touch.same (by repeat (first | with_reducible exact Touch.refl _ _ | with_reducible refine Touch.alloc ?_ _ | with_reducible refine Touch.drewN ?_ _ | with_reducible refine Touch.drew ?_)) hT7))
        have HR7 := Lib.hid hr7
        clear hr7 hT7
        go_wp2_with fail
        refine (shared_any g l _ _ (HS.out.quiet HT7.out) (by rw [HN.out]; omega)).mono ?_
        rintro e w8 ⟨v8, rfl, hr8, hT8⟩
        rw [HNB.out] at hr8
        obtain ⟨A8, cap8, rfl, hc8, hm8⟩ := row_any hr8
        have hr7 := row_touch HR7.out hT8 (fun _ _ x => x)
        clear HR7
        have HR7 := Lib.hid hr7
        have HR8 := Lib.hid hr8
        have HT8 := Lib.hid (HT7.out.same hT8)
        unfold maxLen at hm7 hm8
        clear hr7 hr8 hT8
        go_wp2
        go_loopw [19, 20, 21] (fun v19 v20 v21 wr => KsRel w8 l v19 v20 v21 wr) (fun _ _ v21 _ => n - (intOf v21).toNat)
        case atStart => exact ⟨0, Nat.zero_le _, rfl, rfl, rfl, Touch.refl _ _⟩
        case round =>
          obtain ⟨i, hil, rfl, rfl, rfl, hT⟩ := hrel
          have HTR := Lib.hid hT
          by_cases hlt : i < n
          · obtain ⟨k, hk⟩ : ∃ k, l[i]? = some k := ⟨l[i]'(by have := HN.out; omega), List.getElem?_eq_getElem _⟩
            obtain ⟨hsz, bk, offk, hadk, hbk, -, q0, q1, q2⟩ := (HK.out.touch (HT3.out.same (HT8.out.same hT))) i k hk
            cases hadk
            have hnf := nms_next (b := false) hk
            have hnt := nms_next (b := true) hk
            obtain ⟨ca, hca⟩ : ∃ x, (nmsB false (l.take i)).length = x := ⟨_, rfl⟩
            obtain ⟨cb, hcb⟩ : ∃ x, (nmsB true (l.take i)).length = x := ⟨_, rfl⟩
            rw [hca] at hnf
            rw [hcb] at hnt
            have hle := nms_add (l.take i)
            rw [hca, hcb, List.length_take] at hle
            obtain ⟨nmk, kdk, shk⟩ := k
            simp only at q0 q1 q2 hsz
            have HNF := Lib.hid hnf
            have HNT := Lib.hid hnt
            rw [hca, hcb]
            cases shk
            · have hat := nms_at hk rfl
              rw [hca] at hat
              have hlt2 := (List.getElem?_eq_some_iff.1 hat).1
              rw [HNA.out] at hlt2
              have hr := row_touch HR7.out hT (fun _ _ x => x)
              obtain ⟨gg, cg, hv, _, _, ho⟩ := row_form hr (by omega)
              have hlr := row_lt hr ho
              injection hv with hv _ hcg
              subst hv hcg
              have y1 : wr.cell? ⟨gg, ca, none⟩ = some (.string nmk) := by rw [hr.cellAt ca (by omega), sc_at, hat]; rfl
              clear hr ho hat hT hsz hk hca hcb hnf hnt
              have y2 : decide (na ≤ ca) = false := by simpa using hlt2
              go_wp2
              go_region
              go_wp2
              go_region
              go_wp2
              go_roundw
              case rel => exact ⟨i + 1, by have := HN.out; omega, by rw [HNF.out]; go_num, by rw [HNT.out]; go_num, by go_num, HTR.out.same (by repeat (first | with_reducible exact Touch.refl _ _ | with_reducible refine Touch.alloc ?_ _ | with_reducible refine Touch.drewN ?_ _ | with_reducible refine Touch.drew ?_))⟩
              case measure => simp [intOf]; omega
            · have hat := nms_at hk rfl
              rw [hcb] at hat
              have hlt2 := (List.getElem?_eq_some_iff.1 hat).1
              rw [HNB.out] at hlt2
              have hr := row_touch HR8.out hT (fun _ _ x => x)
              obtain ⟨gg, cg, hv, _, _, ho⟩ := row_form hr (by omega)
              have hlr := row_lt hr ho
              injection hv with hv _ hcg
              subst hv hcg
              have y1 : wr.cell? ⟨gg, cb, none⟩ = some (.string nmk) := by rw [hr.cellAt cb (by omega), sc_at, hat]; rfl
              clear hr ho hat hT hsz hk hca hcb hnf hnt
              have y2 : decide (nb ≤ cb) = false := by simpa using hlt2
              go_wp2
              go_region
              go_wp2
              go_region
              go_wp2
              go_roundw
              case rel => exact ⟨i + 1, by have := HN.out; omega, by rw [HNF.out]; go_num, by rw [HNT.out]; go_num, by go_num, HTR.out.same (by repeat (first | with_reducible exact Touch.refl _ _ | with_reducible refine Touch.alloc ?_ _ | with_reducible refine Touch.drewN ?_ _ | with_reducible refine Touch.drew ?_))⟩
              case measure => simp [intOf]; omega
          · clear hT
            have hin : i = n := by have := HN.out; omega
            subst hin
            go_wp2
            go_ret
            exact ⟨rfl, HT3.out.same (HT8.out.same HTR.out)⟩
      · rw [hkv]
        have d0 : decide ((0 : Int) ≤ at_) = false := by simpa using h0
        clear hkv h0
        go_wp2_with fail
        go_region
        go_wp2_with fail
        refine (own_any g l _ _ (HS.out.quiet (HT6.out.same (by repeat (first | with_reducible exact Touch.refl _ _ | with_reducible refine Touch.alloc ?_ _ | with_reducible refine Touch.drewN ?_ _ | with_reducible refine Touch.drew ?_)))) (by rw [HN.out]; omega)).mono ?_
        rintro e w7 ⟨v7, rfl, hr7, hT7⟩
        rw [HNA.out] at hr7
        obtain ⟨A7, cap7, rfl, hc7, hm7⟩ := row_any hr7
        have HT7 := Lib.hid (HT6.out.same (Touch.same (by repeat (first | with_reducible exact Touch.refl _ _ | with_reducible refine Touch.alloc ?_ _ | with_reducible refine Touch.drewN ?_ _ | with_reducible refine Touch.drew ?_)) hT7))
        have HR7 := Lib.hid hr7
        clear hr7 hT7
        go_wp2_with fail
        refine (shared_any g l _ _ (HS.out.quiet HT7.out) (by rw [HN.out]; omega)).mono ?_
        rintro e w8 ⟨v8, rfl, hr8, hT8⟩
        rw [HNB.out] at hr8
        obtain ⟨A8, cap8, rfl, hc8, hm8⟩ := row_any hr8
        have hr7 := row_touch HR7.out hT8 (fun _ _ x => x)
        clear HR7
        have HR7 := Lib.hid hr7
        have HR8 := Lib.hid hr8
        have HT8 := Lib.hid (HT7.out.same hT8)
        unfold maxLen at hm7 hm8
        clear hr7 hr8 hT8
        go_wp2
        go_loopw [19, 20, 21] (fun v19 v20 v21 wr => KsRel w8 l v19 v20 v21 wr) (fun _ _ v21 _ => n - (intOf v21).toNat)
        case atStart => exact ⟨0, Nat.zero_le _, rfl, rfl, rfl, Touch.refl _ _⟩
        case round =>
          obtain ⟨i, hil, rfl, rfl, rfl, hT⟩ := hrel
          have HTR := Lib.hid hT
          by_cases hlt : i < n
          · obtain ⟨k, hk⟩ : ∃ k, l[i]? = some k := ⟨l[i]'(by have := HN.out; omega), List.getElem?_eq_getElem _⟩
            obtain ⟨hsz, bk, offk, hadk, hbk, -, q0, q1, q2⟩ := (HK.out.touch (HT3.out.same (HT8.out.same hT))) i k hk
            cases hadk
            have hnf := nms_next (b := false) hk
            have hnt := nms_next (b := true) hk
            obtain ⟨ca, hca⟩ : ∃ x, (nmsB false (l.take i)).length = x := ⟨_, rfl⟩
            obtain ⟨cb, hcb⟩ : ∃ x, (nmsB true (l.take i)).length = x := ⟨_, rfl⟩
            rw [hca] at hnf
            rw [hcb] at hnt
            have hle := nms_add (l.take i)
            rw [hca, hcb, List.length_take] at hle
            obtain ⟨nmk, kdk, shk⟩ := k
            simp only at q0 q1 q2 hsz
            have HNF := Lib.hid hnf
            have HNT := Lib.hid hnt
            rw [hca, hcb]
            cases shk
            · have hat := nms_at hk rfl
              rw [hca] at hat
              have hlt2 := (List.getElem?_eq_some_iff.1 hat).1
              rw [HNA.out] at hlt2
              have hr := row_touch HR7.out hT (fun _ _ x => x)
              obtain ⟨gg, cg, hv, _, _, ho⟩ := row_form hr (by omega)
              have hlr := row_lt hr ho
              injection hv with hv _ hcg
              subst hv hcg
              have y1 : wr.cell? ⟨gg, ca, none⟩ = some (.string nmk) := by rw [hr.cellAt ca (by omega), sc_at, hat]; rfl
              clear hr ho hat hT hsz hk hca hcb hnf hnt
              have y2 : decide (na ≤ ca) = false := by simpa using hlt2
              go_wp2
              go_region
              go_wp2
              go_region
              go_wp2
              go_roundw
              case rel => exact ⟨i + 1, by have := HN.out; omega, by rw [HNF.out]; go_num, by rw [HNT.out]; go_num, by go_num, HTR.out.same (by repeat (first | with_reducible exact Touch.refl _ _ | with_reducible refine Touch.alloc ?_ _ | with_reducible refine Touch.drewN ?_ _ | with_reducible refine Touch.drew ?_))⟩
              case measure => simp [intOf]; omega
            · have hat := nms_at hk rfl
              rw [hcb] at hat
              have hlt2 := (List.getElem?_eq_some_iff.1 hat).1
              rw [HNB.out] at hlt2
              have hr := row_touch HR8.out hT (fun _ _ x => x)
              obtain ⟨gg, cg, hv, _, _, ho⟩ := row_form hr (by omega)
              have hlr := row_lt hr ho
              injection hv with hv _ hcg
              subst hv hcg
              have y1 : wr.cell? ⟨gg, cb, none⟩ = some (.string nmk) := by rw [hr.cellAt cb (by omega), sc_at, hat]; rfl
              clear hr ho hat hT hsz hk hca hcb hnf hnt
              have y2 : decide (nb ≤ cb) = false := by simpa using hlt2
              go_wp2
              go_region
              go_wp2
              go_region
              go_wp2
              go_roundw
              case rel => exact ⟨i + 1, by have := HN.out; omega, by rw [HNF.out]; go_num, by rw [HNT.out]; go_num, by go_num, HTR.out.same (by repeat (first | with_reducible exact Touch.refl _ _ | with_reducible refine Touch.alloc ?_ _ | with_reducible refine Touch.drewN ?_ _ | with_reducible refine Touch.drew ?_))⟩
              case measure => simp [intOf]; omega
          · clear hT
            have hin : i = n := by have := HN.out; omega
            subst hin
            go_wp2
            go_ret
            exact ⟨rfl, HT3.out.same (HT8.out.same HTR.out)⟩
      · rw [hkv]
        have d0 : decide ((0 : Int) ≤ at_) = true := by simpa using h0
        have d1 : decide (at_ < (n : Int)) = false := by simpa using h1
        clear hkv h0 h1
        go_wp2_with fail
        go_region
        go_wp2_with fail
        refine (own_any g l _ _ (HS.out.quiet (HT6.out.same (by repeat (first | with_reducible exact Touch.refl _ _ | with_reducible refine Touch.alloc ?_ _ | with_reducible refine Touch.drewN ?_ _ | with_reducible refine Touch.drew ?_)))) (by rw [HN.out]; omega)).mono ?_
        rintro e w7 ⟨v7, rfl, hr7, hT7⟩
        rw [HNA.out] at hr7
        obtain ⟨A7, cap7, rfl, hc7, hm7⟩ := row_any hr7
        have HT7 := Lib.hid (HT6.out.same (Touch.same (by repeat (first | with_reducible exact Touch.refl _ _ | with_reducible refine Touch.alloc ?_ _ | with_reducible refine Touch.drewN ?_ _ | with_reducible refine Touch.drew ?_)) hT7))
        have HR7 := Lib.hid hr7
        clear hr7 hT7
        go_wp2_with fail
        refine (shared_any g l _ _ (HS.out.quiet HT7.out) (by rw [HN.out]; omega)).mono ?_
        rintro e w8 ⟨v8, rfl, hr8, hT8⟩
        rw [HNB.out] at hr8
        obtain ⟨A8, cap8, rfl, hc8, hm8⟩ := row_any hr8
        have hr7 := row_touch HR7.out hT8 (fun _ _ x => x)
        clear HR7
        have HR7 := Lib.hid hr7
        have HR8 := Lib.hid hr8
        have HT8 := Lib.hid (HT7.out.same hT8)
        unfold maxLen at hm7 hm8
        clear hr7 hr8 hT8
        go_wp2
        go_loopw [19, 20, 21] (fun v19 v20 v21 wr => KsRel w8 l v19 v20 v21 wr) (fun _ _ v21 _ => n - (intOf v21).toNat)
        case atStart => exact ⟨0, Nat.zero_le _, rfl, rfl, rfl, Touch.refl _ _⟩
        case round =>
          obtain ⟨i, hil, rfl, rfl, rfl, hT⟩ := hrel
          have HTR := Lib.hid hT
          by_cases hlt : i < n
          · obtain ⟨k, hk⟩ : ∃ k, l[i]? = some k := ⟨l[i]'(by have := HN.out; omega), List.getElem?_eq_getElem _⟩
            obtain ⟨hsz, bk, offk, hadk, hbk, -, q0, q1, q2⟩ := (HK.out.touch (HT3.out.same (HT8.out.same hT))) i k hk
            cases hadk
            have hnf := nms_next (b := false) hk
            have hnt := nms_next (b := true) hk
            obtain ⟨ca, hca⟩ : ∃ x, (nmsB false (l.take i)).length = x := ⟨_, rfl⟩
            obtain ⟨cb, hcb⟩ : ∃ x, (nmsB true (l.take i)).length = x := ⟨_, rfl⟩
            rw [hca] at hnf
            rw [hcb] at hnt
            have hle := nms_add (l.take i)
            rw [hca, hcb, List.length_take] at hle
            obtain ⟨nmk, kdk, shk⟩ := k
            simp only at q0 q1 q2 hsz
            have HNF := Lib.hid hnf
            have HNT := Lib.hid hnt
            rw [hca, hcb]
            cases shk
            · have hat := nms_at hk rfl
              rw [hca] at hat
              have hlt2 := (List.getElem?_eq_some_iff.1 hat).1
              rw [HNA.out] at hlt2
              have hr := row_touch HR7.out hT (fun _ _ x => x)
              obtain ⟨gg, cg, hv, _, _, ho⟩ := row_form hr (by omega)
              have hlr := row_lt hr ho
              injection hv with hv _ hcg
              subst hv hcg
              have y1 : wr.cell? ⟨gg, ca, none⟩ = some (.string nmk) := by rw [hr.cellAt ca (by omega), sc_at, hat]; rfl
              clear hr ho hat hT hsz hk hca hcb hnf hnt
              have y2 : decide (na ≤ ca) = false := by simpa using hlt2
              go_wp2
              go_region
              go_wp2
              go_region
              go_wp2
              go_roundw
              case rel => exact ⟨i + 1, by have := HN.out; omega, by rw [HNF.out]; go_num, by rw [HNT.out]; go_num, by go_num, HTR.out.same (by repeat (first | with_reducible exact Touch.refl _ _ | with_reducible refine Touch.alloc ?_ _ | with_reducible refine Touch.drewN ?_ _ | with_reducible refine Touch.drew ?_))⟩
              case measure => simp [intOf]; omega
            · have hat := nms_at hk rfl
              rw [hcb] at hat
              have hlt2 := (List.getElem?_eq_some_iff.1 hat).1
              rw [HNB.out] at hlt2
              have hr := row_touch HR8.out hT (fun _ _ x => x)
              obtain ⟨gg, cg, hv, _, _, ho⟩ := row_form hr (by omega)
              have hlr := row_lt hr ho
              injection hv with hv _ hcg
              subst hv hcg
              have y1 : wr.cell? ⟨gg, cb, none⟩ = some (.string nmk) := by rw [hr.cellAt cb (by omega), sc_at, hat]; rfl
              clear hr ho hat hT hsz hk hca hcb hnf hnt
              have y2 : decide (nb ≤ cb) = false := by simpa using hlt2
              go_wp2
              go_region
              go_wp2
              go_region
              go_wp2
              go_roundw
              case rel => exact ⟨i + 1, by have := HN.out; omega, by rw [HNF.out]; go_num, by rw [HNT.out]; go_num, by go_num, HTR.out.same (by repeat (first | with_reducible exact Touch.refl _ _ | with_reducible refine Touch.alloc ?_ _ | with_reducible refine Touch.drewN ?_ _ | with_reducible refine Touch.drew ?_))⟩
              case measure => simp [intOf]; omega
          · clear hT
            have hin : i = n := by have := HN.out; omega
            subst hin
            go_wp2
            go_ret
            exact ⟨rfl, HT3.out.same (HT8.out.same HTR.out)⟩
  · have HT3 := Lib.hid (HT2.out.same hT3)
    have HE := Lib.hid he
    obtain ⟨x, hx⟩ : ∃ x, errK l = x := ⟨_, rfl⟩
    have hne : (x != 0) = true := by rw [← hx]; simpa using he
    rw [hx]
    have HX := Lib.hid hx
    clear hT3 he HNew hx
    go_wp2_with fail
    refine (checkkeys_any (some ad) n cap l w3 HN.out (by omega) hnc hcap (HK.out.touch HT3.out)).mono ?_
    rintro e w4 ⟨p4, rfl, hT4⟩
    rw [HX.out]
    have HT4 := Lib.hid (HT3.out.same hT4)
    have dx : (x != x) = false := by simp
    clear hT4
    go_wp2_with fail
    refine (num_any _ _).mono ?_
    rintro e w' ⟨rfl, rfl⟩
    go_wp2
    go_ret
    exact ⟨rfl, HT4.out⟩
end Go.Proofs.Ytmlnnmdidcbglaa
