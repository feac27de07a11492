/-
  The walk of EcsRows.
-/
import Derived.Test.YtbefpbcfgjlcgaaEx
import Derived.Test.YtbefpbcfgjlcgaaEt
import Derived.Test.YtbefpbcfgjlcgaaIh
namespace Go.Proofs.Ytbefpbcfgjlcgaa
open Go.ChangeShapes Go.WideShapes Go.ChangeAt Go.RowKit Go.Maps
set_option maxRecDepth 100000
set_option maxHeartbeats 2000000

/-- Ints that came in. -/
def IntsIn (w : World) (A : Option Addr) (vs : List Int) : Prop :=
  ∀ (j : Nat) (x : Int), vs[j]? = some x → ∃ b off, A = some ⟨b, off, none⟩ ∧ b < w.heap.size ∧ w.cell? ⟨b, off + j, none⟩ = some (.int .i64 x)
/-- The tables behind k spawns of entities with component 0. -/
def RowsB (vs : List Int) (k : Nat) (bs : List Tb) : Prop := (k = 0 ∧ bs = []) ∨ (0 < k ∧ ∃ cf, bs = [⟨1, mdK k, cf⟩] ∧ cf 0 = vs.take k)

theorem bit10 : bitB 1 0 = true := by decide
theorem rows_next {vs : List Int} {k : Nat} {bs : List Tb} (h : RowsB vs k bs) {v : Int} (hv : vs[k]? = some v) : RowsB vs (k + 1) (enterB bs 1 ((k : Int), 1) [(0, v)]) := by
  right
  refine ⟨Nat.succ_pos _, ?_⟩
  rcases h with ⟨rfl, rfl⟩ | ⟨hk, cf, rfl, hcf⟩
  · refine ⟨newCol 1 (fun _ => []) [(0, v)], rfl, ?_⟩
    rw [take_one hv]
    unfold newCol
    rw [if_pos ⟨by decide, bit10⟩]
    simp [lastI]
  · refine ⟨newCol 1 cf [(0, v)], ?_, ?_⟩
    · rw [mdK_succ]
      rfl
    · rw [take_one hv, ← hcf]
      unfold newCol
      rw [if_pos ⟨by decide, bit10⟩]
      simp [lastI]
/-- .. and behind Put. -/
theorem rows_put {n a : Nat} {cf : Nat → List Int} : moveB [⟨1, mdK n, cf⟩] 0 a ⟨1, mdK n, cf⟩ 3 ((a : Int), 1) [(1, 5)] = [⟨1, cutAt (0, 0) (mdK n) a, remCol 1 cf a 16⟩, ⟨3, [((a : Int), 1)], newCol 3 (fun _ => []) (outI 1 cf a 16 ++ [(1, 5)])⟩] := rfl
theorem rows_query {n a : Nat} {cf : Nat → List Int} : queryB 1 0 [⟨1, cutAt (0, 0) (mdK n) a, remCol 1 cf a 16⟩, ⟨3, [((a : Int), 1)], newCol 3 (fun _ => []) (outI 1 cf a 16 ++ [(1, 5)])⟩] = cutAt (0, 0) (mdK n) a ++ [((a : Int), 1)] := by
  rw [query_cons, query_cons, show wantM 1 0 1 = true from by kernel_rfl, show wantM 1 0 3 = true from by kernel_rfl]
  simp [queryB]
theorem out_one (cf : Nat → List Int) (a : Nat) : outI 1 cf a 16 = [(0, (cf 0).getD a 0)] := by
  unfold outI
  rw [show (List.range 16).filter (bitB 1) = [0] from by decide]
  rfl

/-- What Query(1, 0) tells at place i. -/
theorem rows_at {n a i : Nat} (ha : a < n) (hi : i < n) : (cutAt (0, 0) (mdK n) a ++ [((a : Int), (1 : Int))])[i]? = some (if i = n - 1 then ((a : Int), 1) else if i = a then (((n - 1 : Nat) : Int), 1) else ((i : Int), 1)) := by
  have hl : (cutAt ((0 : Int), (0 : Int)) (mdK n) a).length = n - 1 := by rw [cutAt_length, mdK_length]
  by_cases e : i = n - 1
  · rw [if_pos e, List.getElem?_append_right (by omega), hl, e, Nat.sub_self]
    rfl
  · rw [if_neg e, List.getElem?_append_left (by omega), cut_get _ _ (by rw [mdK_length]; exact ha) (by rw [mdK_length]; omega), mdK_length]
    by_cases e2 : i = a
    · rw [if_pos e2, if_pos e2, mdK_get (by omega)]
    · rw [if_neg e2, if_neg e2, mdK_get hi]
/-- What Get(made[i], 0) returns behind Put: where the entity stands, and its value. -/
theorem rows_get {vs : List Int} {n a i : Nat} {cf : Nat → List Int} (hcf : cf 0 = vs.take n) (hn : n ≤ vs.length) (ha : a < n) (hi : i < n) {v : Int} (hv : vs[i]? = some v) :
    ∃ (j k : Nat) (b : Tb), [(⟨1, cutAt (0, 0) (mdK n) a, remCol 1 cf a 16⟩ : Tb), ⟨3, [((a : Int), 1)], newCol 3 (fun _ => []) (outI 1 cf a 16 ++ [(1, 5)])⟩][j]? = some b ∧ b.ids[k]? = some ((i : Int), 1) ∧ getV b k 0 = (v, 0) := by
  have hcl : (cf 0).length = n := by rw [hcf, List.length_take]; omega
  have hci : ∀ t, t < n → (cf 0)[t]? = vs[t]? := fun t ht => by rw [hcf, List.getElem?_take, if_pos ht]
  have hrc : remCol 1 cf a 16 0 = cutAt 0 (cf 0) a := by unfold remCol; rw [if_pos ⟨by decide, bit10⟩]
  by_cases e : i = a
  · subst e
    refine ⟨1, 0, _, rfl, rfl, ?_⟩
    unfold getV
    rw [if_pos (by decide)]
    show (if bitB 3 0 = true then ((newCol 3 (fun _ => []) (outI 1 cf i 16 ++ [(1, 5)]) (0 : Int).toNat).getD 0 0, (0 : Int)) else (0, 12)) = _
    rw [if_pos (by decide)]
    have h1 : newCol 3 (fun _ => []) (outI 1 cf i 16 ++ [(1, 5)]) (0 : Int).toNat = [(cf 0).getD i 0] := by
      unfold newCol
      rw [if_pos ⟨by decide, by decide⟩, out_one]
      simp [lastI]
    show ((newCol 3 (fun _ => []) (outI 1 cf i 16 ++ [(1, 5)]) (0 : Int).toNat).getD 0 0, (0 : Int)) = _
    rw [h1, List.getD_eq_getElem?_getD, List.getD_eq_getElem?_getD, hci i hi, hv]
    rfl
  · have hgv : ∀ k, (cutAt 0 (cf 0) a)[k]? = some v → getV ⟨1, cutAt (0, 0) (mdK n) a, remCol 1 cf a 16⟩ k 0 = (v, 0) := by
      intro k hk
      unfold getV
      rw [if_pos (by decide)]
      show (if bitB 1 0 = true then ((remCol 1 cf a 16 (0 : Int).toNat).getD k 0, (0 : Int)) else (0, 12)) = _
      rw [if_pos bit10]
      show ((remCol 1 cf a 16 (0 : Int).toNat).getD k 0, (0 : Int)) = _
      rw [show (0 : Int).toNat = 0 from rfl, hrc, List.getD_eq_getElem?_getD, hk]
      rfl
    by_cases e2 : i = n - 1
    · refine ⟨0, a, _, rfl, ?_, hgv a ?_⟩
      · rw [cut_get _ _ (by rw [mdK_length]; exact ha) (by rw [mdK_length]; omega), if_pos rfl, mdK_length, mdK_get (by omega), e2]
      · rw [cut_get _ _ (by rw [hcl]; exact ha) (by rw [hcl]; omega), if_pos rfl, hcl, hci _ (by omega), ← e2, hv]
    · refine ⟨0, i, _, rfl, ?_, hgv i ?_⟩
      · rw [cut_get _ _ (by rw [mdK_length]; exact ha) (by rw [mdK_length]; omega), if_neg e, mdK_get hi]
      · rw [cut_get _ _ (by rw [hcl]; exact ha) (by rw [hcl]; omega), if_neg e, hci _ hi, hv]

def RwRel (w : World) (vs : List Int) (n g : Nat) (v9 v10 : Value) (wr : World) : Prop :=
  ∃ (k : Nat) (F : Nat → Prop) (ps : List (Int × Bool)) (bs : List Tb), k ≤ n ∧ v10 = .int .i64 k ∧ St wr F k g 100 10 ps [] bs ∧ InW wr w.heap.size F ∧ wr.ownsRow w.heap.size 30 2 v9 k (idc (mdK k)) ∧ (∀ b, v9.ownBlock = some b → ¬ F b) ∧ ps.length = k ∧ RowsB vs k bs ∧ Touch NoB w wr
def CntRel (w : World) (n : Nat) (v15 : Value) (wr : World) : Prop := ∃ k : Nat, k ≤ n ∧ v15 = .int .i64 k ∧ Touch NoB w wr

theorem mask_zero (v : Int) : maskO [(0, v)] = some 1 := by
  unfold maskO
  rw [List.foldl_cons, List.foldl_nil]
  unfold stepM
  rw [Option.bind_some, if_pos ⟨show isC 0 = true from by decide, show bitB 0 0 = false from by decide⟩]
  show some (orM 0 0) = some 1
  decide

theorem rows_end {wq w' : World} {F1 : Nat → Prop} {k g n a : Nat} {ps : List (Int × Bool)} {cf : Nat → List Int} {z : Int} (hM : MoveEnd wq F1 k g 100 10 ps [] [⟨1, mdK n, cf⟩] 0 a ⟨1, mdK n, cf⟩ (orM 1 1) ((a : Int), 1) [(((1 : Nat) : Int), 5)] z w') :
    z = 0 ∧ St w' (Ext F1 wq w') (k + 2) g 100 10 ps [] [⟨1, cutAt (0, 0) (mdK n) a, remCol 1 cf a 16⟩, ⟨3, [((a : Int), 1)], newCol 3 (fun _ => []) (outI 1 cf a 16 ++ [(1, 5)])⟩] ∧ Touch F1 wq w' := by
  have e : orM 1 1 = 3 := by decide
  rw [e] at hM
  unfold MoveEnd at hM
  rw [if_pos (by simp)] at hM
  exact hM

theorem rows_in (N a : Nat) (A : Option Addr) (len cap : Nat) (vs : List Int) (w : World) (hN1 : 1 ≤ N) (hN : N ≤ 30) (ha : a < N) (hln : N ≤ len) (hlm : len ≤ 9223372036854775807) (hl : vs.length = len) (hV : IntsIn w A vs) :
    Calls Try.prog 6 #[.int .i64 N, .int .i64 a, .slice A len cap] w fun e w' => e = .returned (.bool true) ∧ Touch NoB w w' := by
  have HV := Lib.hid hV
  have HL := Lib.hid hl
  clear hV hl
  obtain ⟨j0, hj, hy0, hy1, hy2⟩ := info_parts info_id
  go_enter Try.func6, Try.ntmps6
  go_wp2_with fail
  refine (ealive_any w).mono ?_
  rintro e w1 ⟨rfl, hT1⟩
  have HT1 := Lib.hid hT1
  clear hT1
  go_wp2_with fail
  refine (new_st 100 10 w1).mono ?_
  rintro e w2 ⟨g, F, rfl, hS2, hT2, hF2⟩
  rw [show roomI 100 = 100 from by decide, show withinI 10 1 1000 = 10 from by decide] at hS2
  have hs1 := HT1.out.size
  have hF2' : InW w2 w.heap.size F := fun b hb => by have := hF2 b hb; omega
  have HS2 := Lib.hid hS2
  have HT2 := Lib.hid (HT1.out.same hT2)
  have HF2 := Lib.hid hF2'
  clear hS2 hT2 hF2 hF2' hs1
  go_wp2
  go_loopw [9, 10] (fun v9 v10 wr => RwRel w vs N g v9 v10 wr) (fun _ v10 _ => N - (intOf v10).toNat)
  case atStart => exact ⟨0, F, [], [], Nat.zero_le _, rfl, HS2.out, HF2.out, World.ownsRow_nil _ _ _ _, fun b hb => by simp [Value.ownBlock] at hb, rfl, .inl ⟨rfl, rfl⟩, HT2.out⟩
  case round =>
    obtain ⟨wq, rfl⟩ : ∃ x, x = wr := ⟨_, rfl⟩
    obtain ⟨k, F1, ps, bs, hk, rfl, hS, hF, hmd, hkF, hpl, hR, hT⟩ := hrel
    clear HS2 HT2 HF2
    by_cases hlt : k < N
    · obtain ⟨v, hv⟩ : ∃ v, vs[k]? = some v := ⟨_, List.getElem?_eq_getElem (by rw [HL.out]; omega)⟩
      obtain ⟨b, off, rfl, hb0, hc0⟩ := HV.out k v hv
      have hc : wq.cell? ⟨b, off + k, none⟩ = some (.int .i64 v) := (hT.cell (p := ⟨b, off + k, none⟩) hb0 (fun e => e)).trans hc0
      have hb : b < wq.heap.size := Nat.lt_of_lt_of_le hb0 hT.size
      clear hc0
      obtain ⟨A9, c9, rfl, hq1, hq2⟩ := row_any hmd
      unfold maxLen at hq2
      have hmk : makeS 100 ps [] = some (((k : Int), 1), ps ++ [(1, true)], []) := by
        unfold makeS
        simp only [List.getLast?_nil]
        rw [hpl, if_pos (by omega)]
      have hroom : (hasB bs 1 || decide ((bs.length : Int) < 10)) = true := by
        have : decide ((bs.length : Int) < 10) = true := by
          have : bs.length ≤ 1 := by rcases hR with ⟨_, rfl⟩ | ⟨_, cf, rfl, _⟩ <;> simp
          simp
          omega
        rw [this, Bool.or_true]
      have HS := Lib.hid hS
      have HF := Lib.hid hF
      have HMD := Lib.hid hmd
      have HKF := Lib.hid hkF
      have HPL := Lib.hid hpl
      have HR := Lib.hid (rows_next hR hv)
      have HT := Lib.hid hT
      have HMK := Lib.hid hmk
      have HRoom := Lib.hid hroom
      have HW0 := Lib.hid hT.size
      clear hS hF hmd hkF hpl hR hT hmk hroom hv
      go_wp2_with fail
      refine (spawn_ok (HS.out.quiet ((Touch.refl NoB wq).alloc _)) (some ⟨wq.heap.size, 0, none⟩) 1 1 [(0, v)] rfl (by decide) (cells_one (alloc_blk wq _ _ rfl) (fun e => by have := (HF.out _ e).2; omega)) (mask_zero v) HRoom.out HMK.out (by omega)).mono ?_
      rintro e w5 ⟨rfl, hS5, hT5⟩
      have hs5 := hT5.size
      rw [World.size_alloc] at hs5
      have hT5q : Touch F1 wq w5 := ((Touch.refl F1 wq).alloc _).same hT5
      have HS5 := Lib.hid hS5
      have HT5 := Lib.hid hT5q
      have HK5 := Lib.hid (row_touch HMD.out hT5q (fun q e => HKF.out q e))
      clear hS5 hT5 hT5q
      go_wp2_with (first | (go_at_call 13; refine (num_any _ _).mono ?_; rintro e w' ⟨rfl, rfl⟩) | (at_builtin; refine wpList_append_own_at _ rfl (.tmp 67) (.tmp 69) 28 rfl w.heap.size 30 j0 _ 2 16 Try.underlying28 hj hy0 hy1 hy2 rfl (by decide) (.slice A9 k c9) k (idc (mdK k)) rfl ((HK5.out.alloc _).alloc _) ⟨w5.heap.size + 1, 0, none⟩ 1 1 [.int .i64 k, .int .i64 1] rfl rfl ?d1 ?d2 ?d3 ?d4 ?d5 ?dgo))
      case d1 => exact World.news_of_block (cs := #[.int .i64 k, .int .i64 1]) (alloc_blk _ _ _ (by simp))
      case d2 => intro u hu; simp at hu; rcases hu with rfl | rfl <;> rfl
      case d3 => unfold maxLen; omega
      case d4 => omega
      case d5 => have := HW0.out; simp; omega
      case dgo =>
      intro v6 w6 hown6 hgrow _ hat6
      have hTA : Touch (fun b => (Value.slice A9 k c9).ownBlock = some b) w5 w6 := (((Touch.refl _ w5).alloc _).alloc _).grown hgrow (fun x e => .inl e)
      have hS6 := HS5.out.keep hTA (fun x hx hr => by
        rcases hx with hx | hx
        · exact HKF.out x hr hx
        · have := row_lt HMD.out hr; rw [World.size_alloc] at hx; omega)
      have hT6 : Touch NoB w w6 := (HT.out.trans HT5.out (fun x e => .inr (HF.out x e).1)).trans hTA (fun x e => .inr (HMD.out.lt x e).1)
      have HS6 := Lib.hid hS6
      have HT6 := Lib.hid hT6
      have HO6 := Lib.hid hown6
      have HTA := Lib.hid hTA
      have HAt := Lib.hid hat6
      clear hS6 hT6 hown6 hTA hgrow hat6
      go_wp2
      go_roundw
      case rel =>
        refine ⟨k + 1, Ext F1 (wq.alloc (.cells #[.int .i64 0, .int .i64 v] 32)) w5, _, _, by omega, by go_num, HS6.out, ?_, ?_, ?_, by simp [HPL.out], HR.out, HT6.out⟩
        · have h1 : InW (wq.alloc (.cells #[.int .i64 0, .int .i64 v] 32)) w.heap.size F1 := HF.out.more (by simp)
          exact (h1.ext (w' := w5) (by simp; omega) (by have := HW0.out; simp; omega)).more HTA.out.size
        · rw [mdK_succ, idc_snoc]
          exact HO6.out
        · intro x hx hf
          rcases HAt.out with e | e
          · rw [e] at hx
            rcases hf with hf | hf
            · exact HKF.out x hx hf
            · have := row_lt HMD.out hx; rw [World.size_alloc] at hf; omega
          · rw [e] at hx
            injection hx with hx
            (try simp only [World.size_alloc] at hx)
            rcases hf with hf | hf
            · have := (HF.out x hf).2; omega
            · omega
      case measure => simp [intOf]; omega
    · obtain rfl : k = N := by omega
      obtain ⟨cf, rfl, hcf⟩ : ∃ cf, bs = [⟨1, mdK k, cf⟩] ∧ cf 0 = vs.take k := by
        rcases hR with ⟨e, _⟩ | ⟨_, h⟩
        · omega
        · exact h
      obtain ⟨g9, c9, rfl, hq1, hq2, hob⟩ := row_form hmd (by omega)
      unfold maxLen at hq2
      have hl9 := row_lt hmd hob
      have p0 : wq.cell? ⟨g9, a * 2, none⟩ = some (.int .i64 a) := by rw [hmd.cellAt (a * 2) (by omega), idc_at0, mdK_get ha]; rfl
      have p1 : wq.cell? ⟨g9, a * 2 + 1, none⟩ = some (.int .i64 1) := by rw [hmd.cellAt (a * 2 + 1) (by omega), idc_at1, mdK_get ha]; rfl
      have HS := Lib.hid hS
      have HF := Lib.hid hF
      have HMD := Lib.hid hmd
      have hn9 : ¬ F1 g9 := hkF g9 hob
      have HN9 := Lib.hid hn9
      have HT := Lib.hid hT
      have HCF := Lib.hid hcf
      clear hS hF hmd hkF hpl hR hT hcf hob hn9
      go_wp2_with fail
      refine (put_more HS.out (by omega) a 1 5 (j := 0) (k := a) (c := 1) rfl (mdK_get ha) (by decide) (show bitB 1 1 = false from by decide)).mono ?_
      rintro e w5 ⟨z, rfl, hM⟩
      obtain ⟨rfl, hS5, hT5⟩ := rows_end hM
      clear hM
      have HS5 := Lib.hid hS5
      have HT5 := Lib.hid hT5
      have hTw5 : Touch NoB w w5 := HT.out.trans hT5 (fun x e => .inr (HF.out x e).1)
      have HTw5 := Lib.hid hTw5
      have HM5 := Lib.hid (row_touch HMD.out hT5 (fun x e f => HN9.out (by
        have : g9 = x := by simpa [Value.ownBlock] using e
        rw [this]; exact f)))
      clear hS5 hT5 hTw5 p0 p1
      go_wp2_with fail
      refine (query_any HS5.out 1 0 (by omega)).mono ?_
      rintro e w6 ⟨v6, rfl, hv6, hT6⟩
      rw [rows_query] at hv6
      have hlq : (cutAt ((0 : Int), (0 : Int)) (mdK k) a ++ [((a : Int), (1 : Int))]).length = k := by rw [List.length_append, cutAt_length, mdK_length]; simp; omega
      rw [hlq] at hv6
      obtain ⟨g6, c6, rfl, hx6, hy6, hob6⟩ := row_form hv6 (by omega)
      unfold maxLen at hy6
      have hl6 := row_lt hv6 hob6
      have hM6 := row_touch HM5.out hT6 (fun _ _ e => e)
      have hl9' : g9 < w6.heap.size := row_lt hM6 rfl
      have p0 : w6.cell? ⟨g9, a * 2, none⟩ = some (.int .i64 a) := by rw [hM6.cellAt (a * 2) (by omega), idc_at0, mdK_get ha]; rfl
      have p1 : w6.cell? ⟨g9, a * 2 + 1, none⟩ = some (.int .i64 1) := by rw [hM6.cellAt (a * 2 + 1) (by omega), idc_at1, mdK_get ha]; rfl
      have hlast := rows_at (n := k) (a := a) (i := k - 1) ha (by omega)
      rw [if_pos rfl] at hlast
      have r0 : w6.cell? ⟨g6, (k - 1) * 2, none⟩ = some (.int .i64 a) := by rw [hv6.cellAt ((k - 1) * 2) (by omega), idc_at0, hlast]; rfl
      have r1 : w6.cell? ⟨g6, (k - 1) * 2 + 1, none⟩ = some (.int .i64 1) := by rw [hv6.cellAt ((k - 1) * 2 + 1) (by omega), idc_at1, hlast]; rfl
      have HV6 := Lib.hid hv6
      have HM6 := Lib.hid hM6
      have HS6 := Lib.hid (HS5.out.quiet hT6)
      have HT6 := Lib.hid (HTw5.out.same hT6)
      have dk : ((k : Int) != (k : Int)) = false := by simp
      have dz : ((0 : Int) != 0) = false := by decide
      have hwr : IntKind.i64.wrap ((k : Int) - 1) = (k : Int) - 1 := by rw [IntKind.wrap_i64]; omega
      have htn : ((k : Int) - 1).toNat = k - 1 := by omega
      have hk1 : (1 : Int) ≤ (k : Int) := by omega
      have hk2 : (0 : Int) ≤ (k : Int) - 1 := by omega
      have hk3 : (k : Int) - 1 < (k : Int) := by omega
      have hk4 : k - 1 < k := by omega
      clear hv6 hT6 hlq hM6 hlast hob6
      go_wp2
      go_quiet ((go_at_call 13; exact quiet_num (num_any _ _)))
      clear hwr htn p0 p1 r0 r1
      obtain ⟨q, hq⟩ : ∃ q : Int, ((k - 1 : Nat) : Int) = q := ⟨_, rfl⟩
      have HQ := Lib.hid hq
      clear hq
      go_wp2
      go_loopw [15] (fun v15 wr => CntRel w6 (k - 1) v15 wr) (fun v15 _ => (k - 1) - (intOf v15).toNat)
      case atStart => exact ⟨0, Nat.zero_le _, rfl, (Touch.refl _ _).drewN _⟩
      case round =>
        obtain ⟨i, hi, rfl, hTi⟩ := hrel
        have hwr : IntKind.i64.wrap ((k : Int) - 1) = (k : Int) - 1 := by rw [IntKind.wrap_i64]; omega
        have hmi := row_touch HM6.out hTi (fun _ _ e => e)
        have hvi := row_touch HV6.out hTi (fun _ _ e => e)
        have HTi := Lib.hid hTi
        by_cases hik : i < k - 1
        · have hrow := rows_at (n := k) (a := a) (i := i) ha (by omega)
          rw [if_neg (by omega)] at hrow
          have hl9i : g9 < wr.heap.size := row_lt hmi rfl
          have hl6i : g6 < wr.heap.size := row_lt hvi rfl
          have p0 : wr.cell? ⟨g9, i * 2, none⟩ = some (.int .i64 i) := by rw [hmi.cellAt (i * 2) (by omega), idc_at0, mdK_get (by omega)]; rfl
          have p1 : wr.cell? ⟨g9, i * 2 + 1, none⟩ = some (.int .i64 1) := by rw [hmi.cellAt (i * 2 + 1) (by omega), idc_at1, mdK_get (by omega)]; rfl
          have q0 : wr.cell? ⟨g9, (k - 1) * 2, none⟩ = some (.int .i64 q) := by rw [hmi.cellAt ((k - 1) * 2) (by omega), idc_at0, mdK_get (by omega), ← HQ.out]; rfl
          have q1 : wr.cell? ⟨g9, (k - 1) * 2 + 1, none⟩ = some (.int .i64 1) := by rw [hmi.cellAt ((k - 1) * 2 + 1) (by omega), idc_at1, mdK_get (by omega)]; rfl
          have hik' : (i : Int) < (k : Int) - 1 := by omega
          have hik2 : (i : Int) < (k : Int) := by omega
          by_cases hia : i = a
          · rw [if_pos hia] at hrow
            have r0 : wr.cell? ⟨g6, i * 2, none⟩ = some (.int .i64 q) := by rw [hvi.cellAt (i * 2) (by omega), idc_at0, hrow, ← HQ.out]; rfl
            have r1 : wr.cell? ⟨g6, i * 2 + 1, none⟩ = some (.int .i64 1) := by rw [hvi.cellAt (i * 2 + 1) (by omega), idc_at1, hrow]; rfl
            have di : ((i : Int) == (a : Int)) = true := by simp [hia]
            have htn : ((k : Int) - 1).toNat = k - 1 := by omega
            have hik3 : i < k := by omega
            clear hmi hvi hTi hrow hia
            go_wp2
            go_quiet (fail)
            go_wp2
            go_roundw
            case rel => exact ⟨i + 1, by omega, by go_num, by
              have hs := HTi.out.size
              repeat (first | with_reducible exact HTi.out | with_reducible refine Touch.drewN ?_ _ | with_reducible refine Touch.drew ?_ | with_reducible refine Touch.alloc ?_ _ | with_reducible refine Touch.setCell ?_ (.inr (by simp <;> omega)) _)⟩
            case measure => simp [intOf]; omega
          · rw [if_neg hia] at hrow
            have r0 : wr.cell? ⟨g6, i * 2, none⟩ = some (.int .i64 i) := by rw [hvi.cellAt (i * 2) (by omega), idc_at0, hrow]; rfl
            have r1 : wr.cell? ⟨g6, i * 2 + 1, none⟩ = some (.int .i64 1) := by rw [hvi.cellAt (i * 2 + 1) (by omega), idc_at1, hrow]; rfl
            have di : ((i : Int) == (a : Int)) = false := by simp; omega
            have hik3 : i < k := by omega
            clear hmi hvi hTi hrow hia
            go_wp2
            go_quiet (fail)
            go_wp2
            go_roundw
            case rel => exact ⟨i + 1, by omega, by go_num, by
              have hs := HTi.out.size
              repeat (first | with_reducible exact HTi.out | with_reducible refine Touch.drewN ?_ _ | with_reducible refine Touch.drew ?_ | with_reducible refine Touch.alloc ?_ _ | with_reducible refine Touch.setCell ?_ (.inr (by simp <;> omega)) _)⟩
            case measure => simp [intOf]; omega
        · obtain rfl : i = k - 1 := by omega
          have hnl : ¬ (((k - 1 : Nat) : Int) < (k : Int) - 1) := by omega
          clear hmi hvi hTi
          go_wp2
          go_loopw [17] (fun v17 wr => CntRel w6 k v17 wr) (fun v17 _ => k - (intOf v17).toNat)
          case atStart => exact ⟨0, Nat.zero_le _, rfl, HTi.out⟩
          case round =>
            clear HTi
            obtain ⟨i, hi, rfl, hTi⟩ := hrel
            have HTi := Lib.hid hTi
            by_cases hik : i < k
            · have hmi := row_touch HM6.out hTi (fun _ _ e => e)
              have hl9i : g9 < wr.heap.size := row_lt hmi rfl
              have p0 : wr.cell? ⟨g9, i * 2, none⟩ = some (.int .i64 i) := by rw [hmi.cellAt (i * 2) (by omega), idc_at0, mdK_get (by omega)]; rfl
              have p1 : wr.cell? ⟨g9, i * 2 + 1, none⟩ = some (.int .i64 1) := by rw [hmi.cellAt (i * 2 + 1) (by omega), idc_at1, mdK_get (by omega)]; rfl
              obtain ⟨v, hv⟩ : ∃ v, vs[i]? = some v := ⟨_, List.getElem?_eq_getElem (by rw [HL.out]; omega)⟩
              obtain ⟨b, off, rfl, hb0, hc0⟩ := HV.out i v hv
              have hTT := HT6.out.same hTi
              have hc : wr.cell? ⟨b, off + i, none⟩ = some (.int .i64 v) := (hTT.cell (p := ⟨b, off + i, none⟩) hb0 (fun e => e)).trans hc0
              have hb : b < wr.heap.size := Nat.lt_of_lt_of_le hb0 hTT.size
              obtain ⟨j2, k2, b2, hb2, hk2, hg2⟩ := rows_get (a := a) HCF.out (by rw [HL.out]; omega) ha hik hv
              have hget := get_in (HS6.out.quiet hTi) (i : Int) 1 0 hb2 hk2
              rw [hg2] at hget
              unfold tup2 at hget
              have HG := Lib.hid hget
              have dv : (v != v) = false := by simp
              clear hmi hTi hv hc0 hTT hb2 hk2 hg2 hget
              go_wp2_with fail
              refine HG.out.mono ?_
              rintro e w8 ⟨rfl, hT8⟩
              have hc8 : w8.cell? ⟨b, off + i, none⟩ = some (.int .i64 v) := (hT8.cell (p := ⟨b, off + i, none⟩) hb (fun e => e)).trans hc
              have hb8 : b < w8.heap.size := Nat.lt_of_lt_of_le hb hT8.size
              have HT8 := Lib.hid (HTi.out.same hT8)
              clear hT8
              go_wp2_with (go_at_call 13; refine (num_any _ _).mono ?_; rintro e w' ⟨rfl, rfl⟩)
              go_roundw
              case rel => exact ⟨i + 1, by omega, by go_num, HT8.out⟩
              case measure => simp [intOf]; omega
            · obtain rfl : i = k := by omega
              clear hTi
              go_wp2
              go_ret
              exact ⟨rfl, HT6.out.same HTi.out⟩
end Go.Proofs.Ytbefpbcfgjlcgaa
