/-
  Spawn of the document's own Store.
-/
import Derived.Test.YticekldgjlihmaaGc
import Derived.Deep.DeepCutAuto
import Derived.Deep.RegionHeld3
namespace Go.Proofs.Yticekldgjlihmaa
open Go.ChangeShapes Go.WideShapes Go.ChangeAt Go.RowKit Go.Maps
set_option maxRecDepth 100000
set_option maxHeartbeats 4000000

/-- What Spawn of the document's own Store returns and leaves. -/
def RSpawn (w : World) (F : Nat → Prop) (g : Nat) (room most : Int) (ps : List (Int × Bool)) (ds : List Int) (bs : List Tb) (cl : List (Int × Int)) (e : Ending) (w' : World) : Prop := match maskO cl with
  | none => NoId 1 e w w'
  | some m => if (hasB bs m || decide ((bs.length : Int) < most)) = true then (match makeS room ps ds with
      | none => NoId 10 e w w'
      | some (id, ps', ds') => e = .returned (.tuple #[.agg #[.int .i64 (Prod.fst id), .int .i64 (Prod.snd id)], .int .i64 0]) ∧ RSt w' (Ext F w w') g room most ps' ds' (enterB bs m id cl) ∧ Touch F w w')
    else NoId 10 e w w'
theorem relab_in {φ : Nat → Int} {w w' : World} {c : Int} {F : Nat → Prop} {B : Nat} (h : ∀ b, φ b ≠ 0 → F b ∨ B ≤ b) (hB : B ≤ w.heap.size) : ∀ b, relab φ w w' c b ≠ 0 → F b ∨ B ≤ b := by
  intro b hb
  unfold relab at hb
  split at hb
  · exact .inr (by omega)
  · exact h b hb
theorem relab_zero {φ : Nat → Int} {w w' : World} {c : Int} {b : Nat} (h : φ b = 0) (hb : b < w.heap.size) : relab φ w w' c b = 0 := by
  unfold relab
  rw [if_neg (by omega)]
  exact h
theorem open_mem {bs : List Tb} {m : Int} {b : Tb} (h : b ∈ openB bs m) : b ∈ bs ∨ b.ids = [] := by
  unfold openB at h
  split at h
  · exact .inl h
  · unfold insT at h
    rcases List.mem_append.1 h with h | h
    · exact .inl (List.mem_of_mem_take h)
    · rcases List.mem_cons.1 h with rfl | h
      · exact .inr rfl
      · exact .inl (List.mem_of_mem_drop h)
def RSpRel (w : World) (cl : List (Int × Int)) (v6 v7 : Value) (wr : World) : Prop :=
  ∃ (k : Nat) (m : Int), k ≤ cl.length ∧ v7 = .int .i64 k ∧ v6 = .int .u16 m ∧ maskO (cl.take k) = some m ∧ Touch NoB w wr

theorem rs_spawn {w : World} {F : Nat → Prop} {g cnt : Nat} {room most : Int} {ps : List (Int × Bool)} {ds : List Int} {bs : List Tb} (h : RSt w F g room most ps ds bs) (hP : PInv cnt room ps ds) (hc : cnt ≤ 1000) (hbl : bs.length ≤ 1000) (hfr : ∀ id ps' ds', makeS room ps ds = some (id, ps', ds') → ∀ b ∈ bs, id ∉ b.ids)
    (hll : ∀ b ∈ bs, b.ids.length < 1000000) (A : Option Addr) (N cap : Nat) (cl : List (Int × Int)) (hN : cl.length = N) (hN2 : N ≤ 1000) (hC : CellsAt w F A cl) :
    Calls Try.prog 8 #[.pointer (some ⟨g, 0, none⟩), .slice A N cap] w (RSpawn w F g room most ps ds bs cl) := by
  have HN := Lib.hid hN
  have HC := Lib.hid hC
  have HS := Lib.hid h
  have HX := Lib.hid (And.intro hP (And.intro hfr hll))
  have hA : ∃ v, RSpawn w F g room most ps ds bs cl = v := ⟨_, rfl⟩
  obtain ⟨Q, hQ⟩ := hA
  rw [hQ]
  have HQ := Lib.hid hQ
  clear h hP hfr hll hN hC hQ
  go_enter Try.func8, Try.ntmps8
  go_wp2
  go_loopw [6, 7] (fun v6 v7 wr => RSpRel (w.alloc (.cells #[.int .i64 0, .int .i64 0] 30)) cl v6 v7 wr) (fun _ v7 _ => N - (intOf v7).toNat)
  case atStart => exact ⟨0, 0, Nat.zero_le _, rfl, rfl, rfl, Touch.refl _ _⟩
  case round =>
    obtain ⟨k, m, hk, rfl, rfl, hmk, hT⟩ := hrel
    rw [HN.out] at hk
    have hmr := maskO_range _ 0 m (by decide) (by decide) hmk
    have hq : wr.heap[w.heap.size]? = some (.cells #[.int .i64 0, .int .i64 0] 30 (0, 0)) := (hT.block w.heap.size (by simp) (fun e => e)).trans (alloc_blk w _ _ rfl)
    have c0 : wr.cell? ⟨w.heap.size, 0, none⟩ = some (.int .i64 0) := cell_blk hq 0
    have c1 : wr.cell? ⟨w.heap.size, 1, none⟩ = some (.int .i64 0) := cell_blk hq 1
    have z0 := free_blk hq 0
    have z1 := free_blk hq 1
    have hwl := blk_lt hq
    have hTw : Touch NoB w wr := ((Touch.refl NoB w).alloc _).same hT
    have HK := Lib.hid hmk
    have HT := Lib.hid hT
    have HTW := Lib.hid hTw
    clear hmk hT hTw hq
    by_cases hlt : k < N
    · obtain ⟨⟨c, v⟩, hcv⟩ : ∃ p, cl[k]? = some p := ⟨_, List.getElem?_eq_getElem (by rw [HN.out]; exact hlt)⟩
      have htk := take_one hcv
      obtain ⟨b, off, rfl, hb, _, hm1, hm2⟩ := (HC.out.none HTW.out) k c v hcv
      have hst : maskO (cl.take (k + 1)) = stepM (some m) (c, v) := by rw [htk, maskO_snoc, HK.out]
      clear hcv htk
      have hbad : stepM (some m) (c, v) = none → ∀ w', Touch NoB w w' → Q (.returned (.tuple #[.agg #[.int .i64 0, .int .i64 0], .int .i64 1])) w' := fun e w' t => by
        have hnone : maskO cl = none := maskO_stop (k := k + 1) (by rw [hst, e])
        rw [← HQ.out]
        unfold RSpawn
        rw [hnone]
        exact ⟨rfl, t⟩
      have HBad := Lib.hid hbad
      have HST := Lib.hid hst
      clear hbad hst
      have HI := Lib.hid (fun W => rright_any c W)
      cases hic : isC c
      · rw [hic] at HI
        have hs0 : stepM (some m) (c, v) = none := by unfold stepM; rw [Option.bind_some, if_neg (fun h => by rw [hic] at h; cases h.1)]
        have HS0 := Lib.hid hs0
        clear hs0 hic
        go_wp2_with (go_at_call 28; refine (HI.out _).mono ?_; rintro e w' ⟨rfl, rfl⟩)
        exact bodyPost_ret (v := .tuple #[.agg #[.int .i64 0, .int .i64 0], .int .i64 1]) (by simp [results, Try.results8, go_sem, c0, c1]) rfl (HBad.out HS0.out _ ((HTW.out.setCell (.inr (Nat.le_refl _)) _).setCell (.inr (Nat.le_refl _)) _))
      · rw [hic] at HI
        obtain ⟨j, rfl, hj⟩ := isC_true hic
        have hdv := div_range hmr.1 hmr.2 j
        have b1 : (bits .and .u16 (m / 2 ^ j) 1 == 1) = bitB m j := by rw [and_one hdv.1 hdv.2]; rfl
        have hsl : IntKind.u16.wrap ((2 : Int) ^ j) = bw j := by
          have h1 := bw_range hj
          rw [show ((2 : Int) ^ j) = bw j from by unfold bw; simp, IntKind.wrap_u16]
          omega
        have hor := or_bw hmr.1 hmr.2 hj
        cases hbt : bitB m j
        · rw [hbt] at b1
          have hs1 : stepM (some m) ((j : Int), v) = some (orM m j) := by unfold stepM; rw [Option.bind_some, if_pos ⟨hic, by simpa using hbt⟩]; simp
          have HS1 := Lib.hid (HST.out.trans hs1)
          clear hs1 hic hbt hdv
          go_wp2_with (go_at_call 28; refine (HI.out _).mono ?_; rintro e w' ⟨rfl, rfl⟩)
          go_roundw
          case rel => exact ⟨k + 1, orM m j, by rw [HN.out]; omega, by go_num, rfl, HS1.out, HT.out⟩
          case measure => simp [intOf]; omega
        · rw [hbt] at b1
          have hs0 : stepM (some m) ((j : Int), v) = none := by unfold stepM; rw [Option.bind_some, if_neg (fun h => by have := h.2; simp [hbt] at this)]
          have HS0 := Lib.hid hs0
          clear hs0 hic hbt hdv
          go_wp2_with (go_at_call 28; refine (HI.out _).mono ?_; rintro e w' ⟨rfl, rfl⟩)
          exact bodyPost_ret (v := .tuple #[.agg #[.int .i64 0, .int .i64 0], .int .i64 1]) (by simp [results, Try.results8, go_sem, c0, c1]) rfl (HBad.out HS0.out _ ((HTW.out.setCell (.inr (Nat.le_refl _)) _).setCell (.inr (Nat.le_refl _)) _))
    · obtain rfl : k = N := by omega
      have hm : maskO cl = some m := by
        have := HK.out
        rwa [List.take_of_length_le (by rw [HN.out]; exact Nat.le_refl _)] at this
      have HM := Lib.hid hm
      clear hm
      obtain ⟨φ, gi, ts, vl, h1, h2, h3⟩ := HS.out
      have htl : ts.length ≤ 1000 := by rw [← List.length_map (f := RTb.b), h2]; exact hbl
      have HR := Lib.hid (rs_room (h1.quiet HTW.out) m)
      rw [h2] at HR
      have H1 := Lib.hid h1
      have H2 := Lib.hid h2
      have H3 := Lib.hid h3
      clear h1 h2 h3
      cases hf : (hasB bs m || decide ((bs.length : Int) < most))
      · rw [hf] at HR
        have hp : ∀ w', Touch NoB w w' → Q (.returned (.tuple #[.agg #[.int .i64 0, .int .i64 0], .int .i64 10])) w' := fun w' t => by
          rw [← HQ.out]
          unfold RSpawn
          rw [HM.out]
          simp only
          rw [if_neg (by rw [hf]; decide)]
          exact ⟨rfl, t⟩
        have HP := Lib.hid hp
        clear hp hf
        go_wp2_with fail
        refine HR.out.mono ?_
        rintro e w2 ⟨rfl, hT2⟩
        have hq : w2.heap[w.heap.size]? = some (.cells #[.int .i64 0, .int .i64 0] 30 (0, 0)) := (Touch.block (HT.out.same hT2) w.heap.size (by simp) (fun e => e)).trans (alloc_blk w _ _ rfl)
        have d0 : w2.cell? ⟨w.heap.size, 0, none⟩ = some (.int .i64 0) := cell_blk hq 0
        have d1 : w2.cell? ⟨w.heap.size, 1, none⟩ = some (.int .i64 0) := cell_blk hq 1
        have y0 := free_blk hq 0
        have y1 := free_blk hq 1
        have hwl2 := blk_lt hq
        have HT2 := Lib.hid (HTW.out.same hT2)
        clear hT2 hq c0 c1 z0 z1
        go_wp2
        exact bodyPost_ret (v := .tuple #[.agg #[.int .i64 0, .int .i64 0], .int .i64 10]) (by simp [results, Try.results8, go_sem, d0, d1]) rfl (HP.out _ ((HT2.out.setCell (.inr (Nat.le_refl _)) _).setCell (.inr (Nat.le_refl _)) _))
      · cases hmk : makeS room ps ds with
        | none =>
          rw [hf] at HR
          have hp : ∀ w', Touch NoB w w' → Q (.returned (.tuple #[.agg #[.int .i64 0, .int .i64 0], .int .i64 10])) w' := fun w' t => by
            rw [← HQ.out]
            unfold RSpawn
            rw [HM.out]
            simp only
            rw [if_pos hf, hmk]
            exact ⟨rfl, t⟩
          have HP := Lib.hid hp
          have HMK := Lib.hid hmk
          clear hp hf hmk
          go_wp2_with fail
          refine HR.out.mono ?_
          rintro e w2 ⟨rfl, hT2⟩
          have hq2 := (Touch.block (HT.out.same hT2) w.heap.size (by simp) (fun e => e)).trans (alloc_blk w _ _ rfl)
          have h1q := H1.out.quiet (HTW.out.same hT2)
          have cg := h1q.c0
          have hgl := h1q.lt
          have HO := Lib.hid h1q.own
          have HQ2 := Lib.hid hq2
          have HT2 := Lib.hid (HTW.out.same hT2)
          clear hT2 hq2 h1q c0 c1 z0 z1
          go_wp2_with fail
          refine (rmake_none HO.out HX.out.1 HMK.out).mono ?_
          rintro e w3 ⟨rfl, hT3⟩
          have hq := (Touch.block hT3 w.heap.size (blk_lt HQ2.out) (fun e => e)).trans HQ2.out
          have d0 : w3.cell? ⟨w.heap.size, 0, none⟩ = some (.int .i64 0) := cell_blk hq 0
          have d1 : w3.cell? ⟨w.heap.size, 1, none⟩ = some (.int .i64 0) := cell_blk hq 1
          have y0 := free_blk hq 0
          have y1 := free_blk hq 1
          have hwl2 := blk_lt hq
          have HT3 := Lib.hid (HT2.out.same hT3)
          clear hT3 hq
          go_wp2
          refine bodyPost_ret (v := .tuple #[.agg #[.int .i64 0, .int .i64 0], .int .i64 10]) (by simp [results, Try.results8, go_sem, d0, d1, hwl2]) rfl (HP.out _ ?_)
          have hs := HT3.out.size
          repeat (first | with_reducible exact HT3.out | with_reducible refine Touch.alloc ?_ _ | with_reducible refine Touch.setCell ?_ (.inr (by simp <;> omega)) _)
        | some r =>
          obtain ⟨⟨i, x⟩, ps', ds'⟩ := r
          rw [hf] at HR
          have hp : ∀ w', RSt w' (Ext F w w') g room most ps' ds' (enterB bs m (i, x) cl) → Touch F w w' → Q (.returned (.tuple #[.agg #[.int .i64 i, .int .i64 x], .int .i64 0])) w' := fun w' a t => by
            rw [← HQ.out]
            unfold RSpawn
            rw [HM.out]
            simp only
            rw [if_pos hf, hmk]
            exact ⟨rfl, a, t⟩
          have HP := Lib.hid hp
          have HF := Lib.hid hf
          have HMK := Lib.hid hmk
          clear hp hf hmk
          have hz0 : φ w.heap.size = 0 := by
            by_cases e : φ w.heap.size = 0
            · exact e
            · exact absurd (H1.out.wf _ e) (Nat.lt_irrefl _)
          go_wp2_with fail
          refine HR.out.mono ?_
          rintro e w2 ⟨rfl, hT2⟩
          have hq2 := (Touch.block (HT.out.same hT2) w.heap.size (by simp) (fun e => e)).trans (alloc_blk w _ _ rfl)
          have h1q := H1.out.quiet (HTW.out.same hT2)
          have cg := h1q.c0
          have hgl := h1q.lt
          have H1q := Lib.hid h1q
          have HQ2 := Lib.hid hq2
          have HT2 := Lib.hid (HTW.out.same hT2)
          clear hT2 hq2 h1q c0 c1 z0 z1
          go_wp2_with fail
          refine (rmake_some H1q.out.own (fun b (hb : φ b = 2) => ⟨Nat.zero_le _, H1q.out.wf b (by omega)⟩) HX.out.1 HMK.out hc).mono ?_
          rintro e w3 ⟨rfl, hO3, hT3⟩
          have h3q := H1q.out.putIds hT3 hO3
          have hq3 := (Touch.block hT3 w.heap.size (blk_lt HQ2.out) (fun (e : φ w.heap.size = 2) => by omega)).trans HQ2.out
          have hs2 := HT2.out.size
          have hs3 := hT3.size
          have hi3 : ∀ b, relab φ w2 w3 2 b ≠ 0 → F b ∨ w.heap.size ≤ b := relab_in (fun b hb => .inl (H3.out b hb)) hs2
          have hz3 : relab φ w2 w3 2 w.heap.size = 0 := relab_zero hz0 (blk_lt HQ2.out)
          have hT3w : Touch F w w3 := (HT2.out.mono (fun _ e => e.elim)).trans hT3 (fun b (hb : φ b = 2) => .inl (H3.out b (by omega)))
          obtain ⟨φ3, hφ3⟩ : ∃ f, relab φ w2 w3 2 = f := ⟨_, rfl⟩
          rw [hφ3] at h3q hi3 hz3
          obtain ⟨gd, hgd⟩ : ∃ G, w3.heap.size = G := ⟨_, rfl⟩
          have hzd : φ3 gd = 0 := by
            by_cases e : φ3 gd = 0
            · exact e
            · exact absurd (h3q.wf _ e) (by omega)
          go_upto_region 14 with fail
          obtain ⟨w4, hw4⟩ : ∃ W, w3.alloc (.cells #[.int .i64 i, .int .i64 x] 30) = W := ⟨_, rfl⟩
          have hd4 := alloc_blk w3 #[.int .i64 i, .int .i64 x] 30 hgd
          have h4q := h3q.quiet ((Touch.refl NoB w3).alloc (.cells #[.int .i64 i, .int .i64 x] 30))
          have hT4w := hT3w.alloc (.cells #[.int .i64 i, .int .i64 x] 30)
          have hq4 := (Touch.block ((Touch.refl NoB w3).alloc (.cells #[.int .i64 i, .int .i64 x] 30)) w.heap.size (blk_lt hq3) (fun e => e)).trans hq3
          rw [hw4] at hd4 h4q hT4w hq4
          simp only [hw4]
          have q0 : w4.cell? ⟨gd, 0, none⟩ = some (.int .i64 i) := cell_blk hd4 0
          have q1 : w4.cell? ⟨gd, 1, none⟩ = some (.int .i64 x) := cell_blk hd4 1
          have hgd4 := blk_lt hd4
          have H4 := Lib.hid h4q
          have HQ4 := Lib.hid hq4
          have HI3 := Lib.hid hi3
          have HZ := Lib.hid (And.intro hz3 hzd)
          have HT4 := Lib.hid hT4w
          clear h3q hq3 hi3 hz3 hzd hT3w h4q hT4w hq4 hT3 hO3 hd4 hw4 hgd hφ3 cg
          have hadd : ∀ {w6 : World} {φ6 : Nat → Int} {ts6 : List RTb} {vl6 : Value} {t6 : RTb}, RSG w6 φ6 g gi room most ps' ds' ts6 vl6 → ts6.map RTb.b = openB (ts.map RTb.b) m → ts6[posB (ts.map RTb.b) m]? = some t6 → t6.m = m → (∀ b, φ6 b ≠ 0 → φ3 b ≠ 0 ∨ w4.heap.size ≤ b) → Touch (fun b => φ3 b = 1) w4 w6 → ∀ W, Touch NoB w6 W →
              Calls Try.prog 32 #[.pointer (some ⟨t6.g, 0, none⟩), .agg #[.int .i64 i, .int .i64 x], .slice A k cap] W fun e w7 => e = .returned (.int .i64 t6.l.length) ∧ (∃ φ7 ts7 vl7, RSG w7 φ7 g gi room most ps' ds' ts7 vl7 ∧ ts7.map RTb.b = enterB bs m (i, x) cl ∧ φ7 w.heap.size = 0 ∧ ∀ b, φ7 b ≠ 0 → F b ∨ w.heap.size ≤ b) ∧ Touch F w w7 ∧ w7.cell? ⟨gd, 0, none⟩ = some (.int .i64 i) ∧ w7.cell? ⟨gd, 1, none⟩ = some (.int .i64 x) ∧ w7.heap[w.heap.size]? = some (.cells #[.int .i64 0, .int .i64 0] 30 (0, 0)) ∧ gd < w7.heap.size := by
            intro w6 φ6 ts6 vl6 t6 hR6 ho6 ht6 htm hin6 hT6 W hW
            have hRW := hR6.quiet hW
            have htm' := hRW.m0 _ t6 ht6
            have hz6 : φ6 w.heap.size = 0 := by
              by_cases e : φ6 w.heap.size = 0
              · exact e
              · rcases hin6 _ e with h | h
                · exact absurd HZ.out.1 h
                · have := blk_lt HQ4.out; omega
            have hzd6 : φ6 gd = 0 := by
              by_cases e : φ6 gd = 0
              · exact e
              · rcases hin6 _ e with h | h
                · exact absurd HZ.out.2 h
                · omega
            have hTW : Touch F w W := ((HT4.out.trans hT6 (fun b (hb : φ3 b = 1) => HI3.out b (by omega)))).trans hW (fun _ e => e.elim)
            have hs4 := HT4.out.size
            have hi6 : ∀ b, φ6 b ≠ 0 → F b ∨ w.heap.size ≤ b := fun b hb => by
              rcases hin6 b hb with h | h
              · exact HI3.out b h
              · exact .inr (by omega)
            have hmem : t6.b ∈ openB (ts.map RTb.b) m := by
              rw [← ho6]
              exact List.mem_of_getElem? (by rw [List.getElem?_map, ht6]; rfl)
            have hids : (i, x) ∉ t6.l.map Prod.fst ∧ t6.l.length < 1000000 := by
              rw [H2.out] at hmem
              rcases open_mem hmem with h | h
              · have h1 := HX.out.2.1 (i, x) ps' ds' HMK.out _ h
                have h2 := HX.out.2.2 _ h
                unfold RTb.b at h1 h2
                simp only [List.length_map] at h2
                exact ⟨h1, h2⟩
              · have h' : t6.l.map Prod.fst = [] := h
                rw [h']
                have : t6.l = [] := by simpa using h'
                rw [this]
                exact ⟨by simp, by simp⟩
            have hCW : CellsAt W (fun b => φ6 b = 4 + t6.m) A cl := by
              refine HC.out.move hTW fun b hb hl => ?_
              rcases hi6 b (by omega) with h | h
              · exact h
              · omega
            refine (rtadd_yes t6.g t6.m i x A k cap cl t6.l _ W (hRW.tab _ t6 ht6) (fun b (hb : φ6 b = 4 + t6.m) => ⟨Nat.zero_le _, hRW.wf b (by omega)⟩) (rowOf_not hids.1) htm'.1 htm'.2 hids.2 HN.out hN2 hCW).mono ?_
            rintro e w7 ⟨rfl, hRT, hT7⟩
            have h7 := hRW.putTab ht6 hT7 hRT
            have hTw7 : Touch F w w7 := hTW.trans hT7 (fun b (hb : φ6 b = 4 + t6.m) => hi6 b (by omega))
            have hsW : w6.heap.size ≤ W.heap.size := hW.size
            have hg6 : gd < w6.heap.size := Nat.lt_of_lt_of_le hgd4 hT6.size
            have hW0 := (hW.block w.heap.size (Nat.lt_of_lt_of_le (blk_lt HQ4.out) hT6.size) (fun e => e)).trans ((hT6.block w.heap.size (blk_lt HQ4.out) (fun (e : φ3 w.heap.size = 1) => by have := HZ.out.1; omega)).trans HQ4.out)
            have hcd : ∀ j : Nat, w7.cell? ⟨gd, j, none⟩ = w4.cell? ⟨gd, j, none⟩ := fun j => (hT7.cell (p := ⟨gd, j, none⟩) (Nat.lt_of_lt_of_le hg6 hsW) (fun (e : φ6 gd = 4 + t6.m) => by omega)).trans ((hW.cell (p := ⟨gd, j, none⟩) hg6 (fun e => e)).trans (hT6.cell (p := ⟨gd, j, none⟩) hgd4 (fun (e : φ3 gd = 1) => by have := HZ.out.2; omega)))
            refine ⟨rfl, ⟨_, _, vl6, h7, ?_, relab_zero hz6 (Nat.lt_of_lt_of_le (Nat.lt_of_lt_of_le (blk_lt HQ4.out) hT6.size) hsW), relab_in hi6 hTW.size⟩, hTw7, (hcd 0).trans q0, (hcd 1).trans q1, (hT7.block w.heap.size (blk_lt hW0) (fun (e : φ6 w.heap.size = 4 + t6.m) => by omega)).trans hW0, Nat.lt_of_lt_of_le hg6 (Nat.le_trans hsW hT7.size)⟩
            rw [← H2.out]
            exact enteredR ho6 ht6 i x cl
          have ADD := @hadd
          clear hadd
          go_region_held3 (fun w' => w'.cell? ⟨gd, 0, none⟩ = some (.int .i64 i) ∧ w'.cell? ⟨gd, 1, none⟩ = some (.int .i64 x)) (first | exact ⟨q0, q1⟩ | exact ⟨hk0, hk1⟩ | go_keep)
            (first | (go_at_call 31; refine (rs_table (H4.out.quiet (by repeat (first | with_reducible exact Touch.refl _ _ | with_reducible refine Touch.alloc ?_ _ | with_reducible refine Touch.drewN ?_ _ | with_reducible refine Touch.drew ?_))) m hmr (by rw [H2.out]; exact HF.out) htl).mono ?_; rintro e w6 ⟨φ6, ts6, vl6, t6, rfl, hR6, ho6, ht6, htm, hin6, hT6⟩; have hqq : Touch (fun b => φ3 b = 1) w4 w6 := Touch.trans (by repeat (first | with_reducible exact Touch.refl _ _ | with_reducible refine Touch.alloc ?_ _ | with_reducible refine Touch.drewN ?_ _ | with_reducible refine Touch.drew ?_)) hT6 (fun b e => .inl e); have hk0 := (Touch.cell hqq (p := ⟨gd, 0, none⟩) hgd4 (fun (e : φ3 gd = 1) => by have := HZ.out.2; omega)).trans q0; have hk1 := (Touch.cell hqq (p := ⟨gd, 1, none⟩) hgd4 (fun (e : φ3 gd = 1) => by have := HZ.out.2; omega)).trans q1; have H6 := Lib.hid (And.intro hR6 (And.intro ho6 (And.intro ht6 (And.intro htm (And.intro hin6 hqq))))); clear hR6 ho6 ht6 htm hin6 hT6 hqq)
                   | (go_at_call 32; refine (ADD H6.out.1 H6.out.2.1 H6.out.2.2.1 H6.out.2.2.2.1 H6.out.2.2.2.2.1 H6.out.2.2.2.2.2 _ (by repeat (first | with_reducible exact Touch.refl _ _ | with_reducible refine Touch.alloc ?_ _ | with_reducible refine Touch.drewN ?_ _ | with_reducible refine Touch.drew ?_))).mono ?_; rintro e w7 ⟨rfl, hFin⟩; have HFin := Lib.hid hFin; have hk0 := HFin.out.2.2.1; have hk1 := HFin.out.2.2.2.1; clear hFin))
          all_goals
            have hq7 := HFin.out.2.2.2.2.1
            have e0 := cell_blk hq7 0
            have e1 := cell_blk hq7 1
            have y0 := free_blk hq7 0
            have y1 := free_blk hq7 1
            have hw7 := blk_lt hq7
            have hg7 := HFin.out.2.2.2.2.2
            go_wp2
            obtain ⟨φ7, ts7, vl7, h7, hm7, hz7, hi7⟩ := HFin.out.1
            have hTs : Touch (fun b => b = w.heap.size) w7 ((w7.setCell ⟨w.heap.size, 0, none⟩ (.int .i64 i)).setCell ⟨w.heap.size, 1, none⟩ (.int .i64 x)) := ((Touch.refl (fun b => b = w.heap.size) w7).setCell (p := ⟨w.heap.size, 0, none⟩) (.inl rfl) _).setCell (p := ⟨w.heap.size, 1, none⟩) (.inl rfl) _
            have h8 := h7.keep hTs (fun b hb (e : b = w.heap.size) => hb (by rw [e]; exact hz7))
            refine bodyPost_ret (v := .tuple #[.agg #[.int .i64 i, .int .i64 x], .int .i64 0]) (by simp [results, Try.results8, go_sem, e0, e1]) rfl (HP.out _ ⟨φ7, gi, ts7, vl7, h8, hm7, fun b hb => ?_⟩ ((HFin.out.2.1).trans hTs (fun b (e : b = w.heap.size) => .inr (by omega))))
            rcases hi7 b hb with h | h
            · exact .inl h
            · exact .inr ⟨h, h8.wf b hb⟩
end Go.Proofs.Yticekldgjlihmaa
