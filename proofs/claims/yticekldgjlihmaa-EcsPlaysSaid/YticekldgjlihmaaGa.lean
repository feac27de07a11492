/-
  The document's own Store in memory; NewStore, room, of.
-/
import Derived.Test.YticekldgjlihmaaRe
import Derived.Test.YticekldgjlihmaaRc
import Derived.Test.YticekldgjlihmaaIl
import Derived.Test.YticekldgjlihmaaEo
import Derived.Test.YticekldgjlihmaaEx
import Derived.Deep.DeepCutAuto
import Derived.Deep.RegionHeld3
namespace Go.Proofs.Yticekldgjlihmaa
open Go.ChangeShapes Go.WideShapes Go.ChangeAt Go.RowKit Go.Maps
set_option maxRecDepth 100000
set_option maxHeartbeats 1000000

/-- A table of the document's own Store: its block, its mask, its rows. -/
structure RTb where
  g : Nat
  m : Int
  l : List Rw
/-- .. as a table of columns. -/
def RTb.b (t : RTb) : Tb := ⟨t.m, t.l.map Prod.fst, colsOf t.m t.l⟩
def rm (ts : List RTb) : List (Nat × Int) := ts.map fun t => (t.g, t.m)
theorem rm_length (ts : List RTb) : (rm ts).length = ts.length := by simp [rm]
theorem rm_get (ts : List RTb) (j : Nat) : (rm ts)[j]? = (ts[j]?).map fun t => (t.g, t.m) := by simp [rm]
theorem rposB (ts : List RTb) (m : Int) : posB (ts.map RTb.b) m = posL (rm ts) m := by
  unfold posB posL rm
  rw [List.countP_map, List.countP_map]
  rfl
theorem rhasB (ts : List RTb) (m : Int) : hasB (ts.map RTb.b) m = hasL (rm ts) m := by
  unfold hasB hasL
  rw [rposB, rm_get, List.getElem?_map]
  cases ts[posL (rm ts) m]? <;> rfl

/-- The document's own Store at block g: φ tells whose block each is: 1 the Store's own, 2 its Ids', 3 the row of tables, 4 + m the table of mask m. -/
structure RSG (w : World) (φ : Nat → Int) (g gi : Nat) (room most : Int) (ps : List (Int × Bool)) (ds : List Int) (ts : List RTb) (vl : Value) : Prop where
  blk : w.heap[g]? = some (.cells #[.pointer (some ⟨gi, 0, none⟩), .int .i64 most, vl] 69 (0, 0))
  l1 : φ g = 1
  own : ROwn w (fun b => φ b = 2) gi room ps ds
  row : w.ownsRow 0 78 1 vl ts.length (pvc (rm ts))
  rowL : ∀ k, vl.ownBlock = some k → φ k = 3
  tab : ∀ (j : Nat) (t : RTb), ts[j]? = some t → RT w (fun b => φ b = 4 + t.m) t.g t.m t.l
  m0 : ∀ (j : Nat) (t : RTb), ts[j]? = some t → 0 ≤ t.m ∧ t.m < 65536
  wf : ∀ b, φ b ≠ 0 → b < w.heap.size
  asc : Asc (rm ts)

section
variable {w w' : World} {φ : Nat → Int} {g gi : Nat} {room most : Int} {ps : List (Int × Bool)} {ds : List Int} {ts : List RTb} {vl : Value}
theorem RSG.keep (h : RSG w φ g gi room most ps ds ts vl) {G : Nat → Prop} (t : Touch G w w') (d : ∀ b, φ b ≠ 0 → ¬ G b) : RSG w' φ g gi room most ps ds ts vl :=
  ⟨(t.block g (blk_lt h.blk) (d g (by rw [h.l1]; decide))).trans h.blk, h.l1, h.own.keep t (fun b (h1 : φ b = 2) h2 => d b (by omega) h2), row_touch h.row t (fun k hk => d k (by rw [h.rowL k hk]; decide)), h.rowL,
    fun j x hx => (h.tab j x hx).keep t (fun b (h1 : φ b = 4 + x.m) h2 => d b (by have := h.m0 j x hx; omega) h2), h.m0, fun b hb => Nat.lt_of_lt_of_le (h.wf b hb) t.size, h.asc⟩
theorem RSG.quiet (h : RSG w φ g gi room most ps ds ts vl) (t : Touch NoB w w') : RSG w' φ g gi room most ps ds ts vl := h.keep t (fun _ _ e => e)
theorem RSG.c0 (h : RSG w φ g gi room most ps ds ts vl) : w.cell? ⟨g, 0, none⟩ = some (.pointer (some ⟨gi, 0, none⟩)) := cell_blk h.blk 0
theorem RSG.c1 (h : RSG w φ g gi room most ps ds ts vl) : w.cell? ⟨g, 1, none⟩ = some (.int .i64 most) := cell_blk h.blk 1
theorem RSG.c2 (h : RSG w φ g gi room most ps ds ts vl) : w.cell? ⟨g, 2, none⟩ = some vl := cell_blk h.blk 2
theorem RSG.lt (h : RSG w φ g gi room most ps ds ts vl) : g < w.heap.size := blk_lt h.blk
/-- The mask cell of a table. -/
theorem RT.mask {F : Nat → Prop} {t : Nat} {m : Int} {l : List Rw} (h : RT w F t m l) : w.cell? ⟨t, 0, none⟩ = some (.int .u16 m) ∧ t < w.heap.size ∧ F t := by
  obtain ⟨vl, hg, hr, f0, _⟩ := h
  exact ⟨cell_blk hg 0, blk_lt hg, f0⟩
/-- The pointer at place j of the row of tables. -/
theorem RSG.at (h : RSG w φ g gi room most ps ds ts vl) {j : Nat} {t : RTb} (ht : ts[j]? = some t) : ∃ q cap, vl = .slice (some ⟨q, 0, none⟩) ts.length cap ∧ w.cell? ⟨q, j, none⟩ = some (.pointer (some ⟨t.g, 0, none⟩)) ∧ q < w.heap.size := by
  have hj := (List.getElem?_eq_some_iff.1 ht).1
  obtain ⟨q, cap, rfl, _, _, hob⟩ := row_form h.row (by omega)
  refine ⟨q, cap, rfl, ?_, row_lt h.row hob⟩
  rw [h.row.cellAt j (by omega), pvc_at, rm_get, ht]
  rfl
end

theorem rs_new (n t : Int) (w : World) :
    Calls Try.prog 6 #[.int .i64 n, .int .i64 t] w fun e w' => ∃ φ g gi, e = .returned (.pointer (some ⟨g, 0, none⟩)) ∧ RSG w' φ g gi (roomI n) (withinI t 1 1000) [] [] [] (.slice none 0 0) ∧ Touch NoB w w' ∧ ∀ b, φ b ≠ 0 → w.heap.size ≤ b := by
  go_enter Try.func6, Try.ntmps6
  go_wp2_with fail
  refine (rnew_any n w).mono ?_
  rintro e w1 ⟨rfl, rfl⟩
  go_wp2_with fail
  refine (rwithin_any t 1 1000 _).mono ?_
  rintro e w2 ⟨rfl, rfl⟩
  go_wp2
  go_ret
  refine ⟨fun b => if b = w.heap.size then 2 else if b = w.heap.size + 1 then 1 else 0, w.heap.size + 1, w.heap.size, rfl, ?_, ((Touch.refl _ w).alloc _).alloc _, fun b hb => ?_⟩
  · refine ⟨alloc_blk _ _ _ (by simp), by simp, ?_, World.ownsRow_nil _ _ _ _, fun k hk => by simp [Value.ownBlock] at hk, fun j x hx => by simp at hx, fun j x hx => by simp at hx, fun b hb => ?_, fun i j x y _ hx => by simp [rm] at hx⟩
    · refine ((rown_new w (roomI n)).alloc _).more fun b (hb : b = w.heap.size) => ?_
      simp [hb]
    · simp only [World.size_alloc]
      by_cases h1 : b = w.heap.size
      · omega
      · by_cases h2 : b = w.heap.size + 1
        · omega
        · simp [h1, h2] at hb
  · by_cases h1 : b = w.heap.size
    · omega
    · by_cases h2 : b = w.heap.size + 1
      · omega
      · simp [h1, h2] at hb

theorem has_at {l : List (Nat × Int)} (ha : Asc l) {k a : Nat} {m : Int} (hk : l[k]? = some (a, m)) : posL l m = k ∧ hasL l m = true := by
  have hp : posL l m = k := by
    refine posL_of m l k (Nat.le_of_lt (List.getElem?_eq_some_iff.1 hk).1) (fun t x ht hx => ha t k x _ ht hx hk) (fun t x ht hx => ?_)
    rcases Nat.lt_or_ge k t with h | h
    · have := ha k t _ x h hk hx
      simp at this
      omega
    · obtain rfl : k = t := by omega
      rw [hk] at hx
      injection hx with hx
      rw [← hx]
      exact Int.le_refl _
  refine ⟨hp, ?_⟩
  unfold hasL
  rw [hp, hk]
  simp
theorem has_none {l : List (Nat × Int)} {m : Int} (h : ∀ (t : Nat) (x : Nat × Int), l[t]? = some x → x.2 ≠ m) : hasL l m = false := by
  unfold hasL
  rcases hx : l[posL l m]? with _ | x
  · rfl
  · have := h _ x hx
    simpa using this

section
variable {w w' : World} {φ : Nat → Int} {g gi : Nat} {room most : Int} {ps : List (Int × Bool)} {ds : List Int} {ts : List RTb} {vl : Value}
def RoomRel (w : World) (ts : List RTb) (m : Int) (v5 : Value) (wr : World) : Prop := ∃ k : Nat, k ≤ ts.length ∧ v5 = .int .i64 k ∧ (∀ (j : Nat) (t : RTb), j < k → ts[j]? = some t → t.m ≠ m) ∧ wr = w

theorem rs_room (h : RSG w φ g gi room most ps ds ts vl) (m : Int) :
    Calls Try.prog 29 #[.pointer (some ⟨g, 0, none⟩), .int .u16 m] w fun e w' => e = .returned (.bool (hasB (ts.map RTb.b) m || decide (((ts.map RTb.b).length : Int) < most))) ∧ Touch NoB w w' := by
  obtain ⟨L, hL⟩ : ∃ L, ts.length = L := ⟨_, rfl⟩
  rw [rhasB, List.length_map, hL]
  obtain ⟨A, cap, hv, hq1, hq2⟩ := row_any h.row
  unfold maxLen at hq2
  rw [hL] at hv hq1
  subst hv
  have c1 := h.c1
  have c2 := h.c2
  have hg := h.lt
  have H := Lib.hid h
  have HL := Lib.hid hL
  clear h
  go_enter Try.func29, Try.ntmps29
  go_wp2
  go_loopw [5] (fun v5 wr => RoomRel w ts m v5 wr) (fun v5 _ => L - (intOf v5).toNat)
  case atStart => exact ⟨0, Nat.zero_le _, rfl, fun j t hj => by omega, rfl⟩
  case round =>
    obtain ⟨k, hk, rfl, hno, rfl⟩ := hrel
    rw [HL.out] at hk
    have HNo := Lib.hid hno
    clear hno
    by_cases hlt : k < L
    · obtain ⟨t, ht⟩ : ∃ t, ts[k]? = some t := ⟨_, List.getElem?_eq_getElem (by rw [HL.out]; exact hlt)⟩
      obtain ⟨q, cap', hv, cq, hqs⟩ := H.out.at ht
      rw [HL.out] at hv
      injection hv with hv1 hv2 hv3
      subst hv1
      clear hv2 hv3
      obtain ⟨ct, htl, _⟩ := (H.out.tab k t ht).mask
      obtain ⟨gt, hgt⟩ : ∃ G, t.g = G := ⟨_, rfl⟩
      obtain ⟨mt, hmt⟩ : ∃ M, t.m = M := ⟨_, rfl⟩
      rw [hgt] at cq ct htl
      rw [hmt] at ct
      by_cases he : mt = m
      · subst he
        have hh : hasL (rm ts) mt = true := (has_at H.out.asc (k := k) (a := gt) (by rw [rm_get, ht]; simp [hgt, hmt])).2
        have HH := Lib.hid hh
        have d1 : (mt == mt) = true := by simp
        clear hh ht hgt hmt
        go_wp2
        go_ret
        exact ⟨by rw [HH.out]; rfl, Touch.refl _ _⟩
      · have d1 : (mt == m) = false := by simpa using he
        have HT := Lib.hid (And.intro ht hmt)
        clear ht hgt hmt
        go_wp2
        go_roundw
        case rel => exact ⟨k + 1, by rw [HL.out]; omega, by go_num, fun j t' hj hj' => by
          by_cases e : j = k
          · subst e
            rw [HT.out.1] at hj'
            injection hj' with hj'
            rw [← hj', HT.out.2]
            exact he
          · exact HNo.out j t' (by omega) hj', rfl⟩
        case measure => simp [intOf]; omega
    · obtain rfl : k = L := by omega
      have hh : hasL (rm ts) m = false := by
        refine has_none fun t x hx => ?_
        rw [rm_get] at hx
        rcases hy : ts[t]? with _ | y
        · rw [hy] at hx; simp at hx
        · rw [hy] at hx
          simp at hx
          rw [← hx]
          exact HNo.out t y (by have := (List.getElem?_eq_some_iff.1 hy).1; rw [HL.out] at this; exact this) hy
      have HH := Lib.hid hh
      clear hh
      go_wp2
      go_region
      all_goals
        go_wp2
        go_ret
        exact ⟨by rw [HH.out]; rfl, by repeat (first | with_reducible exact Touch.refl _ _ | with_reducible refine Touch.drew ?_)⟩
/-- Each entity stands once in the tables. -/
def UniqB (bs : List Tb) : Prop := ∀ (j k j' k' : Nat) (b b' : Tb) (p : Int × Int), bs[j]? = some b → b.ids[k]? = some p → bs[j']? = some b' → b'.ids[k']? = some p → j = j' ∧ k = k'
def OfRel (w : World) (k0 : Nat) (v6 : Value) (wr : World) : Prop := ∃ k : Nat, k ≤ k0 ∧ v6 = .int .i64 k ∧ Touch NoB w wr

theorem rs_of (h : RSG w φ g gi room most ps ds ts vl) (hu : UniqB (ts.map RTb.b)) {j k : Nat} {t : RTb} (ht : ts[j]? = some t) {i x : Int} (hk : (t.l.map Prod.fst)[k]? = some (i, x)) :
    Calls Try.prog 36 #[.pointer (some ⟨g, 0, none⟩), .agg #[.int .i64 i, .int .i64 x]] w fun e w' => e = .returned (.tuple #[.pointer (some ⟨t.g, 0, none⟩), .int .i64 k]) ∧ Touch NoB w w' := by
  obtain ⟨L, hL⟩ : ∃ L, ts.length = L := ⟨_, rfl⟩
  have hjL : j < L := by rw [← hL]; exact (List.getElem?_eq_some_iff.1 ht).1
  obtain ⟨q, cap, hv, cq, hqs⟩ := h.at ht
  rw [hL] at hv
  subst hv
  have hcap : L ≤ cap ∧ cap ≤ 9223372036854775807 := by
    obtain ⟨A', cap', hv, h1, h2⟩ := row_any h.row
    injection hv with _ _ e
    unfold maxLen at h2
    omega
  have c2 := h.c2
  have hg := h.lt
  obtain ⟨ct, htl, _⟩ := (h.tab j t ht).mask
  have hat : ∀ (a : Nat) (s : RTb), ts[a]? = some s → rowV (s.l.map Prod.fst) (i, x) = if a = j then (k : Int) else -1 := by
    intro a s hs
    have hb : (ts.map RTb.b)[a]? = some s.b := by rw [List.getElem?_map, hs]; rfl
    have hbj : (ts.map RTb.b)[j]? = some t.b := by rw [List.getElem?_map, ht]; rfl
    by_cases e : a = j
    · subst e
      rw [ht] at hs
      injection hs with hs
      subst hs
      rw [if_pos rfl]
      refine rowV_some (rowOf_at (fun a' b' p h1 h2 => (hu _ a' _ b' _ _ p hb h1 hb h2).2) hk)
    · rw [if_neg e]
      exact rowV_none (rowOf_none_of fun c hc => e (hu a c j k _ _ _ hb hc hbj hk).1)
  have HAT := Lib.hid hat
  have H := Lib.hid h
  have HTJ := Lib.hid ht
  have HL := Lib.hid hL
  clear hat h ht hk hu ct hL cq htl
  go_enter Try.func36, Try.ntmps36
  go_wp2
  go_loopw [6] (fun v6 wr => OfRel (w.alloc (.cells #[.int .i64 i, .int .i64 x] 30)) j v6 wr) (fun v6 _ => L - (intOf v6).toNat)
  case atStart => exact ⟨0, Nat.zero_le _, rfl, Touch.refl _ _⟩
  case round =>
    obtain ⟨a, ha, rfl, hT⟩ := hrel
    have HT := Lib.hid hT
    have haL : a < L := by omega
    obtain ⟨s, hs⟩ : ∃ s, ts[a]? = some s := ⟨_, List.getElem?_eq_getElem (by rw [HL.out]; exact haL)⟩
    have hr := (H.out.quiet ((Touch.refl NoB w).alloc (.cells #[.int .i64 i, .int .i64 x] 30))).quiet hT
    obtain ⟨q', cap', hv, cq, hqs'⟩ := hr.at hs
    rw [HL.out] at hv
    injection hv with hv1 hv2 hv3
    injection hv1 with hv1
    injection hv1 with hv1
    subst hv1
    clear hv2 hv3
    have c2' := hr.c2
    have hg' := hr.lt
    have i0 : wr.cell? ⟨w.heap.size, 0, none⟩ = some (.int .i64 i) := (hT.cell (p := ⟨w.heap.size, 0, none⟩) (by simp) (fun e => e)).trans (cell_blk (alloc_blk w _ _ rfl) 0)
    have i1 : wr.cell? ⟨w.heap.size, 1, none⟩ = some (.int .i64 x) := (hT.cell (p := ⟨w.heap.size, 1, none⟩) (by simp) (fun e => e)).trans (cell_blk (alloc_blk w _ _ rfl) 1)
    have hw : w.heap.size < wr.heap.size := by have := hT.size; simp at this; omega
    have hrow := HAT.out a s hs
    have HR := Lib.hid (fun (W : World) (t : Touch NoB wr W) => rtrow_any s.g s.m i x s.l _ W ((hr.tab a s hs).quiet t))
    rw [hrow] at HR
    obtain ⟨gs, hgs⟩ : ∃ G, s.g = G := ⟨_, rfl⟩
    rw [hgs] at HR cq
    have HS := Lib.hid (And.intro hs hgs)
    clear hT hr hrow hs hgs
    by_cases e : a = j
    · subst e
      obtain rfl : s = t := by have := HS.out.1; rw [HTJ.out] at this; injection this with this; exact this.symm
      rw [if_pos rfl] at HR
      have k0 : (0 : Int) ≤ (k : Int) := by omega
      go_wp2
      go_region_held3 (fun w' => w'.cell? ⟨w.heap.size, 0, none⟩ = some (.int .i64 i) ∧ w'.cell? ⟨w.heap.size, 1, none⟩ = some (.int .i64 x) ∧ w'.cell? ⟨g, 2, none⟩ = some (.slice (some ⟨q, 0, none⟩) L cap) ∧ w'.cell? ⟨q, a, none⟩ = some (.pointer (some ⟨gs, 0, none⟩))) (first | exact ⟨i0, i1, c2', cq⟩ | go_keep | exact ⟨hk0, hk1, hk2, hk3⟩)
        (first | (go_at_call 62; refine (HR.out _ (by repeat (first | with_reducible exact Touch.refl _ _ | with_reducible refine Touch.drewN ?_ _ | with_reducible refine Touch.drew ?_))).mono ?_; rintro e w6 ⟨rfl, hT6⟩; have hq : Touch NoB wr w6 := Touch.same (by repeat (first | with_reducible exact Touch.refl _ _ | with_reducible refine Touch.drewN ?_ _ | with_reducible refine Touch.drew ?_)) hT6; have hk0 : w6.cell? ⟨w.heap.size, 0, none⟩ = some (.int .i64 i) := (Touch.cell hq hw (fun e => e)).trans i0; have hk1 : w6.cell? ⟨w.heap.size, 1, none⟩ = some (.int .i64 x) := (Touch.cell hq hw (fun e => e)).trans i1; have hk2 : w6.cell? ⟨g, 2, none⟩ = some (.slice (some ⟨q, 0, none⟩) L cap) := (Touch.cell hq hg' (fun e => e)).trans c2'; have hk3 : w6.cell? ⟨q, a, none⟩ = some (.pointer (some ⟨gs, 0, none⟩)) := (Touch.cell hq hqs' (fun e => e)).trans cq; have HT6 := Lib.hid (HT.out.same hq); clear hT6 hq))
      all_goals
        have dge : decide ((0 : Int) ≤ (k : Int)) = true := by simp
        go_wp2
        go_ret2
        exact ⟨by rw [HS.out.2]; rfl, ((Touch.refl NoB w).alloc _).same (HT6.out.same (by repeat (first | with_reducible exact Touch.refl _ _ | with_reducible refine Touch.drewN ?_ _ | with_reducible refine Touch.drew ?_)))⟩
    · rw [if_neg e] at HR
      go_wp2
      go_region_held3 (fun w' => w'.cell? ⟨w.heap.size, 0, none⟩ = some (.int .i64 i) ∧ w'.cell? ⟨w.heap.size, 1, none⟩ = some (.int .i64 x) ∧ w'.cell? ⟨g, 2, none⟩ = some (.slice (some ⟨q, 0, none⟩) L cap) ∧ w'.cell? ⟨q, a, none⟩ = some (.pointer (some ⟨gs, 0, none⟩))) (first | exact ⟨i0, i1, c2', cq⟩ | go_keep | exact ⟨hk0, hk1, hk2, hk3⟩)
        (first | (go_at_call 62; refine (HR.out _ (by repeat (first | with_reducible exact Touch.refl _ _ | with_reducible refine Touch.drewN ?_ _ | with_reducible refine Touch.drew ?_))).mono ?_; rintro e w6 ⟨rfl, hT6⟩; have hq : Touch NoB wr w6 := Touch.same (by repeat (first | with_reducible exact Touch.refl _ _ | with_reducible refine Touch.drewN ?_ _ | with_reducible refine Touch.drew ?_)) hT6; have hk0 : w6.cell? ⟨w.heap.size, 0, none⟩ = some (.int .i64 i) := (Touch.cell hq hw (fun e => e)).trans i0; have hk1 : w6.cell? ⟨w.heap.size, 1, none⟩ = some (.int .i64 x) := (Touch.cell hq hw (fun e => e)).trans i1; have hk2 : w6.cell? ⟨g, 2, none⟩ = some (.slice (some ⟨q, 0, none⟩) L cap) := (Touch.cell hq hg' (fun e => e)).trans c2'; have hk3 : w6.cell? ⟨q, a, none⟩ = some (.pointer (some ⟨gs, 0, none⟩)) := (Touch.cell hq hqs' (fun e => e)).trans cq; have HT6 := Lib.hid (HT.out.same hq); clear hT6 hq))
      all_goals
        go_wp2
        go_roundw
        case rel => exact ⟨a + 1, by omega, by go_num, HT6.out.same (by repeat (first | with_reducible exact Touch.refl _ _ | with_reducible refine Touch.drewN ?_ _ | with_reducible refine Touch.drew ?_))⟩
        case measure => simp [intOf]; omega
end
end Go.Proofs.Yticekldgjlihmaa
