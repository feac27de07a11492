/-
  What table.place, Get and Set return, and what they leave in memory.
-/
import Derived.Test.YtjddfmllphcehaaTb
namespace Go.Proofs.Ytjddfmllphcehaa
open Go.ChangeShapes Go.WideShapes Go.ChangeAt Go.RowKit Go.Maps

theorem eqlSome (b : Nat) (w : World) : (binOp .eql 124 (.map (some b)) (.map none)).run Try.prog w = .ok (.bool false) w := by kernel_rfl
theorem eqlNil (w : World) : (binOp .eql 124 (.map none) (.map none)).run Try.prog w = .ok (.bool true) w := by kernel_rfl

/-- What place leaves: the map with one entry more or changed; the rows and columns as they were. -/
def PlacePost (w : World) (F : Nat → Prop) (g : Nat) (m : Int) (ids : List (Int × Int)) (cf : Nat → List Int) (D : DataW Unit) (n : Nat) (vi : Value) (vc : Nat → Value) (e : Ending) (w' : World) : Prop :=
  e = .returned (.tuple #[]) ∧ (∃ vm cs, TG w' (Ext F w w') g m ids cf D n vi vm vc cs) ∧ Touch F w w'

set_option maxRecDepth 20000 in
set_option maxHeartbeats 1000000 in
theorem place_any (g : Nat) (m i x r : Int) (ids : List (Int × Int)) (cf : Nat → List Int) (D : DataW Unit) (n : Nat) (vi vm : Value) (vc : Nat → Value) (cs : Array Value) (F : Nat → Prop) (w : World) (h : TG w F g m ids cf D n vi vm vc cs) (hi : I64 i) (hx : I64 x) (hr : I64 r) (hn : n < 1000000) :
    Calls Try.prog 75 #[.pointer (some ⟨g, 0, none⟩), .agg #[.int .i64 i, .int .i64 x], .int .i64 r] w (PlacePost w F g m ids cf (D.put (klI i x) (.lit (.int .i64 r))) (n + 1) vi vc) := by
  have hl := h.lt
  have k2 := h.at2
  have z2 := h.free 2
  rcases h.mp with ⟨rfl, rfl⟩ | ⟨b, rfl, hown⟩
  · have T1 : Touch NoB w ((w.alloc (.cells #[.int .i64 i, .int .i64 x] 30)).alloc (.map #[] 0)) := ((Touch.refl _ _).alloc _).alloc _
    have hmade := World.ownsMap_made (w.alloc (.cells #[.int .i64 i, .int .i64 x] 30)) Try.prog 30 (plainElem (H := Unit) Try.prog 3)
    simp only [World.size_alloc] at hmade
    have h2 : TG (((w.alloc (.cells #[.int .i64 i, .int .i64 x] 30)).alloc (.map #[] 0)).setCell ⟨g, 2, none⟩ (.map (some (w.heap.size + 1)))) (fun k => F k ∨ k = w.heap.size + 1) g m ids cf (.map []) 0 vi (.map (some (w.heap.size + 1))) vc _ :=
      TG.put2 (h.quiet T1) (.inr ⟨_, rfl, hmade⟩) (fun k hk => .inl hk) (fun b hb => by injection hb with hb; injection hb with hb; exact .inr hb.symm)
    have h3 := h2.quiet ((Touch.refl NoB _).drew)
    have T3 : Touch F w (((w.alloc (.cells #[.int .i64 i, .int .i64 x] 30)).alloc (.map #[] 0)).setCell ⟨g, 2, none⟩ (.map (some (w.heap.size + 1)))).drew := ((T1.mono (fun _ e => e.elim)).setCell (p := ⟨g, 2, none⟩) (.inl h.fg) _).drew
    obtain ⟨hown3⟩ : (((w.alloc (.cells #[.int .i64 i, .int .i64 x] 30)).alloc (.map #[] 0)).setCell ⟨g, 2, none⟩ (.map (some (w.heap.size + 1)))).drew.ownsMap Try.prog 30 (plainElem (H := Unit) Try.prog 3) (w.heap.size + 1) 0 (.map []) ∧ True := by
      rcases h3.mp with ⟨e, _⟩ | ⟨b, e, ho⟩
      · cases e
      · injection e with e; injection e with e; subst e; exact ⟨ho, trivial⟩
    obtain ⟨w4, hrun, ho4, hg4⟩ := hown3.update lawId Try.underlying124 (by unfold maxLen; omega) (key_id hi hx) (plainElem_int Try.underlying3 hr)
    have h4 := h3.putm rfl hg4 (ho4.mono (n' := n + 1) (by omega))
    have T4 : Touch F w w4 := T3.grown hg4 (fun k e => by injection e with e; right; omega)
    have hs4 := T4.size
    have hs4' : w.heap.size + 2 ≤ w4.heap.size := by have := hg4.size; simp [World.setCell, World.drew] at this; omega
    have P4 : PlacePost w F g m ids cf ((DataW.map []).put (klI i x) (.lit (.int .i64 r))) (n + 1) vi vc (.returned (.tuple #[])) w4 :=
      ⟨rfl, ⟨_, _, h4.more (fun k hk => hk.elim .inl (fun e => .inr ⟨by omega, by omega⟩))⟩, T4⟩
    have HP := Lib.hid P4
    have hmm := @run_makeMap Try.prog
    have heq := eqlNil
    rw [World.setCell_alloc_past _ _ _ _ (by simp; omega), World.setCell_alloc_past _ _ _ _ hl] at hrun
    clear h h2 h3 h4 T1 T3 T4 hmade hown3 ho4 hg4 P4 hs4 hs4'
    go_enter Try.func75, Try.ntmps75
    go_wp2
    go_region
    go_end0
    exact HP.out
  · have h1 := h.quiet (((Touch.refl NoB w).alloc (.cells #[.int .i64 i, .int .i64 x] 30)).drew)
    have hown1 : (w.alloc (.cells #[.int .i64 i, .int .i64 x] 30)).drew.ownsMap Try.prog 30 (plainElem (H := Unit) Try.prog 3) b n D := (hown.alloc _).drew
    obtain ⟨w4, hrun, ho4, hg4⟩ := hown1.update lawId Try.underlying124 (by unfold maxLen; omega) (key_id hi hx) (plainElem_int Try.underlying3 hr)
    have h4 := h1.putm rfl hg4 ho4
    have T4 : Touch F w w4 := ((((Touch.refl F w).alloc _).drew).grown hg4 (fun k e => by injection e with e; exact .inl (e ▸ h.fm b rfl)))
    have P4 : PlacePost w F g m ids cf (D.put (klI i x) (.lit (.int .i64 r))) (n + 1) vi vc (.returned (.tuple #[])) w4 :=
      ⟨rfl, ⟨_, _, h4.more (fun k hk => .inl hk)⟩, T4⟩
    have HP := Lib.hid P4
    have heq := eqlSome b
    clear h h1 h4 T4 hown hown1 ho4 hg4 P4
    go_enter Try.func75, Try.ntmps75
    go_wp2
    go_region
    go_end0
    exact HP.out

/-- The length of a list of entities is below the greatest int. -/
theorem TO.len {w : World} {F : Nat → Prop} {g : Nat} {m : Int} {ids : List (Int × Int)} {cf : Nat → List Int} {D : DataW Unit} {n : Nat} (h : TO w F g m ids cf D n) : ids.length ≤ 9223372036854775807 := by
  obtain ⟨vi, vm, vc, cs, h⟩ := h
  obtain ⟨A, cap, _, h1, h2⟩ := row_any h.ri
  unfold maxLen at h2
  omega

set_option maxHeartbeats 1000000 in
theorem tget_no (g : Nat) (m r c : Int) (ids : List (Int × Int)) (cf : Nat → List Int) (D : DataW Unit) (n : Nat) (F : Nat → Prop) (w : World) (h : TO w F g m ids cf D n) (hm : 0 ≤ m) (hm2 : m < 65536) (hno : (rowB ids.length r && colB m c) = false) :
    Calls Try.prog 48 #[.pointer (some ⟨g, 0, none⟩), .int .i64 r, .int .i64 c] w fun e w' => e = .returned (.tuple #[.int .i64 0, .bool false]) ∧ w = w' := by
  have hL := h.len
  obtain ⟨vi, vm, vc, cs, hT⟩ := h
  obtain ⟨A, cap, rfl, h1, h2⟩ := row_any hT.ri
  have HR := Lib.hid (hasRow_any g r A ids.length cap w hL hT.at1)
  have HC := Lib.hid (hasCol_any g m c w hm hm2 hT.at0)
  clear hT
  cases h3 : rowB ids.length r
  · rw [h3] at HR
    go_enter Try.func48, Try.ntmps48
    go_wp2_with fail
    refine HR.out.mono ?_
    rintro e w' ⟨rfl, rfl⟩
    go_wp2
    go_ret2
    exact ⟨rfl, rfl⟩
  · rw [h3] at HR
    rw [h3, Bool.true_and] at hno
    rw [hno] at HC
    go_enter Try.func48, Try.ntmps48
    go_wp2_with fail
    refine HR.out.mono ?_
    rintro e w' ⟨rfl, rfl⟩
    go_wp2_with fail
    refine HC.out.mono ?_
    rintro e w' ⟨rfl, rfl⟩
    go_wp2
    go_ret2
    exact ⟨rfl, rfl⟩

theorem colB_nat {m : Int} {c : Nat} (hc : c < 16) (hb : bitB m c = true) : colB m (c : Int) = true := by
  unfold colB
  simp [hb]
  omega
theorem rowB_nat {L r : Nat} (h : r < L) : rowB L (r : Int) = true := by
  unfold rowB
  simp [h]
theorem colB_true {m c : Int} (h : colB m c = true) : ∃ k : Nat, c = k ∧ k < 16 ∧ bitB m k = true := by
  unfold colB at h
  simp only [Bool.and_eq_true, decide_eq_true_eq] at h
  obtain ⟨⟨h1, h2⟩, h3⟩ := h
  obtain ⟨k, rfl⟩ := Int.eq_ofNat_of_zero_le h1
  exact ⟨k, rfl, by omega, by simpa using h3⟩
theorem rowB_true {L : Nat} {r : Int} (h : rowB L r = true) : ∃ k : Nat, r = k ∧ k < L := by
  unfold rowB at h
  simp only [Bool.and_eq_true, decide_eq_true_eq] at h
  obtain ⟨k, rfl⟩ := Int.eq_ofNat_of_zero_le h.1
  exact ⟨k, rfl, by omega⟩

set_option maxHeartbeats 1000000 in
theorem tget_yes (g r c : Nat) (m x : Int) (ids : List (Int × Int)) (cf : Nat → List Int) (D : DataW Unit) (n : Nat) (F : Nat → Prop) (w : World) (h : TO w F g m ids cf D n) (hm : 0 ≤ m) (hm2 : m < 65536) (hr : r < ids.length) (hc : c < 16) (hb : bitB m c = true) (hx : (cf c)[r]? = some x) :
    Calls Try.prog 48 #[.pointer (some ⟨g, 0, none⟩), .int .i64 r, .int .i64 c] w fun e w' => e = .returned (.tuple #[.int .i64 x, .bool true]) ∧ w = w' := by
  have hL := h.len
  obtain ⟨vi, vm, vc, cs, hT⟩ := h
  obtain ⟨A, cap, rfl, h1, h2⟩ := row_any hT.ri
  have HR := Lib.hid (hasRow_any g r A ids.length cap w hL hT.at1)
  have HC := Lib.hid (hasCol_any g m c w hm hm2 hT.at0)
  rw [rowB_nat hr] at HR
  rw [colB_nat hc hb] at HC
  have hrl : r < (cf c).length := (List.getElem?_eq_some_iff.1 hx).1
  have hrc := hT.rc c hc
  obtain ⟨gp, cp, hv, hc1, hc2, hob⟩ := row_form hrc (by omega)
  have k3 : w.cell? ⟨g, 3 + c, none⟩ = some (.slice (some ⟨gp, 0, none⟩) (cf c).length cp) := by rw [hT.atc c hc, hv]
  have k4 : w.cell? ⟨gp, r, none⟩ = some (.int .i64 x) := by
    rw [hv] at hrc
    rw [hrc.cellAt r (by omega)]
    simp [ic, hx]
  have hlp := row_lt hrc hob
  have hl := hT.lt
  unfold maxLen at hc2
  clear hT hrc hv hob hx hb
  generalize (cf c).length = Lc at *
  go_enter Try.func48, Try.ntmps48
  go_wp2_with fail
  refine HR.out.mono ?_
  rintro e w' ⟨rfl, rfl⟩
  go_wp2_with fail
  refine HC.out.mono ?_
  rintro e w' ⟨rfl, rfl⟩
  go_wp2
  go_ret2
  exact ⟨rfl, rfl⟩

set_option maxHeartbeats 1000000 in
theorem tset_no (g : Nat) (m r c x : Int) (ids : List (Int × Int)) (cf : Nat → List Int) (D : DataW Unit) (n : Nat) (F : Nat → Prop) (w : World) (h : TO w F g m ids cf D n) (hm : 0 ≤ m) (hm2 : m < 65536) (hno : (rowB ids.length r && colB m c) = false) :
    Calls Try.prog 40 #[.pointer (some ⟨g, 0, none⟩), .int .i64 r, .int .i64 c, .int .i64 x] w fun e w' => e = .returned (.bool false) ∧ w = w' := by
  have hL := h.len
  obtain ⟨vi, vm, vc, cs, hT⟩ := h
  obtain ⟨A, cap, rfl, h1, h2⟩ := row_any hT.ri
  have HR := Lib.hid (hasRow_any g r A ids.length cap w hL hT.at1)
  have HC := Lib.hid (hasCol_any g m c w hm hm2 hT.at0)
  clear hT
  cases h3 : rowB ids.length r
  · rw [h3] at HR
    go_enter Try.func40, Try.ntmps40
    go_wp2_with fail
    refine HR.out.mono ?_
    rintro e w' ⟨rfl, rfl⟩
    go_wp2
    go_ret
    exact ⟨rfl, rfl⟩
  · rw [h3] at HR
    rw [h3, Bool.true_and] at hno
    rw [hno] at HC
    go_enter Try.func40, Try.ntmps40
    go_wp2_with fail
    refine HR.out.mono ?_
    rintro e w' ⟨rfl, rfl⟩
    go_wp2_with fail
    refine HC.out.mono ?_
    rintro e w' ⟨rfl, rfl⟩
    go_wp2
    go_ret
    exact ⟨rfl, rfl⟩

set_option maxHeartbeats 1000000 in
theorem tset_yes (g r c : Nat) (m x : Int) (ids : List (Int × Int)) (cf : Nat → List Int) (D : DataW Unit) (n : Nat) (F : Nat → Prop) (w : World) (h : TO w F g m ids cf D n) (hm : 0 ≤ m) (hm2 : m < 65536) (hr : r < ids.length) (hc : c < 16) (hb : bitB m c = true) (hrl : r < (cf c).length) :
    Calls Try.prog 40 #[.pointer (some ⟨g, 0, none⟩), .int .i64 r, .int .i64 c, .int .i64 x] w fun e w' => e = .returned (.bool true) ∧ TO w' F g m ids (colSet cf c ((cf c).set r x)) D n ∧ Touch F w w' := by
  have hL := h.len
  obtain ⟨vi, vm, vc, cs, hT⟩ := h
  obtain ⟨A, cap, rfl, h1, h2⟩ := row_any hT.ri
  have HR := Lib.hid (hasRow_any g r A ids.length cap w hL hT.at1)
  have HC := Lib.hid (hasCol_any g m c w hm hm2 hT.at0)
  rw [rowB_nat hr] at HR
  rw [colB_nat hc hb] at HC
  have hrc := hT.rc c hc
  obtain ⟨gp, cp, hv, hc1, hc2, hob⟩ := row_form hrc (by omega)
  have k3 : w.cell? ⟨g, 3 + c, none⟩ = some (.slice (some ⟨gp, 0, none⟩) (cf c).length cp) := by rw [hT.atc c hc, hv]
  obtain ⟨y, hy⟩ : ∃ y, (cf c)[r]? = some y := ⟨_, List.getElem?_eq_getElem hrl⟩
  have k4 : w.cell? ⟨gp, r, none⟩ = some (.int .i64 y) := by
    rw [hv] at hrc
    rw [hrc.cellAt r (by omega)]
    simp [ic, hy]
  have z4 : w.frozen? ⟨gp, r, none⟩ = false := by
    rw [hv] at hrc
    exact hrc.frozenAt _
  have hlp := row_lt hrc hob
  have hl := hT.lt
  unfold maxLen at hc2
  have hP : TO (w.setCell ⟨gp, r, none⟩ (.int .i64 x)) F g m ids (colSet cf c ((cf c).set r x)) D n ∧ Touch F w (w.setCell ⟨gp, r, none⟩ (.int .i64 x)) :=
    ⟨⟨_, _, _, _, hT.setc hc hv rfl r x⟩, (Touch.refl F w).setCell (p := ⟨gp, r, none⟩) (.inl (hT.fc c hc gp hob)) _⟩
  have HP := Lib.hid hP
  clear hT hrc hv hob hy hb hP
  generalize (cf c).length = Lc at *
  go_enter Try.func40, Try.ntmps40
  go_wp2_with fail
  refine HR.out.mono ?_
  rintro e w' ⟨rfl, rfl⟩
  go_wp2_with fail
  refine HC.out.mono ?_
  rintro e w' ⟨rfl, rfl⟩
  go_wp2
  go_ret
  exact ⟨rfl, HP.out⟩
end Go.Proofs.Ytjddfmllphcehaa
