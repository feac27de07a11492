/-
  What ids.All returns.
-/
import Derived.Test.YtmafhcfdamhejaaId
import Derived.Laws.MakeOwn
namespace Go.Proofs.Ytmafhcfdamhejaa
open Go.ChangeShapes Go.WideShapes Go.ChangeAt Go.RowKit

/-- The identifiers of the places in use, from place i on. -/
def allI : Nat → List (Int × Bool) → List (Int × Int)
  | _, [] => []
  | i, p :: ps => if p.2 = true then ((i : Int), p.1) :: allI (i + 1) ps else allI (i + 1) ps
/-- The cells of a row of identifiers. -/
def idc (l : List (Int × Int)) : List Value := l.flatMap fun x => [.int .i64 x.1, .int .i64 x.2]

theorem all_snoc (i : Nat) (l : List (Int × Bool)) (p : Int × Bool) : allI i (l ++ [p]) = allI i l ++ (if p.2 = true then [(((i + l.length : Nat) : Int), p.1)] else []) := by
  induction l generalizing i with
  | nil => simp [allI]
  | cons q l ih =>
    simp only [List.cons_append, allI, ih (i + 1), List.length_cons]
    rw [show i + 1 + l.length = i + (l.length + 1) from by omega]
    by_cases h : q.2 = true
    · rw [if_pos h, if_pos h]; rfl
    · rw [if_neg h, if_neg h]
theorem all_length (i : Nat) (l : List (Int × Bool)) : (allI i l).length ≤ l.length := by
  induction l generalizing i with
  | nil => simp [allI]
  | cons q l ih =>
    have := ih (i + 1)
    simp only [allI, List.length_cons]
    split
    · simp only [List.length_cons]; omega
    · omega
theorem idc_length (l : List (Int × Int)) : (idc l).length = l.length * 2 := by
  induction l with
  | nil => rfl
  | cons p l ih => simp only [idc, List.flatMap_cons, List.length_append, List.length_cons, List.length_nil] at ih ⊢; omega
theorem idc_snoc (l : List (Int × Int)) (x : Int × Int) : idc (l ++ [x]) = idc l ++ [.int .i64 x.1, .int .i64 x.2] := by simp [idc]
theorem idc_at0 (l : List (Int × Int)) (i : Nat) : (idc l)[i * 2]? = (l[i]?).map fun p => .int .i64 p.1 := by
  induction l generalizing i with
  | nil => simp [idc]
  | cons p l ih =>
    cases i with
    | zero => simp [idc]
    | succ i =>
      have := ih i
      simp only [idc, List.flatMap_cons, List.getElem?_cons_succ] at this ⊢
      rw [show (i + 1) * 2 = i * 2 + 1 + 1 from by omega]
      simpa using this
theorem idc_at1 (l : List (Int × Int)) (i : Nat) : (idc l)[i * 2 + 1]? = (l[i]?).map fun p => .int .i64 p.2 := by
  induction l generalizing i with
  | nil => simp [idc]
  | cons p l ih =>
    cases i with
    | zero => simp [idc]
    | succ i =>
      have := ih i
      simp only [idc, List.flatMap_cons, List.getElem?_cons_succ] at this ⊢
      rw [show (i + 1) * 2 + 1 = i * 2 + 1 + 1 + 1 from by omega]
      simpa using this

theorem info_id : (Try.prog.info? 30).map (fun i => (i.zero, i.size, i.bytes)) = some (some (.agg #[.int .i64 0, .int .i64 0]), 2, 16) := by kernel_rfl

/-- The result of All: a new row of identifiers. -/
def AllPost (w : World) (l : List (Int × Int)) (e : Ending) (w' : World) : Prop :=
  ∃ v, e = .returned v ∧ w'.ownsRow w.heap.size 30 2 v l.length (idc l) ∧ Touch NoB w w'
/-- What holds at the head of All's loop. -/
def AllRel (w : World) (n : Nat) (ps : List (Int × Bool)) (v i : Value) (wr : World) : Prop :=
  ∃ k : Nat, k ≤ n ∧ i = .int .i64 k ∧ wr.ownsRow w.heap.size 30 2 v (allI 0 (ps.take k)).length (idc (allI 0 (ps.take k))) ∧ Touch NoB w wr

set_option maxHeartbeats 2000000 in
theorem all_any (g : Nat) (room : Int) (ps : List (Int × Bool)) (ds : List Int) (F : Nat → Prop) (w : World) (h : Own w F g room ps ds) (hdp : ds.length ≤ ps.length) (hpl : ps.length ≤ 100000) :
    Calls Try.prog 18 #[.pointer (some ⟨g, 0, none⟩)] w (AllPost w (allI 0 ps)) := by
  obtain ⟨vp, vd, hg, hp, hd, f0, f1, f2⟩ := h
  obtain ⟨A, cap, rfl, hc1, hc2⟩ := row_any hp
  obtain ⟨A2, cap2, rfl, hc3, hc4⟩ := row_any hd
  unfold maxLen at hc2 hc4
  have hl := blk_lt hg
  have k1 : w.cell? ⟨g, 1, none⟩ = some (.slice A ps.length cap) := cell_blk hg 1
  have k2 : w.cell? ⟨g, 2, none⟩ = some (.slice A2 ds.length cap2) := cell_blk hg 2
  have Hp := Lib.hid hp
  clear hp hd f0 f1 f2 hg
  obtain ⟨i0, hi, hz0, hz1, hz2⟩ := info_parts info_id
  obtain ⟨n, hn⟩ : ∃ n, ps.length = n := ⟨_, rfl⟩
  obtain ⟨m, hm⟩ : ∃ m, ds.length = m := ⟨_, rfl⟩
  rw [hn] at k1 hpl hc1 hdp Hp
  rw [hm] at k2 hdp hc3
  have Hn := Lib.hid hn
  clear hn hm
  obtain ⟨c, hc⟩ : ∃ c : Nat, c = n - m := ⟨_, rfl⟩
  have hw : IntKind.i64.wrap ((n : Int) - (m : Int)) = (c : Int) := by rw [IntKind.wrap_i64]; omega
  have hmk : ∀ W : World, (Instr.makeSlice 28 (.int .i64 0) (.int .i64 (c : Int))).run Try.prog W = .ok (.slice (some ⟨W.heap.size, 0, none⟩) 0 c) (W.alloc (.cells (madeCells #[.int .i64 0, .int .i64 0] (c * 2)) 30)) := by
    intro W
    have := run_make (P := Try.prog) W 28 30 i0 _ Try.underlying28 hi hz0 .i64 .i64 0 (c : Int) (by decide) (by omega) (by rw [hz2]; omega) (by omega)
    rw [hz1] at this
    simpa [Value.cells] using this
  have hcb : c ≤ 100000 := by omega
  have HC := Lib.hid hc
  clear hc
  go_enter Try.func18, Try.ntmps18
  go_wp2
  go_region
  go_wp2
  go_loopw [3, 23] (fun v i wr => AllRel w n ps v i wr) (fun _ i _ => n - (intOf i).toNat)
  case atStart =>
    refine ⟨0, Nat.zero_le _, rfl, ?_, ((Touch.refl _ _).alloc _).drew⟩
    have hh : (w.alloc (.cells (madeCells #[.int .i64 0, .int .i64 0] (c * 2)) 30)).ownsRow w.heap.size 30 2 (.slice (some ⟨w.heap.size, 0, none⟩) 0 c) 0 [] := World.ownsRow_made w _ c (Nat.le_refl _) (by unfold maxLen; omega) (size_madeCells _ _)
    simpa [allI, idc] using hh.drew
  case round =>
    obtain ⟨k, hk, rfl, hown, hTr⟩ := hrel
    by_cases hlt : k < n
    · obtain ⟨gp, cap', hv, hc1', hc2', hob⟩ := row_form Hp.out (by omega)
      injection hv with hv1 hv2 hv3
      subst hv1
      subst hv3
      clear hv2
      have hpr := row_touch Hp.out hTr (fun _ _ x => x)
      have hkl : k < ps.length := by have := Hn.out; omega
      obtain ⟨y, u, hyu⟩ : ∃ y u, ps[k] = (y, u) := ⟨_, _, rfl⟩
      have hget : ps[k]? = some (y, u) := by rw [List.getElem?_eq_getElem hkl, hyu]
      have b0 : wr.cell? ⟨gp, k * 2, none⟩ = some (.int .i64 y) := by rw [hpr.cellAt (k * 2) (by omega), pc_at0, hget]; rfl
      have b1 : wr.cell? ⟨gp, k * 2 + 1, none⟩ = some (.bool u) := by rw [hpr.cellAt (k * 2 + 1) (by omega), pc_at1, hget]; rfl
      have hsn : allI 0 (ps.take (k + 1)) = allI 0 (ps.take k) ++ (if u = true then [((k : Int), y)] else []) := by
        rw [List.take_succ_eq_append_getElem hkl, all_snoc, hyu, List.length_take, Nat.min_eq_left (by omega), Nat.zero_add]
      have hll : (allI 0 (ps.take k)).length ≤ k := by have := all_length 0 (ps.take k); rw [List.length_take] at this; omega
      have Hs := Lib.hid hsn
      have Ho := Lib.hid hown
      have HT := Lib.hid hTr
      have hsz := hTr.size
      have hgr : gp < wr.heap.size := row_lt hpr hob
      clear hpr hyu hget hsn hown hTr hob
      cases u
      · go_wp2
        go_roundw
        case rel =>
          refine ⟨k + 1, by omega, by go_num, ?_, HT.out.alloc _⟩
          rw [Hs.out]
          simpa using Ho.out.alloc _
        case measure => simp [intOf]; omega
      · go_wp2_with (at_builtin; refine wpList_append_own_at _ rfl (.tmp 30) (.tmp 35) 28 rfl w.heap.size 30 i0 _ 2 16 Try.underlying28 hi hz0 hz1 hz2 rfl (by decide) _ (allI 0 (ps.take k)).length (idc (allI 0 (ps.take k))) rfl ?o1 ⟨wr.heap.size + 1, 0, none⟩ 1 1 [.int .i64 k, .int .i64 y] rfl rfl ?c1 ?c2 ?c3 ?c4 ?c5 ?go)
        case o1 => exact (Ho.out.alloc _).alloc _
        case c2 => exact ⟨rfl, rfl⟩
        case c3 => unfold maxLen; omega
        case c4 => omega
        case c5 => omega
        case go =>
        intro v1 w1 hown1 hgrow _ _
        have hT1 : Touch NoB w w1 := ((HT.out.alloc _).alloc _).grown hgrow (fun b e => .inr (Ho.out.lt b e).1)
        have Ho1 := Lib.hid hown1
        have HT1 := Lib.hid hT1
        clear hown1 hgrow hT1
        go_wp2
        go_roundw
        case rel =>
          refine ⟨k + 1, by omega, by go_num, ?_, HT1.out⟩
          rw [Hs.out, if_pos trivial, idc_snoc, List.length_append]
          exact Ho1.out
        case measure => simp [intOf]; omega
    · obtain rfl : k = n := by omega
      have Ho := Lib.hid hown
      have HT := Lib.hid hTr
      clear hown hTr
      go_wp2
      go_ret
      have hown := Ho.out
      have hTr := HT.out
      have e : ps.take k = ps := List.take_of_length_le (by have := Hn.out; omega)
      rw [e] at hown
      exact ⟨_, rfl, hown, hTr⟩
end Go.Proofs.Ytmafhcfdamhejaa
