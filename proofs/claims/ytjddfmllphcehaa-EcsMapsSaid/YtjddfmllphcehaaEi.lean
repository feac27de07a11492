/-
  What bit, isComponent, maskOf and find of package ecs return.
-/
import Derived.Test.YtjddfmllphcehaaEh
import Derived.Test.YtjddfmllphcehaaEp
namespace Go.Proofs.Ytjddfmllphcehaa
open Go.ChangeShapes Go.WideShapes Go.ChangeAt Go.RowKit Go.Maps
set_option maxRecDepth 100000
set_option maxHeartbeats 1000000

theorem bit_any (k : Nat) (w : World) (hk : k < 16) :
    Calls Try.prog 43 #[.int .i64 k] w fun e w' => e = .returned (.int .u16 (bw k)) ∧ w = w' := by
  rcases k with _ | _ | _ | _ | _ | _ | _ | _ | _ | _ | _ | _ | _ | _ | _ | _ | k
  all_goals first | (exfalso; omega) | skip
  all_goals
    go_enter Try.func43, Try.ntmps43
    go_wp2
    go_ret
    exact ⟨by unfold bw; rfl, rfl⟩

theorem isComp_any (c : Int) (w : World) :
    Calls Try.prog 57 #[.int .i64 c] w fun e w' => e = .returned (.bool (isC c)) ∧ w = w' := by
  by_cases h1 : 0 ≤ c <;> by_cases h2 : c < 16
  all_goals
    go_enter Try.func57, Try.ntmps57
    go_wp2
    go_ret
    exact ⟨by simp [isC, h1, h2], rfl⟩

def MaskRel (w : World) (cl : List (Int × Int)) (v4 v9 : Value) (wr : World) : Prop :=
  ∃ (k : Nat) (m : Int), k ≤ cl.length ∧ v9 = .int .i64 k ∧ v4 = .int .u16 m ∧ maskO (cl.take k) = some m ∧ Touch NoB w wr
/-- What maskOf returns. -/
def maskV (cl : List (Int × Int)) : Value := match maskO cl with
  | some m => .tuple #[.int .u16 m, .bool true]
  | none => .tuple #[.int .u16 0, .bool false]

theorem take_one {α : Type} {l : List α} {k : Nat} {a : α} (h : l[k]? = some a) : l.take (k + 1) = l.take k ++ [a] := by
  obtain ⟨hk, rfl⟩ := List.getElem?_eq_some_iff.1 h
  exact List.take_succ_eq_append_getElem hk

theorem maskOf_any (A : Option Addr) (N cap : Nat) (cl : List (Int × Int)) (w : World) (hN : cl.length = N) (hN2 : N ≤ 1000) (hC : CellsAt w NoB A cl) :
    Calls Try.prog 25 #[.slice A N cap] w fun e w' => e = .returned (maskV cl) ∧ Touch NoB w w' := by
  obtain ⟨mv, hmv⟩ : ∃ mv, maskV cl = mv := ⟨_, rfl⟩
  rw [hmv]
  have HMV := Lib.hid hmv
  have HC := Lib.hid hC
  have HN := Lib.hid hN
  clear hC hN hmv
  go_enter Try.func25, Try.ntmps25
  go_wp2
  go_loopw [4, 9] (fun v4 v9 wr => MaskRel w cl v4 v9 wr) (fun _ v9 _ => N - (intOf v9).toNat)
  case atStart => exact ⟨0, 0, Nat.zero_le _, rfl, rfl, rfl, Touch.refl _ _⟩
  case round =>
    obtain ⟨k, m, hk, rfl, rfl, hmk, hTr⟩ := hrel
    rw [HN.out] at hk
    have hmr := maskO_range _ 0 m (by decide) (by decide) hmk
    have HK := Lib.hid hmk
    have HT := Lib.hid hTr
    clear hmk
    by_cases hlt : k < N
    · obtain ⟨⟨c, v⟩, hcv⟩ : ∃ p, cl[k]? = some p := ⟨_, List.getElem?_eq_getElem (by rw [HN.out]; exact hlt)⟩
      have htk := take_one hcv
      obtain ⟨b, off, rfl, hb, _, hm1, hm2⟩ := (HC.out.touch hTr) k c v hcv
      clear hTr hcv
      have hst : maskO (cl.take (k + 1)) = stepM (some m) (c, v) := by rw [htk, maskO_snoc, HK.out]
      cases hic : isC c
      · have hnone : maskO cl = none := maskO_stop (k := k + 1) (by rw [hst]; simp [stepM, hic])
        have hv : mv = .tuple #[.int .u16 0, .bool false] := by rw [← HMV.out]; unfold maskV; rw [hnone]
        subst hv
        have HI := Lib.hid (fun W => isComp_any c W)
        rw [hic] at HI
        clear hnone hst htk hic
        go_wp2_with (go_at_call 57; refine (HI.out _).mono ?_; rintro e w' ⟨rfl, rfl⟩)
        go_ret2
        exact ⟨rfl, HT.out.alloc _⟩
      · obtain ⟨j, rfl, hj⟩ := isC_true hic
        have HI := Lib.hid (fun W => isComp_any (j : Int) W)
        rw [hic] at HI
        have HB := Lib.hid (fun W => bit_any j W hj)
        have ha := and_bw hmr.1 hmr.2 hj
        have ho := or_bw hmr.1 hmr.2 hj
        cases hbt : bitB m j
        · rw [hbt, if_neg (by decide)] at ha
          have hor : maskO (cl.take (k + 1)) = some (orM m j) := by rw [hst]; simp [stepM, hic, hbt]
          have HO := Lib.hid hor
          clear hst htk hic hbt hor
          go_wp2_with (first | (go_at_call 57; refine (HI.out _).mono ?_; rintro e w' ⟨rfl, rfl⟩) | (go_at_call 43; refine (HB.out _).mono ?_; rintro e w' ⟨rfl, rfl⟩))
          go_roundw
          case rel => exact ⟨k + 1, orM m j, by rw [HN.out]; omega, by go_num, rfl, HO.out, HT.out.alloc _⟩
          case measure => simp [intOf]; omega
        · rw [hbt, if_pos rfl] at ha
          have hnone : maskO cl = none := maskO_stop (k := k + 1) (by rw [hst]; simp [stepM, hic, hbt])
          have hv : mv = .tuple #[.int .u16 0, .bool false] := by rw [← HMV.out]; unfold maskV; rw [hnone]
          subst hv
          have hz : (bw j != 0) = true := by have := (bw_range hj).1; simp; omega
          clear hnone hst htk hic hbt
          go_wp2_with (first | (go_at_call 57; refine (HI.out _).mono ?_; rintro e w' ⟨rfl, rfl⟩) | (go_at_call 43; refine (HB.out _).mono ?_; rintro e w' ⟨rfl, rfl⟩))
          go_ret2
          exact ⟨rfl, HT.out.alloc _⟩
    · obtain rfl : k = N := by omega
      have hv : mv = .tuple #[.int .u16 m, .bool true] := by
        have e : maskO cl = some m := by have := HK.out; rwa [List.take_of_length_le (by rw [HN.out]; exact Nat.le_refl _)] at this
        rw [← HMV.out]
        unfold maskV
        rw [e]
      subst hv
      clear hTr
      go_wp2
      go_ret2
      exact ⟨rfl, HT.out⟩

section
variable {w : World} {φ : Nat → Int} {g : Nat} {room tables : Int} {ps : List (Int × Bool)} {ds : List Int} {ts : List Ar} {H : DataW Unit} {nh : Nat} {va : Value} {bh : Nat}

theorem find_stale {cnt : Nat} (h : SG w φ g room tables ps ds ts H nh va bh) (I : TInv cnt ts H nh) (i x c : Int) (hi : I64 i) (hx : I64 x) (hn : ¬ InT ts (i, x)) :
    Calls Try.prog 39 #[.pointer (some ⟨g, 0, none⟩), .agg #[.int .i64 i, .int .i64 x], .int .i64 c] w fun e w' => e = .returned (.tuple #[.pointer none, .int .i64 11]) ∧ Touch NoB w w' := by
  have TW : Touch NoB w (w.alloc (.cells #[.int .i64 i, .int .i64 x] 30)).drew := ((Touch.refl NoB w).alloc _).drew
  obtain ⟨v, hlook⟩ := (h.quiet TW).lookNo I hi hx hn
  have g5 := h.at5
  have hgl := h.lt
  have HT := Lib.hid TW
  clear h I hn TW
  go_enter Try.func39, Try.ntmps39
  go_wp2
  go_region
  go_wp2
  go_ret2
  exact ⟨rfl, HT.out⟩
theorem find_in {cnt : Nat} (h : SG w φ g room tables ps ds ts H nh va bh) (I : TInv cnt ts H nh) {j : Nat} {r : Ar} (hr : ts[j]? = some r) (i x c : Int) (hp : (i, x) ∈ r.b.ids) :
    Calls Try.prog 39 #[.pointer (some ⟨g, 0, none⟩), .agg #[.int .i64 i, .int .i64 x], .int .i64 c] w fun e w' => e = .returned (if isC c = true then .tuple #[.pointer (some ⟨r.a, 0, none⟩), .int .i64 0] else .tuple #[.pointer none, .int .i64 1]) ∧ Touch NoB w w' := by
  have TW : Touch NoB w (w.alloc (.cells #[.int .i64 i, .int .i64 x] 30)).drew := ((Touch.refl NoB w).alloc _).drew
  have hlook := ((h.quiet TW).look I hr hp).2
  have g5 := h.at5
  have hgl := h.lt
  have HT := Lib.hid TW
  have HI := Lib.hid (fun W => isComp_any c W)
  clear h I hr hp TW
  cases hc : isC c
  · rw [hc] at HI
    rw [if_neg (by decide)]
    go_enter Try.func39, Try.ntmps39
    go_wp2
    go_region
    go_wp2_with (go_at_call 57; refine (HI.out _).mono ?_; rintro e w' ⟨rfl, rfl⟩)
    go_ret2
    exact ⟨rfl, HT.out⟩
  · rw [hc] at HI
    rw [if_pos rfl]
    go_enter Try.func39, Try.ntmps39
    go_wp2
    go_region
    go_wp2_with (go_at_call 57; refine (HI.out _).mono ?_; rintro e w' ⟨rfl, rfl⟩)
    go_ret2
    exact ⟨rfl, HT.out⟩
end
end Go.Proofs.Ytjddfmllphcehaa
