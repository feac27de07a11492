/-
  The walk of IdsRoom.
-/
import Derived.Test.YtjbhjeiaogikfaaId
namespace Go.Proofs.Ytjbhjeiaogikfaa
open Go.ChangeShapes Go.WideShapes Go.ChangeAt Go.RowKit

theorem has_set_yes {ps : List (Int × Bool)} {d : Nat} {x : Int} (h : d < ps.length) : hasI (ps.set d (x, true)) d x = true := by
  unfold hasI
  rw [show ((d : Int)).toNat = d from by omega, List.getElem?_set_self h]
  simp
theorem has_set_no {ps : List (Int × Bool)} {d : Nat} {x y : Int} (h : d < ps.length) (hxy : x ≠ y) : hasI (ps.set d (x, true)) d y = false := by
  unfold hasI
  rw [show ((d : Int)).toNat = d from by omega, List.getElem?_set_self h]
  simp [hxy]

set_option maxHeartbeats 4000000 in
set_option maxRecDepth 100000 in
theorem idsRoom_in (room : Int) (n d : Nat) (w : World) (h1 : 1 ≤ n) (h2 : n ≤ 60) (h3 : d < n) (h5 : room ≤ 100) :
    Calls Try.prog 5 #[.int .i64 room, .int .i64 n, .int .i64 d] w fun e w' => e = .returned (.bool true) ∧ Touch NoB w w' := by
  have hR := roomI_range room
  have hRr : ∀ k : Nat, k ≤ 60 → ((k : Int) < room ↔ (k : Int) < roomI room) := by
    intro k hk
    unfold roomI withinI
    repeat' split
    all_goals omega
  have HN := Lib.hid (new_any room)
  obtain ⟨R, hRe⟩ : ∃ R, roomI room = R := ⟨_, rfl⟩
  rw [hRe] at hR hRr HN
  have HR := Lib.hid hRr
  clear hRe hRr
  have d1 : decide ((n : Int) < 1) = false := by simp; omega
  have d2 : decide (60 < (n : Int)) = false := by simp; omega
  have d3 : decide ((d : Int) < 0) = false := by simp
  have d4 : decide (n ≤ d) = false := by simp; omega
  go_enter Try.func5, Try.ntmps5
  go_wp2_with fail
  refine (alive_any w).mono ?_
  rintro e w1 ⟨rfl, hT⟩
  have HT := Lib.hid hT
  have hs1 := hT.size
  clear hT
  go_wp2_with fail
  refine (HN.out w1).mono ?_
  rintro e w2 ⟨rfl, rfl⟩
  go_wp2
  go_loopw [9] (fun i wr => RoomRel w w1.heap.size n R i wr) (fun i _ => n - (intOf i).toNat)
  case atStart =>
    exact ⟨0, Nat.zero_le _, rfl, _, by rw [show manyI 0 R = [] from by simp [manyI]]; exact own_new w1 R, fun b hb => by subst hb; simp; omega, HT.out.alloc _⟩
  case round =>
    obtain ⟨k, hk, rfl, F, hO, hF, hTr⟩ := hrel
    have HO := Lib.hid hO
    have HF := Lib.hid hF
    have HTr := Lib.hid hTr
    have hsr := hTr.size
    clear hO hF hTr
    by_cases hlt : k < n
    · by_cases hkr : (k : Int) < R
      · have hkm := (HR.out k (by omega)).2 hkr
        have q1 : decide ((k : Int) < room) = true := by simpa using hkm
        go_wp2_with fail
        refine (make_new _ R _ F _ HO.out HF.out.zero (by rw [many_length]; omega) (by omega)).mono ?_
        rintro e w3 ⟨rfl, hO3, hT3⟩
        rw [many_length, show min k R.toNat = k from by omega]
        have HO3 := Lib.hid hO3
        have HT3 := Lib.hid hT3
        have hs3 := hT3.size
        clear hO3 hT3
        go_wp2_with fail
        refine (num_any 0 _).mono ?_
        rintro e w4 ⟨rfl, rfl⟩
        go_wp2_with fail
        refine (num_any 0 _).mono ?_
        rintro e w4 ⟨rfl, rfl⟩
        go_wp2_with fail
        refine (num_any 0 _).mono ?_
        rintro e w4 ⟨rfl, rfl⟩
        go_wp2
        go_roundw
        case rel =>
          refine ⟨k + 1, by omega, by go_num, _, by rw [← many_new hkr]; exact HO3.out.alloc _, ?_, ?_⟩
          · exact (HF.out.ext hs3 hsr).more (by simp)
          · refine (HTr.out.trans HT3.out (fun b hb => .inr (HF.out b hb).1)).alloc _
        case measure => simp [intOf]; omega
      · have hkm : ¬ (k : Int) < room := fun x => hkr ((HR.out k (by omega)).1 x)
        have q1 : decide ((k : Int) < room) = false := by simpa using hkm
        go_wp2_with fail
        refine (make_full _ R _ F _ HO.out (by rw [many_length]; omega)).mono ?_
        rintro e w3 ⟨rfl, hT3⟩
        have HT3 := Lib.hid hT3
        have hs3 := hT3.size
        clear hT3
        go_wp2_with fail
        refine (num_any 10 _).mono ?_
        rintro e w4 ⟨rfl, rfl⟩
        go_wp2_with fail
        refine (num_any 10 _).mono ?_
        rintro e w4 ⟨rfl, rfl⟩
        go_wp2_with fail
        refine (num_any 10 _).mono ?_
        rintro e w4 ⟨rfl, rfl⟩
        go_wp2_with fail
        refine (num_any 10 _).mono ?_
        rintro e w4 ⟨rfl, rfl⟩
        go_wp2
        go_roundw
        case rel =>
          refine ⟨k + 1, by omega, by go_num, F, by rw [many_full (by omega)]; exact (HO.out.keep HT3.out (fun _ _ x => x)).alloc _, ?_, ?_⟩
          · exact HF.out.more (by simp; omega)
          · exact (HTr.out.same HT3.out).alloc _
        case measure => simp [intOf]; omega
    · obtain rfl : k = n := by omega
      by_cases hdr : (d : Int) < R
      · have hdm := (HR.out d (by omega)).2 hdr
        have q1 : decide ((d : Int) < room) = true := by simpa using hdm
        have q2 : decide (room ≤ (d : Int)) = false := by simp; omega
        go_wp2_with fail
        refine (drop_yes _ d R 1 _ [] F _ HO.out HF.out.zero (many_at h3 hdr) (by decide)).mono ?_
        rintro e w3 ⟨rfl, hO3, hT3⟩
        have HO3 := Lib.hid hO3
        have HT3 := Lib.hid hT3
        have hs3 := hT3.size
        have hF3 := HF.out.ext (w' := w3) hs3 hsr
        have HF3 := Lib.hid hF3
        clear hO3 hT3 hF3
        go_wp2_with fail
        refine (num_any 0 _).mono ?_
        rintro e w4 ⟨rfl, rfl⟩
        go_wp2_with fail
        refine (make_pop _ d R 1 false _ [] _ _ HO3.out HF3.out.zero (by rw [List.getElem?_set_self (by rw [many_length]; omega)]) (by decide) (by decide)).mono ?_
        rintro e w4 ⟨rfl, hO4, hT4⟩
        rw [show ((1 : Int) + 1) = 2 from rfl] at hO4
        rw [show ((1 : Int) + 1) = 2 from rfl]
        have HO4 := Lib.hid hO4
        have HT4 := Lib.hid hT4
        have hs4 := hT4.size
        clear hO4 hT4
        go_wp2_with fail
        refine (num_any 0 _).mono ?_
        rintro e w5 ⟨rfl, rfl⟩
        go_wp2_with fail
        refine (has_any _ R d 1 _ [] _ _ (HO4.out.alloc _)).mono ?_
        rintro e w5 ⟨rfl, hT5⟩
        rw [has_set_no (by rw [List.length_set, many_length]; omega) (by decide)]
        have hb5 := new_blk hT5 rfl (fun x => x)
        have HT5 := Lib.hid hT5
        have hO5 := (HO4.out.alloc (.cells #[.int .i64 d, .int .i64 2] 30)).keep hT5 (fun _ _ x => x)
        have HO5 := Lib.hid hO5
        have c0 : w5.cell? ⟨w4.heap.size, 0, none⟩ = some (.int .i64 d) := cell_blk hb5 0
        have c1 : w5.cell? ⟨w4.heap.size, 1, none⟩ = some (.int .i64 2) := cell_blk hb5 1
        clear hT5 hb5 hO5
        go_wp2_with fail
        refine (has_any _ R d 2 _ [] _ _ HO5.out).mono ?_
        rintro e w6 ⟨rfl, hT6⟩
        rw [has_set_yes (by rw [List.length_set, many_length]; omega)]
        have HT6 := Lib.hid hT6
        clear hT6
        go_wp2
        go_ret
        exact ⟨rfl, (((((HTr.out.trans HT3.out (fun b hb => .inr (HF.out b hb).1)).trans HT4.out (fun b hb => .inr (HF3.out b hb).1)).alloc _).same HT5.out).same HT6.out)⟩
      · have hdm : ¬ (d : Int) < room := fun x => hdr ((HR.out d (by omega)).1 x)
        have q1 : decide ((d : Int) < room) = false := by simpa using hdm
        have q2 : decide (room ≤ (d : Int)) = true := by simp; omega
        go_wp2_with fail
        refine (drop_no _ R d 1 _ [] F _ HO.out (many_no (by omega))).mono ?_
        rintro e w3 ⟨rfl, hT3⟩
        have HT3 := Lib.hid hT3
        clear hT3
        go_wp2_with fail
        refine (num_any 11 _).mono ?_
        rintro e w4 ⟨rfl, rfl⟩
        go_wp2
        go_ret
        exact ⟨rfl, HTr.out.same HT3.out⟩

set_option maxHeartbeats 4000000 in
set_option maxRecDepth 100000 in
theorem idsRoom_in2 (room : Int) (n d : Nat) (w : World) (h1 : 1 ≤ n) (h2 : n ≤ 60) (h3 : d < n) (h5 : 100 < room) (h6 : 100000 < room) :
    Calls Try.prog 5 #[.int .i64 room, .int .i64 n, .int .i64 d] w fun e w' => e = .returned (.bool true) ∧ Touch NoB w w' := by
  have hR := roomI_range room
  have hRr : ∀ k : Nat, k ≤ 60 → ((k : Int) < room ↔ (k : Int) < roomI room) := by
    intro k hk
    unfold roomI withinI
    repeat' split
    all_goals omega
  have HN := Lib.hid (new_any room)
  obtain ⟨R, hRe⟩ : ∃ R, roomI room = R := ⟨_, rfl⟩
  rw [hRe] at hR hRr HN
  have HR := Lib.hid hRr
  clear hRe hRr
  have d1 : decide ((n : Int) < 1) = false := by simp; omega
  have d2 : decide (60 < (n : Int)) = false := by simp; omega
  have d3 : decide ((d : Int) < 0) = false := by simp
  have d5 : decide (100 < room) = true := by simpa using h5
  have d6 : decide (room ≤ 100000) = false := by simpa using h6
  have d4 : decide (n ≤ d) = false := by simp; omega
  go_enter Try.func5, Try.ntmps5
  go_wp2_with fail
  refine (alive_any w).mono ?_
  rintro e w1 ⟨rfl, hT⟩
  have HT := Lib.hid hT
  have hs1 := hT.size
  clear hT
  go_wp2_with fail
  refine (HN.out w1).mono ?_
  rintro e w2 ⟨rfl, rfl⟩
  go_wp2
  go_loopw [9] (fun i wr => RoomRel w w1.heap.size n R i wr) (fun i _ => n - (intOf i).toNat)
  case atStart =>
    exact ⟨0, Nat.zero_le _, rfl, _, by rw [show manyI 0 R = [] from by simp [manyI]]; exact own_new w1 R, fun b hb => by subst hb; simp; omega, HT.out.alloc _⟩
  case round =>
    obtain ⟨k, hk, rfl, F, hO, hF, hTr⟩ := hrel
    have HO := Lib.hid hO
    have HF := Lib.hid hF
    have HTr := Lib.hid hTr
    have hsr := hTr.size
    clear hO hF hTr
    by_cases hlt : k < n
    · by_cases hkr : (k : Int) < R
      · have hkm := (HR.out k (by omega)).2 hkr
        have q1 : decide ((k : Int) < room) = true := by simpa using hkm
        go_wp2_with fail
        refine (make_new _ R _ F _ HO.out HF.out.zero (by rw [many_length]; omega) (by omega)).mono ?_
        rintro e w3 ⟨rfl, hO3, hT3⟩
        rw [many_length, show min k R.toNat = k from by omega]
        have HO3 := Lib.hid hO3
        have HT3 := Lib.hid hT3
        have hs3 := hT3.size
        clear hO3 hT3
        go_wp2_with fail
        refine (num_any 0 _).mono ?_
        rintro e w4 ⟨rfl, rfl⟩
        go_wp2_with fail
        refine (num_any 0 _).mono ?_
        rintro e w4 ⟨rfl, rfl⟩
        go_wp2_with fail
        refine (num_any 0 _).mono ?_
        rintro e w4 ⟨rfl, rfl⟩
        go_wp2
        go_roundw
        case rel =>
          refine ⟨k + 1, by omega, by go_num, _, by rw [← many_new hkr]; exact HO3.out.alloc _, ?_, ?_⟩
          · exact (HF.out.ext hs3 hsr).more (by simp)
          · refine (HTr.out.trans HT3.out (fun b hb => .inr (HF.out b hb).1)).alloc _
        case measure => simp [intOf]; omega
      · have hkm : ¬ (k : Int) < room := fun x => hkr ((HR.out k (by omega)).1 x)
        exfalso; omega
    · obtain rfl : k = n := by omega
      by_cases hdr : (d : Int) < R
      · have hdm := (HR.out d (by omega)).2 hdr
        have q1 : decide ((d : Int) < room) = true := by simpa using hdm
        have q2 : decide (room ≤ (d : Int)) = false := by simp; omega
        go_wp2_with fail
        refine (drop_yes _ d R 1 _ [] F _ HO.out HF.out.zero (many_at h3 hdr) (by decide)).mono ?_
        rintro e w3 ⟨rfl, hO3, hT3⟩
        have HO3 := Lib.hid hO3
        have HT3 := Lib.hid hT3
        have hs3 := hT3.size
        have hF3 := HF.out.ext (w' := w3) hs3 hsr
        have HF3 := Lib.hid hF3
        clear hO3 hT3 hF3
        go_wp2_with fail
        refine (num_any 0 _).mono ?_
        rintro e w4 ⟨rfl, rfl⟩
        go_wp2_with fail
        refine (make_pop _ d R 1 false _ [] _ _ HO3.out HF3.out.zero (by rw [List.getElem?_set_self (by rw [many_length]; omega)]) (by decide) (by decide)).mono ?_
        rintro e w4 ⟨rfl, hO4, hT4⟩
        rw [show ((1 : Int) + 1) = 2 from rfl] at hO4
        rw [show ((1 : Int) + 1) = 2 from rfl]
        have HO4 := Lib.hid hO4
        have HT4 := Lib.hid hT4
        have hs4 := hT4.size
        clear hO4 hT4
        go_wp2_with fail
        refine (num_any 0 _).mono ?_
        rintro e w5 ⟨rfl, rfl⟩
        go_wp2_with fail
        refine (has_any _ R d 1 _ [] _ _ (HO4.out.alloc _)).mono ?_
        rintro e w5 ⟨rfl, hT5⟩
        rw [has_set_no (by rw [List.length_set, many_length]; omega) (by decide)]
        have hb5 := new_blk hT5 rfl (fun x => x)
        have HT5 := Lib.hid hT5
        have hO5 := (HO4.out.alloc (.cells #[.int .i64 d, .int .i64 2] 30)).keep hT5 (fun _ _ x => x)
        have HO5 := Lib.hid hO5
        have c0 : w5.cell? ⟨w4.heap.size, 0, none⟩ = some (.int .i64 d) := cell_blk hb5 0
        have c1 : w5.cell? ⟨w4.heap.size, 1, none⟩ = some (.int .i64 2) := cell_blk hb5 1
        clear hT5 hb5 hO5
        go_wp2_with fail
        refine (has_any _ R d 2 _ [] _ _ HO5.out).mono ?_
        rintro e w6 ⟨rfl, hT6⟩
        rw [has_set_yes (by rw [List.length_set, many_length]; omega)]
        have HT6 := Lib.hid hT6
        clear hT6
        go_wp2
        go_ret
        exact ⟨rfl, (((((HTr.out.trans HT3.out (fun b hb => .inr (HF.out b hb).1)).trans HT4.out (fun b hb => .inr (HF3.out b hb).1)).alloc _).same HT5.out).same HT6.out)⟩
      · have hdm : ¬ (d : Int) < room := fun x => hdr ((HR.out d (by omega)).1 x)
        exfalso; omega

theorem idsRoom_any (room n drop : Int) (w : World) :
    Calls Try.prog 5 #[.int .i64 room, .int .i64 n, .int .i64 drop] w fun e w' => e = .returned (.bool true) ∧ Touch NoB w w' := by
  by_cases h : n < 1 ∨ 60 < n ∨ drop < 0 ∨ n ≤ drop ∨ (100 < room ∧ room ≤ 100000)
  · exact idsRoom_out room n drop w h
  · obtain ⟨N, rfl⟩ := Int.eq_ofNat_of_zero_le (by omega : 0 ≤ n)
    obtain ⟨D, rfl⟩ := Int.eq_ofNat_of_zero_le (by omega : 0 ≤ drop)
    by_cases h5 : room ≤ 100
    · exact idsRoom_in room N D w (by omega) (by omega) (by omega) h5
    · exact idsRoom_in2 room N D w (by omega) (by omega) (by omega) (by omega) (by omega)

end Go.Proofs.Ytjbhjeiaogikfaa
