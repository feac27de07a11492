/-
  CheckKinds' walk. Conditions: those that each theorem names.
-/
import Derived.Test.YtblcmgahgpnjmaaCj
import Derived.BigQuiet
namespace Go.Proofs.Ytblcmgahgpnjmaa
open Go.ChangeShapes Go.WideShapes Go.ChangeAt Go.RowKit Go.Maps
set_option maxRecDepth 100000
set_option maxHeartbeats 4000000

def LkRel (n : Nat) (w : World) (v : Value) (wr : World) : Prop := ∃ i : Nat, i ≤ n ∧ v = .int .i64 i ∧ Touch NoB w wr
theorem kinds_big (x : GE) (w : World) (d : Nat) {a b : Int} {s : ByteArray} {A : Option Addr} {m c : Nat} (hx : GAt w d x a b s A m) (hc : m ≤ c) (hb : bigG 46 x = true) (v : Value) :
    Calls Try.prog 3 #[.agg #[.int .i64 a, .int .i64 b, .string s, .slice A m c], v] w fun e w' => e = .returned (.bool true) ∧ Touch NoB w w' := by
  have HB := Lib.hid (fun W (t : Touch NoB w W) => big_any 46 (by omega) x W d (hx.touch t) hc)
  rw [hb] at HB
  clear hx hc hb
  go_enter Try.func3, Try.ntmps3
  go_wp2_with fail
  refine (alive13_any _).mono ?_
  rintro r w1 ⟨rfl, hT1⟩
  obtain ⟨p0, p1, p2, p3, p4⟩ := ((gbw_blk w a b s A m c).touch hT1).cells
  have HT1 := Lib.hid ((gbw_touch w a b s A m c).same hT1)
  clear hT1
  go_wp2_with fail
  refine (HB.out _ HT1.out).mono ?_
  rintro r w2 ⟨rfl, hT2⟩
  have HT2 := Lib.hid (HT1.out.same hT2)
  clear hT2
  go_wp2
  go_ret
  exact ⟨rfl, HT2.out⟩
theorem kinds_any (x : GE) (w : World) (d : Nat) {a b : Int} {s : ByteArray} {A : Option Addr} {m c : Nat} (hx : GAt w d x a b s A m) (hc : m ≤ c) {ks : List KyG} {K : Option Addr} {n cp : Nat} (hn : ks.length = n) (hnm : n ≤ 9223372036854775807) (hw : ∀ k ∈ ks, W64 k.kd) (hK : KAtG w NoB K ks) :
    Calls Try.prog 3 #[.agg #[.int .i64 a, .int .i64 b, .string s, .slice A m c], .slice K n cp] w fun e w' => e = .returned (.bool true) ∧ Touch NoB w w' := by
  cases hb : bigG 46 x with
  | true => exact kinds_big x w d hx hc hb _
  | false =>
  have HB := Lib.hid (fun W (t : Touch NoB w W) => big_any 46 (by omega) x W d (hx.touch t) hc)
  rw [hb] at HB
  by_cases h30 : 30 < n
  · have d30 : decide ((30 : Int) < (n : Int)) = true := by simp; omega
    clear hx hc hb hn hw hK
    go_enter Try.func3, Try.ntmps3
    go_wp2_with fail
    refine (alive13_any _).mono ?_
    rintro r w1 ⟨rfl, hT1⟩
    obtain ⟨p0, p1, p2, p3, p4⟩ := ((gbw_blk w a b s A m c).touch hT1).cells
    have HT1 := Lib.hid ((gbw_touch w a b s A m c).same hT1)
    clear hT1
    go_wp2_with fail
    refine (HB.out _ HT1.out).mono ?_
    rintro r w2 ⟨rfl, hT2⟩
    have HT2 := Lib.hid (HT1.out.same hT2)
    clear hT2
    go_wp2
    go_ret
    exact ⟨rfl, HT2.out⟩
  have d30 : decide ((30 : Int) < (n : Int)) = false := by simp; omega
  have d30' : decide (30 < n) = false := by simp; omega
  have HP := Lib.hid (fun W (t : Touch NoB w W) => kind_any (cp := cp) hn (by omega) hw x W d (hx.touch t) hc (hK.touch t))
  have HR := Lib.hid (fun W (t : Touch NoB w W) => rKind_any (cp := cp) hn (by omega) x W d (hx.touch t) hc (hK.touch t))
  have HKK := Lib.hid (And.intro hn hK)
  obtain ⟨p, hp⟩ : ∃ p, (kindT ks x).1 = p := ⟨_, rfl⟩
  obtain ⟨q, hq⟩ : ∃ q, (kindT ks x).2 = q := ⟨_, rfl⟩
  rw [hp, hq] at HP HR
  have hn30 : n ≤ 30 := by omega
  clear hx hc hb hn hw hK hp hq h30
  go_enter Try.func3, Try.ntmps3
  go_wp2_with fail
  refine (alive13_any _).mono ?_
  rintro r w1 ⟨rfl, hT1⟩
  obtain ⟨p0, p1, p2, p3, p4⟩ := ((gbw_blk w a b s A m c).touch hT1).cells
  have HT1 := Lib.hid hT1
  clear hT1
  go_wp2_with fail
  refine (HB.out _ ((gbw_touch w a b s A m c).same HT1.out)).mono ?_
  rintro r w2 ⟨rfl, hT2⟩
  have HT2 : Hid (Touch NoB (gbw w a b s A m c) w2) := Lib.hid (HT1.out.same hT2)
  clear hT2 p0 p1 p2 p3 p4
  go_wp2
  go_loopw [7] (fun v7 wr => LkRel n (gbw w a b s A m c) v7 wr) (fun v7 _ => n - (intOf v7).toNat)
  case atStart => exact ⟨0, Nat.zero_le _, rfl, HT2.out⟩
  case round =>
    obtain ⟨i, hi, rfl, hTr⟩ := hrel
    obtain ⟨p0, p1, p2, p3, p4⟩ := ((gbw_blk w a b s A m c).touch hTr).cells
    have hTw := (gbw_touch w a b s A m c).same hTr
    by_cases hlt : i < n
    · obtain ⟨y, hy⟩ : ∃ y, ks[i]? = some y := ⟨ks[i]'(by rw [HKK.out.1]; exact hlt), List.getElem?_eq_getElem _⟩
      obtain ⟨-, bk, off, rfl, hbk, -, c0, c1, -⟩ := (HKK.out.2.touch hTw) i y hy
      have HC := Lib.hid (And.intro hbk (And.intro c0 c1))
      have HTr := Lib.hid hTr
      obtain ⟨wo, rfl⟩ : ∃ z, z = wr := ⟨_, rfl⟩
      clear hTr hTw p0 p1 p2 p3 p4 c0 c1
      go_wp2
      go_loopw [8] (fun v8 wr => LkRel i wo v8 wr) (fun v8 _ => i - (intOf v8).toNat)
      case atStart => exact ⟨0, Nat.zero_le _, rfl, Touch.refl _ _⟩
      case round =>
        obtain ⟨j, hj, rfl, hTj⟩ := hrel
        have c0 := (hTj.cell (p := ⟨bk, off + i * 3, none⟩) HC.out.1 (fun f => f)).trans HC.out.2.1
        have c1 := (hTj.cell (p := ⟨bk, off + i * 3 + 1, none⟩) HC.out.1 (fun f => f)).trans HC.out.2.2
        have HTj := Lib.hid hTj
        by_cases hlj : j < i
        · obtain ⟨z, hz⟩ : ∃ z, ks[j]? = some z := ⟨ks[j]'(by rw [HKK.out.1]; omega), List.getElem?_eq_getElem _⟩
          obtain ⟨-, bk2, off2, e2, hbk2, -, d0, -, -⟩ := (HKK.out.2.touch (((gbw_touch w a b s A m c).same HTr.out).same hTj)) j z hz
          injection e2 with e2
          injection e2 with e2 e3 _
          subst e2 e3
          obtain ⟨n1, hn1⟩ : ∃ t, z.nm = t := ⟨_, rfl⟩
          obtain ⟨n2, hn2⟩ : ∃ t, y.nm = t := ⟨_, rfl⟩
          rw [hn1] at d0
          rw [hn2] at c0
          obtain ⟨e, he⟩ : ∃ e, (n1.toList == n2.toList) = e := ⟨_, rfl⟩
          clear hTj hz hn1 hn2 hy
          cases e
          · go_wp2_with fail
            go_quiet (fail)
            go_wp2
            go_roundw
            case rel => exact ⟨j + 1, by omega, by go_num, HTj.out.drewN _⟩
            case measure => simp [intOf]; omega
          · go_wp2_with fail
            go_quiet (fail)
            go_wp2
            go_ret
            exact ⟨rfl, (((gbw_touch w a b s A m c).same HTr.out).same HTj.out).drewN _⟩
        · obtain rfl : j = i := by omega
          obtain ⟨kd, hkd⟩ : ∃ t, y.kd = t := ⟨_, rfl⟩
          rw [hkd] at c1
          clear hTj hy hkd c0
          by_cases g0 : kd < 0
          · have g0' : decide (kd < 0) = true := by simpa using g0
            clear g0
            go_wp2
            go_ret
            exact ⟨rfl, ((gbw_touch w a b s A m c).same HTr.out).same HTj.out⟩
          · have g0' : decide (kd < 0) = false := by simpa using g0
            by_cases g4 : 4 < kd
            · have g4' : decide (4 < kd) = true := by simpa using g4
              clear g0 g4
              go_wp2
              go_ret
              exact ⟨rfl, ((gbw_touch w a b s A m c).same HTr.out).same HTj.out⟩
            · have g4' : decide (4 < kd) = false := by simpa using g4
              clear g0 g4
              go_wp2
              go_roundw
              case rel => exact ⟨j + 1, by omega, by go_num, HTr.out.same HTj.out⟩
              case measure => simp [intOf]; omega
    · obtain rfl : i = n := by omega
      have HT := Lib.hid hTw
      have HTr := Lib.hid hTr
      clear hTr hTw
      go_wp2_with fail
      refine (HP.out _ HT.out).mono ?_
      rintro r w3 ⟨rfl, hT3⟩
      obtain ⟨p0, p1, p2, p3, p4⟩ := ((gbw_blk w a b s A m c).touch (HTr.out.same hT3)).cells
      have HT3 := Lib.hid (HT.out.same hT3)
      clear hT3
      go_wp2_with fail
      refine (HR.out _ HT3.out).mono ?_
      rintro r w4 ⟨rfl, hT4⟩
      have HT4 := Lib.hid (HT3.out.same hT4)
      clear hT4
      go_wp2_with (first | (go_at_call 8; refine (num13_any _ _).mono ?_; rintro e w' ⟨rfl, rfl⟩))
      go_ret
      exact ⟨rfl, HT4.out⟩
end Go.Proofs.Ytblcmgahgpnjmaa
