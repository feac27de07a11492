/-
  What package check's Kind returns of an expression of any shape and a list of keys. Conditions: those that each theorem names.
-/
import Derived.Test.YtblcmgahgpnjmaaCf
import Derived.Deep.RegionHeld3
namespace Go.Proofs.Ytblcmgahgpnjmaa
open Go.ChangeShapes Go.WideShapes Go.ChangeAt Go.RowKit Go.Maps
set_option maxRecDepth 100000
set_option maxHeartbeats 4000000

/-- The kind of any expression, and the error. -/
def kindT (ks : List KyG) (x : GE) : Int × Int := if rightG 40 x = true then kindG ks 40 x else (0, 1)
theorem kkind_any {ks : List KyG} {mb nk : Nat} (x : GE) (w : World) (d : Nat) {a b : Int} {s : ByteArray} {A : Option Addr} {m c : Nat} (hx : GAt w d x a b s A m) (hc : m ≤ c) (hM : KM w mb nk ks) :
    Calls Try.prog 11 #[.map (some mb), .agg #[.int .i64 a, .int .i64 b, .string s, .slice A m c]] w fun e w' => e = .returned (.tuple #[.int .i64 (kindT ks x).1, .int .i64 (kindT ks x).2]) ∧ Touch NoB w w' := by
  have HR := Lib.hid (fun W (t : Touch NoB w W) => rightp_any x W d (hx.touch t) hc)
  unfold kindT
  cases hr : rightG 40 x with
  | false =>
    rw [hr] at HR
    clear hx hc hM hr
    go_enter Try.func11, Try.ntmps11
    go_wp2_with fail
    refine (HR.out _ ((Touch.refl _ _).alloc _)).mono ?_
    rintro r w2 ⟨rfl, hT2⟩
    have HT2 := Lib.hid ((gbw_touch w a b s A m c).same hT2)
    clear hT2
    go_wp2
    go_ret2
    exact ⟨rfl, HT2.out⟩
  | true =>
    have HV := Lib.hid (fun W (t : Touch NoB w W) => valid_any 40 (by omega) x hr W d (hx.touch t) hc (hM.touch t (fun f => f)))
    rw [hr] at HR
    clear hx hc hM hr
    rw [if_pos rfl]
    obtain ⟨p, hp⟩ : ∃ p, (kindG ks 40 x).1 = p := ⟨_, rfl⟩
    obtain ⟨q, hq⟩ : ∃ q, (kindG ks 40 x).2 = q := ⟨_, rfl⟩
    rw [hp, hq] at HV ⊢
    clear hp hq
    go_enter Try.func11, Try.ntmps11
    go_wp2_with fail
    refine (HR.out _ ((Touch.refl _ _).alloc _)).mono ?_
    rintro r w2 ⟨rfl, hT2⟩
    obtain ⟨p0, p1, p2, p3, p4⟩ := ((gbw_blk w a b s A m c).touch hT2).cells
    have HT2 := Lib.hid ((gbw_touch w a b s A m c).same hT2)
    clear hT2
    go_wp2_with fail
    refine (HV.out _ HT2.out).mono ?_
    rintro r w3 ⟨rfl, hT3⟩
    have HT3 := Lib.hid (HT2.out.same hT3)
    clear hT3
    go_wp2
    go_ret2
    exact ⟨rfl, HT3.out⟩
theorem kind_any {ks : List KyG} {K : Option Addr} {n cp : Nat} (hn : ks.length = n) (hn2 : n ≤ 1000000) (hw : ∀ k ∈ ks, W64 k.kd) (x : GE) (w : World) (d : Nat) {a b : Int} {s : ByteArray} {A : Option Addr} {m c : Nat} (hx : GAt w d x a b s A m) (hc : m ≤ c) (hK : KAtG w NoB K ks) :
    Calls Try.prog 6 #[.agg #[.int .i64 a, .int .i64 b, .string s, .slice A m c], .slice K n cp] w fun e w' => e = .returned (.tuple #[.int .i64 (kindT ks x).1, .int .i64 (kindT ks x).2]) ∧ Touch NoB w w' := by
  have HKO := Lib.hid (fun W (t : Touch NoB w W) => kindsof_any K n cp ks W hn hn2 (hK.touch t) hw)
  have HKD := Lib.hid (fun W mb (t : Touch NoB w W) (hM : KM W mb n ks) => kkind_any x W d (hx.touch t) hc hM)
  obtain ⟨p, hp⟩ : ∃ p, (kindT ks x).1 = p := ⟨_, rfl⟩
  obtain ⟨q, hq⟩ : ∃ q, (kindT ks x).2 = q := ⟨_, rfl⟩
  rw [hp, hq] at HKD ⊢
  clear hx hc hK hn hw hp hq
  go_enter Try.func6, Try.ntmps6
  go_wp2_with fail
  go_region_held3 (fun w' => w'.cell? ⟨w.heap.size, 0, none⟩ = some (.int .i64 a) ∧ w'.cell? ⟨w.heap.size, 1, none⟩ = some (.int .i64 b) ∧ w'.cell? ⟨w.heap.size, 2, none⟩ = some (.string s) ∧ w'.cell? ⟨w.heap.size, 3, none⟩ = some (.slice A m c)) (first | go_keep | exact ⟨p0, p1, p2, p3⟩)
    (first | (go_at_call 10
              refine (HKO.out _ (gbw_touch w a b s A m c).drew).mono ?_
              rintro r w3 ⟨rfl, hM, hT3⟩
              obtain ⟨p0, p1, p2, p3, p4⟩ := ((gbw_blk w a b s A m c).touch ((Touch.refl NoB (gbw w a b s A m c)).drew.same hT3)).cells
              have HT3 := Lib.hid (And.intro hM ((gbw_touch w a b s A m c).drew.same hT3))
              clear hM hT3)
           | (go_at_call 11
              refine (HKD.out _ _ HT3.out.2 HT3.out.1).mono ?_
              rintro r w4 ⟨rfl, hT4⟩
              have p0 := (hT4.cell (p := ⟨w.heap.size, 0, none⟩) p4 (fun f => f)).trans p0
              have p1 := (hT4.cell (p := ⟨w.heap.size, 1, none⟩) p4 (fun f => f)).trans p1
              have p2 := (hT4.cell (p := ⟨w.heap.size, 2, none⟩) p4 (fun f => f)).trans p2
              have p3 := (hT4.cell (p := ⟨w.heap.size, 3, none⟩) p4 (fun f => f)).trans p3
              have HT4 := Lib.hid (HT3.out.2.same hT4)
              clear hT4))
  go_wp2
  go_ret2
  exact ⟨rfl, HT4.out⟩
end Go.Proofs.Ytblcmgahgpnjmaa
