/-
  What the document's own kind and Kind return of an expression of any shape. Conditions: those that each theorem names.
-/
import Derived.Test.YtblcmgahgpnjmaaCh0
import Derived.Test.YtblcmgahgpnjmaaCh1
import Derived.Test.YtblcmgahgpnjmaaCh2
import Derived.Test.YtblcmgahgpnjmaaCh3
import Derived.Test.YtblcmgahgpnjmaaCh4
import Derived.Test.YtblcmgahgpnjmaaCh5
import Derived.Test.YtblcmgahgpnjmaaCh6
import Derived.Test.YtblcmgahgpnjmaaCg
namespace Go.Proofs.Ytblcmgahgpnjmaa
open Go.ChangeShapes Go.WideShapes Go.ChangeAt Go.RowKit Go.Maps
set_option maxRecDepth 100000
set_option maxHeartbeats 4000000

theorem rkind_any {ks : List KyG} {K : Option Addr} {nk cp : Nat} (hnk : ks.length = nk) (hnk2 : nk ≤ 1000000) : ∀ (f : Nat), RkOk ks K nk cp f
  | 0, x, hr, _, _, _, _, _, _, _, _, _, _, _ => by simp [rightG] at hr
  | f + 1, x, _, w, 0, a, b, s, A, m, c, hx, _, _ => hx.elim
  | f + 1, .mk k n t l, hr, w, d + 1, a, b, s, A, m, c, hx, hc, hM => by
    have IH : RkOk ks K nk cp f := rkind_any hnk hnk2 f
    have hr0 := hr
    unfold rightG at hr0
    rw [Bool.and_eq_true] at hr0
    obtain ⟨hkm, hal⟩ := alone_yes hr0.1
    have hk : k = 2 ∨ (k = 0 ∨ k = 1 ∨ k = 3 ∨ k = 4 ∨ k = 5) ∨ (k = 14 ∨ k = 16 ∨ k = 17 ∨ k = 18) ∨ (k = 6 ∨ k = 7 ∨ k = 8 ∨ k = 9 ∨ k = 10 ∨ k = 11 ∨ k = 12 ∨ k = 13 ∨ k = 15 ∨ k = 19) := by omega
    rcases hk with h | h | h | h
    · exact rk_name hnk hnk2 IH hr ⟨h, fun _ _ => trivial⟩ hx hc hM
    · exact rk_zero hnk hnk2 IH hr ⟨h, fun _ _ => trivial⟩ hx hc hM
    · exact rk_one hnk hnk2 IH hr ⟨h, fun _ _ => trivial⟩ hx hc hM
    · cases hv : kidsG (kindG ks f) l with
      | error e => exact rk_two0 hnk hnk2 IH hr ⟨h, fun vs h2 => by rw [hv] at h2; cases h2⟩ hx hc hM
      | ok vs =>
        rcases class_of (vs.getD 0 0) with h2 | h2 | h2 | h2
        · exact rk_two0 hnk hnk2 IH hr ⟨h, fun us h3 => by rw [hv] at h3; cases h3; exact h2.2.2.2⟩ hx hc hM
        · exact rk_two1 hnk hnk2 IH hr ⟨h, fun us h3 => by rw [hv] at h3; cases h3; exact h2.2.2.2⟩ hx hc hM
        · exact rk_two2 hnk hnk2 IH hr ⟨h, fun us h3 => by rw [hv] at h3; cases h3; exact h2.2.2.2⟩ hx hc hM
        · exact rk_two3 hnk hnk2 IH hr ⟨h, fun us h3 => by rw [hv] at h3; cases h3; exact h2.2.2.2⟩ hx hc hM
theorem rKind_any {ks : List KyG} {K : Option Addr} {nk cp : Nat} (hnk : ks.length = nk) (hnk2 : nk ≤ 1000000) (x : GE) (w : World) (d : Nat) {a b : Int} {s : ByteArray} {A : Option Addr} {m c : Nat} (hx : GAt w d x a b s A m) (hc : m ≤ c) (hK : KAtG w NoB K ks) :
    Calls Try.prog 7 #[.agg #[.int .i64 a, .int .i64 b, .string s, .slice A m c], .slice K nk cp] w fun e w' => e = .returned (.tuple #[.int .i64 (kindT ks x).1, .int .i64 (kindT ks x).2]) ∧ Touch NoB w w' := by
  have HR := Lib.hid (fun W (t : Touch NoB w W) => rightexpr_any x W d (hx.touch t) hc)
  unfold kindT
  cases hr : rightG 40 x with
  | false =>
    rw [hr] at HR
    clear hx hc hK hr hnk
    go_enter Try.func7, Try.ntmps7
    go_wp2_with fail
    refine (HR.out _ ((Touch.refl _ _).alloc _)).mono ?_
    rintro r w2 ⟨rfl, hT2⟩
    have HT2 := Lib.hid ((gbw_touch w a b s A m c).same hT2)
    clear hT2
    go_wp2
    go_ret2
    exact ⟨rfl, HT2.out⟩
  | true =>
    have HV := Lib.hid (fun W (t : Touch NoB w W) => rkind_any hnk hnk2 40 (cp := cp) x hr W d (hx.touch t) hc (hK.touch t))
    rw [hr] at HR
    clear hx hc hK hr hnk
    rw [if_pos rfl]
    obtain ⟨p, hp⟩ : ∃ p, (kindG ks 40 x).1 = p := ⟨_, rfl⟩
    obtain ⟨q, hq⟩ : ∃ q, (kindG ks 40 x).2 = q := ⟨_, rfl⟩
    rw [hp, hq] at HV ⊢
    clear hp hq
    go_enter Try.func7, Try.ntmps7
    go_wp2_with fail
    refine (HR.out _ ((Touch.refl _ _).alloc _)).mono ?_
    rintro r w2 ⟨rfl, hT2⟩
    obtain ⟨p0, p1, p2, p3, p4⟩ := ((gbw_blk w a b s A m c).touch hT2).cells
    have HT2 := Lib.hid ((gbw_touch w a b s A m c).same hT2)
    clear hT2
    go_wp2_with fail
    refine (HV.out _ HT2.out).mono ?_
    rintro r w3 ⟨rfl, hT3⟩
    have HT3 := Lib.hid (HT2.out.same hT3)
    clear hT3
    go_wp2
    go_ret2
    exact ⟨rfl, HT3.out⟩
end Go.Proofs.Ytblcmgahgpnjmaa
