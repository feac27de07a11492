/-
  What package check's result returns of sums. Conditions: those that each theorem names.
-/
import Derived.Test.YtblcmgahgpnjmaaCc
namespace Go.Proofs.Ytblcmgahgpnjmaa
open Go.ChangeShapes Go.WideShapes Go.ChangeAt Go.RowKit Go.Maps
set_option maxRecDepth 100000
set_option maxHeartbeats 4000000

theorem res_add {k : Int} (hk : k = 6 ∨ k = 7) (A : Option Addr) (n cap : Nat) (ks : List Int) (w : World) (hn : ks.length = n) (hn2 : n ≤ 1000) (h : KsAt w A ks) (hpos : 0 < n) :
    Calls Try.prog 39 #[.int .i64 k, .slice A n cap] w (ResPost (resG k ks) w) := by
  obtain ⟨p, hp⟩ : ∃ p, allI 0 ks = p := ⟨_, rfl⟩
  obtain ⟨q, hq⟩ : ∃ q, allI 4 ks = q := ⟨_, rfl⟩
  have HA := Lib.hid (fun (q : Int) w' (t : Touch NoB w w') => areall_any q A n cap ks w' hn hn2 (h.touch t))
  have e : resG k ks = if (p || q) = true then some (ks.headD 0) else none := by
    rw [← hp, ← hq]
    rcases hk with rfl | rfl <;> rfl
  rw [e]
  obtain ⟨x, hx⟩ : ∃ x, ks[0]? = some x := ⟨ks[0]'(by omega), List.getElem?_eq_getElem _⟩
  have hd : ks.headD 0 = x := head_at hx
  rw [hd]
  obtain ⟨g, o, rfl, hg, hc⟩ := h 0 x hx
  have hc : w.cell? ⟨g, o, none⟩ = some (.int .i64 x) := hc
  clear e hn2 h hx hd hn
  rcases hk with rfl | rfl <;> cases p <;> cases q
  all_goals
    go_enter Try.func39, Try.ntmps39
    go_wp2_with fail
    go_quiet (first | (go_at_call 57; exact quiet_same (HA.out _ _ ((Touch.refl _ _).drewN _))))
    go_wp2
    go_ret2
    exact ⟨_, rfl, (fun x h => by first | (cases h; rfl) | (cases h)), by repeat (first | with_reducible exact Touch.refl _ _ | with_reducible refine Touch.drew ?_ | with_reducible refine Touch.drewN ?_ _)⟩
end Go.Proofs.Ytblcmgahgpnjmaa
