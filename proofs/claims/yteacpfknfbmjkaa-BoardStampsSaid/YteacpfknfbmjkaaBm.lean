/-
  BoardStamps beyond its bound; an argument that is a list of ints.
-/
import Derived.Test.YteacpfknfbmjkaaBk
namespace Go.Proofs.Yteacpfknfbmjkaa
open Go.ChangeShapes Go.WideShapes Go.ChangeAt Go.RowKit Go.Deep
set_option maxRecDepth 100000
set_option maxHeartbeats 1000000

section
variable {H : Type} {enc : TypeId × Value → H} {w : World} {base : Nat} {held : Bool} {fuel : Nat}
theorem open_ints' {vs : List Value} {x : DataW H × List MemPlace} (h : DataW.trod enc Try.prog w base (fun _ => true) held fuel 40 vs = some x) :
    ∃ (a : Option Addr) (len cap : Nat) (ms : List Int), vs = [.slice a len cap] ∧ ms.length = len ∧ len ≤ 9223372036854775807 ∧ IntsIn w a ms := by
  rcases open_ints Try.underlying40 Try.underlying3 cellsInt h with ⟨hcs, _⟩ | ⟨ad, len, cap, zs, hcs, _, hl, hx, hz, _, hcell, _⟩
  · exact ⟨none, 0, 0, [], hcs, rfl, by omega, fun j z hj => by simp at hj⟩
  · simp only [if_true] at hz
    unfold maxLen at hx
    refine ⟨some ad, len, cap, zs.take len, hcs, by rw [List.length_take]; omega, by omega, ?_⟩
    intro j m hj
    have hjl : j < (zs.take len).length := (List.getElem?_eq_some_iff.1 hj).1
    rw [List.length_take] at hjl
    have hc := hcell j (by omega)
    have hg : zs.getD j 0 = m := by
      rw [List.getElem?_take, if_pos (by omega)] at hj
      rw [List.getD_eq_getElem?_getD, hj]; rfl
    rw [hg] at hc
    obtain ⟨b, off, spot⟩ := ad
    have hspot : spot = none := by simpa [Addr.add] using World.cell?_spot (hcell 0 (by omega))
    subst hspot
    refine ⟨b, off, rfl, ?_, by rw [← add_plain]; exact hc⟩
    exact World.block_lt_of_cell? w ⟨b, off + j, none⟩ (by rw [← add_plain]; exact hc)
end

theorem stamps_out (A : Option Addr) (N cap : Nat) (w : World) (h : 60 < N) :
    Calls Try.prog 4 #[.slice A N cap] w fun e w' => e = .returned (.bool true) ∧ Touch NoB w w' := by
  have HN := Lib.hid (fun g w' (h : KAt w' NoB (some ⟨g, 0, none⟩) K2) => bnew_yes (some ⟨g, 0, none⟩) 2 2 K2 w' rfl (by simp) h errK_2 bkeys_2)
  have d60 : decide (60 < (N : Int)) = true := by simp; omega
  clear h
  go_enter Try.func4, Try.ntmps4
  go_wp2_with fail
  refine (alive_any _).mono ?_
  rintro e w1 ⟨rfl, hT1⟩
  have HT1 := Lib.hid hT1
  clear hT1
  go_wp2_with fail
  refine (HN.out _ _ (kat_2 w1)).mono ?_
  intro e w2 hP
  obtain ⟨g, rfl, hS, -⟩ := hP.sb (w := w) (L := NoB) (HT1.out.alloc _) (fun b hb => hb.elim)
  have HS := Lib.hid hS
  clear hP hS
  go_wp2_with fail
  refine (num_any _ _).mono ?_
  rintro e w' ⟨rfl, rfl⟩
  go_wp2
  go_ret
  exact ⟨rfl, HS.out.touch⟩
end Go.Proofs.Yteacpfknfbmjkaa
