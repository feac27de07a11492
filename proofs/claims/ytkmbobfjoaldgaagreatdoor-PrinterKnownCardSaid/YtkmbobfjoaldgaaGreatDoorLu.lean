/-
  What is known of each token of a text that is right; a slice of bytes that came in, opened. Conditions: those that each theorem names.
-/
import Derived.Test.YtkmbobfjoaldgaaGreatDoorLk
import Derived.ChangeSlices
import Derived.Shelf.Bytes.SlSmallAll
namespace Go.Proofs.YtkmbobfjoaldgaaGreatDoor
open Go.ChangeShapes Go.WideShapes Go.ChangeAt Go.RowKit
set_option maxRecDepth 100000
set_option maxHeartbeats 4000000

/-- The place of the token ahead of token i. -/
def wasL (ts : List Tk) : Nat → Int
  | 0 => -1
  | i + 1 => ((ts[i]?).map fun t => (t.pl : Int)).getD 0
theorem places_lt : ∀ (b : Bs) (ts : List Tk) (a : Nat), PlOk b a ts → ∀ (i : Nat) (t : Tk), ts[i]? = some t → a ≤ t.pl ∧ t.pl ≤ b.length ∧ (b.drop t.pl).take t.tx.length = t.tx ∧ t.tx.length ≤ b.length - t.pl ∧ (t.kd = 0 ↔ i + 1 = ts.length) ∧ (i + 1 = ts.length → t.pl = b.length) ∧ (∀ j, i = j + 1 → ∃ u, ts[j]? = some u ∧ u.pl < t.pl)
  | b, [], a, h, i, t, _ => h.elim
  | b, [x], a, h, i, t, hi => by
    obtain ⟨h1, h2, h3, h4, h5⟩ := h
    have hi0 : i = 0 := by
      have := (List.getElem?_eq_some_iff.1 hi).1
      simpa using this
    subst hi0
    simp only [List.getElem?_cons_zero, Option.some.injEq] at hi
    subst hi
    refine ⟨h3, by omega, by rw [h4]; rfl, by rw [h4]; simp, by simp [h1], fun _ => h2, fun j hj => by omega⟩
  | b, x :: u :: r, a, h, i, t, hi => by
    obtain ⟨h1, h2, h3, h4, h5, h6⟩ := h
    cases i with
    | zero =>
      simp only [List.getElem?_cons_zero, Option.some.injEq] at hi
      subst hi
      refine ⟨h2, by omega, h4, h5, ?_, fun e => by simp at e, fun j hj => by omega⟩
      constructor
      · intro e; omega
      · intro e; simp at e
    | succ i =>
      have hi' : (u :: r)[i]? = some t := by simpa using hi
      obtain ⟨g1, g2, g3, g4, g5, g6, g7⟩ := places_lt b (u :: r) (x.pl + 1) h6 i t hi'
      refine ⟨by omega, g2, g3, g4, ?_, fun e => g6 (by simpa using e), fun j hj => ?_⟩
      · rw [g5]; simp
      · obtain rfl : i = j := by omega
        cases i with
        | zero => exact ⟨x, rfl, by omega⟩
        | succ i =>
          obtain ⟨v, hv, hlt⟩ := g7 i rfl
          exact ⟨v, by simpa using hv, hlt⟩
/-- Of token i of a text that is right. -/
theorem place_at {b : Bs} {ts : List Tk} (h : lexL b = .good ts) {i : Nat} {t : Tk} (hi : ts[i]? = some t) : wasL ts i < (t.pl : Int) ∧ t.pl ≤ b.length ∧ cut b t.pl (t.pl + t.tx.length) = t.tx ∧ t.tx.length ≤ b.length - t.pl ∧ (t.kd = 0 ↔ i + 1 = ts.length) ∧ (i + 1 = ts.length → t.pl = b.length) ∧ wasL ts (i + 1) = t.pl := by
  obtain ⟨-, g2, g3, g4, g5, g6, g7⟩ := places_lt b ts 0 (lex_places h) i t hi
  refine ⟨?_, g2, by unfold cut; rw [Nat.add_sub_cancel_left]; exact g3, g4, g5, g6, by simp only [wasL, hi]; rfl⟩
  cases i with
  | zero => simp only [wasL]; omega
  | succ i =>
    obtain ⟨u, hu, hlt⟩ := g7 i rfl
    simp only [wasL, hu]
    show (u.pl : Int) < t.pl
    omega

section
variable {H : Type} {enc : TypeId × Value → H} {w : World} {base : Nat} {held : Bool} {fuel : Nat}
theorem cellsU8 : Tryz.prog.cellsOf 5 = 1 := by kernel_rfl
/-- A slice of bytes that came in. -/
theorem open_bytes {vs : List Value} {x : DataW H × List MemPlace} (h : DataW.trod enc Tryz.prog w base (fun _ => true) held fuel 33 vs = some x) :
    ∃ (a : Option Addr) (len cap : Nat) (b : Bs), vs = [.slice a len cap] ∧ b.length = len ∧ len ≤ cap ∧ cap ≤ 9223372036854775807 ∧ BAt w a b := by
  rcases open_ints Tryz.underlying33 Tryz.underlying5 cellsU8 h with ⟨hcs, _⟩ | ⟨ad, len, cap, zs, hcs, _, hl, hx, hz, _, hcell, hwf⟩
  · exact ⟨none, 0, 0, [], hcs, rfl, by omega, by omega, BAt.nil _ _⟩
  · simp only [if_true] at hz
    unfold maxLen at hx
    refine ⟨some ad, len, cap, (zs.take len).map fun z => UInt8.ofNat z.toNat, hcs, by rw [List.length_map, List.length_take]; omega, hl, by omega, ?_⟩
    intro hne
    have hlen : 0 < len := by
      rcases Nat.eq_zero_or_pos len with e | e
      · subst e; simp at hne
      · exact e
    obtain ⟨blk, off, spot⟩ := ad
    have hspot : spot = none := by simpa [Addr.add] using World.cell?_spot (hcell 0 (by omega))
    subst hspot
    refine ⟨blk, off, rfl, ?_, fun i c hi => ?_⟩
    · exact World.block_lt_of_cell? w ⟨blk, off + 0, none⟩ (by rw [← add_plain]; exact hcell 0 (by omega))
    · rw [List.getElem?_map] at hi
      cases hzi : (zs.take len)[i]? with
      | none => rw [hzi] at hi; cases hi
      | some z =>
        rw [hzi] at hi
        simp only [Option.map_some, Option.some.injEq] at hi
        have hil : i < (zs.take len).length := (List.getElem?_eq_some_iff.1 hzi).1
        rw [List.length_take] at hil
        have hz2 : zs[i]? = some z := by rw [List.getElem?_take, if_pos (by omega)] at hzi; exact hzi
        have hc := hcell i (by omega)
        rw [show zs.getD i 0 = z from by rw [List.getD_eq_getElem?_getD, hz2]; rfl, add_plain] at hc
        rw [hc, ← hi]
        have hw := hwf z (List.mem_of_getElem? hz2)
        simp only [Lit.wf, IntKind.min, IntKind.max, IntKind.signed, IntKind.bits, Bool.and_eq_true, decide_eq_true_eq, if_false, Bool.false_eq_true] at hw
        congr 2
        rw [UInt8.toNat_ofNat']
        omega
end
/-- A piece of the bytes, as a string. -/
theorem win_text {W0 : World} {A : Option Addr} {b : Bs} {n cap l h : Nat} (hb : BAt W0 A b) (hn : b.length = n) (hcap : n ≤ cap) (hl : l ≤ h) (hh : h ≤ n) : ∃ v, (∀ W, (Instr.slice 33 (.slice A n cap) (some (.int .i64 (l : Int))) (some (.int .i64 (h : Int))) none).run Tryz.prog W = .ok v W) ∧
    ∀ W, Touch NoB W0 W → (convert 33 9 v).run Tryz.prog W = .ok (.string (bs (cut b l h))) W := by
  by_cases e : l = h
  · subst e
    refine ⟨.slice (if cap = l then A else A.map (·.add (l * 1))) 0 (cap - l), fun W => ?_, fun W _ => ?_⟩
    · have ht' : Tryz.prog.underlying 33 = some (.slice (Tryz.prog.elem 33)) := by simp [Program.elem, Tryz.underlying33]
      have he : Tryz.prog.elem 33 = 5 := by simp [Program.elem, Tryz.underlying33]
      rw [run_slice_lh W 33 _ _ _ ht' .i64 .i64 _ _ (by omega) (by omega) (by omega), he, Tryz.sizeOf5]
      simp only [Result.andThen, sliced, Int.toNat_natCast, Nat.sub_self]
    · rw [show cut b l l = [] from by unfold cut; simp]
      exact Go.Proofs.run_convert_bytes_zero W 33 5 Tryz.underlying33 Tryz.underlying5 _ _ 9 Tryz.underlying9
  · obtain ⟨blk, off, rfl, hblk, hc⟩ := hb (by intro e2; subst e2; simp at hn; omega)
    refine ⟨_, fun W => slice_win (P := Tryz.prog) Tryz.underlying33 Tryz.sizeOf5 W blk off n cap l h (by omega) (by omega) (by omega), fun W hW => ?_⟩
    exact BAt.text 33 5 9 Tryz.underlying33 Tryz.underlying5 Tryz.underlying9 (fun i c hi => (hW.cell (p := ⟨blk, off + i, none⟩) hblk (fun x => x)).trans (hc i c hi)) hl (by omega) _ rfl
end Go.Proofs.YtkmbobfjoaldgaaGreatDoor
