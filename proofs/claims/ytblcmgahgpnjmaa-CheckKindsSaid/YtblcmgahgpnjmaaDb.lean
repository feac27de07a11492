/-
  Expressions of any shape: which are too great for a statement; which are valid: what the document's own says. Conditions: those that each theorem names.
-/
import Derived.Test.YtblcmgahgpnjmaaDa
import Derived.Test.YtblcmgahgpnjmaaLy
namespace Go.Proofs.Ytblcmgahgpnjmaa
open Go.ChangeShapes Go.WideShapes Go.ChangeAt Go.RowKit
set_option maxRecDepth 100000
set_option maxHeartbeats 4000000

theorem GAt.kid {w w' : World} {d : Nat} {k n : Int} {q : ByteArray} {l : List GE} {a b : Int} {s : ByteArray} {A : Option Addr} {m : Nat} (h : GAt w (d + 1) (.mk k n q l) a b s A m) (t : Touch NoB w w') {i : Nat} {y : GE} (hy : l[i]? = some y) :
    ∃ g o a1 b1 s1 A1 m1 c1, A = some ⟨g, o, none⟩ ∧ g < w'.heap.size ∧ w'.cell? ⟨g, o + i * 4, none⟩ = some (.int .i64 a1) ∧ w'.cell? ⟨g, o + i * 4 + 1, none⟩ = some (.int .i64 b1) ∧
      w'.cell? ⟨g, o + i * 4 + 2, none⟩ = some (.string s1) ∧ w'.cell? ⟨g, o + i * 4 + 3, none⟩ = some (.slice A1 m1 c1) ∧ m1 ≤ c1 ∧ GAt w' d y a1 b1 s1 A1 m1 := (h.touch t).2.2.2.2.2.2.2.2 i y hy

theorem quiet_same {P : Program} {f : FuncId} {args : Array Value} {w : World} {n : Nat} {v : Value}
    (h : Calls P f args (w.drewN n) fun e w' => e = .returned v ∧ w.drewN n = w') : Calls P f args (w.drewN n) fun e w'' => e = .returned v ∧ ∃ m, w'' = w.drewN m :=
  h.mono fun _ _ ⟨he, hm⟩ => ⟨he, n, hm.symm⟩

/-- The block of an expression that a function has been given. -/
def GB (w : World) (q : Nat) (a b : Int) (s : ByteArray) (A : Option Addr) (m c : Nat) : Prop := w.heap[q]? = some (.cells #[.int .i64 a, .int .i64 b, .string s, .slice A m c] 24 (0, 0))
theorem GB.new (w : World) (a b : Int) (s : ByteArray) (A : Option Addr) (m c : Nat) : GB (w.alloc (.cells #[.int .i64 a, .int .i64 b, .string s, .slice A m c] 24)) w.heap.size a b s A m c := alloc_blk _ _ _ rfl
theorem GB.touch {w w' : World} {q : Nat} {a b : Int} {s : ByteArray} {A : Option Addr} {m c : Nat} (h : GB w q a b s A m c) (t : Touch NoB w w') : GB w' q a b s A m c := (t.block q (blk_lt h) (fun f => f)).trans h
theorem GB.cells {w : World} {q : Nat} {a b : Int} {s : ByteArray} {A : Option Addr} {m c : Nat} (h : GB w q a b s A m c) : w.cell? ⟨q, 0, none⟩ = some (.int .i64 a) ∧ w.cell? ⟨q, 1, none⟩ = some (.int .i64 b) ∧ w.cell? ⟨q, 2, none⟩ = some (.string s) ∧ w.cell? ⟨q, 3, none⟩ = some (.slice A m c) ∧ q < w.heap.size :=
  ⟨cell_blk h 0, cell_blk h 1, cell_blk h 2, cell_blk h 3, blk_lt h⟩
/-- The world in which such a block has been made. -/
def gbw (w : World) (a b : Int) (s : ByteArray) (A : Option Addr) (m c : Nat) : World := w.alloc (.cells #[.int .i64 a, .int .i64 b, .string s, .slice A m c] 24)
theorem gbw_touch (w : World) (a b : Int) (s : ByteArray) (A : Option Addr) (m c : Nat) : Touch NoB w (gbw w a b s A m c) := (Touch.refl _ _).alloc _
theorem gbw_blk (w : World) (a b : Int) (s : ByteArray) (A : Option Addr) (m c : Nat) : GB (gbw w a b s A m c) w.heap.size a b s A m c := GB.new w a b s A m c

/-- Is an expression too great? -/
def bigG : Nat → GE → Bool
  | 0, _ => true
  | f + 1, .mk _ _ s l => decide (4 < l.length) || decide (60 < s.size) || l.any (bigG f)
def BgRel (f : Nat) (l : List GE) (m : Nat) (w : World) (v5 : Value) (wr : World) : Prop := ∃ i : Nat, i ≤ m ∧ v5 = .int .i64 i ∧ (∀ (j : Nat) (y : GE), j < i → l[j]? = some y → bigG f y = false) ∧ Touch NoB w wr
theorem big_any : ∀ (f : Nat), f ≤ 46 → ∀ (x : GE) (w : World) (d : Nat) {a b : Int} {s : ByteArray} {A : Option Addr} {m c : Nat}, GAt w d x a b s A m → m ≤ c →
    Calls Try.prog 5 #[.agg #[.int .i64 a, .int .i64 b, .string s, .slice A m c], .int .i64 ((46 - f : Nat) : Int)] w fun e w' => e = .returned (.bool (bigG f x)) ∧ Touch NoB w w'
  | 0, _, x, w, d, a, b, s, A, m, c, _, _ => by
    go_enter Try.func5, Try.ntmps5
    go_wp2
    go_ret
    exact ⟨rfl, (Touch.refl _ _).alloc _⟩
  | f + 1, hf, x, w, 0, a, b, s, A, m, c, hx, _ => hx.elim
  | f + 1, hf, .mk k n t l, w, d + 1, a, b, s, A, m, c, hx, hc => by
    have ih := Lib.hid (fun (y : GE) (w : World) (a b : Int) (s : ByteArray) (A : Option Addr) (m c : Nat) (hy : GAt w d y a b s A m) (hm : m ≤ c) => big_any f (by omega) y w d hy hm)
    have HX := Lib.hid hx
    obtain ⟨rfl, rfl, rfl, hl, -, -, hs, hm, -⟩ := hx
    obtain ⟨D, hD⟩ : ∃ D : Nat, 46 - (f + 1) = D := ⟨_, rfl⟩
    have hD1 : 46 - f = D + 1 := by omega
    have hD2 : D ≤ 45 := by omega
    rw [hD1] at ih
    rw [hD]
    have h45 : decide ((45 : Int) < (D : Int)) = false := by simp; omega
    have hsum : IntKind.i64.wrap ((D : Int) + 1) = ((D + 1 : Nat) : Int) := by rw [IntWalk.i64_in _ (by omega)]; simp
    unfold bigG
    rw [hl]
    by_cases h4 : 4 < m
    · have g4 : decide ((4 : Int) < (m : Int)) = true := by simp; omega
      rw [decide_eq_true h4]
      clear ih HX hl hf hD hD1 hD2
      go_enter Try.func5, Try.ntmps5
      go_wp2
      go_ret
      exact ⟨rfl, (Touch.refl _ _).alloc _⟩
    · have g4 : decide ((4 : Int) < (m : Int)) = false := by simp; omega
      rw [decide_eq_false h4]
      by_cases h6 : 60 < s.size
      · have g6 : decide ((60 : Int) < (s.size : Int)) = true := by simp; omega
        rw [decide_eq_true h6]
        clear ih HX hl hf hD hD1 hD2
        go_enter Try.func5, Try.ntmps5
        go_wp2
        go_ret
        exact ⟨rfl, (Touch.refl _ _).alloc _⟩
      · have g6 : decide ((60 : Int) < (s.size : Int)) = false := by simp; omega
        rw [decide_eq_false h6]
        have HL := Lib.hid (And.intro hl (And.intro hc hm))
        clear hf hD hD1 hD2 hl hm hs
        go_enter Try.func5, Try.ntmps5
        go_wp2
        go_loopw [5] (fun v5 wr => BgRel f l m (gbw w a b s A m c) v5 wr) (fun v5 _ => m - (intOf v5).toNat)
        case atStart => exact ⟨0, Nat.zero_le _, rfl, fun j y hj => by omega, Touch.refl _ _⟩
        case round =>
          obtain ⟨i, hi, rfl, hno, hTr0⟩ := hrel
          obtain ⟨p0, p1, p2, p3, p4⟩ := ((gbw_blk w a b s A m c).touch hTr0).cells
          have hTr := (gbw_touch w a b s A m c).same hTr0
          have HT0 := Lib.hid hTr0
          clear hTr0
          by_cases hlt : i < m
          · obtain ⟨y, hy⟩ : ∃ y, l[i]? = some y := ⟨l[i]'(by rw [HL.out.1]; exact hlt), List.getElem?_eq_getElem _⟩
            obtain ⟨g, o, a1, b1, s1, A1, m1, c1, rfl, -, k0, k1, k2, k3, hm1, ket⟩ := HX.out.kid hTr hy
            have HR := Lib.hid (ih.out y wr a1 b1 s1 A1 m1 c1 ket hm1)
            have HN := Lib.hid (And.intro hno hy)
            have HT := Lib.hid hTr
            clear hTr ket hno hy
            cases hb : bigG f y
            · rw [hb] at HR
              have HB := Lib.hid hb
              clear hb
              go_wp2_with fail
              refine HR.out.mono ?_
              rintro r w2 ⟨rfl, hT2⟩
              have HT2 := Lib.hid (HT0.out.same hT2)
              clear hT2
              go_wp2
              go_roundw
              case rel =>
                refine ⟨i + 1, by omega, by go_num, fun j y' hj h1 => ?_, HT2.out⟩
                by_cases ej : j = i
                · subst ej
                  have e1 := HN.out.2.symm.trans h1
                  injection e1 with e1
                  subst e1
                  exact HB.out
                · exact HN.out.1 j y' (by omega) h1
              case measure => simp [intOf]; omega
            · rw [hb] at HR
              have HS : Hid (l.any (bigG f) = true) := Lib.hid (List.any_eq_true.2 ⟨y, List.mem_of_getElem? HN.out.2, hb⟩)
              clear hb
              go_wp2_with fail
              refine HR.out.mono ?_
              rintro r w2 ⟨rfl, hT2⟩
              have HT2 := Lib.hid (HT.out.same hT2)
              clear hT2
              go_wp2
              go_ret
              exact ⟨ret_bool (by simp [HS.out]), HT2.out⟩
          · obtain rfl : i = m := by omega
            have HS : Hid (l.any (bigG f) = false) := Lib.hid (by
              rw [List.any_eq_false]
              intro y hy
              obtain ⟨j, hj⟩ := List.mem_iff_getElem?.1 hy
              rw [hno j y (by have := (List.getElem?_eq_some_iff.1 hj).1; rw [HL.out.1] at this; exact this) hj]
              simp)
            have HT := Lib.hid hTr
            clear hTr hno
            go_wp2
            go_ret
            exact ⟨ret_bool (by simp [HS.out]), HT.out⟩
end Go.Proofs.Ytblcmgahgpnjmaa
