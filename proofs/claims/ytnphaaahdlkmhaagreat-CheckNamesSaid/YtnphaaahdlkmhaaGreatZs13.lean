/-
  What the document's own word and Name return; LexNames: which texts are names. Conditions: the library's own variable can be read.
-/
import Derived.Test.YtnphaaahdlkmhaaGreatZs5
import Derived.Test.YtnphaaahdlkmhaaGreatZs1
section
namespace Go.Proofs.YtnphaaahdlkmhaaGreat
open Go.ChangeShapes Go.WideShapes Go.ChangeAt Go.RowKit
set_option maxRecDepth 100000
set_option maxHeartbeats 4000000

def kwA : Array Value := (kw.map fun b => Value.string (bs b)).toArray
theorem kwA_at (j : Nat) (b : Bs) (h : kw[j]? = some b) : kwA[j]? = some (.string (bs b)) := by
  unfold kwA
  rw [List.getElem?_toArray, List.getElem?_map, h]
  rfl
theorem kw_len : kw.length = 42 := by decide
def WdRel (s : ByteArray) (W : World) (v4 : Value) (wr : World) : Prop := ∃ i : Nat, i ≤ 42 ∧ v4 = .int .i64 i ∧ (∀ (j : Nat) (b : Bs), j < i → kw[j]? = some b → (b == s.toList) = false) ∧ wr = W

theorem rword_any (s : ByteArray) (w : World) : Calls Tryz.prog 58 #[.string s] w fun e w' => e = .returned (.bool (wrd s)) ∧ Touch NoB w w' := by
  go_enter Tryz.func58, Tryz.ntmps58
  go_upto_region 2 with fail
  obtain ⟨W, hW⟩ : ∃ W, W = w.alloc (.cells kwA 9 (0, 0)) := ⟨_, rfl⟩
  show Code.wp _ _ _ _ (w.alloc (.cells kwA 9 (0, 0)))
  have hcell : ∀ (j : Nat) (b : Bs), kw[j]? = some b → W.cell? ⟨w.heap.size, j, none⟩ = some (.string (bs b)) := fun j b h => by
    rw [hW, cell_of_row _ _ _ _ _ _ (heap_alloc_new w (.cells kwA 9 (0, 0)))]
    exact kwA_at j b h
  have hT : Touch NoB w W := by rw [hW]; exact (Touch.refl _ _).alloc _
  rw [← hW]
  have HC := Lib.hid hcell
  have HT := Lib.hid hT
  clear hW hcell hT
  obtain ⟨N, hN⟩ : ∃ N, w.heap.size = N := ⟨_, rfl⟩
  rw [hN] at HC ⊢
  clear hN
  go_wp2
  go_loopw [4] (fun v4 wr => WdRel s W v4 wr) (fun v4 _ => 42 - (intOf v4).toNat)
  case atStart => exact ⟨0, by omega, rfl, fun j b hj => by omega, rfl⟩
  case round =>
    obtain ⟨i, hi, rfl, hno, rfl⟩ := hrel
    by_cases hlt : i < 42
    · obtain ⟨b, hb⟩ : ∃ b, kw[i]? = some b := ⟨kw[i]'(by rw [kw_len]; exact hlt), List.getElem?_eq_getElem _⟩
      have hc := HC.out i b hb
      have hbl : (bs b).toList = b := bs_toList b
      have HB := Lib.hid (And.intro hb (And.intro hno hbl))
      obtain ⟨sb, hsb⟩ : ∃ sb, bs b = sb := ⟨_, rfl⟩
      rw [hsb] at hc HB
      clear hb hno hbl hsb
      cases he : (sb.toList == s.toList)
      · have HEQ := Lib.hid he
        go_wp2
        go_roundw
        case rel =>
          refine ⟨i + 1, by omega, by go_num, fun j b' hj hb' => ?_, rfl⟩
          by_cases e : j = i
          · subst e
            have := HB.out.1.symm.trans hb'
            injection this with this
            subst this
            rw [← HB.out.2.2]; exact HEQ.out
          · exact HB.out.2.1 j b' (by omega) hb'
        case measure => simp [intOf]; omega
      · have HEQ := Lib.hid he
        go_wp2
        go_ret
        refine ⟨ret_bool ?_, HT.out⟩
        symm
        unfold wrd
        rw [List.contains_iff_mem]
        have h1 := HEQ.out
        rw [HB.out.2.2] at h1
        rw [← beq_iff_eq.1 h1]
        exact List.mem_of_getElem? HB.out.1
    · obtain rfl : i = 42 := by omega
      have HNO := Lib.hid hno
      clear hno
      go_wp2
      go_ret
      refine ⟨ret_bool ?_, HT.out⟩
      symm
      unfold wrd
      rw [Bool.eq_false_iff]
      intro h
      rw [List.contains_iff_mem] at h
      obtain ⟨j, hj⟩ := List.mem_iff_getElem?.1 h
      have hjl := (List.getElem?_eq_some_iff.1 hj).1
      rw [kw_len] at hjl
      have := HNO.out j _ hjl hj
      simp at this
end Go.Proofs.YtnphaaahdlkmhaaGreat
end
/-
  Expressions of any shape: which are too great for a statement; which are valid: what the document's own says. Conditions: those that each theorem names.
-/
section
namespace Go.Proofs.YtnphaaahdlkmhaaGreat
open Go.ChangeShapes Go.WideShapes Go.ChangeAt Go.RowKit
set_option maxRecDepth 100000
set_option maxHeartbeats 4000000

theorem GAt.kid {w w' : World} {d : Nat} {k n : Int} {q : ByteArray} {l : List GE} {a b : Int} {s : ByteArray} {A : Option Addr} {m : Nat} (h : GAt w (d + 1) (.mk k n q l) a b s A m) (t : Touch NoB w w') {i : Nat} {y : GE} (hy : l[i]? = some y) :
    ∃ g o a1 b1 s1 A1 m1 c1, A = some ⟨g, o, none⟩ ∧ g < w'.heap.size ∧ w'.cell? ⟨g, o + i * 4, none⟩ = some (.int .i64 a1) ∧ w'.cell? ⟨g, o + i * 4 + 1, none⟩ = some (.int .i64 b1) ∧
      w'.cell? ⟨g, o + i * 4 + 2, none⟩ = some (.string s1) ∧ w'.cell? ⟨g, o + i * 4 + 3, none⟩ = some (.slice A1 m1 c1) ∧ m1 ≤ c1 ∧ GAt w' d y a1 b1 s1 A1 m1 := (h.touch t).2.2.2.2.2.2.2.2 i y hy

theorem quiet_same {P : Program} {f : FuncId} {args : Array Value} {w : World} {n : Nat} {v : Value}
    (h : Calls P f args (w.drewN n) fun e w' => e = .returned v ∧ w.drewN n = w') : Calls P f args (w.drewN n) fun e w'' => e = .returned v ∧ ∃ m, w'' = w.drewN m :=
  h.mono fun _ _ ⟨he, hm⟩ => ⟨he, n, hm.symm⟩

/-- The block of an expression that a function has been given. -/
def GB (w : World) (q : Nat) (a b : Int) (s : ByteArray) (A : Option Addr) (m c : Nat) : Prop := w.heap[q]? = some (.cells #[.int .i64 a, .int .i64 b, .string s, .slice A m c] 44 (0, 0))
theorem GB.new (w : World) (a b : Int) (s : ByteArray) (A : Option Addr) (m c : Nat) : GB (w.alloc (.cells #[.int .i64 a, .int .i64 b, .string s, .slice A m c] 44)) w.heap.size a b s A m c := alloc_blk _ _ _ rfl
theorem GB.touch {w w' : World} {q : Nat} {a b : Int} {s : ByteArray} {A : Option Addr} {m c : Nat} (h : GB w q a b s A m c) (t : Touch NoB w w') : GB w' q a b s A m c := (t.block q (blk_lt h) (fun f => f)).trans h
theorem GB.cells {w : World} {q : Nat} {a b : Int} {s : ByteArray} {A : Option Addr} {m c : Nat} (h : GB w q a b s A m c) : w.cell? ⟨q, 0, none⟩ = some (.int .i64 a) ∧ w.cell? ⟨q, 1, none⟩ = some (.int .i64 b) ∧ w.cell? ⟨q, 2, none⟩ = some (.string s) ∧ w.cell? ⟨q, 3, none⟩ = some (.slice A m c) ∧ q < w.heap.size :=
  ⟨cell_blk h 0, cell_blk h 1, cell_blk h 2, cell_blk h 3, blk_lt h⟩
/-- The world in which such a block has been made. -/
def gbw (w : World) (a b : Int) (s : ByteArray) (A : Option Addr) (m c : Nat) : World := w.alloc (.cells #[.int .i64 a, .int .i64 b, .string s, .slice A m c] 44)
theorem gbw_touch (w : World) (a b : Int) (s : ByteArray) (A : Option Addr) (m c : Nat) : Touch NoB w (gbw w a b s A m c) := (Touch.refl _ _).alloc _
theorem gbw_blk (w : World) (a b : Int) (s : ByteArray) (A : Option Addr) (m c : Nat) : GB (gbw w a b s A m c) w.heap.size a b s A m c := GB.new w a b s A m c

end Go.Proofs.YtnphaaahdlkmhaaGreat
end
