/-
  Expressions in memory; their depth, as package expr's depth returns it. Conditions: those that each theorem names.
-/
import Derived.Test.YtkmbobfjoaldgaaGreatDoorQf
namespace Go.Proofs.YtkmbobfjoaldgaaGreatDoor
open Go.ChangeShapes Go.WideShapes Go.ChangeAt Go.RowKit
set_option maxRecDepth 100000
set_option maxHeartbeats 4000000

/-- The fields of an expression x, whose Kids lie in blocks of Q. -/
def ET (w : World) (Q : Nat → Prop) : Ex → Int → Int → ByteArray → Option Addr → Nat → Nat → Prop
  | .leaf k n s, a, b, t, A, m, c => a = k ∧ b = n ∧ t = bs s ∧ A = none ∧ m = 0 ∧ c = 0
  | .one k x, a, b, t, A, m, c => a = k ∧ b = 0 ∧ t = ⟨#[]⟩ ∧ m = 1 ∧ c = 1 ∧ ∃ g fr a1 b1 t1 A1 m1 c1, (A = some ⟨g, 0, none⟩ ∧ Q g) ∧
      w.heap[g]? = some (.cells #[.int .i64 a1, .int .i64 b1, .string t1, .slice A1 m1 c1] 44 fr) ∧ ET w Q x a1 b1 t1 A1 m1 c1
  | .two k x y, a, b, t, A, m, c => a = k ∧ b = 0 ∧ t = ⟨#[]⟩ ∧ m = 2 ∧ c = 2 ∧ ∃ g fr a1 b1 t1 A1 m1 c1 a2 b2 t2 A2 m2 c2, (A = some ⟨g, 0, none⟩ ∧ Q g) ∧
      w.heap[g]? = some (.cells #[.int .i64 a1, .int .i64 b1, .string t1, .slice A1 m1 c1, .int .i64 a2, .int .i64 b2, .string t2, .slice A2 m2 c2] 44 fr) ∧ ET w Q x a1 b1 t1 A1 m1 c1 ∧ ET w Q y a2 b2 t2 A2 m2 c2
/-- No expression of Q lies in F. -/
def NoX (w : World) (F Q : Nat → Prop) : Prop := ∀ (b : Nat) (cs : Array Value) (fr : Nat × Nat), F b → Q b → w.heap[b]? ≠ some (.cells cs 44 fr)
theorem NoX.nob (w : World) (Q : Nat → Prop) : NoX w NoB Q := fun _ _ _ h => h.elim
theorem ET.touch {w w' : World} {F Q : Nat → Prop} (t : Touch F w w') (hF : NoX w F Q) : ∀ {x : Ex} {a b : Int} {s : ByteArray} {A : Option Addr} {m c : Nat}, ET w Q x a b s A m c → ET w' Q x a b s A m c
  | .leaf k n q, a, b, s, A, m, c, h => h
  | .one k x, a, b, s, A, m, c, h => by
    obtain ⟨h1, h2, h3, h4, h5, g, fr, a1, b1, t1, A1, m1, c1, h6, h7, h8⟩ := h
    exact ⟨h1, h2, h3, h4, h5, g, fr, a1, b1, t1, A1, m1, c1, h6, (t.block g (blk_lt h7) (fun f => hF g _ _ f h6.2 h7)).trans h7, ET.touch t hF h8⟩
  | .two k x y, a, b, s, A, m, c, h => by
    obtain ⟨h1, h2, h3, h4, h5, g, fr, a1, b1, t1, A1, m1, c1, a2, b2, t2, A2, m2, c2, h6, h7, h8, h9⟩ := h
    exact ⟨h1, h2, h3, h4, h5, g, fr, a1, b1, t1, A1, m1, c1, a2, b2, t2, A2, m2, c2, h6, (t.block g (blk_lt h7) (fun f => hF g _ _ f h6.2 h7)).trans h7, ET.touch t hF h8, ET.touch t hF h9⟩
theorem ET.touch0 {w w' : World} {Q : Nat → Prop} (t : Touch NoB w w') {x : Ex} {a b : Int} {s : ByteArray} {A : Option Addr} {m c : Nat} (h : ET w Q x a b s A m c) : ET w' Q x a b s A m c := ET.touch t (NoX.nob w Q) h
/-- The same blocks, told otherwise. -/
theorem ET.via {w : World} {Q R : Nat → Prop} (hQ : ∀ b, Q b → b < w.heap.size → R b) : ∀ {x : Ex} {a b : Int} {s : ByteArray} {A : Option Addr} {m c : Nat}, ET w Q x a b s A m c → ET w R x a b s A m c
  | .leaf k n q, a, b, s, A, m, c, h => h
  | .one k x, a, b, s, A, m, c, h => by
    obtain ⟨h1, h2, h3, h4, h5, g, fr, a1, b1, t1, A1, m1, c1, h6, h7, h8⟩ := h
    exact ⟨h1, h2, h3, h4, h5, g, fr, a1, b1, t1, A1, m1, c1, ⟨h6.1, hQ g h6.2 (blk_lt h7)⟩, h7, ET.via hQ h8⟩
  | .two k x y, a, b, s, A, m, c, h => by
    obtain ⟨h1, h2, h3, h4, h5, g, fr, a1, b1, t1, A1, m1, c1, a2, b2, t2, A2, m2, c2, h6, h7, h8, h9⟩ := h
    exact ⟨h1, h2, h3, h4, h5, g, fr, a1, b1, t1, A1, m1, c1, a2, b2, t2, A2, m2, c2, ⟨h6.1, hQ g h6.2 (blk_lt h7)⟩, h7, ET.via hQ h8, ET.via hQ h9⟩
theorem PSt.nox {T : TypeId} {w : World} {gp g n cp : Nat} {ts : List Tk} {k e : Nat} (h : PSt T w gp g n cp ts k e) (Q : Nat → Prop) (hT : T ≠ 44 := by decide) : NoX w (AtB gp) Q := by
  intro b cs fr hb _ hx
  unfold AtB at hb
  subst hb
  rw [h.blk] at hx
  injection hx with hx
  injection hx with _ hx
  exact absurd hx hT
def kidsOf : Ex → List Ex
  | .leaf _ _ _ => []
  | .one _ x => [x]
  | .two _ x y => [x, y]
theorem ET.len {w : World} {Q : Nat → Prop} : ∀ {x : Ex} {a b : Int} {s : ByteArray} {A : Option Addr} {m c : Nat}, ET w Q x a b s A m c → (kidsOf x).length = m ∧ c = m ∧ m ≤ 2
  | .leaf k n q, a, b, s, A, m, c, h => by obtain ⟨_, _, _, _, rfl, rfl⟩ := h; exact ⟨rfl, rfl, by omega⟩
  | .one k x, a, b, s, A, m, c, h => by obtain ⟨_, _, _, rfl, rfl, _⟩ := h; exact ⟨rfl, rfl, by omega⟩
  | .two k x y, a, b, s, A, m, c, h => by obtain ⟨_, _, _, rfl, rfl, _⟩ := h; exact ⟨rfl, rfl, by omega⟩
/-- Where a Kid lies. -/
structure KidAt (w : World) (Q : Nat → Prop) (g i : Nat) (y : Ex) (a b : Int) (s : ByteArray) (A : Option Addr) (m c : Nat) : Prop where
  lt : g < w.heap.size
  c0 : w.cell? ⟨g, i * 4, none⟩ = some (.int .i64 a)
  c1 : w.cell? ⟨g, i * 4 + 1, none⟩ = some (.int .i64 b)
  c2 : w.cell? ⟨g, i * 4 + 2, none⟩ = some (.string s)
  c3 : w.cell? ⟨g, i * 4 + 3, none⟩ = some (.slice A m c)
  et : ET w Q y a b s A m c
theorem ET.kid {w : World} {Q : Nat → Prop} : ∀ {x : Ex} {a b : Int} {s : ByteArray} {A : Option Addr} {m c : Nat}, ET w Q x a b s A m c → ∀ (i : Nat) (y : Ex), (kidsOf x)[i]? = some y →
    ∃ g a1 b1 t1 A1 m1 c1, A = some ⟨g, 0, none⟩ ∧ KidAt w Q g i y a1 b1 t1 A1 m1 c1
  | .leaf k n q, a, b, s, A, m, c, h, i, y, hi => by cases hi
  | .one k x, a, b, s, A, m, c, h, i, y, hi => by
    obtain ⟨h1, h2, h3, h4, h5, g, fr, a1, b1, t1, A1, m1, c1, h6, h7, h8⟩ := h
    have hi0 : i = 0 := by have := (List.getElem?_eq_some_iff.1 hi).1; simp [kidsOf] at this; exact this
    subst hi0
    simp only [kidsOf, List.getElem?_cons_zero, Option.some.injEq] at hi
    subst hi
    exact ⟨g, a1, b1, t1, A1, m1, c1, h6.1, blk_lt h7, cell_blk h7 0, cell_blk h7 1, cell_blk h7 2, cell_blk h7 3, h8⟩
  | .two k x z, a, b, s, A, m, c, h, i, y, hi => by
    obtain ⟨h1, h2, h3, h4, h5, g, fr, a1, b1, t1, A1, m1, c1, a2, b2, t2, A2, m2, c2, h6, h7, h8, h9⟩ := h
    have hi0 : i = 0 ∨ i = 1 := by have := (List.getElem?_eq_some_iff.1 hi).1; simp [kidsOf] at this; omega
    rcases hi0 with rfl | rfl
    · simp only [kidsOf, List.getElem?_cons_zero, Option.some.injEq] at hi
      subst hi
      exact ⟨g, a1, b1, t1, A1, m1, c1, h6.1, blk_lt h7, cell_blk h7 0, cell_blk h7 1, cell_blk h7 2, cell_blk h7 3, h8⟩
    · simp only [kidsOf, List.getElem?_cons_succ, List.getElem?_cons_zero, Option.some.injEq] at hi
      subst hi
      exact ⟨g, a2, b2, t2, A2, m2, c2, h6.1, blk_lt h7, cell_blk h7 4, cell_blk h7 5, cell_blk h7 6, cell_blk h7 7, h9⟩
/-- The greatest depth of the first i Kids. -/
def dk (x : Ex) (i : Nat) : Nat := ((kidsOf x).take i).foldl (fun d y => max d y.depth) 0
theorem dk_zero (x : Ex) : dk x 0 = 0 := rfl
theorem dk_succ {x y : Ex} {i : Nat} (h : (kidsOf x)[i]? = some y) : dk x (i + 1) = max (dk x i) y.depth := by
  unfold dk
  rw [List.take_add_one, h, List.foldl_append]
  rfl
theorem dk_full (x : Ex) : dk x (kidsOf x).length + 1 = x.depth := by
  unfold dk
  rw [List.take_length]
  cases x <;> simp [kidsOf, Ex.depth]
theorem kid_lt {x y : Ex} {i : Nat} (h : (kidsOf x)[i]? = some y) : y.depth < x.depth := by
  cases x with
  | leaf => cases h
  | one k x =>
    have hi0 : i = 0 := by have := (List.getElem?_eq_some_iff.1 h).1; simp [kidsOf] at this; exact this
    subst hi0
    simp only [kidsOf, List.getElem?_cons_zero, Option.some.injEq] at h
    subst h
    simp [Ex.depth]
  | two k x z =>
    have hi0 : i = 0 ∨ i = 1 := by have := (List.getElem?_eq_some_iff.1 h).1; simp [kidsOf] at this; omega
    rcases hi0 with rfl | rfl <;> simp [kidsOf] at h <;> subst h <;> simp [Ex.depth] <;> omega
theorem dk_lt (x : Ex) (i : Nat) : dk x i < x.depth := by
  induction i with
  | zero => rw [dk_zero]; cases x <;> simp [Ex.depth]
  | succ i ih =>
    cases h : (kidsOf x)[i]? with
    | none =>
      have : dk x (i + 1) = dk x i := by unfold dk; rw [List.take_add_one, h]; simp
      omega
    | some y => rw [dk_succ h]; have := kid_lt h; omega

def DpRel (x : Ex) (m : Nat) (w : World) (v3 v9 : Value) (wr : World) : Prop := ∃ i : Nat, i ≤ m ∧ v9 = .int .i64 i ∧ v3 = .int .i64 (dk x i) ∧ Touch NoB w wr
theorem depth_any : ∀ (N : Nat) (x : Ex), x.depth ≤ N → x.depth ≤ 100000 → ∀ (w : World) (Q : Nat → Prop) {a b : Int} {s : ByteArray} {A : Option Addr} {m c : Nat}, ET w Q x a b s A m c →
    Calls Tryz.prog 180 #[.agg #[.int .i64 a, .int .i64 b, .string s, .slice A m c]] w fun e w' => e = .returned (.int .i64 (x.depth : Int)) ∧ Touch NoB w w'
  | 0, x, h, _, _, _, _, _, _, _, _, _, _ => by cases x <;> simp [Ex.depth] at h
  | N + 1, x, h, hmax, w, Q, a, b, s, A, m, c, hx => by
    have ih := Lib.hid (fun (y : Ex) (hy : y.depth ≤ N) (hy2 : y.depth ≤ 100000) (w : World) (a b : Int) (s : ByteArray) (A : Option Addr) (m c : Nat) (hx : ET w Q y a b s A m c) => depth_any N y hy hy2 w Q hx)
    obtain ⟨hl, hc, hm2⟩ := hx.len
    subst hc
    have HX := Lib.hid hx
    have HF := dk_full x
    rw [hl] at HF
    have HL := Lib.hid (And.intro hl (And.intro h hmax))
    obtain ⟨dp, hdp⟩ : ∃ dp, x.depth = dp := ⟨_, rfl⟩
    rw [hdp] at HF HL ⊢
    have HD := Lib.hid (And.intro hdp HF)
    clear hx hl h hmax HF hdp
    go_enter Tryz.func180, Tryz.ntmps180
    go_wp2
    go_loopw [3, 9] (fun v3 v9 wr => DpRel x c w v3 v9 wr) (fun _ v9 _ => c - (intOf v9).toNat)
    case atStart => exact ⟨0, Nat.zero_le _, rfl, by rw [dk_zero]; rfl, (Touch.refl _ _).alloc _⟩
    case round =>
      obtain ⟨i, hi, rfl, rfl, hTr⟩ := hrel
      by_cases hlt : i < c
      · obtain ⟨y, hy⟩ : ∃ y, (kidsOf x)[i]? = some y := ⟨(kidsOf x)[i]'(by rw [HL.out.1]; exact hlt), List.getElem?_eq_getElem _⟩
        obtain ⟨g, a1, b1, t1, A1, m1, c1, rfl, hk⟩ := (HX.out.touch0 hTr).kid i y hy
        obtain ⟨k0, k1, k2, k3, k4, ket⟩ := hk
        have hyl := kid_lt hy
        have hds := dk_succ hy
        have HR := Lib.hid (fun W (hW : Touch NoB wr W) => ih.out y (by have := HL.out.2.1; have := HD.out.1; omega) (by have := HL.out.2.2; have := HD.out.1; omega) W a1 b1 t1 A1 m1 c1 (ket.touch0 hW))
        have HT := Lib.hid hTr
        clear hTr ket hyl
        go_wp2_with fail
        refine (HR.out _ ((Touch.refl _ _).alloc _)).mono ?_
        rintro e w2 ⟨rfl, hT2⟩
        have HT2 := Lib.hid (HT.out.same (((Touch.refl _ _).alloc _).same hT2))
        clear hT2
        have HS := Lib.hid hds
        obtain ⟨d1, hd1⟩ : ∃ d1, dk x i = d1 := ⟨_, rfl⟩
        obtain ⟨d2, hd2⟩ : ∃ d2, y.depth = d2 := ⟨_, rfl⟩
        rw [hd1, hd2] at HS
        rw [hd1, hd2]
        clear hds hd1 hd2
        go_wp2
        go_roundw
        case rel => exact ⟨i + 1, by omega, by go_num, by rw [HS.out]; congr 1; simp only [Nat.max_def, Int.max_def]; split <;> split <;> omega, HT2.out⟩
        case measure => simp [intOf]; omega
      · obtain rfl : i = c := by omega
        have HT := Lib.hid hTr
        have hdd := HD.out.2
        have hmx := HL.out.2.2
        obtain ⟨d1, hd1⟩ : ∃ d1, dk x i = d1 := ⟨_, rfl⟩
        rw [hd1] at hdd ⊢
        clear hTr hd1
        go_wp2
        go_ret
        exact ⟨ret_int (by omega), HT.out⟩
end Go.Proofs.YtkmbobfjoaldgaaGreatDoor
