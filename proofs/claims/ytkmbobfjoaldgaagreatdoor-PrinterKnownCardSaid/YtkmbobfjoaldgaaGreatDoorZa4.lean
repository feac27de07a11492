/-
  What package expr's Right returns of valid expressions, and of one that is not. Conditions: those that each theorem names.
-/
import Derived.Test.YtkmbobfjoaldgaaGreatDoorZar1
import Derived.Test.YtkmbobfjoaldgaaGreatDoorQj
import Derived.Test.YtkmbobfjoaldgaaGreatDoorLu
import Derived.Lib.AppendStr
import Derived.Test.YtkmbobfjoaldgaaGreatDoorSh
import Derived.Deep.AppendLies
import Derived.Lib.AppendZeros
import Derived.Deep.RegionLaw
namespace Go.Proofs.YtkmbobfjoaldgaaGreatDoor
open Go.ChangeShapes Go.WideShapes Go.ChangeAt Go.RowKit
set_option maxRecDepth 100000
set_option maxHeartbeats 4000000

/-- Valid, but for its depth. -/
def vE : Ex → Prop
  | .leaf k n s => (k = 0 ∧ -9223372036854775808 < n ∧ n ≤ 9223372036854775807 ∧ s = []) ∨ (k = 1 ∧ (n = 0 ∨ n = 1) ∧ s = []) ∨ ((k = 2 ∨ k = 3) ∧ n = 0 ∧ okN s = true) ∨ ((k = 4 ∨ k = 5) ∧ n = 0 ∧ s = [])
  | .one k x => (k = 14 ∨ k = 16 ∨ k = 17 ∨ k = 18) ∧ vE x
  | .two k x y => ((6 ≤ k ∧ k ≤ 13) ∨ k = 15 ∨ k = 19) ∧ vE x ∧ vE y
theorem vE_kid {x y : Ex} {i : Nat} (hv : vE x) (h : (kidsOf x)[i]? = some y) : vE y := by
  cases x with
  | leaf => cases h
  | one k x =>
    have hi0 : i = 0 := by have := (List.getElem?_eq_some_iff.1 h).1; simp [kidsOf] at this; exact this
    subst hi0
    simp only [kidsOf, List.getElem?_cons_zero, Option.some.injEq] at h
    subst h
    exact hv.2
  | two k x z =>
    have hi0 : i = 0 ∨ i = 1 := by have := (List.getElem?_eq_some_iff.1 h).1; simp [kidsOf] at this; omega
    rcases hi0 with rfl | rfl <;> simp [kidsOf] at h <;> subst h
    · exact hv.2.1
    · exact hv.2.2
theorem ra_ok {x : Ex} (hv : vE x) {w0 : World} {Q : Nat → Prop} {a b : Int} {s : ByteArray} {A : Option Addr} {m c : Nat} (h : ET w0 Q x a b s A m c) (w : World) :
    Calls Tryz.prog 175 #[.agg #[.int .i64 a, .int .i64 b, .string s, .slice A m c]] w fun e w' => e = .returned (.bool true) ∧ Touch NoB w w' := by
  cases x with
  | leaf k n q =>
    obtain ⟨rfl, rfl, rfl, rfl, rfl, rfl⟩ := h
    rcases hv with ⟨rfl, h1, -, rfl⟩ | ⟨rfl, h1, rfl⟩ | ⟨h1, rfl, h2⟩ | ⟨h1, rfl, rfl⟩
    · exact ra_int h1 w
    · exact ra_bool h1 w
    · exact ra_name h1 h2 w
    · exact ra_kind (by omega) (by unfold opnd; rw [if_pos h1]) w
  | one k x =>
    obtain ⟨rfl, rfl, rfl, rfl, rfl, -⟩ := h
    have hk := hv.1
    exact ra_kind (by omega) (by unfold opnd; rw [if_neg (by omega), if_pos hk]) w
  | two k x y =>
    obtain ⟨rfl, rfl, rfl, rfl, rfl, -⟩ := h
    have hk := hv.1
    exact ra_kind (by omega) (by unfold opnd; rw [if_neg (by omega), if_neg (by omega)]) w
def RiRel (m : Nat) (w : World) (v17 : Value) (wr : World) : Prop := ∃ i : Nat, i ≤ m ∧ v17 = .int .i64 i ∧ Touch NoB w wr
theorem right_any : ∀ (N : Nat) (x : Ex), x.depth ≤ N → N ≤ 1000 → vE x → ∀ (w : World) (Q : Nat → Prop) {a b : Int} {s : ByteArray} {A : Option Addr} {m c : Nat}, ET w Q x a b s A m c →
    Calls Tryz.prog 162 #[.agg #[.int .i64 a, .int .i64 b, .string s, .slice A m c], .int .i64 (N : Int)] w fun e w' => e = .returned (.bool true) ∧ Touch NoB w w'
  | 0, x, h, _, _, _, _, _, _, _, _, _, _, _ => by cases x <;> simp [Ex.depth] at h
  | N + 1, x, h, hmax, hv, w, Q, a, b, s, A, m, c, hx => by
    have ih := Lib.hid (fun (y : Ex) (hy : y.depth ≤ N) (hv : vE y) (w : World) (a b : Int) (s : ByteArray) (A : Option Addr) (m c : Nat) (hx : ET w Q y a b s A m c) => right_any N y hy (by omega) hv w Q hx)
    obtain ⟨hl, hc, hm2⟩ := hx.len
    subst hc
    have HRA := Lib.hid (fun w => ra_ok hv hx w)
    have HX := Lib.hid (And.intro hx (And.intro hv (And.intro hl h)))
    obtain ⟨n1, hn1⟩ : ∃ n1, N + 1 = n1 := ⟨_, rfl⟩
    have hsub : IntKind.i64.wrap ((n1 : Int) - 1) = (N : Int) := by rw [show (n1 : Int) - 1 = (N : Int) from by omega]; exact IntWalk.i64_in _ (by omega)
    have hlt1 : decide ((n1 : Int) < 1) = false := by simp; omega
    rw [hn1]
    clear hx hv hl h hn1 hmax
    go_enter Tryz.func162, Tryz.ntmps162
    go_wp2_with (first | (go_at_call 175; refine (HRA.out _).mono ?_; rintro r w1 ⟨rfl, hT1⟩; refine Hid.out ?_))
    refine Lib.hid ?_
    have hs1 := hT1.size
    have hb := (XB.new w a b s A c c rfl).go (gp := w.heap.size + 1) (Touch.anyB hT1) (by omega)
    obtain ⟨p0, p1, p2, p3, p4⟩ := hb.cells
    have HT1 := Lib.hid (((Touch.refl NoB w).alloc (.cells #[.int .i64 a, .int .i64 b, .string s, .slice A c c] 44)).same hT1)
    clear hT1 hb hs1
    go_wp2
    go_loopw [17] (fun v17 wr => RiRel c w v17 wr) (fun v17 _ => c - (intOf v17).toNat)
    case atStart => exact ⟨0, Nat.zero_le _, rfl, HT1.out⟩
    case round =>
      obtain ⟨i, hi, rfl, hTr⟩ := hrel
      by_cases hlt : i < c
      · obtain ⟨y, hy⟩ : ∃ y, (kidsOf x)[i]? = some y := ⟨(kidsOf x)[i]'(by rw [HX.out.2.2.1]; exact hlt), List.getElem?_eq_getElem _⟩
        obtain ⟨g, a1, b1, t1, A1, m1, c1, rfl, k0, k1, k2, k3, k4, ket⟩ := (HX.out.1.touch0 hTr).kid i y hy
        have hyl := kid_lt hy
        have hvy := vE_kid HX.out.2.1 hy
        have HR := Lib.hid (fun W (hW : Touch NoB wr W) => ih.out y (by have := HX.out.2.2.2; omega) hvy W a1 b1 t1 A1 m1 c1 (ket.touch0 hW))
        have HT := Lib.hid hTr
        clear hTr ket hyl hvy hy
        go_wp2_with fail
        refine (HR.out _ ((Touch.refl _ _).alloc _)).mono ?_
        rintro r w2 ⟨rfl, hT2⟩
        have HT2 := Lib.hid (HT.out.same (((Touch.refl _ _).alloc _).same hT2))
        clear hT2
        go_wp2
        go_roundw
        case rel => exact ⟨i + 1, by omega, by go_num, HT2.out⟩
        case measure => simp [intOf]; omega
      · obtain rfl : i = c := by omega
        have HT := Lib.hid hTr
        clear hTr
        go_wp2
        go_ret
        exact ⟨rfl, HT.out⟩
theorem Right_any {x : Ex} (hd : x.depth ≤ 40) (hv : vE x) (w : World) {Q : Nat → Prop} {a b : Int} {s : ByteArray} {A : Option Addr} {m c : Nat} (hx : ET w Q x a b s A m c) :
    Calls Tryz.prog 149 #[.agg #[.int .i64 a, .int .i64 b, .string s, .slice A m c]] w fun e w' => e = .returned (.bool true) ∧ Touch NoB w w' := by
  have HR := Lib.hid (fun W (t : Touch NoB w W) => right_any 40 x hd (by omega) hv W Q (hx.touch0 t))
  clear hx hd hv
  go_enter Tryz.func149, Tryz.ntmps149
  go_wp2_with fail
  refine (HR.out _ ((Touch.refl _ _).alloc _)).mono ?_
  rintro r w2 ⟨rfl, hT2⟩
  have HT2 := Lib.hid (((Touch.refl NoB w).alloc (.cells #[.int .i64 a, .int .i64 b, .string s, .slice A m c] 44)).same hT2)
  clear hT2
  go_wp2
  go_ret
  exact ⟨rfl, HT2.out⟩
theorem Right_neg (w : World) : Calls Tryz.prog 149 #[.agg #[.int .i64 (-1), .int .i64 0, .string ⟨#[]⟩, .slice none 0 0]] w fun e w' => e = .returned (.bool false) ∧ Touch NoB w w' := by
  have HA := Lib.hid (fun w => ra_neg w)
  have HR : Hid (∀ w, Calls Tryz.prog 162 #[.agg #[.int .i64 (-1), .int .i64 0, .string ⟨#[]⟩, .slice none 0 0], .int .i64 40] w fun e w' => e = .returned (.bool false) ∧ Touch NoB w w') := Lib.hid (by
    intro w
    go_enter Tryz.func162, Tryz.ntmps162
    go_wp2_with (first | (go_at_call 175; refine (HA.out _).mono ?_; rintro r w1 ⟨rfl, hT1⟩))
    go_ret
    exact ⟨rfl, ((Touch.refl _ _).alloc _).same hT1⟩)
  go_enter Tryz.func149, Tryz.ntmps149
  go_wp2_with fail
  refine (HR.out _).mono ?_
  rintro r w2 ⟨rfl, hT2⟩
  have HT2 := Lib.hid (((Touch.refl NoB w).alloc (.cells #[.int .i64 (-1), .int .i64 0, .string ⟨#[]⟩, .slice none 0 0] 44)).same hT2)
  clear hT2
  go_wp2
  go_ret
  exact ⟨rfl, HT2.out⟩
end Go.Proofs.YtkmbobfjoaldgaaGreatDoor

/-
  LexBlanks: what its loop builds, in memory: pieces of the bytes and blanks, appended. Conditions: those that each theorem names.
-/
namespace Go.Proofs.YtkmbobfjoaldgaaGreatDoor
open Go.ChangeShapes Go.WideShapes Go.ChangeAt Go.RowKit
set_option maxRecDepth 100000
set_option maxHeartbeats 4000000

/-- The five blanks. -/
def blT : List Bs := [[32], [9], [10], [32, 47, 47, 32, 120, 10], [13, 10, 32, 9]]
theorem bl_blank (k : Nat) (s : Bs) (h : blT[k]? = some s) : Blank s ∧ s.length ≤ 6 := by
  have hk := (List.getElem?_eq_some_iff.1 h).1
  simp [blT] at hk
  have hc : k = 0 ∨ k = 1 ∨ k = 2 ∨ k = 3 ∨ k = 4 := by omega
  rcases hc with rfl | rfl | rfl | rfl | rfl
  · obtain rfl := Option.some.inj h; exact ⟨blank_32, by decide⟩
  · obtain rfl := Option.some.inj h; exact ⟨blank_9, by decide⟩
  · obtain rfl := Option.some.inj h; exact ⟨blank_10, by decide⟩
  · obtain rfl := Option.some.inj h; exact ⟨blank_rem, by decide⟩
  · obtain rfl := Option.some.inj h; exact ⟨blank_13, by decide⟩
/-- Bytes as cells. -/
def bC (l : Bs) : List Value := l.map fun c => .int .u8 (c.toNat : Int)
theorem bC_app (a b : Bs) : bC (a ++ b) = bC a ++ bC b := by simp [bC]
theorem bC_len (a : Bs) : (bC a).length = a.length := by simp [bC]
theorem bC_str (l : Bs) : Lib.strCells (bs l) = bC l := by unfold Lib.strCells bC; rw [bs_list]
theorem bC_one (l : Bs) : ∀ u ∈ bC l, u.oneCell' = true := by
  intro u hu
  simp only [bC, List.mem_map] at hu
  obtain ⟨c, -, rfl⟩ := hu
  rfl
theorem info_u8 : (Tryz.prog.info? 5).map (fun i => (i.zero, i.size, i.bytes)) = some (some (.int .u8 0), 1, 1) := by kernel_rfl
theorem info_u8' : ∃ i0, Tryz.prog.info? 5 = some i0 ∧ i0.zero = some (.int .u8 0) ∧ i0.size = 1 ∧ i0.bytes = 1 := by
  have h := info_u8
  cases hi : Tryz.prog.info? 5 with
  | none => rw [hi] at h; cases h
  | some i0 =>
    rw [hi] at h
    simp only [Option.map_some, Option.some.injEq, Prod.mk.injEq] at h
    exact ⟨i0, rfl, h.1, h.2.1, h.2.2⟩
/-- Bytes in a row of the call's own. -/
def BR (w : World) (B : Nat) (v : Value) (l : Bs) : Prop := w.ownsRow B 5 1 v l.length (bC l)
theorem BR.nil (w : World) (B : Nat) : BR w B (.slice none 0 0) [] := World.ownsRow_nil _ _ _ _
/-- A piece of the bytes that came in, appended. -/
theorem app_win {W0 : World} {A : Option Addr} {b : Bs} {n cap l h : Nat} (hb : BAt W0 A b) (hn : b.length = n) (hcap : n ≤ cap) (hnone : A = none → cap = 0) (hl : l ≤ h) (hh : h ≤ n) :
    ∃ vb, (∀ W, (Instr.slice 33 (.slice A n cap) (some (.int .i64 (l : Int))) (some (.int .i64 (h : Int))) none).run Tryz.prog W = .ok vb W) ∧
      ∀ (W : World), Touch NoB W0 W → ∀ (B : Nat) (v : Value) (x : Bs), B ≤ W.heap.size → x.length + n ≤ 1000000 → BR W B v x →
        ∃ v' w', (Builtin.append_ #[33, 33] 33 #[v, vb]).run Tryz.prog W = .ok v' w' ∧ BR w' B v' (x ++ cut b l h) ∧ W.grownBy w' v.ownBlock := by
  obtain ⟨i0, hi0, hz0, hz1, hz2⟩ := info_u8'
  have ht' : Tryz.prog.underlying 33 = some (.slice (Tryz.prog.elem 33)) := by simp [Program.elem, Tryz.underlying33]
  have he : Tryz.prog.elem 33 = 5 := by simp [Program.elem, Tryz.underlying33]
  refine ⟨.slice (if cap = l then A else A.map (·.add (l * 1))) (h - l) (cap - l), fun W => ?_, fun W hW B v x hB hx hr => ?_⟩
  · rw [run_slice_lh W 33 _ _ _ ht' .i64 .i64 _ _ (by omega) (by omega) (by omega), he, Tryz.sizeOf5]
    simp only [Result.andThen, sliced, Int.toNat_natCast]
  · cases A with
    | none =>
      have hc0 := hnone rfl
      have hx0 : cut b l h = [] := by
        have : b = [] := List.eq_nil_of_length_eq_zero (by omega)
        subst this; simp [cut]
      have h1 : h - l = 0 := by omega
      have h2 : cap - l = 0 := by omega
      have h3 : (if cap = l then (none : Option Addr) else (none : Option Addr).map (fun a : Addr => a.add (l * 1))) = none := by split <;> rfl
      rw [hx0, List.append_nil, h1, h2, h3]
      exact ⟨v, W, run_append_owned_none (P := Tryz.prog) (w := W) B 33 33 5 i0 1 Tryz.underlying33 hi0 v x.length (bC x) hr, hr, ⟨rfl, rfl, rfl, Nat.le_refl _, fun _ _ _ => rfl⟩⟩
    | some ad =>
      obtain ⟨ad', had⟩ : ∃ ad', (if cap = l then some ad else (some ad).map (·.add (l * 1))) = some ad' := by split <;> exact ⟨_, rfl⟩
      have hlen : (cut b l h).length = h - l := by unfold cut; rw [List.length_take, List.length_drop]; omega
      have hnews : ∀ j u, (bC (cut b l h))[j]? = some u → W.cell? (ad'.add j) = some u := by
        intro j u hu
        have hjl : j < (bC (cut b l h)).length := (List.getElem?_eq_some_iff.1 hu).1
        rw [bC_len, hlen] at hjl
        have hcl : ¬ cap = l := by omega
        rw [if_neg hcl] at had
        obtain ⟨blk, off, e1, hblk, hc⟩ := hb (by intro e; subst e; simp at hn; omega)
        injection e1 with e1
        subst e1
        simp only [Option.map_some, Option.some.injEq] at had
        subst had
        simp only [bC, List.getElem?_map] at hu
        cases hq : (cut b l h)[j]? with
        | none => rw [hq] at hu; cases hu
        | some c =>
          rw [hq] at hu
          simp only [Option.map_some, Option.some.injEq] at hu
          subst hu
          unfold cut at hq
          rw [List.getElem?_take, if_pos hjl, List.getElem?_drop] at hq
          have h9 := hc (l + j) c hq
          have e9 : (((⟨blk, off, none⟩ : Addr).add (l * 1)).add j) = ⟨blk, off + (l + j), none⟩ := by simp [add_plain, Nat.add_assoc]
          rw [e9, ← h9]
          exact hW.cell (p := ⟨blk, off + (l + j), none⟩) hblk (fun x => x)
      rw [had]
      obtain ⟨v', w', hrun, h1, h2, -, -⟩ := run_append_own_at (P := Tryz.prog) W B 33 33 5 i0 _ 1 1 Tryz.underlying33 hi0 hz0 hz1 hz2 rfl (by decide) v x.length (bC x) hr ad' (h - l) (cap - l) (bC (cut b l h)) (by rw [bC_len, hlen]; omega) hnews (bC_one _) (by unfold maxLen; omega) (by omega) hB
      refine ⟨v', w', hrun, ?_, h2⟩
      unfold BR
      rw [bC_app, List.length_append, hlen]
      exact h1
/-- A string, appended. -/
theorem app_str {W : World} {B : Nat} {v : Value} {x s : Bs} (hB : B ≤ W.heap.size) (hx : x.length + s.length ≤ 1000000) (hr : BR W B v x) :
    ∃ v' w', (Builtin.append_ #[33, 9] 33 #[v, .string (bs s)]).run Tryz.prog W = .ok v' w' ∧ BR w' B v' (x ++ s) ∧ W.grownBy w' v.ownBlock := by
  obtain ⟨i0, hi0, hz0, hz1, hz2⟩ := info_u8'
  obtain ⟨v', w', hrun, h1, h2, -⟩ := Lib.run_append_own_string (P := Tryz.prog) (w := W) B 33 9 33 5 i0 Tryz.underlying33 Tryz.underlying9 hi0 hz0 hz1 hz2 v x.length (bC x) hr (bs s) (by rw [bs_size]; unfold maxLen; omega) (by rw [bs_size]; omega) hB
  refine ⟨v', w', hrun, ?_, h2⟩
  unfold BR
  rw [bC_app, List.length_append, ← bC_str s, ← bs_size s]
  exact h1
theorem BR.bat {w : World} {B : Nat} {v : Value} {x : Bs} (h : BR w B v x) : ∃ A cap, v = .slice A x.length cap ∧ x.length ≤ cap ∧ cap ≤ 9223372036854775807 ∧ BAt w A x := by
  obtain ⟨A, cap, rfl, h1, h2⟩ := row_any h
  refine ⟨A, cap, rfl, h1, by unfold maxLen at h2; omega, fun hne => ?_⟩
  have hpos : 0 < x.length := by
    cases x with
    | nil => exact absurd rfl hne
    | cons a r => simp
  obtain ⟨g, cp, e, -, -, hob⟩ := row_form h hpos
  injection e with e1 e2 e3
  subst e1
  subst e3
  refine ⟨g, 0, rfl, row_lt h hob, fun i c hi => ?_⟩
  have hil := (List.getElem?_eq_some_iff.1 hi).1
  have := World.ownsRow.cellAt h i (by omega)
  rw [Nat.zero_add, this]
  simp only [bC, List.getElem?_map, hi]
  rfl
/-- From where the next piece is taken. -/
def frI (ts : List Tk) (i : Nat) : Nat := (wasL ts i).toNat
theorem fr_le {b : Bs} {ts : List Tk} (h : lexL b = .good ts) {i : Nat} {t : Tk} (hi : ts[i]? = some t) : frI ts i ≤ t.pl ∧ frI ts (i + 1) = t.pl := by
  obtain ⟨q1, -, -, -, -, -, q7⟩ := place_at h hi
  unfold frI
  omega
theorem cat_step (s b : Bs) (ts : List Tk) (fr i : Nat) (t : Tk) (hi : ts[i]? = some t) : catL s b fr (ts.drop i) = (cut b fr t.pl ++ s) ++ catL s b t.pl (ts.drop (i + 1)) := by
  obtain ⟨h1, h2⟩ := List.getElem?_eq_some_iff.1 hi
  rw [List.drop_eq_getElem_cons h1, h2, catL, List.append_assoc]
  rfl
/-- The loop that builds the text. -/
def BlRel (s b : Bs) (ts : List Tk) (w3 : World) (v10 v11 v12 : Value) (wr : World) : Prop :=
  ∃ (i : Nat) (cc : Bs), i ≤ ts.length ∧ v12 = .int .i64 i ∧ v11 = .int .i64 (frI ts i) ∧ BR wr w3.heap.size v10 cc ∧ catL s b 0 ts = cc ++ catL s b (frI ts i) (ts.drop i) ∧ Touch NoB w3 wr
/-- The loop that compares. -/
def BkRel (m : Nat) (w5 : World) (v16 : Value) (wr : World) : Prop := ∃ i : Nat, i ≤ m ∧ v16 = .int .i64 i ∧ Touch NoB w5 wr
end Go.Proofs.YtkmbobfjoaldgaaGreatDoor

/-
  Bytes built up for the text of an expression: appends of strings, of single bytes, of numbers, of truths. Conditions: the library's table can be read; those that each theorem names.
-/
namespace Go.Proofs.YtkmbobfjoaldgaaGreatDoor
open Go.ChangeShapes Go.WideShapes Go.ChangeAt Go.RowKit
set_option maxRecDepth 100000
set_option maxHeartbeats 4000000

/-- An append whose outcome is known, as one step of a region. -/
theorem step_appended {P : Program} {ops : Array Oper} {o : Oper} {a : Act} {w w1 : World} {K : Act → World → Prop} {Q : Exit → Act → World → Prop} {E : Prop} {T U : TypeId} {d s : Operand} {x y r : Value} (hop : o.op = .call { callee := .builtin .append, args := #[d, s], argTypes := #[T, U] })
    (hrun : (Builtin.append_ #[T, U] o.type #[x, y]).run P w = .ok r w1) (hgd : o.guard = none) (hx : a.eval d = x) (hy : a.eval s = y) (hK : K (a.put o.dst r) w1) : if Region.wanted o (yielded ops a.tmps) = true then Oper.wp P o a w K Q else E := by
  have h1 : Region.wanted o (yielded ops a.tmps) = true := by simp [Region.wanted, hgd]
  rw [if_pos h1]
  unfold Oper.wp
  simp [execOp, hop, resolve, invoke, builtin, hx, hy, hrun, Result.andThen]
  exact hK
theorem grown_below {w w' : World} {row : Option Nat} {B : Nat} (h : w.grownBy w' row) (hr : ∀ b, row = some b → B ≤ b) (hB : B ≤ w.heap.size) : Below B w w' :=
  (show Touch (fun b => row = some b) w w' from (Touch.refl _ w).grown h (fun _ e => .inl e)).grow hr hB
theorem Touch.belowB {w w' : World} {B : Nat} (h : Touch NoB w w') (hB : B ≤ w.heap.size) : Below B w w' := h.grow (fun _ x => x.elim) hB
theorem below_trans {B : Nat} {a b c : World} (h : Below B a b) (k : Below B b c) : Below B a c := h.trans k
/-- An expression whose Kids lie below B. -/
theorem ET.below {w w' : World} {B : Nat} (h : Below B w w') {x : Ex} {a b : Int} {s : ByteArray} {A : Option Addr} {m c : Nat} (hx : ET w (fun b => b < B) x a b s A m c) : ET w' (fun b => b < B) x a b s A m c := by
  have t : Touch (fun b => B ≤ b) w w' := ⟨h.os, h.tape, h.output, h.size, fun k _ hf => h.block k (by omega)⟩
  exact hx.touch t (fun b _ _ h1 h2 => by omega)
/-- All blocks but the row's own are as they were. -/
def Kept (v : Value) (w w' : World) : Prop := w.heap.size ≤ w'.heap.size ∧ ∀ k, k < w.heap.size → v.ownBlock ≠ some k → w'.heap[k]? = w.heap[k]?
/-- What is built up: the row, and what it wants around it. -/
structure WS (w : World) (B : Nat) (v : Value) (l : Bs) : Prop where
  row : BR w B v l
  le : B ≤ w.heap.size
  tab : Lib.TabBelow Tryz.prog B w "internal/strconv.uint64pow10" .u64 Lib.pow10Tab
theorem WS.own {w : World} {B : Nat} {v : Value} {l : Bs} (h : WS w B v l) {k : Nat} (hk : v.ownBlock = some k) : B ≤ k ∧ k < w.heap.size := World.ownsRow.lt h.row k hk
/-- An expression in a block is no part of the row. -/
theorem WS.keptX {w w' : World} {B : Nat} {v : Value} {l : Bs} (h : WS w B v l) (hk : Kept v w w') {q : Nat} {a b : Int} {s : ByteArray} {A : Option Addr} {m c : Nat} (hx : XB w q a b s A m c) : XB w' q a b s A m c :=
  (hk.2 q (blk_lt hx) (row_ne h.row hx (by decide))).trans hx
theorem WS.on {w w' : World} {B : Nat} {v v' : Value} {l l' : Bs} (h : WS w B v l) (hb : Below B w w') (hr : BR w' B v' l') : WS w' B v' l' := ⟨hr, Nat.le_trans h.le hb.size, h.tab.on hb⟩
theorem WS.touch {w w' : World} {B : Nat} {v : Value} {l : Bs} (h : WS w B v l) (t : Touch NoB w w') : WS w' B v l := h.on (t.belowB h.le) (row_touch h.row t (fun _ _ x => x))
/-- A string appended. -/
theorem WS.str {w : World} {B : Nat} {v : Value} {l : Bs} (h : WS w B v l) (s : Bs) (hl : l.length + s.length ≤ 1000000) :
    ∃ v' w', (Builtin.append_ #[33, 9] 33 #[v, .string (bs s)]).run Tryz.prog w = .ok v' w' ∧ WS w' B v' (l ++ s) ∧ Below B w w' ∧ Kept v w w' := by
  obtain ⟨v', w', h1, h2, h3⟩ := app_str (s := s) h.le hl h.row
  have hb := grown_below h3 (fun b e => (World.ownsRow.lt h.row b e).1) h.le
  exact ⟨v', w', h1, h.on hb h2, hb, h3.size, fun k hk hn => h3.block k hk (fun e => hn e.symm)⟩
/-- One byte appended, out of a new block. -/
theorem WS.byte {w : World} {B : Nat} {v : Value} {l : Bs} (h : WS w B v l) (c : UInt8) (hl : l.length + 1 ≤ 1000000) {N : Nat} (hN : w.heap.size = N) {W : World} (hW : w.alloc (.cells #[.int .u8 (c.toNat : Int)] 5) = W) :
    ∃ v' w', (Builtin.append_ #[33, 33] 33 #[v, .slice (some ⟨N, 0, none⟩) 1 1]).run Tryz.prog W = .ok v' w' ∧ WS w' B v' (l ++ [c]) ∧ Below B w w' ∧ Kept v w w' := by
  subst hN hW
  obtain ⟨i0, hi0, hz0, hz1, hz2⟩ := info_u8'
  have t : Touch NoB w (w.alloc (.cells #[.int .u8 (c.toNat : Int)] 5)) := (Touch.refl _ _).alloc _
  have h' := h.touch t
  have hblk : (w.alloc (.cells #[.int .u8 (c.toNat : Int)] 5)).heap[w.heap.size]? = some (.cells #[.int .u8 (c.toNat : Int)] 5 (0, 0)) := alloc_blk _ _ _ rfl
  have hnews : ∀ j u, ([Value.int .u8 (c.toNat : Int)])[j]? = some u → (w.alloc (.cells #[.int .u8 (c.toNat : Int)] 5)).cell? ((⟨w.heap.size, 0, none⟩ : Addr).add j) = some u := by
    intro j u hu
    have hj : j = 0 := by have := (List.getElem?_eq_some_iff.1 hu).1; simp at this; exact this
    subst hj
    simp only [List.getElem?_cons_zero, Option.some.injEq] at hu
    subst hu
    exact cell_blk hblk 0
  obtain ⟨v', w', hrun, h1, h2, -, -⟩ := run_append_own_at (P := Tryz.prog) _ B 33 33 5 i0 _ 1 1 Tryz.underlying33 hi0 hz0 hz1 hz2 rfl (by decide) v l.length (bC l) h'.row ⟨w.heap.size, 0, none⟩ 1 1 [.int .u8 (c.toNat : Int)] (by simp) hnews (by intro u hu; simp at hu; subst hu; rfl) (by unfold maxLen; omega) (by omega) h'.le
  have hb := grown_below h2 (fun b e => (World.ownsRow.lt h'.row b e).1) h'.le
  refine ⟨v', w', hrun, h'.on hb ?_, (t.belowB h.le).trans hb, Nat.le_trans t.size h2.size, fun k hk hn => (h2.block k (Nat.lt_of_lt_of_le hk t.size) (fun e => hn e.symm)).trans (t.block k hk (fun x => x))⟩
  unfold BR
  rw [bC_app, List.length_append]
  exact h1
/-- A number appended. -/
theorem WS.int {w : World} {B : Nat} {v : Value} {l : Bs} (h : WS w B v l) (n : Int) (h0 : -9223372036854775808 ≤ n) (h1 : n ≤ 9223372036854775807) (hl : l.length ≤ 1000000) :
    Calls Tryz.prog 163 #[v, .int .i64 n, .int .i64 10] w fun e w' => ∃ v', e = .returned v' ∧ WS w' B v' (l ++ Lib.itoa n) ∧ Below B w w' := by
  refine (Tryz.strconv_AppendInt_10 B l.length n h0 h1 v (bC l) w h.row h.le (by omega) h.tab).mono ?_
  rintro e w' ⟨v', rfl, h2, h3, -⟩
  refine ⟨v', rfl, h.on h3 ?_, h3⟩
  unfold BR
  rw [bC_app, List.length_append]
  exact h2
def truB (q : Bool) : Bs := if q = true then [116, 114, 117, 101] else [102, 97, 108, 115, 101]
theorem WS.bool {w : World} {B : Nat} {v : Value} {l : Bs} (h : WS w B v l) (q : Bool) (hl : l.length + 5 ≤ 1000000) :
    Calls Tryz.prog 164 #[v, .bool q] w fun e w' => ∃ v', e = .returned v' ∧ WS w' B v' (l ++ truB q) ∧ Below B w w' := by
  have HI : Hid (Calls Tryz.prog 177 #[v, .bool q] w fun e w' => ∃ v', e = .returned v' ∧ WS w' B v' (l ++ truB q) ∧ Below B w w') := Lib.hid (by
    cases q
    · obtain ⟨v', w', h1, h2, h3, -⟩ := h.str [102, 97, 108, 115, 101] (by simpa using hl)
      have HA : Hid ((Builtin.append_ #[33, 9] 33 #[v, .string ⟨#[102, 97, 108, 115, 101]⟩]).run Tryz.prog w = .ok v' w') := Lib.hid h1
      have HE := Lib.hid (And.intro h2 h3)
      clear h h1 h2 h3
      go_enter Tryz.func177, Tryz.ntmps177
      go_wp2_with (at_builtin; refine Lib.wpList_append_run _ rfl _ _ _ _ rfl _ _ rfl rfl _ _ HA.out ?_)
      go_ret
      exact ⟨v', rfl, HE.out⟩
    · obtain ⟨v', w', h1, h2, h3, -⟩ := h.str [116, 114, 117, 101] (by simp at hl ⊢; omega)
      have HA : Hid ((Builtin.append_ #[33, 9] 33 #[v, .string ⟨#[116, 114, 117, 101]⟩]).run Tryz.prog w = .ok v' w') := Lib.hid h1
      have HE := Lib.hid (And.intro h2 h3)
      clear h h1 h2 h3
      go_enter Tryz.func177, Tryz.ntmps177
      go_wp2_with (at_builtin; refine Lib.wpList_append_run _ rfl _ _ _ _ rfl _ _ rfl rfl _ _ HA.out ?_)
      go_ret
      exact ⟨v', rfl, HE.out⟩)
  go_enter Tryz.func164, Tryz.ntmps164
  go_wp2_with fail
  refine HI.out.mono ?_
  rintro e w' ⟨v', rfl, hE⟩
  have HE := Lib.hid hE
  clear hE
  go_wp2
  go_ret
  exact ⟨v', rfl, HE.out⟩
end Go.Proofs.YtkmbobfjoaldgaaGreatDoor

/-
  The text of an expression, told by recursion; what package expr's writePair appends. Conditions: the library's table can be read; those that each theorem names.
-/
namespace Go.Proofs.YtkmbobfjoaldgaaGreatDoor
open Go.ChangeShapes Go.WideShapes Go.ChangeAt Go.RowKit
set_option maxRecDepth 100000
set_option maxHeartbeats 4000000

/-- What stands between two operands, what stands ahead of them. -/
def btw (k : Int) : Bs := if k = 15 ∨ k = 19 then [44, 32] else [32] ++ wordB k ++ [32]
def ahd (k : Int) : Bs := if k = 15 ∨ k = 19 then wordB k else []
/-- The text of an expression. -/
def prt : Ex → Bs
  | .leaf k n s => if k = 0 then Lib.itoa n else if k = 1 then truB (decide (n = 1)) else if k = 2 then s else if k = 3 then 39 :: s else wordB k
  | .one k x => wordB k ++ [32] ++ prt x
  | .two k x y => ahd k ++ ([40] ++ prt x ++ btw k ++ prt y ++ [41])
def WP (w : World) (B : Nat) (l : Bs) (e : Ending) (w' : World) : Prop := ∃ v', e = .returned v' ∧ WS w' B v' l ∧ Below B w w'
def WriteOk (N : Nat) : Prop := ∀ (x : Ex), x.depth ≤ N → vE x → ∀ (w : World) (B : Nat) (v : Value) (l : Bs) (a b : Int) (s : ByteArray) (A : Option Addr) (m c : Nat), WS w B v l → ET w (fun b => b < B) x a b s A m c → l.length + (prt x).length ≤ 900000 →
  Calls Tryz.prog 150 #[v, .agg #[.int .i64 a, .int .i64 b, .string s, .slice A m c]] w (WP w B (l ++ prt x))
theorem KidAt.below {w w' : World} {B g i : Nat} {y : Ex} {a b : Int} {s : ByteArray} {A : Option Addr} {m c : Nat} (h : KidAt w (fun b => b < B) g i y a b s A m c) (hg : g < B) (t : Below B w w') : KidAt w' (fun b => b < B) g i y a b s A m c := by
  have e := fun j => World.cell?_of_block (w := w) (w' := w') (a := ⟨g, j, none⟩) (t.block g hg)
  exact ⟨Nat.lt_of_lt_of_le h.lt t.size, (e _).trans h.c0, (e _).trans h.c1, (e _).trans h.c2, (e _).trans h.c3, h.et.below t⟩
theorem wpair_any {N : Nat} (H : WriteOk N) {x y : Ex} (hx : x.depth ≤ N) (hy : y.depth ≤ N) (hvx : vE x) (hvy : vE y) {w : World} {B g : Nat} {v : Value} {l q : Bs} {a1 b1 a2 b2 : Int} {s1 s2 : ByteArray} {A1 A2 : Option Addr} {m1 c1 m2 c2 : Nat}
    (hw : WS w B v l) (hgB : g < B) (h1 : KidAt w (fun b => b < B) g 0 x a1 b1 s1 A1 m1 c1) (h2 : KidAt w (fun b => b < B) g 1 y a2 b2 s2 A2 m2 c2) (hl : l.length + ([40] ++ prt x ++ q ++ prt y ++ [41]).length ≤ 900000) :
    Calls Tryz.prog 166 #[v, .slice (some ⟨g, 0, none⟩) 2 2, .string (bs q)] w (WP w B (l ++ ([40] ++ prt x ++ q ++ prt y ++ [41]))) := by
  simp only [List.length_append, List.length_cons, List.length_nil] at hl
  have hwd : WS w.drew B v l := hw.touch (Touch.refl _ _).drew
  obtain ⟨W1, hW1⟩ : ∃ W, w.drew.alloc (.cells #[.int .u8 40] 5) = W := ⟨_, rfl⟩
  obtain ⟨v1, w1, hr1, hs1, hb1, -⟩ := hwd.byte 40 (by omega) (N := w.heap.size) rfl (W := W1) hW1
  have hbd : Below B w w.drew := (show Touch NoB w w.drew from (Touch.refl _ _).drew).belowB hw.le
  have hbW : Below B w W1 := (show Touch NoB w W1 by rw [← hW1]; exact (Touch.refl _ _).drew.alloc _).belowB hw.le
  have hbw1 : Below B w w1 := hbd.trans hb1
  have k1 := h1.below hgB hbw1
  have HC1 := Lib.hid (H x hx hvx w1 B v1 (l ++ [40]) _ _ _ _ _ _ hs1 k1.et (by simp only [List.length_append, List.length_cons, List.length_nil]; omega))
  have HA1 : Hid ((Builtin.append_ #[33, 33] 33 #[v, .slice (some ⟨w.heap.size, 0, none⟩) 1 1]).run Tryz.prog W1 = .ok v1 w1) := Lib.hid hr1
  have c0 : w.drew.cell? ⟨g, 0, none⟩ = some (.int .i64 a1) := by have := (h1.below hgB hbd).c0; simpa using this
  have c1' : w.drew.cell? ⟨g, 1, none⟩ = some (.int .i64 b1) := by have := (h1.below hgB hbd).c1; simpa using this
  have c2' : w.drew.cell? ⟨g, 2, none⟩ = some (.string s1) := by have := (h1.below hgB hbd).c2; simpa using this
  have c3 : w.drew.cell? ⟨g, 3, none⟩ = some (.slice A1 m1 c1) := by have := (h1.below hgB hbd).c3; simpa using this
  have d0 : W1.cell? ⟨g, 0, none⟩ = some (.int .i64 a1) := by have := (h1.below hgB hbW).c0; simpa using this
  have d1 : W1.cell? ⟨g, 1, none⟩ = some (.int .i64 b1) := by have := (h1.below hgB hbW).c1; simpa using this
  have d2 : W1.cell? ⟨g, 2, none⟩ = some (.string s1) := by have := (h1.below hgB hbW).c2; simpa using this
  have d3 : W1.cell? ⟨g, 3, none⟩ = some (.slice A1 m1 c1) := by have := (h1.below hgB hbW).c3; simpa using this
  have e0 : w1.cell? ⟨g, 0, none⟩ = some (.int .i64 a1) := by have := k1.c0; simpa using this
  have e1 : w1.cell? ⟨g, 1, none⟩ = some (.int .i64 b1) := by have := k1.c1; simpa using this
  have e2 : w1.cell? ⟨g, 2, none⟩ = some (.string s1) := by have := k1.c2; simpa using this
  have e3 : w1.cell? ⟨g, 3, none⟩ = some (.slice A1 m1 c1) := by have := k1.c3; simpa using this
  have hgw : g < w.heap.size := h1.lt
  have hgw1 : g < W1.heap.size := (h1.below hgB hbW).lt
  have hgw2 : g < w1.heap.size := k1.lt
  have HK2 := Lib.hid (h2.below hgB hbw1)
  have HH := Lib.hid (And.intro H (And.intro hy (And.intro hvy (And.intro hgB (And.intro hl hbw1)))))
  clear h1 h2 hw hwd hs1 hbd hbW hbw1 k1 hr1 hb1 H hx hy hvx hvy hl
  go_enter Tryz.func166, Tryz.ntmps166
  go_wp2_with fail
  go_region_law (first
    | (refine step_appended (T := 33) (U := 33) (d := .tmp 7) (s := .tmp 8) rfl HA1.out rfl (by simp [Act.eval]) (by simp [Act.eval]) ?_)
    | (go_simp; go_at_call 150; refine HC1.out.mono ?_; rintro r w2 ⟨v2, rfl, hs2, hb2⟩
       have HS2 := Lib.hid (And.intro hs2 hb2)
       clear hs2 hb2))
  all_goals
    clear c0 c1' c2' c3 d0 d1 d2 d3 e0 e1 e2 e3 HC1 HA1
    obtain ⟨hs2, hb2⟩ := HS2.out
    have hb02 : Below B w w2 := HH.out.2.2.2.2.2.trans hb2
    have hsd : WS w2.drew B v2 (l ++ [40] ++ prt x) := hs2.touch (Touch.refl _ _).drew
    have hl := HH.out.2.2.2.2.1
    obtain ⟨v3, w3, hr3, hs3, hb3, -⟩ := hsd.str q (by simp only [List.length_append, List.length_cons, List.length_nil]; omega)
    have hbd : Below B w1 w2.drew := hb2.trans ((show Touch NoB w2 w2.drew from (Touch.refl _ _).drew).belowB hs2.le)
    have k2 := HK2.out.below HH.out.2.2.2.1 hbd
    have k3 := k2.below HH.out.2.2.2.1 hb3
    have hb03 : Below B w w3 := (HH.out.2.2.2.2.2.trans hbd).trans hb3
    have HC2 := Lib.hid (HH.out.1 y HH.out.2.1 HH.out.2.2.1 w3 B v3 (l ++ [40] ++ prt x ++ q) _ _ _ _ _ _ hs3 k3.et (by simp only [List.length_append, List.length_cons, List.length_nil]; omega))
    have HA3 := Lib.hid hr3
    have c0 : w2.drew.cell? ⟨g, 4, none⟩ = some (.int .i64 a2) := by have := k2.c0; simpa using this
    have c1' : w2.drew.cell? ⟨g, 5, none⟩ = some (.int .i64 b2) := by have := k2.c1; simpa using this
    have c2' : w2.drew.cell? ⟨g, 6, none⟩ = some (.string s2) := by have := k2.c2; simpa using this
    have c3 : w2.drew.cell? ⟨g, 7, none⟩ = some (.slice A2 m2 c2) := by have := k2.c3; simpa using this
    have e0 : w3.cell? ⟨g, 4, none⟩ = some (.int .i64 a2) := by have := k3.c0; simpa using this
    have e1 : w3.cell? ⟨g, 5, none⟩ = some (.int .i64 b2) := by have := k3.c1; simpa using this
    have e2 : w3.cell? ⟨g, 6, none⟩ = some (.string s2) := by have := k3.c2; simpa using this
    have e3 : w3.cell? ⟨g, 7, none⟩ = some (.slice A2 m2 c2) := by have := k3.c3; simpa using this
    have hgw4 : g < w2.heap.size := k2.lt
    have hgw5 : g < w3.heap.size := k3.lt
    have HB := Lib.hid (And.intro hb03 hl)
    clear hs2 hb2 hb02 hsd hr3 hs3 hb3 hbd k2 k3 hb03 hl hgw1 hgw2
    go_wp2_with fail
    go_region_law (first
      | (refine step_appended (T := 33) (U := 9) (d := .tmp 14) (s := .tmp 15) rfl HA3.out rfl (by first | (simp [Act.eval]; done) | (simp [Act.eval, Act.put]; done) | rfl) (by first | (simp [Act.eval]; done) | (simp [Act.eval, Act.put]; done) | rfl) ?_)
      | (go_simp; go_at_call 150; refine HC2.out.mono ?_; rintro r w4 ⟨v4, rfl, hs4, hb4⟩
         have HS4 := Lib.hid (And.intro hs4 hb4)
         clear hs4 hb4))
    all_goals
      clear c0 c1' c2' c3 e0 e1 e2 e3 HC2 HA3
      obtain ⟨hs4, hb4⟩ := HS4.out
      have hl := HB.out.2
      obtain ⟨W4, hW4⟩ : ∃ W, w4.alloc (.cells #[.int .u8 41] 5) = W := ⟨_, rfl⟩
      obtain ⟨v5, w5, hr5, hs5, hb5, -⟩ := hs4.byte 41 (by simp only [List.length_append, List.length_cons, List.length_nil]; omega) rfl hW4
      have HA5 : Hid ((Builtin.append_ #[33, 33] 33 #[v4, .slice (some ⟨w4.heap.size, 0, none⟩) 1 1]).run Tryz.prog W4 = .ok v5 w5) := Lib.hid hr5
      have HE := Lib.hid (And.intro hs5 ((HB.out.1.trans hb4).trans hb5))
      clear hs4 hb4 hl hr5 hs5 hb5
      go_wp2_with (at_builtin; refine Lib.wpList_append_run _ rfl _ _ _ _ rfl _ _ rfl rfl _ _ HA5.out ?_)
      go_ret
      exact ⟨v5, rfl, by have := HE.out.1; simp only [List.append_assoc, List.cons_append, List.nil_append] at this ⊢; exact this, HE.out.2⟩
end Go.Proofs.YtkmbobfjoaldgaaGreatDoor
