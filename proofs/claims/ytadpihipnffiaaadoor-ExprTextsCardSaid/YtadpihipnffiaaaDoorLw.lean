/-
  LexBlanks: what its loop builds, in memory: pieces of the bytes and blanks, appended. Conditions: those that each theorem names.
-/
import Derived.Test.YtadpihipnffiaaaDoorLu
import Derived.Lib.AppendStr
namespace Go.Proofs.YtadpihipnffiaaaDoor
open Go.ChangeShapes Go.WideShapes Go.ChangeAt Go.RowKit
set_option maxRecDepth 100000
set_option maxHeartbeats 4000000

/-- The five blanks. -/
def blT : List Bs := [[32], [9], [10], [32, 47, 47, 32, 120, 10], [13, 10, 32, 9]]
theorem bl_blank (k : Nat) (s : Bs) (h : blT[k]? = some s) : Blank s ∧ s.length ≤ 6 := by
  have hk := (List.getElem?_eq_some_iff.1 h).1
  simp [blT] at hk
  have hc : k = 0 ∨ k = 1 ∨ k = 2 ∨ k = 3 ∨ k = 4 := by omega
  rcases hc with rfl | rfl | rfl | rfl | rfl
  · obtain rfl := Option.some.inj h; exact ⟨blank_32, by decide⟩
  · obtain rfl := Option.some.inj h; exact ⟨blank_9, by decide⟩
  · obtain rfl := Option.some.inj h; exact ⟨blank_10, by decide⟩
  · obtain rfl := Option.some.inj h; exact ⟨blank_rem, by decide⟩
  · obtain rfl := Option.some.inj h; exact ⟨blank_13, by decide⟩
/-- Bytes as cells. -/
def bC (l : Bs) : List Value := l.map fun c => .int .u8 (c.toNat : Int)
theorem bC_app (a b : Bs) : bC (a ++ b) = bC a ++ bC b := by simp [bC]
theorem bC_len (a : Bs) : (bC a).length = a.length := by simp [bC]
theorem bC_str (l : Bs) : Lib.strCells (bs l) = bC l := by unfold Lib.strCells bC; rw [bs_list]
theorem bC_one (l : Bs) : ∀ u ∈ bC l, u.oneCell' = true := by
  intro u hu
  simp only [bC, List.mem_map] at hu
  obtain ⟨c, -, rfl⟩ := hu
  rfl
theorem info_u8 : (Tryd.prog.info? 5).map (fun i => (i.zero, i.size, i.bytes)) = some (some (.int .u8 0), 1, 1) := by kernel_rfl
theorem info_u8' : ∃ i0, Tryd.prog.info? 5 = some i0 ∧ i0.zero = some (.int .u8 0) ∧ i0.size = 1 ∧ i0.bytes = 1 := by
  have h := info_u8
  cases hi : Tryd.prog.info? 5 with
  | none => rw [hi] at h; cases h
  | some i0 =>
    rw [hi] at h
    simp only [Option.map_some, Option.some.injEq, Prod.mk.injEq] at h
    exact ⟨i0, rfl, h.1, h.2.1, h.2.2⟩
/-- Bytes in a row of the call's own. -/
def BR (w : World) (B : Nat) (v : Value) (l : Bs) : Prop := w.ownsRow B 5 1 v l.length (bC l)
theorem BR.nil (w : World) (B : Nat) : BR w B (.slice none 0 0) [] := World.ownsRow_nil _ _ _ _
/-- A piece of the bytes that came in, appended. -/
theorem app_win {W0 : World} {A : Option Addr} {b : Bs} {n cap l h : Nat} (hb : BAt W0 A b) (hn : b.length = n) (hcap : n ≤ cap) (hnone : A = none → cap = 0) (hl : l ≤ h) (hh : h ≤ n) :
    ∃ vb, (∀ W, (Instr.slice 26 (.slice A n cap) (some (.int .i64 (l : Int))) (some (.int .i64 (h : Int))) none).run Tryd.prog W = .ok vb W) ∧
      ∀ (W : World), Touch NoB W0 W → ∀ (B : Nat) (v : Value) (x : Bs), B ≤ W.heap.size → x.length + n ≤ 1000000 → BR W B v x →
        ∃ v' w', (Builtin.append_ #[26, 26] 26 #[v, vb]).run Tryd.prog W = .ok v' w' ∧ BR w' B v' (x ++ cut b l h) ∧ W.grownBy w' v.ownBlock := by
  obtain ⟨i0, hi0, hz0, hz1, hz2⟩ := info_u8'
  have ht' : Tryd.prog.underlying 26 = some (.slice (Tryd.prog.elem 26)) := by simp [Program.elem, Tryd.underlying26]
  have he : Tryd.prog.elem 26 = 5 := by simp [Program.elem, Tryd.underlying26]
  refine ⟨.slice (if cap = l then A else A.map (·.add (l * 1))) (h - l) (cap - l), fun W => ?_, fun W hW B v x hB hx hr => ?_⟩
  · rw [run_slice_lh W 26 _ _ _ ht' .i64 .i64 _ _ (by omega) (by omega) (by omega), he, Tryd.sizeOf5]
    simp only [Result.andThen, sliced, Int.toNat_natCast]
  · cases A with
    | none =>
      have hc0 := hnone rfl
      have hx0 : cut b l h = [] := by
        have : b = [] := List.eq_nil_of_length_eq_zero (by omega)
        subst this; simp [cut]
      have h1 : h - l = 0 := by omega
      have h2 : cap - l = 0 := by omega
      have h3 : (if cap = l then (none : Option Addr) else (none : Option Addr).map (fun a : Addr => a.add (l * 1))) = none := by split <;> rfl
      rw [hx0, List.append_nil, h1, h2, h3]
      exact ⟨v, W, run_append_owned_none (P := Tryd.prog) (w := W) B 26 26 5 i0 1 Tryd.underlying26 hi0 v x.length (bC x) hr, hr, ⟨rfl, rfl, rfl, Nat.le_refl _, fun _ _ _ => rfl⟩⟩
    | some ad =>
      obtain ⟨ad', had⟩ : ∃ ad', (if cap = l then some ad else (some ad).map (·.add (l * 1))) = some ad' := by split <;> exact ⟨_, rfl⟩
      have hlen : (cut b l h).length = h - l := by unfold cut; rw [List.length_take, List.length_drop]; omega
      have hnews : ∀ j u, (bC (cut b l h))[j]? = some u → W.cell? (ad'.add j) = some u := by
        intro j u hu
        have hjl : j < (bC (cut b l h)).length := (List.getElem?_eq_some_iff.1 hu).1
        rw [bC_len, hlen] at hjl
        have hcl : ¬ cap = l := by omega
        rw [if_neg hcl] at had
        obtain ⟨blk, off, e1, hblk, hc⟩ := hb (by intro e; subst e; simp at hn; omega)
        injection e1 with e1
        subst e1
        simp only [Option.map_some, Option.some.injEq] at had
        subst had
        simp only [bC, List.getElem?_map] at hu
        cases hq : (cut b l h)[j]? with
        | none => rw [hq] at hu; cases hu
        | some c =>
          rw [hq] at hu
          simp only [Option.map_some, Option.some.injEq] at hu
          subst hu
          unfold cut at hq
          rw [List.getElem?_take, if_pos hjl, List.getElem?_drop] at hq
          have h9 := hc (l + j) c hq
          have e9 : (((⟨blk, off, none⟩ : Addr).add (l * 1)).add j) = ⟨blk, off + (l + j), none⟩ := by simp [add_plain, Nat.add_assoc]
          rw [e9, ← h9]
          exact hW.cell (p := ⟨blk, off + (l + j), none⟩) hblk (fun x => x)
      rw [had]
      obtain ⟨v', w', hrun, h1, h2, -, -⟩ := run_append_own_at (P := Tryd.prog) W B 26 26 5 i0 _ 1 1 Tryd.underlying26 hi0 hz0 hz1 hz2 rfl (by decide) v x.length (bC x) hr ad' (h - l) (cap - l) (bC (cut b l h)) (by rw [bC_len, hlen]; omega) hnews (bC_one _) (by unfold maxLen; omega) (by omega) hB
      refine ⟨v', w', hrun, ?_, h2⟩
      unfold BR
      rw [bC_app, List.length_append, hlen]
      exact h1
/-- A string, appended. -/
theorem app_str {W : World} {B : Nat} {v : Value} {x s : Bs} (hB : B ≤ W.heap.size) (hx : x.length + s.length ≤ 1000000) (hr : BR W B v x) :
    ∃ v' w', (Builtin.append_ #[26, 9] 26 #[v, .string (bs s)]).run Tryd.prog W = .ok v' w' ∧ BR w' B v' (x ++ s) ∧ W.grownBy w' v.ownBlock := by
  obtain ⟨i0, hi0, hz0, hz1, hz2⟩ := info_u8'
  obtain ⟨v', w', hrun, h1, h2, -⟩ := Lib.run_append_own_string (P := Tryd.prog) (w := W) B 26 9 26 5 i0 Tryd.underlying26 Tryd.underlying9 hi0 hz0 hz1 hz2 v x.length (bC x) hr (bs s) (by rw [bs_size]; unfold maxLen; omega) (by rw [bs_size]; omega) hB
  refine ⟨v', w', hrun, ?_, h2⟩
  unfold BR
  rw [bC_app, List.length_append, ← bC_str s, ← bs_size s]
  exact h1
theorem BR.bat {w : World} {B : Nat} {v : Value} {x : Bs} (h : BR w B v x) : ∃ A cap, v = .slice A x.length cap ∧ x.length ≤ cap ∧ cap ≤ 9223372036854775807 ∧ BAt w A x := by
  obtain ⟨A, cap, rfl, h1, h2⟩ := row_any h
  refine ⟨A, cap, rfl, h1, by unfold maxLen at h2; omega, fun hne => ?_⟩
  have hpos : 0 < x.length := by
    cases x with
    | nil => exact absurd rfl hne
    | cons a r => simp
  obtain ⟨g, cp, e, -, -, hob⟩ := row_form h hpos
  injection e with e1 e2 e3
  subst e1
  subst e3
  refine ⟨g, 0, rfl, row_lt h hob, fun i c hi => ?_⟩
  have hil := (List.getElem?_eq_some_iff.1 hi).1
  have := World.ownsRow.cellAt h i (by omega)
  rw [Nat.zero_add, this]
  simp only [bC, List.getElem?_map, hi]
  rfl
/-- From where the next piece is taken. -/
def frI (ts : List Tk) (i : Nat) : Nat := (wasL ts i).toNat
theorem fr_le {b : Bs} {ts : List Tk} (h : lexL b = .good ts) {i : Nat} {t : Tk} (hi : ts[i]? = some t) : frI ts i ≤ t.pl ∧ frI ts (i + 1) = t.pl := by
  obtain ⟨q1, -, -, -, -, -, q7⟩ := place_at h hi
  unfold frI
  omega
theorem cat_step (s b : Bs) (ts : List Tk) (fr i : Nat) (t : Tk) (hi : ts[i]? = some t) : catL s b fr (ts.drop i) = (cut b fr t.pl ++ s) ++ catL s b t.pl (ts.drop (i + 1)) := by
  obtain ⟨h1, h2⟩ := List.getElem?_eq_some_iff.1 hi
  rw [List.drop_eq_getElem_cons h1, h2, catL, List.append_assoc]
  rfl
/-- The loop that builds the text. -/
def BlRel (s b : Bs) (ts : List Tk) (w3 : World) (v10 v11 v12 : Value) (wr : World) : Prop :=
  ∃ (i : Nat) (cc : Bs), i ≤ ts.length ∧ v12 = .int .i64 i ∧ v11 = .int .i64 (frI ts i) ∧ BR wr w3.heap.size v10 cc ∧ catL s b 0 ts = cc ++ catL s b (frI ts i) (ts.drop i) ∧ Touch NoB w3 wr
/-- The loop that compares. -/
def BkRel (m : Nat) (w5 : World) (v16 : Value) (wr : World) : Prop := ∃ i : Nat, i ≤ m ∧ v16 = .int .i64 i ∧ Touch NoB w5 wr
end Go.Proofs.YtadpihipnffiaaaDoor
