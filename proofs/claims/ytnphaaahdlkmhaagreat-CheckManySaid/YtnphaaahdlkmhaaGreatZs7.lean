/-
  What package expr's primary does with a parser in memory, branch by branch. Conditions: names among the tokens are names; what it calls does as the model says.
-/
import Derived.Test.YtnphaaahdlkmhaaGreatZs6
import Derived.Deep.RegionLaw
import Derived.Deep.AppendLies
section
namespace Go.Proofs.YtnphaaahdlkmhaaGreat
open Go.ChangeShapes Go.WideShapes Go.ChangeAt Go.RowKit
set_option maxRecDepth 100000
set_option maxHeartbeats 4000000

/-- What is called a name among the tokens is one. -/
def NamesOk (ts : List Tk) : Prop := ∀ (k : Nat) (s : Bs), nameAt ts k = some s → okN s = true
theorem num_of {ts : List Tk} {k : Nat} (h : (nxt ts k 0).kd = 3) : numAt ts k = some (nxt ts k 0).n := by
  unfold numAt
  cases ht : ts[k]? with
  | none => simp [nxt, ht] at h
  | some t => rw [nxt_at ht] at h ⊢; simp [h]
theorem num_nof {ts : List Tk} {k : Nat} (h : (nxt ts k 0).kd ≠ 3) : numAt ts k = none := by
  unfold numAt
  cases ht : ts[k]? with
  | none => rfl
  | some t => rw [nxt_at ht] at h; simp [h]
theorem nam_of {ts : List Tk} {k : Nat} (h : (nxt ts k 0).kd = 1) : nameAt ts k = some (nxt ts k 0).tx := by
  unfold nameAt
  cases ht : ts[k]? with
  | none => simp [nxt, ht] at h
  | some t => rw [nxt_at ht] at h ⊢; simp [h]
theorem nam_nof {ts : List Tk} {k : Nat} (h : (nxt ts k 0).kd ≠ 1) : nameAt ts k = none := by
  unfold nameAt
  cases ht : ts[k]? with
  | none => rfl
  | some t => rw [nxt_at ht] at h; simp [h]
theorem kd_zero {ts : List Tk} {k e c : Nat} (h : (nxt ts k e).kd = c) (hc : c ≠ 0) : e = 0 := by
  by_cases he : e = 0
  · exact he
  · rw [nxt_bad he] at h; exact absurd h.symm hc
theorem eqq_nat (a b : Nat) : ((a : Int) == (b : Int)) = (a == b) := by
  by_cases h : a = b
  · subst h; simp
  · have : ¬ (a : Int) = b := by omega
    have h1 : ((a : Int) == (b : Int)) = false := by simpa using this
    have h2 : (a == b) = false := by simpa using h
    rw [h1, h2]
end Go.Proofs.YtnphaaahdlkmhaaGreat
end
/-
  What package expr's unary does with a parser in memory. Conditions: names and numbers among the tokens are such; what it calls does as the model says.
-/
section
namespace Go.Proofs.YtnphaaahdlkmhaaGreat
open Go.ChangeShapes Go.WideShapes Go.ChangeAt Go.RowKit
set_option maxRecDepth 100000
set_option maxHeartbeats 4000000

def NumsOk (ts : List Tk) : Prop := (∀ (k m : Nat), numAt ts k = some m → m ≤ 9223372036854775807) ∧ ∀ t ∈ ts, t.tx.length ≤ 100000
theorem out_pre {ts : List Tk} {m k k2 e2 : Nat} {y : Ex} {kd : Int} (hp : firstK ts k 0 [14, 16, 17, 18] = some kd) (ho : Out (unaL ts m (k + 1)) (k + 1) 0 y k2 e2) :
    Out (unaL ts (m + 1) k) k 0 (.one kd y) k2 (if e2 = 0 ∧ 40 < (Ex.one kd y).depth then 4 else e2) := by
  unfold unaL
  rw [prek_first, hp]
  unfold Out at ho ⊢
  rw [if_pos rfl] at ho ⊢
  simp only
  cases hu : unaL ts m (k + 1) with
  | er e i =>
    rw [hu] at ho
    obtain ⟨rfl, rfl, h0⟩ := ho
    rw [if_neg (fun z => h0 z.1)]
    exact ⟨rfl, rfl, h0⟩
  | ok x i =>
    rw [hu] at ho
    obtain ⟨rfl, rfl, rfl⟩ := ho
    simp only [mk]
    by_cases h40 : 40 < (Ex.one kd y).depth
    · rw [if_pos h40, if_pos ⟨trivial, h40⟩]; refine ⟨?_, ?_, ?_⟩ <;> first | trivial | decide
    · rw [if_neg h40, if_neg (fun z => h40 z.2)]; refine ⟨?_, ?_, ?_⟩ <;> trivial
theorem out_neg {ts : List Tk} {m k : Nat} (hp : firstK ts k 0 [14, 16, 17, 18] = none) (hy : acc (nxt ts k 0) [45] = true) :
    (∀ q, numAt ts (k + 1) = some q → Out (unaL ts (m + 1) k) k 0 (.leaf 0 (-(q : Int)) []) (k + 1 + 1) 0) ∧ (numAt ts (k + 1) = none → Out (unaL ts (m + 1) k) k 0 (.leaf 0 0 []) (k + 1) 2) := by
  unfold unaL
  rw [prek_first, hp]
  rw [acc_ok] at hy
  simp only [hy, if_true]
  unfold Out
  constructor
  · intro q hq
    rw [if_pos rfl, hq]
    exact ⟨rfl, rfl, rfl⟩
  · intro hq
    rw [if_pos rfl, hq]
    exact ⟨rfl, rfl, by decide⟩
theorem out_pri {ts : List Tk} {m k e k2 e2 : Nat} {y : Ex} (hp : firstK ts k e [14, 16, 17, 18] = none) (hy : acc (nxt ts k e) [45] = false) (ho : Out (primL ts (binL ts (unaL ts m) 5) k) k e y k2 e2) : Out (unaL ts (m + 1) k) k e y k2 e2 := by
  by_cases he : e = 0
  · subst he
    unfold unaL
    rw [prek_first, hp]
    rw [acc_ok] at hy
    simp only [hy, Bool.false_eq_true, if_false]
    exact ho
  · unfold Out at ho ⊢
    rw [if_neg he] at ho ⊢
    exact ho

def unOps : List Int := [14, 16, 17, 18]
def UnRel (ts : List Tk) (k e : Nat) (W : World) (v14 : Value) (wr : World) : Prop := ∃ i : Nat, i ≤ 4 ∧ v14 = .int .i64 i ∧ (∀ (j : Nat) (q : Int), j < i → unOps[j]? = some q → acc (nxt ts k e) (wordB q) = false) ∧ Touch NoB W wr
end Go.Proofs.YtnphaaahdlkmhaaGreat
end
/-
  What package expr's binary does with a parser in memory. Conditions: the table of levels can be read; what it calls does as the model says.
-/
section
namespace Go.Proofs.YtnphaaahdlkmhaaGreat
open Go.ChangeShapes Go.WideShapes Go.ChangeAt Go.RowKit
set_option maxRecDepth 100000
set_option maxHeartbeats 4000000

/-! ### the model's loop, round by round -/
theorem bin_start {ts : List Tk} {u : Nat → Rs} {j k e k1 e1 : Nat} {x : Ex} (ho : Out (binL ts u j k) k e x k1 e1) :
    (e1 ≠ 0 → Out (binL ts u (j + 1) k) k e x k1 e1) ∧ (e1 = 0 → e = 0 ∧ loopL ts (4 - j) (binL ts u j) (ts.length - k1) x k1 = binL ts u (j + 1) k) := by
  by_cases he : e = 0
  · subst he
    unfold Out at ho
    rw [if_pos rfl] at ho
    cases hr : binL ts u j k with
    | er e i =>
      rw [hr] at ho
      obtain ⟨rfl, rfl, h0⟩ := ho
      refine ⟨fun _ => ?_, fun h => absurd h h0⟩
      unfold Out binL
      rw [if_pos rfl, hr]
      exact ⟨rfl, rfl, h0⟩
    | ok z i =>
      rw [hr] at ho
      obtain ⟨rfl, rfl, rfl⟩ := ho
      refine ⟨fun h => absurd rfl h, fun _ => ⟨rfl, ?_⟩⟩
      conv => rhs; unfold binL
      rw [hr]
  · unfold Out at ho
    rw [if_neg he] at ho
    obtain ⟨rfl, rfl⟩ := ho
    exact ⟨fun _ => Out.bad he, fun h => absurd h he⟩
theorem bin_none {ts : List Tk} {sub : Nat → Rs} {lv k kx f : Nat} {x : Ex} {R0 : Rs} (hl : loopL ts lv sub f x kx = R0) (ho : opk ts lv kx = none) : Out R0 k 0 x kx 0 := by
  have : R0 = .ok x kx := by
    rw [← hl]
    cases f with
    | zero => rfl
    | succ f => unfold loopL; rw [ho]
  subst this
  exact ⟨rfl, rfl, rfl⟩
theorem bin_op {ts : List Tk} {sub : Nat → Rs} {lv k kx f k2 e2 e3 : Nat} {x y : Ex} {kd : Int} {R0 : Rs} (hs : ∀ k, k ≤ ts.length → (sub k).fwd ts.length k) (hf : ts.length ≤ kx + f) (hl : loopL ts lv sub f x kx = R0) (hop : opk ts lv kx = some kd)
    (ho : Out (sub (kx + 1)) (kx + 1) 0 y k2 e2) (he3 : e3 = if e2 = 0 ∧ 40 < (Ex.two kd x y).depth then 4 else e2) :
    (lv = 2 → Out R0 k 0 (.two kd x y) k2 e3) ∧ (e3 ≠ 0 → Out R0 k 0 (.two kd x y) k2 e3) ∧ (lv ≠ 2 → e3 = 0 → (Ex.two kd x y).depth ≤ 40 ∧ ∃ f', ts.length ≤ k2 + f' ∧ loopL ts lv sub f' (.two kd x y) k2 = R0) ∧ kx < k2 := by
  have hlt := opk_lt hop
  cases f with
  | zero => omega
  | succ f =>
    unfold loopL at hl
    rw [hop] at hl
    simp only at hl
    have h2 := hs (kx + 1) (by omega)
    unfold Out at ho
    rw [if_pos rfl] at ho
    cases hr : sub (kx + 1) with
    | er e i =>
      rw [hr] at ho hl h2
      obtain ⟨rfl, rfl, h0⟩ := ho
      rw [if_neg (fun z => h0 z.1)] at he3
      subst he3 hl
      exact ⟨fun _ => ⟨rfl, rfl, h0⟩, fun _ => ⟨rfl, rfl, h0⟩, fun _ h => absurd h h0, by have := h2.1; omega⟩
    | ok z i =>
      rw [hr] at ho hl h2
      obtain ⟨rfl, rfl, rfl⟩ := ho
      simp only [mk] at hl
      by_cases h40 : 40 < (Ex.two kd x y).depth
      · rw [if_pos h40] at hl
        rw [if_pos ⟨rfl, h40⟩] at he3
        simp only at hl
        subst he3 hl
        exact ⟨fun _ => ⟨rfl, rfl, by decide⟩, fun _ => ⟨rfl, rfl, by decide⟩, fun _ h => absurd h (by decide), by have := h2.1; omega⟩
      · rw [if_neg h40] at hl
        rw [if_neg (fun z => h40 z.2)] at he3
        simp only at hl
        subst he3
        refine ⟨fun h => ?_, fun h => absurd rfl h, fun h _ => ⟨by omega, f, by have := h2.1; omega, by rw [if_neg h] at hl; exact hl⟩, by have := h2.1; omega⟩
        rw [if_pos h] at hl
        subst hl
        exact ⟨rfl, rfl, rfl⟩
def meas (gp n : Nat) (wr : World) : Nat := n - (intOf ((wr.cell? ⟨gp, 1, none⟩).getD undef)).toNat
end Go.Proofs.YtnphaaahdlkmhaaGreat
end
/-
  What package expr's primary does with a parser in memory: a symbol, parentheses, far. Conditions: names among the tokens are names; what it calls does as the model says.
-/
section
namespace Go.Proofs.YtnphaaahdlkmhaaGreat
open Go.ChangeShapes Go.WideShapes Go.ChangeAt Go.RowKit
set_option maxRecDepth 100000
set_option maxHeartbeats 4000000

theorem out_paren {ts : List Tk} {E : Nat → Rs} {k k2 e2 : Nat} {y : Ex} (h3 : (nxt ts k 0).kd ≠ 3) (h1 : (nxt ts k 0).kd ≠ 1) (c39 : acc (nxt ts k 0) [39] = false) (cT : acc (nxt ts k 0) [116, 114, 117, 101] = false) (cF : acc (nxt ts k 0) [102, 97, 108, 115, 101] = false) (cS : acc (nxt ts k 0) [115, 101, 108, 102] = false) (cM : acc (nxt ts k 0) [116, 105, 109, 101] = false) (hy : acc (nxt ts k 0) [40] = true)
    (ho : Out (E (k + 1)) (k + 1) 0 y k2 e2) :
    (acc (nxt ts k2 e2) [41] = true → Out (primL ts E k) k 0 y (k2 + 1) e2) ∧ (∀ z k3 e3, acc (nxt ts k2 e2) [41] = false → Out (pairL ts E 15 y k2) k2 e2 z k3 e3 → Out (primL ts E k) k 0 z k3 e3) := by
  have hp : primL ts E k = match E (k + 1) with
        | .er e i => .er e i
        | .ok x i => if sg ts i [41] = true then .ok x (i + 1) else pairL ts E 15 x i := by
    unfold primL
    rw [num_nof h3, nam_nof h1]
    rw [acc_ok] at c39 cT cF cS cM hy
    simp only [c39, cT, cF, cS, cM, hy, if_true, Bool.false_eq_true, if_false]
    cases E (k + 1) <;> rfl
  rw [hp]
  unfold Out at ho
  rw [if_pos rfl] at ho
  constructor
  · intro ha
    have he := acc_zero ha
    subst he
    rw [acc_ok] at ha
    cases hE : E (k + 1) with
    | er e i => rw [hE] at ho; exact absurd ho.2.1.symm ho.2.2
    | ok x i =>
      rw [hE] at ho
      obtain ⟨rfl, rfl, -⟩ := ho
      simp only [ha, if_true]
      unfold Out
      rw [if_pos rfl]
      exact ⟨rfl, rfl, rfl⟩
  · intro z k3 e3 ha hz
    cases hE : E (k + 1) with
    | er e i =>
      rw [hE] at ho
      obtain ⟨rfl, rfl, h0⟩ := ho
      unfold Out at hz ⊢
      rw [if_neg h0] at hz
      rw [if_pos rfl]
      exact ⟨hz.1, hz.2, h0⟩
    | ok x i =>
      rw [hE] at ho
      obtain ⟨rfl, rfl, rfl⟩ := ho
      rw [acc_ok] at ha
      simp only [ha, Bool.false_eq_true, if_false]
      unfold Out at hz ⊢
      exact hz
theorem out_far {ts : List Tk} {E : Nat → Rs} {k k1 e1 k2 e2 : Nat} {y : Ex} (h3 : (nxt ts k 0).kd ≠ 3) (h1 : (nxt ts k 0).kd ≠ 1) (c39 : acc (nxt ts k 0) [39] = false) (cT : acc (nxt ts k 0) [116, 114, 117, 101] = false) (cF : acc (nxt ts k 0) [102, 97, 108, 115, 101] = false) (cS : acc (nxt ts k 0) [115, 101, 108, 102] = false) (cM : acc (nxt ts k 0) [116, 105, 109, 101] = false) (cP : acc (nxt ts k 0) [40] = false) (hy : acc (nxt ts k 0) [102, 97, 114] = true)
    (hk1 : k1 = if acc (nxt ts (k + 1) 0) [40] = true then k + 1 + 1 else k + 1) (he1 : e1 = if acc (nxt ts (k + 1) 0) [40] = true then 0 else 2)
    (ho : Out (E k1) k1 e1 y k2 e2) : ∀ z k3 e3, Out (pairL ts E 19 y k2) k2 e2 z k3 e3 → Out (primL ts E k) k 0 z k3 e3 := by
  have hp : primL ts E k = if sg ts (k + 1) [40] = true then match E (k + 2) with
          | .er e i => .er e i
          | .ok x i => pairL ts E 19 x i
        else .er 2 (k + 1) := by
    unfold primL
    rw [num_nof h3, nam_nof h1]
    rw [acc_ok] at c39 cT cF cS cM cP hy
    simp only [c39, cT, cF, cS, cM, cP, hy, if_true, Bool.false_eq_true, if_false]
    cases E (k + 2) <;> rfl
  rw [hp]
  intro z k3 e3 hz
  rw [acc_ok] at hk1 he1
  cases hc : sg ts (k + 1) [40]
  · rw [hc] at hk1 he1
    simp at hk1 he1
    subst hk1 he1
    unfold Out at ho
    rw [if_neg (by decide)] at ho
    obtain ⟨rfl, rfl⟩ := ho
    unfold Out at hz ⊢
    rw [if_neg (by decide)] at hz
    simp only [Bool.false_eq_true, if_false, if_true]
    exact ⟨hz.1, hz.2, by decide⟩
  · rw [hc] at hk1 he1
    simp only [if_true] at hk1 he1 ⊢
    subst hk1 he1
    unfold Out at ho
    rw [if_pos rfl] at ho
    cases hE : E (k + 2) with
    | er e i =>
      rw [show k + 1 + 1 = k + 2 from rfl, hE] at ho
      obtain ⟨rfl, rfl, h0⟩ := ho
      unfold Out at hz ⊢
      rw [if_neg h0] at hz
      rw [if_pos rfl]
      exact ⟨hz.1, hz.2, h0⟩
    | ok x i =>
      rw [show k + 1 + 1 = k + 2 from rfl, hE] at ho
      obtain ⟨rfl, rfl, rfl⟩ := ho
      exact hz
end Go.Proofs.YtnphaaahdlkmhaaGreat
end
/-
  What package expr's Parse returns: what the parser over lists of tokens comes to. Conditions: names and numbers among the tokens are such; the table of levels can be read.
-/
section
namespace Go.Proofs.YtnphaaahdlkmhaaGreat
open Go.ChangeShapes Go.WideShapes Go.ChangeAt Go.RowKit
set_option maxRecDepth 100000
set_option maxHeartbeats 4000000

theorem una_end {ts : List Tk} (m : Nat) : unaL ts (m + 1) ts.length = .er 2 ts.length := by
  have hs : ∀ s, sg ts ts.length s = false := fun s => by unfold sg; simp
  have hn : numAt ts ts.length = none := by unfold numAt; simp
  have hm : nameAt ts ts.length = none := by unfold nameAt; simp
  simp [unaL, prek, primL, hs, hn, hm]
theorem bin_end {ts : List Tk} (m : Nat) : ∀ j, binL ts (unaL ts (m + 1)) j ts.length = .er 2 ts.length
  | 0 => una_end m
  | j + 1 => by unfold binL; rw [bin_end m j]
theorem par_bin {ts : List Tk} {k : Nat} (hk : k ≤ ts.length) : parL ts k = binL ts (unaL ts 40) 5 k := by
  unfold parL
  by_cases h : k < ts.length
  · rw [if_pos h]
  · obtain rfl : k = ts.length := by omega
    rw [if_neg h, bin_end]
end Go.Proofs.YtnphaaahdlkmhaaGreat
end
/-
  What package tree's choice, begins, within and signed do with a parser in memory. Conditions: those that each theorem names.
-/
section
namespace Go.Proofs.YtnphaaahdlkmhaaGreat
open Go.ChangeShapes Go.WideShapes Go.ChangeAt Go.RowKit
set_option maxRecDepth 100000
set_option maxHeartbeats 4000000

theorem choF_at {ts : List Tk} {σ : St} : ∀ (ws : List Bs) (i d : Nat) (s : Bs), ws[i]? = some s → isS ts s σ = true → (∀ (j : Nat) (q : Bs), j < i → ws[j]? = some q → isS ts q σ = false) → choF ts σ ws d = some (d + i)
  | [], i, d, s, h, _, _ => by cases h
  | a :: r, 0, d, s, h, ha, _ => by
    simp only [List.getElem?_cons_zero, Option.some.injEq] at h
    subst h
    simp [choF, ha]
  | a :: r, i + 1, d, s, h, ha, hno => by
    have h0 := hno 0 a (by omega) rfl
    have := choF_at r i (d + 1) s (by simpa using h) ha (fun j q hj hq => hno (j + 1) q (by omega) (by simpa using hq))
    simp only [choF, h0, Bool.false_eq_true, if_false]
    rw [this]
    congr 1
    omega
theorem choF_none {ts : List Tk} {σ : St} : ∀ (ws : List Bs) (d : Nat), (∀ (j : Nat) (q : Bs), ws[j]? = some q → isS ts q σ = false) → choF ts σ ws d = none
  | [], d, _ => rfl
  | a :: r, d, hno => by
    simp only [choF, hno 0 a rfl, Bool.false_eq_true, if_false]
    exact choF_none r (d + 1) (fun j q hq => hno (j + 1) q (by simpa using hq))
/-- A row of words. -/
def WdAt (w : World) (b m : Nat) (ws : List Bs) : Prop := (ws.length = m ∧ m ≤ 100) ∧ b < w.heap.size ∧ ∀ (i : Nat) (s : Bs), ws[i]? = some s → w.cell? ⟨b, i, none⟩ = some (.string (bs s))
end Go.Proofs.YtnphaaahdlkmhaaGreat
end
