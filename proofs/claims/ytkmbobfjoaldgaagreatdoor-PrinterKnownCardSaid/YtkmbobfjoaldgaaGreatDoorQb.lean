/-
  A parser of expressions over lists of tokens, told by plain recursion: expressions of at most two Kids, their depth, what may stand where. No program is named here; no condition beyond those that each theorem names.
-/
import Derived.Test.YtkmbobfjoaldgaaGreatDoorLp
namespace Go.Proofs.YtkmbobfjoaldgaaGreatDoor

/-- Expressions that have at most two Kids. -/
inductive Ex where
  | leaf (k n : Int) (s : Bs)
  | one (k : Int) (x : Ex)
  | two (k : Int) (x y : Ex)
def Ex.depth : Ex → Nat
  | .leaf _ _ _ => 1
  | .one _ x => x.depth + 1
  | .two _ x y => max x.depth y.depth + 1
def Ex.same : Ex → Ex → Bool
  | .leaf k n s, .leaf k' n' s' => decide (k = k') && decide (n = n') && decide (s = s')
  | .one k x, .one k' x' => decide (k = k') && x.same x'
  | .two k x y, .two k' x' y' => decide (k = k') && x.same x' && y.same y'
  | _, _ => false
theorem Ex.same_eq : ∀ (x y : Ex), x.same y = true → x = y
  | .leaf k n s, .leaf k' n' s', h => by simp only [Ex.same, Bool.and_eq_true, decide_eq_true_eq] at h; obtain ⟨⟨rfl, rfl⟩, rfl⟩ := h; rfl
  | .one k x, .one k' x', h => by simp only [Ex.same, Bool.and_eq_true, decide_eq_true_eq] at h; obtain ⟨rfl, h⟩ := h; rw [Ex.same_eq x x' h]
  | .two k x y, .two k' x' y', h => by simp only [Ex.same, Bool.and_eq_true, decide_eq_true_eq] at h; obtain ⟨⟨rfl, h1⟩, h2⟩ := h; rw [Ex.same_eq x x' h1, Ex.same_eq y y' h2]
  | .leaf _ _ _, .one _ _, h => by simp [Ex.same] at h
  | .leaf _ _ _, .two _ _ _, h => by simp [Ex.same] at h
  | .one _ _, .leaf _ _ _, h => by simp [Ex.same] at h
  | .one _ _, .two _ _ _, h => by simp [Ex.same] at h
  | .two _ _ _, .leaf _ _ _, h => by simp [Ex.same] at h
  | .two _ _ _, .one _ _, h => by simp [Ex.same] at h
/-- What stands at a place: an expression and the place behind it, or an error and its place. -/
inductive Rs where
  | ok (x : Ex) (k : Nat)
  | er (e k : Nat)
/-- Does this word or sign stand at place k? -/
def sg (ts : List Tk) (k : Nat) (s : Bs) : Bool := match ts[k]? with
  | none => false
  | some t => (t.kd == 2 || t.kd == 4) && t.tx == s
/-- The operator of a level that stands at place k. -/
def opk (ts : List Tk) (lv k : Nat) : Option Int := match lv with
  | 0 => if sg ts k [111, 114] = true then some 13 else none
  | 1 => if sg ts k [97, 110, 100] = true then some 12 else none
  | 2 => if sg ts k [61, 61] = true then some 10 else if sg ts k [60] = true then some 11 else none
  | 3 => if sg ts k [43] = true then some 6 else if sg ts k [45] = true then some 7 else none
  | _ => if sg ts k [42] = true then some 8 else if sg ts k [47] = true then some 9 else none
/-- The word of one operand that stands at place k. -/
def prek (ts : List Tk) (k : Nat) : Option Int :=
  if sg ts k [110, 111, 116] = true then some 14 else if sg ts k [114, 101] = true then some 16 else if sg ts k [105, 109] = true then some 17 else if sg ts k [116, 117, 114, 110] = true then some 18 else none
def numAt (ts : List Tk) (k : Nat) : Option Nat := match ts[k]? with
  | none => none
  | some t => if t.kd = 3 then some t.n else none
def nameAt (ts : List Tk) (k : Nat) : Option Bs := match ts[k]? with
  | none => none
  | some t => if t.kd = 1 then some t.tx else none
/-- An expression formed at place k. -/
def mk (x : Ex) (k : Nat) : Rs := if 40 < x.depth then .er 4 k else .ok x k
def loopL (ts : List Tk) (lv : Nat) (sub : Nat → Rs) : Nat → Ex → Nat → Rs
  | 0, x, k => .ok x k
  | f + 1, x, k => match opk ts lv k with
    | none => .ok x k
    | some kd => match sub (k + 1) with
      | .er e j => .er e j
      | .ok y j => match mk (.two kd x y) j with
        | .er e i => .er e i
        | .ok z i => if lv = 2 then .ok z i else loopL ts lv sub f z i
/-- j levels, the strongest j of them, over singles. -/
def binL (ts : List Tk) (u : Nat → Rs) : Nat → Nat → Rs
  | 0, k => u k
  | j + 1, k => match binL ts u j k with
    | .er e i => .er e i
    | .ok x i => loopL ts (4 - j) (binL ts u j) (ts.length - i) x i
def pairL (ts : List Tk) (E : Nat → Rs) (kd : Int) (x : Ex) (j : Nat) : Rs :=
  if sg ts j [44] = true then match E (j + 1) with
    | .er e i => .er e i
    | .ok y i => if sg ts i [41] = true then mk (.two kd x y) (i + 1) else .er 2 i
  else .er 2 j
def primL (ts : List Tk) (E : Nat → Rs) (k : Nat) : Rs :=
  match numAt ts k with
  | some n => .ok (.leaf 0 n []) (k + 1)
  | none => match nameAt ts k with
    | some s => .ok (.leaf 2 0 s) (k + 1)
    | none =>
      if sg ts k [39] = true then match nameAt ts (k + 1) with
        | some s => .ok (.leaf 3 0 s) (k + 2)
        | none => .er 2 (k + 1)
      else if sg ts k [116, 114, 117, 101] = true then .ok (.leaf 1 1 []) (k + 1)
      else if sg ts k [102, 97, 108, 115, 101] = true then .ok (.leaf 1 0 []) (k + 1)
      else if sg ts k [115, 101, 108, 102] = true then .ok (.leaf 4 0 []) (k + 1)
      else if sg ts k [116, 105, 109, 101] = true then .ok (.leaf 5 0 []) (k + 1)
      else if sg ts k [40] = true then match E (k + 1) with
        | .er e i => .er e i
        | .ok x i => if sg ts i [41] = true then .ok x (i + 1) else pairL ts E 15 x i
      else if sg ts k [102, 97, 114] = true then
        if sg ts (k + 1) [40] = true then match E (k + 2) with
          | .er e i => .er e i
          | .ok x i => pairL ts E 19 x i
        else .er 2 (k + 1)
      else .er 2 k
/-- A single with m levels of nesting left. -/
def unaL (ts : List Tk) : Nat → Nat → Rs
  | 0, k => .er 4 k
  | m + 1, k => match prek ts k with
    | some kd => match unaL ts m (k + 1) with
      | .er e i => .er e i
      | .ok x i => mk (.one kd x) i
    | none => if sg ts k [45] = true then match numAt ts (k + 1) with
        | some n => .ok (.leaf 0 (-(n : Int)) []) (k + 2)
        | none => .er 2 (k + 1)
      else primL ts (binL ts (unaL ts m) 5) k
/-- An expression from place k on. -/
def parL (ts : List Tk) (k : Nat) : Rs := if k < ts.length then binL ts (unaL ts 40) 5 k else .er 2 ts.length

/-! ### places go on, and stay within the tokens -/
def Rs.fwd (n k : Nat) : Rs → Prop
  | .ok _ j => k < j ∧ j ≤ n
  | .er e j => k ≤ j ∧ j ≤ n ∧ (e = 2 ∨ e = 4)
theorem sg_lt {ts : List Tk} {k : Nat} {s : Bs} (h : sg ts k s = true) : k < ts.length := by
  unfold sg at h
  split at h
  · cases h
  · rename_i t ht; exact (List.getElem?_eq_some_iff.1 ht).1
theorem opk_lt {ts : List Tk} {lv k : Nat} {c : Int} (h : opk ts lv k = some c) : k < ts.length := by
  unfold opk at h
  split at h <;> repeat' split at h
  all_goals first | (cases h; done) | (rename_i h0; exact sg_lt h0) | skip
theorem prek_lt {ts : List Tk} {k : Nat} {c : Int} (h : prek ts k = some c) : k < ts.length := by
  unfold prek at h
  repeat' split at h
  all_goals first | (cases h; done) | (rename_i h0; exact sg_lt h0) | skip
theorem num_lt {ts : List Tk} {k n : Nat} (h : numAt ts k = some n) : k < ts.length := by
  unfold numAt at h
  split at h
  · cases h
  · rename_i t ht; exact (List.getElem?_eq_some_iff.1 ht).1
theorem nam_lt {ts : List Tk} {k : Nat} {s : Bs} (h : nameAt ts k = some s) : k < ts.length := by
  unfold nameAt at h
  split at h
  · cases h
  · rename_i t ht; exact (List.getElem?_eq_some_iff.1 ht).1
theorem mk_fwd {n k : Nat} {x : Ex} {j : Nat} (h1 : k < j) (h2 : j ≤ n) : (mk x j).fwd n k := by
  unfold mk
  split
  · exact ⟨by omega, h2, .inr rfl⟩
  · exact ⟨h1, h2⟩
theorem Rs.fwd_le {n k k' : Nat} {r : Rs} (h : r.fwd n k) (hk : k' ≤ k) : r.fwd n k' := by
  cases r with
  | ok x j => exact ⟨Nat.lt_of_le_of_lt hk h.1, h.2⟩
  | er e j => exact ⟨Nat.le_trans hk h.1, h.2⟩
theorem loop_fwd {ts : List Tk} {lv : Nat} {sub : Nat → Rs} (hs : ∀ k, k ≤ ts.length → (sub k).fwd ts.length k) : ∀ (f : Nat) (x : Ex) (k k0 : Nat), k0 < k → k ≤ ts.length → (loopL ts lv sub f x k).fwd ts.length k0
  | 0, x, k, k0, h0, h1 => ⟨h0, h1⟩
  | f + 1, x, k, k0, h0, h1 => by
    unfold loopL
    cases ho : opk ts lv k with
    | none => exact ⟨h0, h1⟩
    | some kd =>
      have hlt := opk_lt ho
      have h2 := hs (k + 1) (by omega)
      simp only
      cases hr : sub (k + 1) with
      | er e j => rw [hr] at h2; exact ⟨by have := h2.1; omega, h2.2⟩
      | ok y j =>
        rw [hr] at h2
        simp only
        have h3 := mk_fwd (n := ts.length) (k := k0) (x := .two kd x y) (j := j) (by have := h2.1; omega) h2.2
        cases hm : mk (.two kd x y) j with
        | er e i => rw [hm] at h3; exact h3
        | ok z i =>
          rw [hm] at h3
          simp only
          split
          · exact h3
          · exact loop_fwd hs f z i k0 h3.1 h3.2
theorem bin_fwd {ts : List Tk} {u : Nat → Rs} (hu : ∀ k, k ≤ ts.length → (u k).fwd ts.length k) : ∀ (j k : Nat), k ≤ ts.length → (binL ts u j k).fwd ts.length k
  | 0, k, h => hu k h
  | j + 1, k, h => by
    unfold binL
    have ih := bin_fwd hu j
    have h2 := ih k h
    cases hr : binL ts u j k with
    | er e i => rw [hr] at h2; exact h2
    | ok x i => rw [hr] at h2; exact loop_fwd ih _ x i k h2.1 h2.2
theorem pair_fwd {ts : List Tk} {E : Nat → Rs} (hE : ∀ k, k ≤ ts.length → (E k).fwd ts.length k) (kd : Int) (x : Ex) (j k0 : Nat) (h0 : k0 < j) (h1 : j ≤ ts.length) : (pairL ts E kd x j).fwd ts.length k0 := by
  unfold pairL
  split
  · rename_i hc
    have hlt := sg_lt hc
    have h2 := hE (j + 1) (by omega)
    cases hr : E (j + 1) with
    | er e i => rw [hr] at h2; exact ⟨by have := h2.1; omega, h2.2⟩
    | ok y i =>
      rw [hr] at h2
      simp only
      split
      · rename_i hd
        have := sg_lt hd
        exact mk_fwd (by have := h2.1; omega) (by omega)
      · exact ⟨by have := h2.1; omega, h2.2, .inl rfl⟩
  · exact ⟨by omega, h1, .inl rfl⟩
theorem prim_fwd {ts : List Tk} {E : Nat → Rs} (hE : ∀ k, k ≤ ts.length → (E k).fwd ts.length k) (k : Nat) (h : k ≤ ts.length) : (primL ts E k).fwd ts.length k := by
  unfold primL
  cases hn : numAt ts k with
  | some n => have := num_lt hn; exact ⟨by omega, by omega⟩
  | none =>
    simp only
    cases hs : nameAt ts k with
    | some s => have := nam_lt hs; exact ⟨by omega, by omega⟩
    | none =>
      simp only
      split
      · rename_i h0
        have := sg_lt h0
        cases hb : nameAt ts (k + 1) with
        | some s => have := nam_lt hb; exact ⟨by omega, by omega⟩
        | none => exact ⟨by omega, by omega, .inl rfl⟩
      · split
        · rename_i h0; have := sg_lt h0; exact ⟨by omega, by omega⟩
        · split
          · rename_i h0; have := sg_lt h0; exact ⟨by omega, by omega⟩
          · split
            · rename_i h0; have := sg_lt h0; exact ⟨by omega, by omega⟩
            · split
              · rename_i h0; have := sg_lt h0; exact ⟨by omega, by omega⟩
              · split
                · rename_i h0
                  have := sg_lt h0
                  have h2 := hE (k + 1) (by omega)
                  cases hr : E (k + 1) with
                  | er e i => rw [hr] at h2; exact ⟨by have := h2.1; omega, h2.2⟩
                  | ok x i =>
                    rw [hr] at h2
                    simp only
                    split
                    · rename_i hc; have := sg_lt hc; exact ⟨by have := h2.1; omega, by omega⟩
                    · exact pair_fwd hE 15 x i k (by have := h2.1; omega) h2.2
                · split
                  · rename_i h0
                    have := sg_lt h0
                    split
                    · rename_i h1
                      have := sg_lt h1
                      have h2 := hE (k + 2) (by omega)
                      cases hr : E (k + 2) with
                      | er e i => rw [hr] at h2; exact ⟨by have := h2.1; omega, h2.2⟩
                      | ok x i =>
                        rw [hr] at h2
                        exact pair_fwd hE 19 x i k (by have := h2.1; omega) h2.2
                    · exact ⟨by omega, by omega, .inl rfl⟩
                  · exact ⟨Nat.le_refl _, h, .inl rfl⟩
theorem una_fwd {ts : List Tk} : ∀ (m k : Nat), k ≤ ts.length → (unaL ts m k).fwd ts.length k
  | 0, k, h => ⟨Nat.le_refl _, h, .inr rfl⟩
  | m + 1, k, h => by
    have ih := una_fwd (ts := ts) m
    unfold unaL
    cases hp : prek ts k with
    | some kd =>
      have hlt := prek_lt hp
      have h2 := ih (k + 1) (by omega)
      simp only
      cases hr : unaL ts m (k + 1) with
      | er e i => rw [hr] at h2; exact ⟨by have := h2.1; omega, h2.2⟩
      | ok x i => rw [hr] at h2; exact mk_fwd (by have := h2.1; omega) h2.2
    | none =>
      simp only
      split
      · rename_i h0
        have := sg_lt h0
        cases hb : numAt ts (k + 1) with
        | some s => have := num_lt hb; exact ⟨by omega, by omega⟩
        | none => exact ⟨by omega, by omega, .inl rfl⟩
      · exact prim_fwd (bin_fwd ih 5) k h
theorem ful_fwd (ts : List Tk) (m j k : Nat) (h : k ≤ ts.length) : (binL ts (unaL ts m) j k).fwd ts.length k := bin_fwd (una_fwd m) j k h
end Go.Proofs.YtkmbobfjoaldgaaGreatDoor
