/-
  What stands in memory while package tree's node reads; another, whatever the node. Conditions: the table of levels can be read; names and numbers among the tokens are such.
-/
import Derived.Test.YtkmbobfjoaldgaaGreatDoorZar2
namespace Go.Proofs.YtkmbobfjoaldgaaGreatDoor
open Go.ChangeShapes Go.WideShapes Go.ChangeAt Go.RowKit
set_option maxRecDepth 100000
set_option maxHeartbeats 4000000

/-- A node is being read at block q3: the result's block, the stack. -/
structure NS (w wr : World) (gp q3 : Nat) (φ : Nat → Nat) (op : List Nd) (sv : Value) (cs : List Value) : Prop where
  t : Touch (AtB gp) w wr
  b2 : NB wr w.heap.size (.int .i64 0) (.int .i64 0) (.int .i64 0) (.string ⟨#[]⟩) (.int .i64 0) (.int .i64 0) (.string ⟨#[]⟩) (.slice none 0 0) (.slice none 0 0) (.slice none 0 0)
  rs : wr.ownsRow w.heap.size 47 10 sv op.length cs
  st : StAt wr w.heap.size φ op cs
  hs : ∀ b, sv.ownBlock = some b → φ b = 2
  hφ : ∀ b, φ b ≠ 0 → w.heap.size < b ∧ b < wr.heap.size ∧ b ≠ q3
/-- .. and the node itself stands there. -/
structure NC (w wr : World) (gp q3 : Nat) (φ : Nat → Nat) (op : List Nd) (sv : Value) (cs : List Value) (n : Nd) (e0 e1 : Int) (e2 : ByteArray) (A : Option Addr) (m c : Nat) (kv wv : Value) (D : Nat) (xs ys : List Value) : Prop where
  ns : NS w wr gp q3 φ op sv cs
  nb : NB wr q3 (.int .i64 (n.kd : Int)) (.int .i64 (n.a : Int)) (.int .i64 (n.b : Int)) (.string (bs n.nm)) (.int .i64 e0) (.int .i64 e1) (.string e2) (.slice A m c) kv wv
  on : OnC wr w.heap.size φ op.length n e0 e1 e2 A m c kv wv D xs ys
theorem NS.free {w wr : World} {gp q3 : Nat} {φ : Nat → Nat} {op : List Nd} {sv : Value} {cs : List Value} (h : NS w wr gp q3 φ op sv cs) {b : Nat} (hb : b ≤ w.heap.size ∨ b = q3 ∨ wr.heap.size ≤ b) : φ b = 0 := by
  by_cases e : φ b = 0
  · exact e
  · have := h.hφ b e; omega
/-- Nothing that bears a label is touched. -/
theorem NS.touch {w wr V : World} {gp q3 : Nat} {φ : Nat → Nat} {op : List Nd} {sv : Value} {cs : List Value} {F : Nat → Prop} (h : NS w wr gp q3 φ op sv cs) (t : Touch F wr V) (hF : ∀ b, F b → b ≠ w.heap.size ∧ φ b ≠ 1 ∧ φ b ≠ 2 ∧ ∀ i, i < op.length → φ b ≠ 3 + 2 * i ∧ φ b ≠ 4 + 2 * i) (hw : ∀ b, F b → b = gp ∨ w.heap.size ≤ b) : NS w V gp q3 φ op sv cs :=
  ⟨h.t.trans t (fun b hb => hw b hb), h.b2.touch t (fun f => (hF _ f).1 rfl), row_touch h.rs t (fun k hk f => (hF k f).2.2.1 (h.hs k hk)), h.st.touch t (fun b f => ⟨(hF b f).2.1, (hF b f).2.2.2⟩), h.hs, fun b hb => ⟨(h.hφ b hb).1, Nat.lt_of_lt_of_le (h.hφ b hb).2.1 t.size, (h.hφ b hb).2.2⟩⟩
theorem NS.go {w wr V : World} {gp q3 : Nat} {φ : Nat → Nat} {op : List Nd} {sv : Value} {cs : List Value} (h : NS w wr gp q3 φ op sv cs) (t : Touch (AtB gp) wr V) (hgp : gp < w.heap.size) : NS w V gp q3 φ op sv cs := by
  have h0 := h.free (b := gp) (.inl (by omega))
  refine h.touch t (fun b hb => ?_) (fun b hb => .inl hb)
  have e : b = gp := hb
  subst e
  exact ⟨by omega, by omega, by omega, fun i _ => ⟨by omega, by omega⟩⟩
theorem NC.go {w wr V : World} {gp q3 : Nat} {φ : Nat → Nat} {op : List Nd} {sv : Value} {cs : List Value} {n : Nd} {e0 e1 : Int} {e2 : ByteArray} {A : Option Addr} {m c : Nat} {kv wv : Value} {D : Nat} {xs ys : List Value} (h : NC w wr gp q3 φ op sv cs n e0 e1 e2 A m c kv wv D xs ys) (t : Touch (AtB gp) wr V) (hgp : gp < w.heap.size) (hq : w.heap.size < q3) : NC w V gp q3 φ op sv cs n e0 e1 e2 A m c kv wv D xs ys := by
  have h0 := h.ns.free (b := gp) (.inl (by omega))
  refine ⟨h.ns.go t hgp, h.nb.go t (by omega), h.on.touch t (fun b hb => ?_)⟩
  have e : b = gp := hb
  subst e
  exact ⟨by omega, by omega, by omega⟩
/-- New labels, the old ones as they were. -/
theorem NS.label {w wr : World} {gp q3 : Nat} {φ ψ : Nat → Nat} {op : List Nd} {sv : Value} {cs : List Value} (h : NS w wr gp q3 φ op sv cs) (h1 : ∀ b, φ b ≠ 0 → ψ b = φ b) (h2 : ∀ b, ψ b ≠ 0 → w.heap.size < b ∧ b < wr.heap.size ∧ b ≠ q3) : NS w wr gp q3 ψ op sv cs :=
  ⟨h.t, h.b2, h.rs, h.st.label (fun b hb => by rw [h1 b (by omega)]; exact hb) (fun b i _ hb => h1 b (by omega)), fun b hb => by rw [h1 b (by rw [h.hs b hb]; decide)]; exact h.hs b hb, h2⟩
/-- What is new between two worlds is finished. -/
def widL (φ : Nat → Nat) (a b : Nat) (k : Nat) : Nat := if φ k = 0 ∧ a ≤ k ∧ k < b then 1 else φ k
theorem widL_old {φ : Nat → Nat} {a b k : Nat} (h : φ k ≠ 0) : widL φ a b k = φ k := by unfold widL; rw [if_neg (fun z => h z.1)]
theorem widL_new {φ : Nat → Nat} {a b k : Nat} (h : φ k = 0) (h1 : a ≤ k) (h2 : k < b) : widL φ a b k = 1 := by unfold widL; rw [if_pos ⟨h, h1, h2⟩]
theorem widL_no {φ : Nat → Nat} {a b k : Nat} (h : widL φ a b k ≠ 0) : φ k ≠ 0 ∨ (a ≤ k ∧ k < b) := by
  unfold widL at h
  split at h
  · rename_i e; exact .inr e.2
  · exact .inl h
theorem Nd.wadd_kd (n : Nd) (x : Ex) : (n.wadd x).kd = n.kd := by cases n; rfl
theorem Nd.wadd_a (n : Nd) (x : Ex) : (n.wadd x).a = n.a := by cases n; rfl
theorem Nd.wadd_b (n : Nd) (x : Ex) : (n.wadd x).b = n.b := by cases n; rfl
theorem Nd.wadd_nm (n : Nd) (x : Ex) : (n.wadd x).nm = n.nm := by cases n; rfl
theorem Nd.wadd_ex (n : Nd) (x : Ex) : (n.wadd x).ex = n.ex := by cases n; rfl
theorem Nd.wadd_ks (n : Nd) (x : Ex) : (n.wadd x).ks = n.ks := by cases n; rfl
theorem Nd.wadd_ws (n : Nd) (x : Ex) : (n.wadd x).ws = n.ws ++ [x] := by cases n; rfl
theorem Nd.add_kd (n : Nd) (x : Nd) : (n.add x).kd = n.kd := by cases n; rfl
theorem Nd.add_a (n : Nd) (x : Nd) : (n.add x).a = n.a := by cases n; rfl
theorem Nd.add_b (n : Nd) (x : Nd) : (n.add x).b = n.b := by cases n; rfl
theorem Nd.add_nm (n : Nd) (x : Nd) : (n.add x).nm = n.nm := by cases n; rfl
theorem Nd.add_ex (n : Nd) (x : Nd) : (n.add x).ex = n.ex := by cases n; rfl
theorem Nd.add_ks (n : Nd) (x : Nd) : (n.add x).ks = n.ks ++ [x] := by cases n; rfl
theorem Nd.add_ws (n : Nd) (x : Nd) : (n.add x).ws = n.ws := by cases n; rfl
/-- A weight is put behind the others. -/
theorem NC.weigh {w wr V : World} {gp q3 gd cap : Nat} {φ : Nat → Nat} {op : List Nd} {sv : Value} {cs : List Value} {n : Nd} {x : Ex} {e0 e1 : Int} {e2 : ByteArray} {A : Option Addr} {m c : Nat} {kv wv : Value} {D : Nat} {xs ys : List Value} {a b : Int} {s : ByteArray} {A' : Option Addr} {m' c' : Nat}
    (h : NC w wr gp q3 φ op sv cs n e0 e1 e2 A m c kv wv D xs ys) (hgp : gp < w.heap.size) (hq : w.heap.size < q3)
    (hb : NB V q3 (.int .i64 (n.kd : Int)) (.int .i64 (n.a : Int)) (.int .i64 (n.b : Int)) (.string (bs n.nm)) (.int .i64 e0) (.int .i64 e1) (.string e2) (.slice A m c) kv (.slice (some ⟨gd, 0, none⟩) (n.ws.length + 1) cap))
    (hr : V.ownsRow w.heap.size 44 4 (.slice (some ⟨gd, 0, none⟩) (n.ws.length + 1) cap) (n.ws.length + 1) (ys ++ [.int .i64 a, .int .i64 b, .string s, .slice A' m' c']))
    (hat : wv.ownBlock = some gd ∨ wr.heap.size ≤ gd) (he : ET V (fun k => wr.heap.size ≤ k ∧ k ≠ gd) x a b s A' m' c') (t : Touch (fun k => k = gp ∨ k = q3 ∨ wv.ownBlock = some k) wr V) :
    ∃ ψ, NC w V gp q3 ψ op sv cs (n.wadd x) e0 e1 e2 A m c kv (.slice (some ⟨gd, 0, none⟩) (n.ws.length + 1) cap) D xs (ys ++ [.int .i64 a, .int .i64 b, .string s, .slice A' m' c']) := by
  have h0 := h.ns.free (b := gp) (.inl (by omega))
  have h3 := h.ns.free (b := q3) (.inr (.inl rfl))
  have hF : ∀ k, (k = gp ∨ k = q3 ∨ wv.ownBlock = some k) → k ≠ w.heap.size ∧ φ k ≠ 1 ∧ φ k ≠ 2 ∧ φ k ≠ 3 + 2 * op.length ∧ (∀ i, i < op.length → φ k ≠ 3 + 2 * i ∧ φ k ≠ 4 + 2 * i) := by
    intro k hk
    rcases hk with rfl | rfl | hk
    · exact ⟨by omega, by omega, by omega, by omega, fun i _ => ⟨by omega, by omega⟩⟩
    · exact ⟨by omega, by omega, by omega, by omega, fun i _ => ⟨by omega, by omega⟩⟩
    · have e := h.on.fw k hk
      have := h.ns.hφ k (by omega)
      exact ⟨by omega, by omega, by omega, by omega, fun i _ => ⟨by omega, by omega⟩⟩
  have hgl : gd < V.heap.size := (hr.lt gd rfl).2
  have hgw : w.heap.size ≤ gd := (hr.lt gd rfl).1
  have hqs := blk_lt h.nb
  have hns := h.ns.touch t (fun k hk => ⟨(hF k hk).1, (hF k hk).2.1, (hF k hk).2.2.1, (hF k hk).2.2.2.2⟩) (fun k hk => by
    rcases hk with e | e | e
    · exact .inl e
    · exact .inr (by omega)
    · exact .inr (row_base h.on.rw_ k e))
  have hgq : gd ≠ q3 := by
    rcases hat with e | e
    · intro z; have := h.on.fw gd e; rw [z] at this; omega
    · omega
  have hg2 : w.heap.size < gd := by
    rcases hat with e | e
    · have := h.ns.hφ gd (by rw [h.on.fw gd e]; omega); omega
    · have := blk_lt h.ns.b2; omega
  have hgf : φ gd = 4 + 2 * op.length ∨ (φ gd = 0 ∧ wr.heap.size ≤ gd) := by
    rcases hat with e | e
    · exact .inl (h.on.fw gd e)
    · exact .inr ⟨h.ns.free (.inr (.inr e)), e⟩
  obtain ⟨ψ, hψ⟩ : ∃ ψ : Nat → Nat, (fun k => if k = gd then 4 + 2 * op.length else widL φ wr.heap.size V.heap.size k) = ψ := ⟨_, rfl⟩
  have p1 : ∀ k, φ k ≠ 0 → ψ k = φ k := by
    intro k hk
    rw [← hψ]
    by_cases e : k = gd
    · simp only [if_pos e]
      subst e
      omega
    · simp only [if_neg e]
      exact widL_old hk
  have p2 : ∀ k, ψ k ≠ 0 → w.heap.size < k ∧ k < V.heap.size ∧ k ≠ q3 := by
    intro k hk
    rw [← hψ] at hk
    by_cases e : k = gd
    · subst e; exact ⟨hg2, hgl, hgq⟩
    · simp only [if_neg e] at hk
      rcases widL_no hk with z | ⟨z1, z2⟩
      · exact hns.hφ k z
      · exact ⟨by have := blk_lt h.ns.b2; omega, z2, by omega⟩
  have p3 : ∀ k, wr.heap.size ≤ k → k ≠ gd → k < V.heap.size → ψ k = 1 := by
    intro k h1 h2 h3
    rw [← hψ]
    simp only [if_neg h2]
    exact widL_new (h.ns.free (.inr (.inr h1))) h1 h3
  have q1 : ∀ k, Fin1 φ k → ¬ (k = gp ∨ k = q3 ∨ wv.ownBlock = some k) := fun k hk f => (hF k f).2.1 hk
  have v1 : ∀ k, Fin1 φ k → k < V.heap.size → Fin1 ψ k := fun k hk _ => by
    have e : φ k = 1 := hk
    exact (p1 k (by omega)).trans e
  refine ⟨ψ, hns.label p1 p2, ?_, ?_⟩
  · rw [Nd.wadd_kd, Nd.wadd_a, Nd.wadd_b, Nd.wadd_nm]; exact hb
  · refine ⟨?_, ?_, ?_, ?_, ?_, fun k hk => ?_, fun k hk => ?_⟩
    · rw [Nd.wadd_ex]; exact (h.on.ex.far t q1).via v1
    · rw [Nd.wadd_ks]; exact row_touch h.on.rk t (fun k hk f => (hF k f).2.2.2.1 (h.on.fk k hk))
    · rw [Nd.wadd_ks]; exact h.on.lk.mono (fun x ys hx => NT.via v1 _ _ _ (NT.touch t q1 _ _ _ hx))
    · rw [Nd.wadd_ws, List.length_append]; exact hr
    · rw [Nd.wadd_ws]
      exact LsAt.snoc (h.on.lw.mono (fun x ys hx => (hx.touch t q1).via v1)) ⟨a, b, s, A', m', c', rfl, he.via (fun k hk hl => p3 k hk.1 hk.2 hl)⟩
    · rw [p1 k (by rw [h.on.fk k hk]; omega)]; exact h.on.fk k hk
    · have e1 : gd = k := by simpa [Value.ownBlock] using hk
      subst e1
      rw [← hψ]
      simp only [if_true]
theorem another_all {w wr : World} {gp g n cp q3 B : Nat} {ts : List Tk} {σ : St} {φ : Nat → Nat} {op : List Nd} {sv : Value} {cs : List Value} {nd : Nd} {e0 e1 : Int} {e2 : ByteArray} {A : Option Addr} {m c : Nat} {kv wv : Value} {D : Nat} {xs ys : List Value} (hok : NamesOk ts) (hnk : NumsOk ts) (hv : LV w B) (hB : B ≤ gp)
    (h : NC w wr gp q3 φ op sv cs nd e0 e1 e2 A m c kv wv D xs ys) (hp : PS2 57 wr gp g n cp ts σ) (hgp : gp < w.heap.size) (hgl : g < w.heap.size) (hq : w.heap.size < q3) (hk : nd.kd ≤ 15) (hw : nd.ws.length ≤ 1000000) :
    Calls Tryz.prog 114 #[.pointer (some ⟨gp, 0, none⟩), .pointer (some ⟨q3, 0, none⟩)] wr fun x V => x = .returned (.bool (anoV ts nd σ)) ∧ ∃ ψ wv' ys', NC w V gp q3 ψ op sv cs (anoN ts nd σ) e0 e1 e2 A m c kv wv' D xs ys' ∧ PS2 57 V gp g n cp ts (anoS ts nd σ) := by
  obtain ⟨kA, kc, rfl, hk1, hk2⟩ := row_any h.on.rk
  by_cases hf : mostL nd.kd ≤ 1
  · unfold anoV anoN anoS
    rw [if_pos hf, if_pos hf, if_pos hf]
    refine (another_few hk hf h.nb).mono ?_
    rintro x V ⟨rfl, rfl⟩
    exact ⟨rfl, φ, wv, ys, h, hp⟩
  · by_cases hi : (decide (0 < nd.ks.length) && isS ts [125] σ) = true
    · unfold anoV anoN anoS
      rw [if_neg hf, if_neg hf, if_neg hf, if_pos hi, if_pos hi, hi]
      simp only [Bool.and_eq_true, decide_eq_true_eq] at hi
      refine (another_shut hk hf h.nb hp hi.1 hi.2).mono ?_
      rintro x V ⟨rfl, h1, h2⟩
      exact ⟨rfl, φ, wv, ys, h.go h2 hgp hq, h1⟩
    · have hi2 : (decide (0 < nd.ks.length) && isS ts [125] σ) = false := by
        cases hz : (decide (0 < nd.ks.length) && isS ts [125] σ) with
        | true => exact absurd hz hi
        | false => rfl
      by_cases h11 : nd.kd = 11
      · have hmo : mostL nd.kd = 16 := by rw [h11]; rfl
        unfold anoV anoN anoS anoF
        rw [if_neg hf, if_neg hf, if_neg hf, if_neg hi, if_neg hi, if_pos h11, if_pos h11, hi2, hmo]
        have hnb : NB wr q3 (.int .i64 11) (.int .i64 (nd.a : Int)) (.int .i64 (nd.b : Int)) (.string (bs nd.nm)) (.int .i64 e0) (.int .i64 e1) (.string e2) (.slice A m c) (.slice kA nd.ks.length kc) wv := by
          have := h.nb
          rw [h11] at this
          exact this
        refine (another_pick hok hnk (hv.touchP h.ns.t hB) hB hnb hgp hgl h.ns.t.size (by omega) h.on.rw_ hw hp hi2).mono ?_
        rintro x V ⟨rfl, ea, eb, es, eA, em, ec, gd, cap, hb, hr, hat, he, hp2, ht⟩
        obtain ⟨ψ, hN⟩ := h.weigh hgp hq (by rw [h11]; exact hb) hr hat he ht
        exact ⟨rfl, ψ, _, _, hN, hp2⟩
      · unfold anoV anoN anoS anoF
        rw [if_neg hf, if_neg hf, if_neg hf, if_neg hi, if_neg hi, if_neg h11, if_neg h11, hi2]
        refine (another_more hk hf h11 h.nb (by omega) hp hi2).mono ?_
        rintro x V ⟨rfl, h1, h2⟩
        exact ⟨rfl, φ, wv, ys, h.go h2 hgp hq, h1⟩
end Go.Proofs.YtkmbobfjoaldgaaGreatDoor

/-
  The stack of package tree's node: a node is pushed, one is popped and gets a kid. No condition beyond those that each theorem names.
-/
namespace Go.Proofs.YtkmbobfjoaldgaaGreatDoor
open Go.ChangeShapes Go.WideShapes Go.ChangeAt Go.RowKit
set_option maxRecDepth 100000
set_option maxHeartbeats 4000000

/-- Cells stored one behind another. -/
def setL (w : World) (g : Nat) : Nat → List Value → World
  | _, [] => w
  | i, v :: l => setL (w.setCell ⟨g, i, none⟩ v) g (i + 1) l
theorem setL_touch {g : Nat} : ∀ (l : List Value) (i : Nat) (w : World), Touch (fun b => b = g) w (setL w g i l)
  | [], _, w => Touch.refl _ w
  | v :: l, i, w => ((Touch.refl (fun b => b = g) w).setCell (p := ⟨g, i, none⟩) (.inl rfl) v).same (setL_touch l (i + 1) _)
theorem row_setL {base g n cap size : Nat} {e : TypeId} : ∀ (l zs xs : List Value) (w : World), zs.length = l.length → w.ownsRow base e size (.slice (some ⟨g, 0, none⟩) n cap) n (xs ++ zs) → (setL w g xs.length l).ownsRow base e size (.slice (some ⟨g, 0, none⟩) n cap) n (xs ++ l)
  | [], zs, xs, w, hl, h => by
    have : zs = [] := List.eq_nil_of_length_eq_zero hl
    subst this
    exact h
  | v :: l, [], xs, w, hl, h => by simp at hl
  | v :: l, z :: zs, xs, w, hl, h => by
    have h1 := (h.stored xs.length v).1
    have e1 : (xs ++ z :: zs).set xs.length v = (xs ++ [v]) ++ zs := by simp
    rw [e1] at h1
    have h2 := row_setL l zs (xs ++ [v]) _ (by simpa using hl) h1
    rw [List.length_append] at h2
    simpa [setL] using h2
section
variable {w wr wx W : World} {gp q3 gs gk cap svc : Nat} {φ : Nat → Nat} {op : List Nd} {sv : Value} {cs : List Value} {nd p : Nd} {e0 e1 : Int} {e2 : ByteArray} {A : Option Addr} {m c : Nat} {kv wv : Value} {D : Nat} {xs ys : List Value}
/-- A node waits for a kid. -/
theorem NC.push (h : NC w wr gp q3 φ op sv cs nd e0 e1 e2 A m c kv wv D xs ys) (hq : w.heap.size < q3) (TR : Touch (fun b => sv.ownBlock = some b) wr wx)
    (hown : wx.ownsRow w.heap.size 47 10 (.slice (some ⟨gs, 0, none⟩) (op.length + 1) cap) (op.length + 1) (cs ++ onL nd e0 e1 e2 A m c kv wv)) (hat : sv.ownBlock = some gs ∨ wr.heap.size ≤ gs) :
    (∃ ψ, NS w wx gp q3 ψ (nd :: op) (.slice (some ⟨gs, 0, none⟩) (op.length + 1) cap) (cs ++ onL nd e0 e1 e2 A m c kv wv)) ∧ NB wx q3 (.int .i64 (nd.kd : Int)) (.int .i64 (nd.a : Int)) (.int .i64 (nd.b : Int)) (.string (bs nd.nm)) (.int .i64 e0) (.int .i64 e1) (.string e2) (.slice A m c) kv wv := by
  have h3 := h.ns.free (b := q3) (.inr (.inl rfl))
  have hqs := blk_lt h.nb
  have hb2 := blk_lt h.ns.b2
  have hgl : gs < wx.heap.size := (hown.lt gs rfl).2
  have hF : ∀ b, sv.ownBlock = some b → φ b = 2 := h.ns.hs
  have hgq : gs ≠ q3 := by
    rcases hat with e | e
    · intro z; have := hF gs e; rw [z] at this; omega
    · omega
  have hg2 : w.heap.size < gs := by
    rcases hat with e | e
    · have := h.ns.hφ gs (by rw [hF gs e]; decide); omega
    · omega
  have hgf : φ gs = 2 ∨ φ gs = 0 := by
    rcases hat with e | e
    · exact .inl (hF gs e)
    · exact .inr (h.ns.free (.inr (.inr e)))
  obtain ⟨ψ, hψ⟩ : ∃ ψ : Nat → Nat, (fun k => if k = gs then 2 else φ k) = ψ := ⟨_, rfl⟩
  have p1 : ∀ k, φ k ≠ 0 → ψ k = φ k := by
    intro k hk
    rw [← hψ]
    by_cases e : k = gs
    · simp only [if_pos e]; subst e; omega
    · simp only [if_neg e]
  have p2 : ∀ k, ψ k ≠ 0 → w.heap.size < k ∧ k < wx.heap.size ∧ k ≠ q3 := by
    intro k hk
    rw [← hψ] at hk
    by_cases e : k = gs
    · subst e; exact ⟨hg2, hgl, hgq⟩
    · simp only [if_neg e] at hk
      have := h.ns.hφ k hk
      have := TR.size
      omega
  have hw2 : sv.ownBlock ≠ some w.heap.size := fun e => by have := h.ns.hφ _ (by rw [hF _ e]; decide); omega
  have tl : ∀ b i, sv.ownBlock = some b → φ b ≠ 1 ∧ φ b ≠ 3 + 2 * i ∧ φ b ≠ 4 + 2 * i := fun b i hb => by have := hF b hb; omega
  have n1 : ∀ b, φ b = 1 → ψ b = 1 := fun b hb => by rw [p1 b (by omega)]; exact hb
  refine ⟨⟨ψ, h.ns.t.trans TR (fun k hk => .inr (row_base h.ns.rs k hk)), h.ns.b2.touch TR hw2, by rw [List.length_cons]; exact hown, ?_, fun b hb => ?_, p2⟩, h.nb.touch TR (fun e => by have := hF _ e; omega)⟩
  · refine ⟨cs, _, rfl, ?_, ?_⟩
    · exact (h.ns.st.touch TR (fun b hb => ⟨(tl b 0 hb).1, fun i _ => (tl b i hb).2⟩)).label n1 (fun b i _ hb => p1 b (by omega))
    · exact ⟨e0, e1, e2, A, m, c, kv, wv, D, xs, ys, rfl, (h.on.touch TR (fun b hb => tl b op.length hb)).label n1 (fun b hb => p1 b (by omega))⟩
  · have e1 : gs = b := by simpa [Value.ownBlock] using hb
    subst e1
    rw [← hψ]
    simp only [if_true]
end
section
variable {w wr W : World} {gp q3 gs gk cap svc : Nat} {φ : Nat → Nat} {op : List Nd} {cs0 : List Value} {nd p : Nd} {e0 e1 : Int} {e2 : ByteArray} {A : Option Addr} {m c : Nat} {kv wv : Value} {D : Nat} {xs ys : List Value} {f0 f1 : Int} {f2 : ByteArray} {A' : Option Addr} {m' c' : Nat} {kvp wvp : Value} {D' : Nat} {xsp ysp : List Value}
/-- The node read is the last one's kid: its rows are finished. -/
theorem NC.pop (hns : NS w wr gp q3 φ (p :: op) (.slice (some ⟨gs, 0, none⟩) (op.length + 1) svc) (cs0 ++ onL p f0 f1 f2 A' m' c' kvp wvp)) (hst : StAt wr w.heap.size φ op cs0) (hop : OnC wr w.heap.size φ op.length p f0 f1 f2 A' m' c' kvp wvp D' xsp ysp)
    (hnd : OnC wr w.heap.size φ (op.length + 1) nd e0 e1 e2 A m c kv wv D xs ys) (hq : w.heap.size < q3) (hqr : q3 < wr.heap.size)
    (t : Touch (fun b => b = gs ∨ kvp.ownBlock = some b ∨ b = q3) wr W)
    (hk : W.ownsRow w.heap.size 47 10 (.slice (some ⟨gk, 0, none⟩) (p.ks.length + 1) cap) (p.ks.length + 1) (xsp ++ onL nd e0 e1 e2 A m c kv wv)) (hat : kvp.ownBlock = some gk ∨ wr.heap.size ≤ gk)
    (hs : W.ownsRow w.heap.size 47 10 (.slice (some ⟨gs, 0, none⟩) (op.length + 1) svc) (op.length + 1) (cs0 ++ onL p f0 f1 f2 A' m' c' (.slice (some ⟨gk, 0, none⟩) (p.ks.length + 1) cap) wvp))
    (hb : NB W q3 (.int .i64 (p.kd : Int)) (.int .i64 (p.a : Int)) (.int .i64 (p.b : Int)) (.string (bs p.nm)) (.int .i64 f0) (.int .i64 f1) (.string f2) (.slice A' m' c') (.slice (some ⟨gk, 0, none⟩) (p.ks.length + 1) cap) wvp) :
    ∃ ψ E, NC w W gp q3 ψ op (.slice (some ⟨gs, 0, none⟩) op.length svc) cs0 (p.add nd) f0 f1 f2 A' m' c' (.slice (some ⟨gk, 0, none⟩) (p.ks.length + 1) cap) wvp E (xsp ++ onL nd e0 e1 e2 A m c kv wv) ysp := by
  have h3 := hns.free (b := q3) (.inr (.inl rfl))
  have hb2 := blk_lt hns.b2
  have hgs : φ gs = 2 := hns.hs gs rfl
  have hkl : gk < W.heap.size := (hk.lt gk rfl).2
  have hgk : φ gk = 3 + 2 * op.length ∨ φ gk = 0 := by
    rcases hat with e | e
    · exact .inl (hop.fk gk e)
    · exact .inr (hns.free (.inr (.inr e)))
  have hkq : gk ≠ q3 := by
    rcases hat with e | e
    · intro z; have := hop.fk gk e; rw [z] at this; omega
    · omega
  have hk2 : w.heap.size < gk := by
    rcases hat with e | e
    · have := hns.hφ gk (by rw [hop.fk gk e]; omega); omega
    · omega
  have hF : ∀ b, (b = gs ∨ kvp.ownBlock = some b ∨ b = q3) → φ b = 2 ∨ φ b = 3 + 2 * op.length ∨ φ b = 0 := by
    intro b hb
    rcases hb with rfl | hb | rfl
    · exact .inl hgs
    · exact .inr (.inl (hop.fk b hb))
    · exact .inr (.inr h3)
  have hFw : ∀ b, (b = gs ∨ kvp.ownBlock = some b ∨ b = q3) → w.heap.size < b := by
    intro b hb
    rcases hb with rfl | hb | rfl
    · exact (hns.hφ b (by omega)).1
    · exact (hns.hφ b (by rw [hop.fk b hb]; omega)).1
    · exact hq
  obtain ⟨ψ, hψ⟩ : ∃ ψ : Nat → Nat, (fun k => if k = gk then 3 + 2 * op.length else if φ k = 3 + 2 * (op.length + 1) ∨ φ k = 4 + 2 * (op.length + 1) then 1 else φ k) = ψ := ⟨_, rfl⟩
  have p1 : ∀ k, φ k ≠ 0 → φ k ≠ 3 + 2 * (op.length + 1) → φ k ≠ 4 + 2 * (op.length + 1) → ψ k = φ k := by
    intro k h0 h1 h2
    rw [← hψ]
    by_cases e : k = gk
    · simp only [if_pos e]; subst e; omega
    · simp only [if_neg e]
      rw [if_neg (by omega)]
  have p2 : ∀ k, ψ k ≠ 0 → w.heap.size < k ∧ k < W.heap.size ∧ k ≠ q3 := by
    intro k hk
    rw [← hψ] at hk
    by_cases e : k = gk
    · subst e; exact ⟨hk2, hkl, hkq⟩
    · simp only [if_neg e] at hk
      have h0 : φ k ≠ 0 := by
        intro z
        rw [if_neg (by omega)] at hk
        exact hk z
      have := hns.hφ k h0
      have := t.size
      omega
  have p3 : ∀ b, φ b = 1 → ψ b = 1 := fun b hb => by rw [p1 b (by omega) (by omega) (by omega)]; exact hb
  have p4 : ∀ b, φ b = 1 ∨ φ b = 3 + 2 * (op.length + 1) ∨ φ b = 4 + 2 * (op.length + 1) → ψ b = 1 := by
    intro b hb
    rcases hb with hb | hb
    · exact p3 b hb
    · rw [← hψ]
      have e : b ≠ gk := by rintro rfl; omega
      simp only [if_neg e]
      rw [if_pos hb]
  have tF : ∀ b i, i < op.length + 2 → i ≠ op.length → (b = gs ∨ kvp.ownBlock = some b ∨ b = q3) → φ b ≠ 1 ∧ φ b ≠ 3 + 2 * i ∧ φ b ≠ 4 + 2 * i := fun b i hi hne hb => by have := hF b hb; omega
  have q1 : ∀ k, Fin1 φ k → ¬ (k = gs ∨ kvp.ownBlock = some k ∨ k = q3) := fun k hk f => by have := hF k f; have e : φ k = 1 := hk; omega
  have v1 : ∀ k, Fin1 φ k → k < W.heap.size → Fin1 ψ k := fun k hk _ => p3 k hk
  have hnt := (hnd.touch t (fun b hb => tF b (op.length + 1) (by omega) (by omega) hb)).done p4
  have hcl : cs0.length = op.length * 10 := hst.len
  have hcut := ownsRow_pop hcl hs
  refine ⟨ψ, max D' (D + 1), ⟨⟨hns.t.trans t (fun b hb => .inr (Nat.le_of_lt (hFw b hb))), hns.b2.touch t (fun e => by have := hFw _ e; omega), hcut, ?_, fun b hb => ?_, p2⟩, ?_, ?_⟩⟩
  · exact (hst.touch t (fun b hb => ⟨(tF b (op.length + 1) (by omega) (by omega) hb).1, fun i hi => (tF b i (by omega) (by omega) hb).2⟩)).label p3 (fun b i hi hb => p1 b (by omega) (by omega) (by omega))
  · have e1 : gs = b := by simpa [Value.ownBlock] using hb
    subst e1
    rw [p1 gs (by omega) (by omega) (by omega)]; exact hgs
  · rw [Nd.add_kd, Nd.add_a, Nd.add_b, Nd.add_nm]; exact hb
  · refine ⟨?_, ?_, ?_, ?_, ?_, fun b hb => ?_, fun b hb => ?_⟩
    · rw [Nd.add_ex]; exact (hop.ex.far t q1).via v1
    · rw [Nd.add_ks, List.length_append]; exact hk
    · rw [Nd.add_ks]
      exact LsAt.snoc (hop.lk.mono (fun x ys hx => NT.deeper _ _ _ _ (Nat.le_max_left _ _) (NT.via v1 _ _ _ (NT.touch t q1 _ _ _ hx)))) (NT.deeper _ _ _ _ (Nat.le_max_right _ _) hnt)
    · rw [Nd.add_ws]; exact row_touch hop.rw_ t (fun b hb f => by have e := hop.fw b hb; have := hF b f; omega)
    · rw [Nd.add_ws]; exact hop.lw.mono (fun x ys hx => (hx.touch t q1).via v1)
    · have e1 : gk = b := by simpa [Value.ownBlock] using hb
      subst e1
      rw [← hψ]
      simp only [if_true]
    · have e := hop.fw b hb
      rw [p1 b (by omega) (by omega) (by omega)]; exact e
end
end Go.Proofs.YtkmbobfjoaldgaaGreatDoor
