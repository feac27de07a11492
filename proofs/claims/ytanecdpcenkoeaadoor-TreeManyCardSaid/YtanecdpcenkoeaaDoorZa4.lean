/-
  What stands in memory while package tree's node reads; another, whatever the node. Conditions: the table of levels can be read; names and numbers among the tokens are such.
-/
import Derived.Test.YtanecdpcenkoeaaDoorZar6
import Derived.Test.YtanecdpcenkoeaaDoorQa
import Derived.Test.YtanecdpcenkoeaaDoorZa3
import Derived.Deep.CutBlock
namespace Go.Proofs.YtanecdpcenkoeaaDoor
open Go.ChangeShapes Go.WideShapes Go.ChangeAt Go.RowKit
set_option maxRecDepth 100000
set_option maxHeartbeats 4000000

/-- A node is being read at block q3: the result's block, the stack. -/
structure NS (w wr : World) (gp q3 : Nat) (φ : Nat → Nat) (op : List Nd) (sv : Value) (cs : List Value) : Prop where
  t : Touch (AtB gp) w wr
  b2 : NB wr w.heap.size (.int .i64 0) (.int .i64 0) (.int .i64 0) (.string ⟨#[]⟩) (.int .i64 0) (.int .i64 0) (.string ⟨#[]⟩) (.slice none 0 0) (.slice none 0 0) (.slice none 0 0)
  rs : wr.ownsRow w.heap.size 46 10 sv op.length cs
  st : StAt wr w.heap.size φ op cs
  hs : ∀ b, sv.ownBlock = some b → φ b = 2
  hφ : ∀ b, φ b ≠ 0 → w.heap.size < b ∧ b < wr.heap.size ∧ b ≠ q3
/-- .. and the node itself stands there. -/
structure NC (w wr : World) (gp q3 : Nat) (φ : Nat → Nat) (op : List Nd) (sv : Value) (cs : List Value) (n : Nd) (e0 e1 : Int) (e2 : ByteArray) (A : Option Addr) (m c : Nat) (kv wv : Value) (D : Nat) (xs ys : List Value) : Prop where
  ns : NS w wr gp q3 φ op sv cs
  nb : NB wr q3 (.int .i64 (n.kd : Int)) (.int .i64 (n.a : Int)) (.int .i64 (n.b : Int)) (.string (bs n.nm)) (.int .i64 e0) (.int .i64 e1) (.string e2) (.slice A m c) kv wv
  on : OnC wr w.heap.size φ op.length n e0 e1 e2 A m c kv wv D xs ys
theorem NS.free {w wr : World} {gp q3 : Nat} {φ : Nat → Nat} {op : List Nd} {sv : Value} {cs : List Value} (h : NS w wr gp q3 φ op sv cs) {b : Nat} (hb : b ≤ w.heap.size ∨ b = q3 ∨ wr.heap.size ≤ b) : φ b = 0 := by
  by_cases e : φ b = 0
  · exact e
  · have := h.hφ b e; omega
/-- Nothing that bears a label is touched. -/
theorem NS.touch {w wr V : World} {gp q3 : Nat} {φ : Nat → Nat} {op : List Nd} {sv : Value} {cs : List Value} {F : Nat → Prop} (h : NS w wr gp q3 φ op sv cs) (t : Touch F wr V) (hF : ∀ b, F b → b ≠ w.heap.size ∧ φ b ≠ 1 ∧ φ b ≠ 2 ∧ ∀ i, i < op.length → φ b ≠ 3 + 2 * i ∧ φ b ≠ 4 + 2 * i) (hw : ∀ b, F b → b = gp ∨ w.heap.size ≤ b) : NS w V gp q3 φ op sv cs :=
  ⟨h.t.trans t (fun b hb => hw b hb), h.b2.touch t (fun f => (hF _ f).1 rfl), row_touch h.rs t (fun k hk f => (hF k f).2.2.1 (h.hs k hk)), h.st.touch t (fun b f => ⟨(hF b f).2.1, (hF b f).2.2.2⟩), h.hs, fun b hb => ⟨(h.hφ b hb).1, Nat.lt_of_lt_of_le (h.hφ b hb).2.1 t.size, (h.hφ b hb).2.2⟩⟩
theorem NS.go {w wr V : World} {gp q3 : Nat} {φ : Nat → Nat} {op : List Nd} {sv : Value} {cs : List Value} (h : NS w wr gp q3 φ op sv cs) (t : Touch (AtB gp) wr V) (hgp : gp < w.heap.size) : NS w V gp q3 φ op sv cs := by
  have h0 := h.free (b := gp) (.inl (by omega))
  refine h.touch t (fun b hb => ?_) (fun b hb => .inl hb)
  have e : b = gp := hb
  subst e
  exact ⟨by omega, by omega, by omega, fun i _ => ⟨by omega, by omega⟩⟩
theorem NC.go {w wr V : World} {gp q3 : Nat} {φ : Nat → Nat} {op : List Nd} {sv : Value} {cs : List Value} {n : Nd} {e0 e1 : Int} {e2 : ByteArray} {A : Option Addr} {m c : Nat} {kv wv : Value} {D : Nat} {xs ys : List Value} (h : NC w wr gp q3 φ op sv cs n e0 e1 e2 A m c kv wv D xs ys) (t : Touch (AtB gp) wr V) (hgp : gp < w.heap.size) (hq : w.heap.size < q3) : NC w V gp q3 φ op sv cs n e0 e1 e2 A m c kv wv D xs ys := by
  have h0 := h.ns.free (b := gp) (.inl (by omega))
  refine ⟨h.ns.go t hgp, h.nb.go t (by omega), h.on.touch t (fun b hb => ?_)⟩
  have e : b = gp := hb
  subst e
  exact ⟨by omega, by omega, by omega⟩
/-- New labels, the old ones as they were. -/
theorem NS.label {w wr : World} {gp q3 : Nat} {φ ψ : Nat → Nat} {op : List Nd} {sv : Value} {cs : List Value} (h : NS w wr gp q3 φ op sv cs) (h1 : ∀ b, φ b ≠ 0 → ψ b = φ b) (h2 : ∀ b, ψ b ≠ 0 → w.heap.size < b ∧ b < wr.heap.size ∧ b ≠ q3) : NS w wr gp q3 ψ op sv cs :=
  ⟨h.t, h.b2, h.rs, h.st.label (fun b hb => by rw [h1 b (by omega)]; exact hb) (fun b i _ hb => h1 b (by omega)), fun b hb => by rw [h1 b (by rw [h.hs b hb]; decide)]; exact h.hs b hb, h2⟩
/-- What is new between two worlds is finished. -/
def widL (φ : Nat → Nat) (a b : Nat) (k : Nat) : Nat := if φ k = 0 ∧ a ≤ k ∧ k < b then 1 else φ k
theorem widL_old {φ : Nat → Nat} {a b k : Nat} (h : φ k ≠ 0) : widL φ a b k = φ k := by unfold widL; rw [if_neg (fun z => h z.1)]
theorem widL_new {φ : Nat → Nat} {a b k : Nat} (h : φ k = 0) (h1 : a ≤ k) (h2 : k < b) : widL φ a b k = 1 := by unfold widL; rw [if_pos ⟨h, h1, h2⟩]
theorem widL_no {φ : Nat → Nat} {a b k : Nat} (h : widL φ a b k ≠ 0) : φ k ≠ 0 ∨ (a ≤ k ∧ k < b) := by
  unfold widL at h
  split at h
  · rename_i e; exact .inr e.2
  · exact .inl h
theorem Nd.wadd_kd (n : Nd) (x : Ex) : (n.wadd x).kd = n.kd := by cases n; rfl
theorem Nd.wadd_a (n : Nd) (x : Ex) : (n.wadd x).a = n.a := by cases n; rfl
theorem Nd.wadd_b (n : Nd) (x : Ex) : (n.wadd x).b = n.b := by cases n; rfl
theorem Nd.wadd_nm (n : Nd) (x : Ex) : (n.wadd x).nm = n.nm := by cases n; rfl
theorem Nd.wadd_ex (n : Nd) (x : Ex) : (n.wadd x).ex = n.ex := by cases n; rfl
theorem Nd.wadd_ks (n : Nd) (x : Ex) : (n.wadd x).ks = n.ks := by cases n; rfl
theorem Nd.wadd_ws (n : Nd) (x : Ex) : (n.wadd x).ws = n.ws ++ [x] := by cases n; rfl
theorem Nd.add_kd (n : Nd) (x : Nd) : (n.add x).kd = n.kd := by cases n; rfl
theorem Nd.add_a (n : Nd) (x : Nd) : (n.add x).a = n.a := by cases n; rfl
theorem Nd.add_b (n : Nd) (x : Nd) : (n.add x).b = n.b := by cases n; rfl
theorem Nd.add_nm (n : Nd) (x : Nd) : (n.add x).nm = n.nm := by cases n; rfl
theorem Nd.add_ex (n : Nd) (x : Nd) : (n.add x).ex = n.ex := by cases n; rfl
theorem Nd.add_ks (n : Nd) (x : Nd) : (n.add x).ks = n.ks ++ [x] := by cases n; rfl
theorem Nd.add_ws (n : Nd) (x : Nd) : (n.add x).ws = n.ws := by cases n; rfl
/-- A weight is put behind the others. -/
theorem NC.weigh {w wr V : World} {gp q3 gd cap : Nat} {φ : Nat → Nat} {op : List Nd} {sv : Value} {cs : List Value} {n : Nd} {x : Ex} {e0 e1 : Int} {e2 : ByteArray} {A : Option Addr} {m c : Nat} {kv wv : Value} {D : Nat} {xs ys : List Value} {a b : Int} {s : ByteArray} {A' : Option Addr} {m' c' : Nat}
    (h : NC w wr gp q3 φ op sv cs n e0 e1 e2 A m c kv wv D xs ys) (hgp : gp < w.heap.size) (hq : w.heap.size < q3)
    (hb : NB V q3 (.int .i64 (n.kd : Int)) (.int .i64 (n.a : Int)) (.int .i64 (n.b : Int)) (.string (bs n.nm)) (.int .i64 e0) (.int .i64 e1) (.string e2) (.slice A m c) kv (.slice (some ⟨gd, 0, none⟩) (n.ws.length + 1) cap))
    (hr : V.ownsRow w.heap.size 43 4 (.slice (some ⟨gd, 0, none⟩) (n.ws.length + 1) cap) (n.ws.length + 1) (ys ++ [.int .i64 a, .int .i64 b, .string s, .slice A' m' c']))
    (hat : wv.ownBlock = some gd ∨ wr.heap.size ≤ gd) (he : ET V (fun k => wr.heap.size ≤ k ∧ k ≠ gd) x a b s A' m' c') (t : Touch (fun k => k = gp ∨ k = q3 ∨ wv.ownBlock = some k) wr V) :
    ∃ ψ, NC w V gp q3 ψ op sv cs (n.wadd x) e0 e1 e2 A m c kv (.slice (some ⟨gd, 0, none⟩) (n.ws.length + 1) cap) D xs (ys ++ [.int .i64 a, .int .i64 b, .string s, .slice A' m' c']) := by
  have h0 := h.ns.free (b := gp) (.inl (by omega))
  have h3 := h.ns.free (b := q3) (.inr (.inl rfl))
  have hF : ∀ k, (k = gp ∨ k = q3 ∨ wv.ownBlock = some k) → k ≠ w.heap.size ∧ φ k ≠ 1 ∧ φ k ≠ 2 ∧ φ k ≠ 3 + 2 * op.length ∧ (∀ i, i < op.length → φ k ≠ 3 + 2 * i ∧ φ k ≠ 4 + 2 * i) := by
    intro k hk
    rcases hk with rfl | rfl | hk
    · exact ⟨by omega, by omega, by omega, by omega, fun i _ => ⟨by omega, by omega⟩⟩
    · exact ⟨by omega, by omega, by omega, by omega, fun i _ => ⟨by omega, by omega⟩⟩
    · have e := h.on.fw k hk
      have := h.ns.hφ k (by omega)
      exact ⟨by omega, by omega, by omega, by omega, fun i _ => ⟨by omega, by omega⟩⟩
  have hgl : gd < V.heap.size := (hr.lt gd rfl).2
  have hgw : w.heap.size ≤ gd := (hr.lt gd rfl).1
  have hqs := blk_lt h.nb
  have hns := h.ns.touch t (fun k hk => ⟨(hF k hk).1, (hF k hk).2.1, (hF k hk).2.2.1, (hF k hk).2.2.2.2⟩) (fun k hk => by
    rcases hk with e | e | e
    · exact .inl e
    · exact .inr (by omega)
    · exact .inr (row_base h.on.rw_ k e))
  have hgq : gd ≠ q3 := by
    rcases hat with e | e
    · intro z; have := h.on.fw gd e; rw [z] at this; omega
    · omega
  have hg2 : w.heap.size < gd := by
    rcases hat with e | e
    · have := h.ns.hφ gd (by rw [h.on.fw gd e]; omega); omega
    · have := blk_lt h.ns.b2; omega
  have hgf : φ gd = 4 + 2 * op.length ∨ (φ gd = 0 ∧ wr.heap.size ≤ gd) := by
    rcases hat with e | e
    · exact .inl (h.on.fw gd e)
    · exact .inr ⟨h.ns.free (.inr (.inr e)), e⟩
  obtain ⟨ψ, hψ⟩ : ∃ ψ : Nat → Nat, (fun k => if k = gd then 4 + 2 * op.length else widL φ wr.heap.size V.heap.size k) = ψ := ⟨_, rfl⟩
  have p1 : ∀ k, φ k ≠ 0 → ψ k = φ k := by
    intro k hk
    rw [← hψ]
    by_cases e : k = gd
    · simp only [if_pos e]
      subst e
      omega
    · simp only [if_neg e]
      exact widL_old hk
  have p2 : ∀ k, ψ k ≠ 0 → w.heap.size < k ∧ k < V.heap.size ∧ k ≠ q3 := by
    intro k hk
    rw [← hψ] at hk
    by_cases e : k = gd
    · subst e; exact ⟨hg2, hgl, hgq⟩
    · simp only [if_neg e] at hk
      rcases widL_no hk with z | ⟨z1, z2⟩
      · exact hns.hφ k z
      · exact ⟨by have := blk_lt h.ns.b2; omega, z2, by omega⟩
  have p3 : ∀ k, wr.heap.size ≤ k → k ≠ gd → k < V.heap.size → ψ k = 1 := by
    intro k h1 h2 h3
    rw [← hψ]
    simp only [if_neg h2]
    exact widL_new (h.ns.free (.inr (.inr h1))) h1 h3
  have q1 : ∀ k, Fin1 φ k → ¬ (k = gp ∨ k = q3 ∨ wv.ownBlock = some k) := fun k hk f => (hF k f).2.1 hk
  have v1 : ∀ k, Fin1 φ k → k < V.heap.size → Fin1 ψ k := fun k hk _ => by
    have e : φ k = 1 := hk
    exact (p1 k (by omega)).trans e
  refine ⟨ψ, hns.label p1 p2, ?_, ?_⟩
  · rw [Nd.wadd_kd, Nd.wadd_a, Nd.wadd_b, Nd.wadd_nm]; exact hb
  · refine ⟨?_, ?_, ?_, ?_, ?_, fun k hk => ?_, fun k hk => ?_⟩
    · rw [Nd.wadd_ex]; exact (h.on.ex.far t q1).via v1
    · rw [Nd.wadd_ks]; exact row_touch h.on.rk t (fun k hk f => (hF k f).2.2.2.1 (h.on.fk k hk))
    · rw [Nd.wadd_ks]; exact h.on.lk.mono (fun x ys hx => NT.via v1 _ _ _ (NT.touch t q1 _ _ _ hx))
    · rw [Nd.wadd_ws, List.length_append]; exact hr
    · rw [Nd.wadd_ws]
      exact LsAt.snoc (h.on.lw.mono (fun x ys hx => (hx.touch t q1).via v1)) ⟨a, b, s, A', m', c', rfl, he.via (fun k hk hl => p3 k hk.1 hk.2 hl)⟩
    · rw [p1 k (by rw [h.on.fk k hk]; omega)]; exact h.on.fk k hk
    · have e1 : gd = k := by simpa [Value.ownBlock] using hk
      subst e1
      rw [← hψ]
      simp only [if_true]
theorem another_all {w wr : World} {gp g n cp q3 B : Nat} {ts : List Tk} {σ : St} {φ : Nat → Nat} {op : List Nd} {sv : Value} {cs : List Value} {nd : Nd} {e0 e1 : Int} {e2 : ByteArray} {A : Option Addr} {m c : Nat} {kv wv : Value} {D : Nat} {xs ys : List Value} (hok : NamesOk ts) (hnk : NumsOk ts) (hv : LV w B) (hB : B ≤ gp)
    (h : NC w wr gp q3 φ op sv cs nd e0 e1 e2 A m c kv wv D xs ys) (hp : PS2 59 wr gp g n cp ts σ) (hgp : gp < w.heap.size) (hgl : g < w.heap.size) (hq : w.heap.size < q3) (hk : nd.kd ≤ 15) (hw : nd.ws.length ≤ 1000000) :
    Calls Tryd.prog 98 #[.pointer (some ⟨gp, 0, none⟩), .pointer (some ⟨q3, 0, none⟩)] wr fun x V => x = .returned (.bool (anoV ts nd σ)) ∧ ∃ ψ wv' ys', NC w V gp q3 ψ op sv cs (anoN ts nd σ) e0 e1 e2 A m c kv wv' D xs ys' ∧ PS2 59 V gp g n cp ts (anoS ts nd σ) := by
  obtain ⟨kA, kc, rfl, hk1, hk2⟩ := row_any h.on.rk
  by_cases hf : mostL nd.kd ≤ 1
  · unfold anoV anoN anoS
    rw [if_pos hf, if_pos hf, if_pos hf]
    refine (another_few hk hf h.nb).mono ?_
    rintro x V ⟨rfl, rfl⟩
    exact ⟨rfl, φ, wv, ys, h, hp⟩
  · by_cases hi : (decide (0 < nd.ks.length) && isS ts [125] σ) = true
    · unfold anoV anoN anoS
      rw [if_neg hf, if_neg hf, if_neg hf, if_pos hi, if_pos hi, hi]
      simp only [Bool.and_eq_true, decide_eq_true_eq] at hi
      refine (another_shut hk hf h.nb hp hi.1 hi.2).mono ?_
      rintro x V ⟨rfl, h1, h2⟩
      exact ⟨rfl, φ, wv, ys, h.go h2 hgp hq, h1⟩
    · have hi2 : (decide (0 < nd.ks.length) && isS ts [125] σ) = false := by
        cases hz : (decide (0 < nd.ks.length) && isS ts [125] σ) with
        | true => exact absurd hz hi
        | false => rfl
      by_cases h11 : nd.kd = 11
      · have hmo : mostL nd.kd = 16 := by rw [h11]; rfl
        unfold anoV anoN anoS anoF
        rw [if_neg hf, if_neg hf, if_neg hf, if_neg hi, if_neg hi, if_pos h11, if_pos h11, hi2, hmo]
        have hnb : NB wr q3 (.int .i64 11) (.int .i64 (nd.a : Int)) (.int .i64 (nd.b : Int)) (.string (bs nd.nm)) (.int .i64 e0) (.int .i64 e1) (.string e2) (.slice A m c) (.slice kA nd.ks.length kc) wv := by
          have := h.nb
          rw [h11] at this
          exact this
        refine (another_pick hok hnk (hv.touchP h.ns.t hB) hB hnb hgp hgl h.ns.t.size (by omega) h.on.rw_ hw hp hi2).mono ?_
        rintro x V ⟨rfl, ea, eb, es, eA, em, ec, gd, cap, hb, hr, hat, he, hp2, ht⟩
        obtain ⟨ψ, hN⟩ := h.weigh hgp hq (by rw [h11]; exact hb) hr hat he ht
        exact ⟨rfl, ψ, _, _, hN, hp2⟩
      · unfold anoV anoN anoS anoF
        rw [if_neg hf, if_neg hf, if_neg hf, if_neg hi, if_neg hi, if_neg h11, if_neg h11, hi2]
        refine (another_more hk hf h11 h.nb (by omega) hp hi2).mono ?_
        rintro x V ⟨rfl, h1, h2⟩
        exact ⟨rfl, φ, wv, ys, h.go h2 hgp hq, h1⟩
end Go.Proofs.YtanecdpcenkoeaaDoor

/-
  The stack of package tree's node: a node is pushed, one is popped and gets a kid. No condition beyond those that each theorem names.
-/
namespace Go.Proofs.YtanecdpcenkoeaaDoor
open Go.ChangeShapes Go.WideShapes Go.ChangeAt Go.RowKit
set_option maxRecDepth 100000
set_option maxHeartbeats 4000000

/-- Cells stored one behind another. -/
def setL (w : World) (g : Nat) : Nat → List Value → World
  | _, [] => w
  | i, v :: l => setL (w.setCell ⟨g, i, none⟩ v) g (i + 1) l
theorem setL_touch {g : Nat} : ∀ (l : List Value) (i : Nat) (w : World), Touch (fun b => b = g) w (setL w g i l)
  | [], _, w => Touch.refl _ w
  | v :: l, i, w => ((Touch.refl (fun b => b = g) w).setCell (p := ⟨g, i, none⟩) (.inl rfl) v).same (setL_touch l (i + 1) _)
theorem row_setL {base g n cap size : Nat} {e : TypeId} : ∀ (l zs xs : List Value) (w : World), zs.length = l.length → w.ownsRow base e size (.slice (some ⟨g, 0, none⟩) n cap) n (xs ++ zs) → (setL w g xs.length l).ownsRow base e size (.slice (some ⟨g, 0, none⟩) n cap) n (xs ++ l)
  | [], zs, xs, w, hl, h => by
    have : zs = [] := List.eq_nil_of_length_eq_zero hl
    subst this
    exact h
  | v :: l, [], xs, w, hl, h => by simp at hl
  | v :: l, z :: zs, xs, w, hl, h => by
    have h1 := (h.stored xs.length v).1
    have e1 : (xs ++ z :: zs).set xs.length v = (xs ++ [v]) ++ zs := by simp
    rw [e1] at h1
    have h2 := row_setL l zs (xs ++ [v]) _ (by simpa using hl) h1
    rw [List.length_append] at h2
    simpa [setL] using h2
section
variable {w wr wx W : World} {gp q3 gs gk cap svc : Nat} {φ : Nat → Nat} {op : List Nd} {sv : Value} {cs : List Value} {nd p : Nd} {e0 e1 : Int} {e2 : ByteArray} {A : Option Addr} {m c : Nat} {kv wv : Value} {D : Nat} {xs ys : List Value}
/-- A node waits for a kid. -/
theorem NC.push (h : NC w wr gp q3 φ op sv cs nd e0 e1 e2 A m c kv wv D xs ys) (hq : w.heap.size < q3) (TR : Touch (fun b => sv.ownBlock = some b) wr wx)
    (hown : wx.ownsRow w.heap.size 46 10 (.slice (some ⟨gs, 0, none⟩) (op.length + 1) cap) (op.length + 1) (cs ++ onL nd e0 e1 e2 A m c kv wv)) (hat : sv.ownBlock = some gs ∨ wr.heap.size ≤ gs) :
    (∃ ψ, NS w wx gp q3 ψ (nd :: op) (.slice (some ⟨gs, 0, none⟩) (op.length + 1) cap) (cs ++ onL nd e0 e1 e2 A m c kv wv)) ∧ NB wx q3 (.int .i64 (nd.kd : Int)) (.int .i64 (nd.a : Int)) (.int .i64 (nd.b : Int)) (.string (bs nd.nm)) (.int .i64 e0) (.int .i64 e1) (.string e2) (.slice A m c) kv wv := by
  have h3 := h.ns.free (b := q3) (.inr (.inl rfl))
  have hqs := blk_lt h.nb
  have hb2 := blk_lt h.ns.b2
  have hgl : gs < wx.heap.size := (hown.lt gs rfl).2
  have hF : ∀ b, sv.ownBlock = some b → φ b = 2 := h.ns.hs
  have hgq : gs ≠ q3 := by
    rcases hat with e | e
    · intro z; have := hF gs e; rw [z] at this; omega
    · omega
  have hg2 : w.heap.size < gs := by
    rcases hat with e | e
    · have := h.ns.hφ gs (by rw [hF gs e]; decide); omega
    · omega
  have hgf : φ gs = 2 ∨ φ gs = 0 := by
    rcases hat with e | e
    · exact .inl (hF gs e)
    · exact .inr (h.ns.free (.inr (.inr e)))
  obtain ⟨ψ, hψ⟩ : ∃ ψ : Nat → Nat, (fun k => if k = gs then 2 else φ k) = ψ := ⟨_, rfl⟩
  have p1 : ∀ k, φ k ≠ 0 → ψ k = φ k := by
    intro k hk
    rw [← hψ]
    by_cases e : k = gs
    · simp only [if_pos e]; subst e; omega
    · simp only [if_neg e]
  have p2 : ∀ k, ψ k ≠ 0 → w.heap.size < k ∧ k < wx.heap.size ∧ k ≠ q3 := by
    intro k hk
    rw [← hψ] at hk
    by_cases e : k = gs
    · subst e; exact ⟨hg2, hgl, hgq⟩
    · simp only [if_neg e] at hk
      have := h.ns.hφ k hk
      have := TR.size
      omega
  have hw2 : sv.ownBlock ≠ some w.heap.size := fun e => by have := h.ns.hφ _ (by rw [hF _ e]; decide); omega
  have tl : ∀ b i, sv.ownBlock = some b → φ b ≠ 1 ∧ φ b ≠ 3 + 2 * i ∧ φ b ≠ 4 + 2 * i := fun b i hb => by have := hF b hb; omega
  have n1 : ∀ b, φ b = 1 → ψ b = 1 := fun b hb => by rw [p1 b (by omega)]; exact hb
  refine ⟨⟨ψ, h.ns.t.trans TR (fun k hk => .inr (row_base h.ns.rs k hk)), h.ns.b2.touch TR hw2, by rw [List.length_cons]; exact hown, ?_, fun b hb => ?_, p2⟩, h.nb.touch TR (fun e => by have := hF _ e; omega)⟩
  · refine ⟨cs, _, rfl, ?_, ?_⟩
    · exact (h.ns.st.touch TR (fun b hb => ⟨(tl b 0 hb).1, fun i _ => (tl b i hb).2⟩)).label n1 (fun b i _ hb => p1 b (by omega))
    · exact ⟨e0, e1, e2, A, m, c, kv, wv, D, xs, ys, rfl, (h.on.touch TR (fun b hb => tl b op.length hb)).label n1 (fun b hb => p1 b (by omega))⟩
  · have e1 : gs = b := by simpa [Value.ownBlock] using hb
    subst e1
    rw [← hψ]
    simp only [if_true]
end
section
variable {w wr W : World} {gp q3 gs gk cap svc : Nat} {φ : Nat → Nat} {op : List Nd} {cs0 : List Value} {nd p : Nd} {e0 e1 : Int} {e2 : ByteArray} {A : Option Addr} {m c : Nat} {kv wv : Value} {D : Nat} {xs ys : List Value} {f0 f1 : Int} {f2 : ByteArray} {A' : Option Addr} {m' c' : Nat} {kvp wvp : Value} {D' : Nat} {xsp ysp : List Value}
/-- The node read is the last one's kid: its rows are finished. -/
theorem NC.pop (hns : NS w wr gp q3 φ (p :: op) (.slice (some ⟨gs, 0, none⟩) (op.length + 1) svc) (cs0 ++ onL p f0 f1 f2 A' m' c' kvp wvp)) (hst : StAt wr w.heap.size φ op cs0) (hop : OnC wr w.heap.size φ op.length p f0 f1 f2 A' m' c' kvp wvp D' xsp ysp)
    (hnd : OnC wr w.heap.size φ (op.length + 1) nd e0 e1 e2 A m c kv wv D xs ys) (hq : w.heap.size < q3) (hqr : q3 < wr.heap.size)
    (t : Touch (fun b => b = gs ∨ kvp.ownBlock = some b ∨ b = q3) wr W)
    (hk : W.ownsRow w.heap.size 46 10 (.slice (some ⟨gk, 0, none⟩) (p.ks.length + 1) cap) (p.ks.length + 1) (xsp ++ onL nd e0 e1 e2 A m c kv wv)) (hat : kvp.ownBlock = some gk ∨ wr.heap.size ≤ gk)
    (hs : W.ownsRow w.heap.size 46 10 (.slice (some ⟨gs, 0, none⟩) (op.length + 1) svc) (op.length + 1) (cs0 ++ onL p f0 f1 f2 A' m' c' (.slice (some ⟨gk, 0, none⟩) (p.ks.length + 1) cap) wvp))
    (hb : NB W q3 (.int .i64 (p.kd : Int)) (.int .i64 (p.a : Int)) (.int .i64 (p.b : Int)) (.string (bs p.nm)) (.int .i64 f0) (.int .i64 f1) (.string f2) (.slice A' m' c') (.slice (some ⟨gk, 0, none⟩) (p.ks.length + 1) cap) wvp) :
    ∃ ψ E, NC w W gp q3 ψ op (.slice (some ⟨gs, 0, none⟩) op.length svc) cs0 (p.add nd) f0 f1 f2 A' m' c' (.slice (some ⟨gk, 0, none⟩) (p.ks.length + 1) cap) wvp E (xsp ++ onL nd e0 e1 e2 A m c kv wv) ysp := by
  have h3 := hns.free (b := q3) (.inr (.inl rfl))
  have hb2 := blk_lt hns.b2
  have hgs : φ gs = 2 := hns.hs gs rfl
  have hkl : gk < W.heap.size := (hk.lt gk rfl).2
  have hgk : φ gk = 3 + 2 * op.length ∨ φ gk = 0 := by
    rcases hat with e | e
    · exact .inl (hop.fk gk e)
    · exact .inr (hns.free (.inr (.inr e)))
  have hkq : gk ≠ q3 := by
    rcases hat with e | e
    · intro z; have := hop.fk gk e; rw [z] at this; omega
    · omega
  have hk2 : w.heap.size < gk := by
    rcases hat with e | e
    · have := hns.hφ gk (by rw [hop.fk gk e]; omega); omega
    · omega
  have hF : ∀ b, (b = gs ∨ kvp.ownBlock = some b ∨ b = q3) → φ b = 2 ∨ φ b = 3 + 2 * op.length ∨ φ b = 0 := by
    intro b hb
    rcases hb with rfl | hb | rfl
    · exact .inl hgs
    · exact .inr (.inl (hop.fk b hb))
    · exact .inr (.inr h3)
  have hFw : ∀ b, (b = gs ∨ kvp.ownBlock = some b ∨ b = q3) → w.heap.size < b := by
    intro b hb
    rcases hb with rfl | hb | rfl
    · exact (hns.hφ b (by omega)).1
    · exact (hns.hφ b (by rw [hop.fk b hb]; omega)).1
    · exact hq
  obtain ⟨ψ, hψ⟩ : ∃ ψ : Nat → Nat, (fun k => if k = gk then 3 + 2 * op.length else if φ k = 3 + 2 * (op.length + 1) ∨ φ k = 4 + 2 * (op.length + 1) then 1 else φ k) = ψ := ⟨_, rfl⟩
  have p1 : ∀ k, φ k ≠ 0 → φ k ≠ 3 + 2 * (op.length + 1) → φ k ≠ 4 + 2 * (op.length + 1) → ψ k = φ k := by
    intro k h0 h1 h2
    rw [← hψ]
    by_cases e : k = gk
    · simp only [if_pos e]; subst e; omega
    · simp only [if_neg e]
      rw [if_neg (by omega)]
  have p2 : ∀ k, ψ k ≠ 0 → w.heap.size < k ∧ k < W.heap.size ∧ k ≠ q3 := by
    intro k hk
    rw [← hψ] at hk
    by_cases e : k = gk
    · subst e; exact ⟨hk2, hkl, hkq⟩
    · simp only [if_neg e] at hk
      have h0 : φ k ≠ 0 := by
        intro z
        rw [if_neg (by omega)] at hk
        exact hk z
      have := hns.hφ k h0
      have := t.size
      omega
  have p3 : ∀ b, φ b = 1 → ψ b = 1 := fun b hb => by rw [p1 b (by omega) (by omega) (by omega)]; exact hb
  have p4 : ∀ b, φ b = 1 ∨ φ b = 3 + 2 * (op.length + 1) ∨ φ b = 4 + 2 * (op.length + 1) → ψ b = 1 := by
    intro b hb
    rcases hb with hb | hb
    · exact p3 b hb
    · rw [← hψ]
      have e : b ≠ gk := by rintro rfl; omega
      simp only [if_neg e]
      rw [if_pos hb]
  have tF : ∀ b i, i < op.length + 2 → i ≠ op.length → (b = gs ∨ kvp.ownBlock = some b ∨ b = q3) → φ b ≠ 1 ∧ φ b ≠ 3 + 2 * i ∧ φ b ≠ 4 + 2 * i := fun b i hi hne hb => by have := hF b hb; omega
  have q1 : ∀ k, Fin1 φ k → ¬ (k = gs ∨ kvp.ownBlock = some k ∨ k = q3) := fun k hk f => by have := hF k f; have e : φ k = 1 := hk; omega
  have v1 : ∀ k, Fin1 φ k → k < W.heap.size → Fin1 ψ k := fun k hk _ => p3 k hk
  have hnt := (hnd.touch t (fun b hb => tF b (op.length + 1) (by omega) (by omega) hb)).done p4
  have hcl : cs0.length = op.length * 10 := hst.len
  have hcut := ownsRow_pop hcl hs
  refine ⟨ψ, max D' (D + 1), ⟨⟨hns.t.trans t (fun b hb => .inr (Nat.le_of_lt (hFw b hb))), hns.b2.touch t (fun e => by have := hFw _ e; omega), hcut, ?_, fun b hb => ?_, p2⟩, ?_, ?_⟩⟩
  · exact (hst.touch t (fun b hb => ⟨(tF b (op.length + 1) (by omega) (by omega) hb).1, fun i hi => (tF b i (by omega) (by omega) hb).2⟩)).label p3 (fun b i hi hb => p1 b (by omega) (by omega) (by omega))
  · have e1 : gs = b := by simpa [Value.ownBlock] using hb
    subst e1
    rw [p1 gs (by omega) (by omega) (by omega)]; exact hgs
  · rw [Nd.add_kd, Nd.add_a, Nd.add_b, Nd.add_nm]; exact hb
  · refine ⟨?_, ?_, ?_, ?_, ?_, fun b hb => ?_, fun b hb => ?_⟩
    · rw [Nd.add_ex]; exact (hop.ex.far t q1).via v1
    · rw [Nd.add_ks, List.length_append]; exact hk
    · rw [Nd.add_ks]
      exact LsAt.snoc (hop.lk.mono (fun x ys hx => NT.deeper _ _ _ _ (Nat.le_max_left _ _) (NT.via v1 _ _ _ (NT.touch t q1 _ _ _ hx)))) (NT.deeper _ _ _ _ (Nat.le_max_right _ _) hnt)
    · rw [Nd.add_ws]; exact row_touch hop.rw_ t (fun b hb f => by have e := hop.fw b hb; have := hF b f; omega)
    · rw [Nd.add_ws]; exact hop.lw.mono (fun x ys hx => (hx.touch t q1).via v1)
    · have e1 : gk = b := by simpa [Value.ownBlock] using hb
      subst e1
      rw [← hψ]
      simp only [if_true]
    · have e := hop.fw b hb
      rw [p1 b (by omega) (by omega) (by omega)]; exact e
end
end Go.Proofs.YtanecdpcenkoeaaDoor

/-
  The last open node of package tree's node gets a kid, store by store. No condition beyond those that each theorem names.
-/
namespace Go.Proofs.YtanecdpcenkoeaaDoor
open Go.ChangeShapes Go.WideShapes Go.ChangeAt Go.RowKit
set_option maxRecDepth 100000
set_option maxHeartbeats 4000000

theorem row_top10 {W : World} {base gs k svc : Nat} {e : TypeId} {cs0 : List Value} {x0 x1 x2 x3 x4 x5 x6 x7 x8 x9 : Value} (hl : cs0.length = k * 10) (h : W.ownsRow base e 10 (.slice (some ⟨gs, 0, none⟩) (k + 1) svc) (k + 1) (cs0 ++ [x0, x1, x2, x3, x4, x5, x6, x7, x8, x9])) :
    (W.cell? ⟨gs, k * 10, none⟩ = some x0 ∧ W.cell? ⟨gs, k * 10 + 1, none⟩ = some x1 ∧ W.cell? ⟨gs, k * 10 + 2, none⟩ = some x2 ∧ W.cell? ⟨gs, k * 10 + 3, none⟩ = some x3 ∧ W.cell? ⟨gs, k * 10 + 4, none⟩ = some x4 ∧ W.cell? ⟨gs, k * 10 + 5, none⟩ = some x5 ∧ W.cell? ⟨gs, k * 10 + 6, none⟩ = some x6 ∧ W.cell? ⟨gs, k * 10 + 7, none⟩ = some x7 ∧ W.cell? ⟨gs, k * 10 + 8, none⟩ = some x8 ∧ W.cell? ⟨gs, k * 10 + 9, none⟩ = some x9) ∧ (W.frozen? ⟨gs, k * 10, none⟩ = false ∧ W.frozen? ⟨gs, k * 10 + 1, none⟩ = false ∧ W.frozen? ⟨gs, k * 10 + 2, none⟩ = false ∧ W.frozen? ⟨gs, k * 10 + 3, none⟩ = false ∧ W.frozen? ⟨gs, k * 10 + 4, none⟩ = false ∧ W.frozen? ⟨gs, k * 10 + 5, none⟩ = false ∧ W.frozen? ⟨gs, k * 10 + 6, none⟩ = false ∧ W.frozen? ⟨gs, k * 10 + 7, none⟩ = false ∧ W.frozen? ⟨gs, k * 10 + 8, none⟩ = false ∧ W.frozen? ⟨gs, k * 10 + 9, none⟩ = false) := by
  have q : ∀ j, j < 10 → W.cell? ⟨gs, k * 10 + j, none⟩ = [x0, x1, x2, x3, x4, x5, x6, x7, x8, x9][j]? := fun j hj => by rw [h.cellAt _ (by omega), List.getElem?_append_right (by omega), hl]; congr 1; omega
  exact ⟨⟨q 0 (by decide), q 1 (by decide), q 2 (by decide), q 3 (by decide), q 4 (by decide), q 5 (by decide), q 6 (by decide), q 7 (by decide), q 8 (by decide), q 9 (by decide)⟩, ⟨h.frozenAt _, h.frozenAt _, h.frozenAt _, h.frozenAt _, h.frozenAt _, h.frozenAt _, h.frozenAt _, h.frozenAt _, h.frozenAt _, h.frozenAt _⟩⟩
theorem row_set8 {W : World} {base gs k svc : Nat} {e : TypeId} {cs0 : List Value} {x0 x1 x2 x3 x4 x5 x6 x7 x8 x9 : Value} (hl : cs0.length = k * 10) (h : W.ownsRow base e 10 (.slice (some ⟨gs, 0, none⟩) (k + 1) svc) (k + 1) (cs0 ++ [x0, x1, x2, x3, x4, x5, x6, x7, x8, x9])) (v : Value) :
    (W.setCell ⟨gs, k * 10 + 8, none⟩ v).ownsRow base e 10 (.slice (some ⟨gs, 0, none⟩) (k + 1) svc) (k + 1) (cs0 ++ [x0, x1, x2, x3, x4, x5, x6, x7, v, x9]) := by
  have h1 := (h.stored (k * 10 + 8) v).1
  have e : (cs0 ++ [x0, x1, x2, x3, x4, x5, x6, x7, x8, x9]).set (k * 10 + 8) v = cs0 ++ [x0, x1, x2, x3, x4, x5, x6, x7, v, x9] := by
    rw [← hl]
    simp
  rw [e] at h1
  exact h1
theorem setL_blk {g : Nat} {t : TypeId} {fr : Nat × Nat} : ∀ (l zs xs : List Value) (w : World), zs.length = l.length → w.heap[g]? = some (.cells (xs ++ zs).toArray t fr) → (setL w g xs.length l).heap[g]? = some (.cells (xs ++ l).toArray t fr)
  | [], zs, xs, w, hl, h => by
    have : zs = [] := List.eq_nil_of_length_eq_zero hl
    subst this
    exact h
  | v :: l, [], xs, w, hl, h => by simp at hl
  | v :: l, z :: zs, xs, w, hl, h => by
    have h1 := set_blk h xs.length v
    have e1 : (xs ++ z :: zs).toArray.setIfInBounds xs.length v = ((xs ++ [v]) ++ zs).toArray := by simp
    rw [e1] at h1
    have h2 := setL_blk l zs (xs ++ [v]) _ (by simpa using hl) h1
    rw [List.length_append] at h2
    simpa [setL] using h2
theorem NB.setL {w : World} {q : Nat} {v0 v1 v2 v3 v4 v5 v6 v7 v8 v9 : Value} (h : NB w q v0 v1 v2 v3 v4 v5 v6 v7 v8 v9) (x0 x1 x2 x3 x4 x5 x6 x7 x8 x9 : Value) : NB (setL w q 0 [x0, x1, x2, x3, x4, x5, x6, x7, x8, x9]) q x0 x1 x2 x3 x4 x5 x6 x7 x8 x9 :=
  setL_blk [x0, x1, x2, x3, x4, x5, x6, x7, x8, x9] [v0, v1, v2, v3, v4, v5, v6, v7, v8, v9] [] w rfl h
theorem NB.drew {w : World} {q : Nat} {v0 v1 v2 v3 v4 v5 v6 v7 v8 v9 : Value} (h : NB w q v0 v1 v2 v3 v4 v5 v6 v7 v8 v9) : NB w.drew q v0 v1 v2 v3 v4 v5 v6 v7 v8 v9 := h
theorem PSt.touchX2 {T : TypeId} {w w' : World} {F : Nat → Prop} {gp g n cp : Nat} {ts : List Tk} {k e : Nat} (h : PSt T w gp g n cp ts k e) (t : Touch F w w') (h1 : ¬ F gp) (h2 : ¬ F g) : PSt T w' gp g n cp ts k e := by
  refine ⟨(t.block gp (blk_lt h.blk) h1).trans h.blk, ?_, h.ne, h.len, h.le, h.small, h.txs⟩
  refine ⟨Nat.lt_of_lt_of_le h.tl.lt t.size, fun k x hx => ?_⟩
  have e := fun j => t.cell (p := ⟨g, j, none⟩) h.tl.lt h2
  obtain ⟨a, b, c, d⟩ := h.tl.at_ k x hx
  exact ⟨(e _).trans a, (e _).trans b, (e _).trans c, (e _).trans d⟩
section
variable {w V U0 wx U : World} {gp g n cp q3 gs gk cap svc : Nat} {ts : List Tk} {st : St} {φ : Nat → Nat} {r : List Nd} {cs0 : List Value} {nd p : Nd} {e0 e1 : Int} {e2 : ByteArray} {A : Option Addr} {m c : Nat} {kv wv : Value} {D : Nat} {xs ys zs : List Value} {f0 f1 : Int} {f2 : ByteArray} {A' : Option Addr} {m' c' : Nat} {kvp wvp : Value} {D' : Nat} {xsp ysp : List Value}
/-- Behind the append of a kid: the row's new value is stored in the stack. -/
theorem pop_mid (hN : NC w V gp q3 φ (p :: r) (.slice (some ⟨gs, 0, none⟩) (r.length + 1) svc) (cs0 ++ onL p f0 f1 f2 A' m' c' kvp wvp) nd e0 e1 e2 A m c kv wv D xs ys) (hst : StAt V w.heap.size φ r cs0) (hop : OnC V w.heap.size φ r.length p f0 f1 f2 A' m' c' kvp wvp D' xsp ysp)
    (t0 : Touch NoB V U0) (TR : Touch (fun b => kvp.ownBlock = some b) U0 wx) (hown : wx.ownsRow w.heap.size 46 10 (.slice (some ⟨gk, 0, none⟩) (p.ks.length + 1) cap) (p.ks.length + 1) (xsp ++ zs)) (hat : kvp.ownBlock = some gk ∨ U0.heap.size ≤ gk) :
    (wx.cell? ⟨gs, r.length * 10 + 8, none⟩ = some kvp ∧ wx.frozen? ⟨gs, r.length * 10 + 8, none⟩ = false) ∧ gk ≠ gs ∧ gk ≠ q3 ∧ gs ≠ q3 ∧ (kvp.ownBlock = some gk ∨ V.heap.size ≤ gk) ∧
    ∀ U, wx.setCell ⟨gs, r.length * 10 + 8, none⟩ (.slice (some ⟨gk, 0, none⟩) (p.ks.length + 1) cap) = U → U.ownsRow w.heap.size 46 10 (.slice (some ⟨gk, 0, none⟩) (p.ks.length + 1) cap) (p.ks.length + 1) (xsp ++ zs) ∧ U.ownsRow w.heap.size 46 10 (.slice (some ⟨gs, 0, none⟩) (r.length + 1) svc) (r.length + 1) (cs0 ++ [.int .i64 (p.kd : Int), .int .i64 (p.a : Int), .int .i64 (p.b : Int), .string (bs p.nm), .int .i64 f0, .int .i64 f1, .string f2, .slice A' m' c', .slice (some ⟨gk, 0, none⟩) (p.ks.length + 1) cap, wvp]) ∧
      Touch (fun b => b = gs ∨ kvp.ownBlock = some b) V U ∧ NB U q3 (.int .i64 (nd.kd : Int)) (.int .i64 (nd.a : Int)) (.int .i64 (nd.b : Int)) (.string (bs nd.nm)) (.int .i64 e0) (.int .i64 e1) (.string e2) (.slice A m c) (kv) (wv) := by
  have hgs : φ gs = 2 := hN.ns.hs gs rfl
  have h3 := hN.ns.free (b := q3) (.inr (.inl rfl))
  have hgl := (hN.ns.hφ gs (by omega)).2.1
  have hgq : gs ≠ q3 := (hN.ns.hφ gs (by omega)).2.2
  have hql := blk_lt hN.nb
  have hat' : kvp.ownBlock = some gk ∨ V.heap.size ≤ gk := hat.imp (fun e => e) (fun e => Nat.le_trans t0.size e)
  have o1 : kvp.ownBlock ≠ some gs := fun e => by have := hop.fk gs e; omega
  have o2 : kvp.ownBlock ≠ some q3 := fun e => by have := hop.fk q3 e; omega
  have k1 : gk ≠ gs := by
    rintro rfl
    rcases hat' with e | e
    · exact o1 e
    · omega
  have k2 : gk ≠ q3 := by
    rintro rfl
    rcases hat' with e | e
    · exact o2 e
    · omega
  have hcl : cs0.length = r.length * 10 := hst.len
  have hrs : wx.ownsRow w.heap.size 46 10 (.slice (some ⟨gs, 0, none⟩) (r.length + 1) svc) (r.length + 1) (cs0 ++ [.int .i64 (p.kd : Int), .int .i64 (p.a : Int), .int .i64 (p.b : Int), .string (bs p.nm), .int .i64 f0, .int .i64 f1, .string f2, .slice A' m' c', kvp, wvp]) := row_touch (row_touch hN.ns.rs t0 (fun _ _ z => z)) TR (fun k hk e => by
    have e1 : gs = k := by simpa [Value.ownBlock] using hk
    exact o1 (e1 ▸ e))
  have htop := row_top10 hcl hrs
  refine ⟨⟨htop.1.2.2.2.2.2.2.2.2.1, hrs.frozenAt _⟩, k1, k2, hgq, hat', fun U hU => ?_⟩
  subst hU
  have tS := (Touch.refl (fun b => b = gs) wx).setCell (p := ⟨gs, r.length * 10 + 8, none⟩) (.inl rfl) (.slice (some ⟨gk, 0, none⟩) (p.ks.length + 1) cap)
  refine ⟨row_aside hown (fun e => k1 (by simpa [Value.ownBlock] using e)), row_set8 hcl hrs _, ?_, ((hN.nb.touch t0 (fun z => z)).touch TR o2).touch tS (fun e => hgq e.symm)⟩
  have a1 : Touch (fun b => b = gs ∨ kvp.ownBlock = some b) V U0 := Touch.trans (Touch.refl _ V) t0 (fun _ z => z.elim)
  exact (a1.trans TR (fun b hb => .inl (.inr hb))).trans tS (fun b hb => .inl (.inl hb))
theorem pop_tl {V U1 U : World} {gs gk : Nat} {kvp : Value} (t1 : Touch (fun b => b = gs ∨ kvp.ownBlock = some b) V U1) (t2 : Touch (fun b => b = gk) U1 U) (hat : kvp.ownBlock = some gk ∨ V.heap.size ≤ gk) : Touch (fun b => b = gs ∨ kvp.ownBlock = some b) V U :=
  t1.trans t2 (fun b hb => by
    subst hb
    exact hat.imp (fun e => .inr e) (fun e => e))
/-- Then the node is read back from the stack. -/
theorem pop_fin (hN : NC w V gp q3 φ (p :: r) (.slice (some ⟨gs, 0, none⟩) (r.length + 1) svc) (cs0 ++ onL p f0 f1 f2 A' m' c' kvp wvp) nd e0 e1 e2 A m c kv wv D xs ys) (hst : StAt V w.heap.size φ r cs0) (hop : OnC V w.heap.size φ r.length p f0 f1 f2 A' m' c' kvp wvp D' xsp ysp)
    (hp : PS2 59 V gp g n cp ts st) (hgp : gp < w.heap.size) (hgl : g < w.heap.size) (hq : w.heap.size < q3) (hat : kvp.ownBlock = some gk ∨ V.heap.size ≤ gk) (hkq : gk ≠ q3) (hgq : gs ≠ q3)
    (hk : U.ownsRow w.heap.size 46 10 (.slice (some ⟨gk, 0, none⟩) (p.ks.length + 1) cap) (p.ks.length + 1) (xsp ++ [.int .i64 (nd.kd : Int), .int .i64 (nd.a : Int), .int .i64 (nd.b : Int), .string (bs nd.nm), .int .i64 e0, .int .i64 e1, .string e2, .slice A m c, kv, wv])) (hs : U.ownsRow w.heap.size 46 10 (.slice (some ⟨gs, 0, none⟩) (r.length + 1) svc) (r.length + 1) (cs0 ++ [.int .i64 (p.kd : Int), .int .i64 (p.a : Int), .int .i64 (p.b : Int), .string (bs p.nm), .int .i64 f0, .int .i64 f1, .string f2, .slice A' m' c', .slice (some ⟨gk, 0, none⟩) (p.ks.length + 1) cap, wvp])) (t : Touch (fun b => b = gs ∨ kvp.ownBlock = some b) V U) (hb : NB U q3 (.int .i64 (nd.kd : Int)) (.int .i64 (nd.a : Int)) (.int .i64 (nd.b : Int)) (.string (bs nd.nm)) (.int .i64 e0) (.int .i64 e1) (.string e2) (.slice A m c) (kv) (wv)) :
    (∃ χ E, NC w ((setL U q3 0 [.int .i64 (p.kd : Int), .int .i64 (p.a : Int), .int .i64 (p.b : Int), .string (bs p.nm), .int .i64 f0, .int .i64 f1, .string f2, .slice A' m' c', .slice (some ⟨gk, 0, none⟩) (p.ks.length + 1) cap, wvp]).drew) gp q3 χ r (.slice (some ⟨gs, 0, none⟩) r.length svc) cs0 (p.add nd) f0 f1 f2 A' m' c' (.slice (some ⟨gk, 0, none⟩) (p.ks.length + 1) cap) wvp E (xsp ++ onL nd e0 e1 e2 A m c kv wv) ysp) ∧ PS2 59 ((setL U q3 0 [.int .i64 (p.kd : Int), .int .i64 (p.a : Int), .int .i64 (p.b : Int), .string (bs p.nm), .int .i64 f0, .int .i64 f1, .string f2, .slice A' m' c', .slice (some ⟨gk, 0, none⟩) (p.ks.length + 1) cap, wvp]).drew) gp g n cp ts st := by
  have hbY := (hb.setL (.int .i64 (p.kd : Int)) (.int .i64 (p.a : Int)) (.int .i64 (p.b : Int)) (.string (bs p.nm)) (.int .i64 f0) (.int .i64 f1) (.string f2) (.slice A' m' c') (.slice (some ⟨gk, 0, none⟩) (p.ks.length + 1) cap) (wvp)).drew
  have tS : Touch (fun b => b = q3) U ((setL U q3 0 [.int .i64 (p.kd : Int), .int .i64 (p.a : Int), .int .i64 (p.b : Int), .string (bs p.nm), .int .i64 f0, .int .i64 f1, .string f2, .slice A' m' c', .slice (some ⟨gk, 0, none⟩) (p.ks.length + 1) cap, wvp]).drew) := (setL_touch _ _ _).drew
  have h3 := hN.ns.free (b := q3) (.inr (.inl rfl))
  have tA : Touch (fun b => b = gs ∨ kvp.ownBlock = some b ∨ b = q3) V ((setL U q3 0 [.int .i64 (p.kd : Int), .int .i64 (p.a : Int), .int .i64 (p.b : Int), .string (bs p.nm), .int .i64 f0, .int .i64 f1, .string f2, .slice A' m' c', .slice (some ⟨gk, 0, none⟩) (p.ks.length + 1) cap, wvp]).drew) := (t.mono (fun b hb => hb.imp (fun e => e) (fun e => .inl e))).trans tS (fun b hb => .inl (.inr (.inr hb)))
  have hbw : ∀ b, (b = gs ∨ kvp.ownBlock = some b ∨ b = q3) → w.heap.size < b := by
    intro b hb
    rcases hb with rfl | hb | rfl
    · exact (hN.ns.hφ b (by rw [hN.ns.hs b rfl]; decide)).1
    · exact (hN.ns.hφ b (by rw [hop.fk b hb]; omega)).1
    · exact hq
  refine ⟨?_, hp.touchX2 tA (fun e => by have := hbw _ e; omega) (fun e => by have := hbw _ e; omega)⟩
  have hk2 := row_touch hk tS (fun k hk e => by
    have e1 : gk = k := by simpa [Value.ownBlock] using hk
    exact hkq (e1.trans e))
  have hs2 := row_touch hs tS (fun k hk e => by
    have e1 : gs = k := by simpa [Value.ownBlock] using hk
    exact hgq (e1.trans e))
  exact NC.pop hN.ns hst hop hN.on hq (blk_lt hN.nb) tA hk2 hat hs2 hbY
end
end Go.Proofs.YtanecdpcenkoeaaDoor

/-
  What stands at each label of package lex's divide: the frame, the memory, what is left of the text; a measure. No condition beyond those that each theorem names.
-/
namespace Go.Proofs.YtanecdpcenkoeaaDoor
open Go.ChangeShapes Go.WideShapes Go.ChangeAt Go.RowKit
set_option maxRecDepth 100000
set_option maxHeartbeats 4000000

/-! ### tokens in memory -/
/-- A token in a block of its own, a list of tokens in a row of its own. -/
structure DI (w : World) (g : Nat) (ts : List Tk) (vl : Value) (wr : World) : Prop where
  t : Touch NoB w wr
  ge : w.heap.size ≤ g
  blk : ∃ x0 x1 x2 x3, wr.heap[g]? = some (.cells #[x0, x1, x2, x3] 62 (0, 0))
  row : wr.ownsRow w.heap.size 62 4 vl ts.length (tkC ts)
  ne : vl.ownBlock ≠ some g
theorem DI.touch {w wr wx : World} {g : Nat} {ts : List Tk} {vl : Value} (h : DI w g ts vl wr) (k : Touch NoB wr wx) : DI w g ts vl wx := by
  obtain ⟨x0, x1, x2, x3, hb⟩ := h.blk
  exact ⟨h.t.same k, h.ge, ⟨x0, x1, x2, x3, (k.block g (blk_lt hb) (fun x => x)).trans hb⟩, row_touch h.row k (fun _ _ x => x), h.ne⟩
theorem DI.lt {w wr : World} {g : Nat} {ts : List Tk} {vl : Value} (h : DI w g ts vl wr) : g < wr.heap.size := by
  obtain ⟨x0, x1, x2, x3, hb⟩ := h.blk
  exact blk_lt hb
/-- The token's block written anew. -/
theorem DI.put {w wr : World} {g : Nat} {ts : List Tk} {vl : Value} (h : DI w g ts vl wr) (y0 y1 y2 y3 : Value) :
    DI w g ts vl ((((wr.setCell ⟨g, 0, none⟩ y0).setCell ⟨g, 1, none⟩ y1).setCell ⟨g, 2, none⟩ y2).setCell ⟨g, 3, none⟩ y3) := by
  obtain ⟨x0, x1, x2, x3, hb⟩ := h.blk
  have tt := touch4 (F := fun b => b = g) (w0 := wr) (Touch.refl _ wr) (g := g) (.inl rfl) y0 y1 y2 y3
  exact ⟨touch4 h.t (.inr h.ge) _ _ _ _, h.ge, ⟨_, _, _, _, set4 hb y0 y1 y2 y3⟩, row_touch h.row tt (fun k hk e => h.ne (e ▸ hk)), h.ne⟩
/-! ### frames -/
def slot (a : Act) (i : Nat) : Value := a.tmps.toList.getD i undef
def slots (l : List Value) (i : Nat) : Value := l.getD i undef
theorem list_slots (l : List Value) : l = (List.range l.length).map (slots l) := by
  apply List.ext_getElem?
  intro i
  rw [List.getElem?_map]
  by_cases h : i < l.length
  · rw [List.getElem?_range h, List.getElem?_eq_getElem h]; simp [slots, List.getD, h]
  · rw [List.getElem?_eq_none (by omega), List.getElem?_eq_none (by simp; omega)]; rfl

theorem frame_slots {a : Act} (h : a.tmps.toList.length = 143) (hd : a.defers = []) : a = ⟨([slot a 0, slot a 1, slot a 2, slot a 3, slot a 4, slot a 5, slot a 6, slot a 7, slot a 8, slot a 9, slot a 10, slot a 11, slot a 12, slot a 13, slot a 14, slot a 15, slot a 16, slot a 17, slot a 18, slot a 19, slot a 20, slot a 21, slot a 22, slot a 23, slot a 24, slot a 25, slot a 26, slot a 27, slot a 28, slot a 29, slot a 30, slot a 31, slot a 32, slot a 33, slot a 34, slot a 35, slot a 36, slot a 37, slot a 38, slot a 39, slot a 40, slot a 41, slot a 42, slot a 43, slot a 44, slot a 45, slot a 46, slot a 47, slot a 48, slot a 49, slot a 50, slot a 51, slot a 52, slot a 53, slot a 54, slot a 55, slot a 56, slot a 57, slot a 58, slot a 59, slot a 60, slot a 61, slot a 62, slot a 63, slot a 64, slot a 65, slot a 66, slot a 67, slot a 68, slot a 69, slot a 70, slot a 71, slot a 72, slot a 73, slot a 74, slot a 75, slot a 76, slot a 77, slot a 78, slot a 79, slot a 80, slot a 81, slot a 82, slot a 83, slot a 84, slot a 85, slot a 86, slot a 87, slot a 88, slot a 89, slot a 90, slot a 91, slot a 92, slot a 93, slot a 94, slot a 95, slot a 96, slot a 97, slot a 98, slot a 99, slot a 100, slot a 101, slot a 102, slot a 103, slot a 104, slot a 105, slot a 106, slot a 107, slot a 108, slot a 109, slot a 110, slot a 111, slot a 112, slot a 113, slot a 114, slot a 115, slot a 116, slot a 117, slot a 118, slot a 119, slot a 120, slot a 121, slot a 122, slot a 123, slot a 124, slot a 125, slot a 126, slot a 127, slot a 128, slot a 129, slot a 130, slot a 131, slot a 132, slot a 133, slot a 134, slot a 135, slot a 136, slot a 137, slot a 138, slot a 139, slot a 140, slot a 141, slot a 142] : List Value).toArray, []⟩ := by
  obtain ⟨t, d⟩ := a
  subst hd
  have h1 := list_slots t.toList
  rw [h] at h1
  congr 1
  apply Array.toList_inj.1
  rw [h1]
  rfl

/-- The code from each label on. -/
noncomputable def divC : Code := match Tryd.f28.body with
  | some (.seq _ (.scope c)) => c
  | _ => .skip
noncomputable def divX (l : Nat) : Code := match findLabel divC l with
  | some (.seq .skip c) => c
  | _ => .skip
theorem divX0 : findLabel divC 0 = some (.seq .skip (divX 0)) := by kernel_rfl
theorem divX1 : findLabel divC 1 = some (.seq .skip (divX 1)) := by kernel_rfl
theorem divX2 : findLabel divC 2 = some (.seq .skip (divX 2)) := by kernel_rfl
theorem divX3 : findLabel divC 3 = some (.seq .skip (divX 3)) := by kernel_rfl
theorem divX4 : findLabel divC 4 = some (.seq .skip (divX 4)) := by kernel_rfl
theorem divX5 : findLabel divC 5 = some (.seq .skip (divX 5)) := by kernel_rfl
theorem divX_some (l : Nat) (h : l < 6) : findLabel divC l = some (.seq .skip (divX l)) := by
  have : l = 0 ∨ l = 1 ∨ l = 2 ∨ l = 3 ∨ l = 4 ∨ l = 5 := by omega
  rcases this with rfl | rfl | rfl | rfl | rfl | rfl
  · exact divX0
  · exact divX1
  · exact divX2
  · exact divX3
  · exact divX4
  · exact divX5

/-- What stands at label l: t tokens found, the token under way begins at place i, place k is read next; ok: what was told. -/
def DL (b : Bs) (g : Nat) (ts : List Tk) (i k : Nat) (v7 : Value) (wr : World) : Nat → Prop
  | 0 => Lx.pre ts (fromS false b k) = lexL b
  | 1 => Run (fun c => !decide (c.toNat = 10)) b i k ∧ (∃ c, b[i]? = some c ∧ c.toNat = 47) ∧ Lx.pre ts (fromS true b k) = lexL b
  | 2 => Run bW b i k ∧ (∃ c, b[i]? = some c ∧ bL c = true) ∧ Lx.pre ts (fromS false b i) = lexL b
  | 3 => Run bD b i k ∧ (∃ c, b[i]? = some c ∧ bD c = true) ∧ Lx.pre ts (fromS false b i) = lexL b
  | 4 => k = i ∧ (∃ c, b[i]? = some c ∧ bB c = false ∧ ¬ (c.toNat = 47 ∧ slash (b.drop (i + 1)) = true) ∧ bL c = false ∧ bD c = false) ∧ Lx.pre ts (fromS false b i) = lexL b
  | _ => (∃ c, b[i]? = some c ∧ bB c = false ∧ ¬ (c.toNat = 47 ∧ slash (b.drop (i + 1)) = true)) ∧ Lx.pre ts (fromS false b i) = lexL b ∧
    ((v7 = .bool false ∧ tokL i (b.drop i) = none) ∨ (v7 = .bool true ∧ ∃ t y, tokL i (b.drop i) = some (t, k - i) ∧ i < k ∧ wr.heap[g]? = some (.cells #[.int .i64 t.kd, .int .i64 t.n, y, .string (bs t.tx)] 62 (0, 0))))
def mu (n l : Nat) (a : Act) : Nat := (n + 10) * (n - (intOf (slot a (if l = 0 then 9 else 8))).toNat) + (match l with
  | 0 => n + 5
  | 4 => n + 4
  | 5 => 2
  | _ => (n - (intOf (slot a 9)).toNat) + 3)
/-- The place that bounds the number of tokens found. -/
def cn : Nat → Nat → Nat → Nat
  | 0, _, k => k
  | _, i, _ => i
/-- .. in the program's frame. -/
structure DF (A : Option Addr) (cap : Nat) (b : Bs) (w : World) (g : Nat) (l : Nat) (ts : List Tk) (vl v7 v8 : Value) (i k : Nat) (a : Act) (wr : World) : Prop where
  len : a.tmps.toList.length = 143
  dfr : a.defers = []
  s0 : slot a 0 = .slice A b.length cap
  s5 : slot a 5 = vl
  s6 : slot a 6 = .pointer (some ⟨g, 0, none⟩)
  s7 : slot a 7 = v7
  s8 : slot a 8 = v8
  s9 : slot a 9 = .int .i64 (k : Int)
  at8 : l ≠ 0 → v8 = .int .i64 (i : Int)
  le : k ≤ b.length
  ilt : l ≠ 0 → i < b.length
  cnt : ts.length ≤ cn l i k
  di : DI w g ts vl wr
  dl : DL b g ts i k v7 wr l
def DJ (A : Option Addr) (cap : Nat) (b : Bs) (w : World) (g : Nat) (l : Nat) (a : Act) (wr : World) : Prop :=
  l < 6 ∧ ∃ ts vl v7 v8 i k, DF A cap b w g l ts vl v7 v8 i k a wr
/-- A jump to label l, below a measure of M. -/
def DG (A : Option Addr) (cap : Nat) (b : Bs) (w : World) (g M : Nat) (l : Nat) (a : Act) (wr : World) : Prop := DJ A cap b w g l a wr ∧ mu b.length l a < M
def mv (n l i k : Nat) : Nat := (n + 10) * (n - (if l = 0 then k else i)) + (match l with
  | 0 => n + 5
  | 4 => n + 4
  | 5 => 2
  | _ => (n - k) + 3)
theorem DF.mu {A : Option Addr} {cap : Nat} {b : Bs} {w : World} {g l : Nat} {ts : List Tk} {vl v7 v8 : Value} {i k : Nat} {a : Act} {wr : World} (h : DF A cap b w g l ts vl v7 v8 i k a wr) : mu b.length l a = mv b.length l i k := by
  unfold Go.Proofs.YtanecdpcenkoeaaDoor.mu mv
  by_cases h0 : l = 0
  · subst h0
    simp only [if_true, h.s9, intOf, Int.toNat_natCast]
  · have h8 := h.s8.trans (h.at8 h0)
    simp only [if_neg h0, h8, h.s9, intOf, Int.toNat_natCast]
theorem mul_step {n i k : Nat} (h1 : i < k) (h2 : k ≤ n) : (n + 10) * (n - k) + (n + 10) ≤ (n + 10) * (n - i) := by
  have : n - i = (n - k) + ((k - i - 1) + 1) := by omega
  rw [this, Nat.mul_add, Nat.mul_add]
  omega
/-- A frame, slot by slot. -/
theorem DG.mk {A : Option Addr} {cap : Nat} {b : Bs} {w : World} {g M l : Nat} {a : Act} {wr : World} (ts : List Tk) (vl v7 v8 : Value) (i k : Nat) (h : DF A cap b w g l ts vl v7 v8 i k a wr) (hl : l < 6) (hm : mv b.length l i k < M) : DG A cap b w g M l a wr :=
  ⟨⟨hl, ts, vl, v7, v8, i, k, h⟩, by rw [h.mu]; exact hm⟩
theorem hop_mono {J1 J2 : Nat → Act → World → Prop} {Q : Exit → Act → World → Prop} (h : ∀ l a w, J1 l a w → J2 l a w) : ∀ e a w, hop J1 Q e a w → hop J2 Q e a w := by
  intro e a w x
  cases e with
  | goto l => exact h l a w x
  | normal => exact x
  | exit id => exact x
  | ret => exact x
  | panic ch => exact x
  | outgrown => exact x
theorem DG.up {A : Option Addr} {cap : Nat} {b : Bs} {w : World} {g M M' l : Nat} {a : Act} {wr : World} (h : DG A cap b w g M l a wr) (hm : M ≤ M') : DG A cap b w g M' l a wr := ⟨h.1, Nat.lt_of_lt_of_le h.2 hm⟩
end Go.Proofs.YtanecdpcenkoeaaDoor
