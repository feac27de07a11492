/-
  What package tree's another does of a pick: a weight is read and put behind the others. Conditions: the table of levels can be read; names and numbers among the tokens are such.
-/
import Derived.Test.YtnphaaahdlkmhaaGreatZs10
import Derived.Deep.AppendLies
import Derived.Deep.DeepCutAuto
import Derived.Deep.RegionWith
import Derived.Test.YtnphaaahdlkmhaaGreatZs5
import Derived.Test.YtnphaaahdlkmhaaGreatZs13
section
namespace Go.Proofs.YtnphaaahdlkmhaaGreat
open Go.ChangeShapes Go.WideShapes Go.ChangeAt Go.RowKit
set_option maxRecDepth 100000
set_option maxHeartbeats 8000000

theorem NB.touch {w w' : World} {F : Nat → Prop} {q : Nat} {v0 v1 v2 v3 v4 v5 v6 v7 v8 v9 : Value} (h : NB w q v0 v1 v2 v3 v4 v5 v6 v7 v8 v9) (t : Touch F w w') (hq : ¬ F q) : NB w' q v0 v1 v2 v3 v4 v5 v6 v7 v8 v9 := (t.block q (blk_lt h) hq).trans h
end Go.Proofs.YtnphaaahdlkmhaaGreat
end
/-
  What stands in memory while package tree's node reads; another, whatever the node. Conditions: the table of levels can be read; names and numbers among the tokens are such.
-/
section
namespace Go.Proofs.YtnphaaahdlkmhaaGreat
open Go.ChangeShapes Go.WideShapes Go.ChangeAt Go.RowKit
set_option maxRecDepth 100000
set_option maxHeartbeats 4000000

/-- A node is being read at block q3: the result's block, the stack. -/
structure NS (w wr : World) (gp q3 : Nat) (φ : Nat → Nat) (op : List Nd) (sv : Value) (cs : List Value) : Prop where
  t : Touch (AtB gp) w wr
  b2 : NB wr w.heap.size (.int .i64 0) (.int .i64 0) (.int .i64 0) (.string ⟨#[]⟩) (.int .i64 0) (.int .i64 0) (.string ⟨#[]⟩) (.slice none 0 0) (.slice none 0 0) (.slice none 0 0)
  rs : wr.ownsRow w.heap.size 62 10 sv op.length cs
  st : StAt wr w.heap.size φ op cs
  hs : ∀ b, sv.ownBlock = some b → φ b = 2
  hφ : ∀ b, φ b ≠ 0 → w.heap.size < b ∧ b < wr.heap.size ∧ b ≠ q3
/-- .. and the node itself stands there. -/
structure NC (w wr : World) (gp q3 : Nat) (φ : Nat → Nat) (op : List Nd) (sv : Value) (cs : List Value) (n : Nd) (e0 e1 : Int) (e2 : ByteArray) (A : Option Addr) (m c : Nat) (kv wv : Value) (D : Nat) (xs ys : List Value) : Prop where
  ns : NS w wr gp q3 φ op sv cs
  nb : NB wr q3 (.int .i64 (n.kd : Int)) (.int .i64 (n.a : Int)) (.int .i64 (n.b : Int)) (.string (bs n.nm)) (.int .i64 e0) (.int .i64 e1) (.string e2) (.slice A m c) kv wv
  on : OnC wr w.heap.size φ op.length n e0 e1 e2 A m c kv wv D xs ys
theorem NS.free {w wr : World} {gp q3 : Nat} {φ : Nat → Nat} {op : List Nd} {sv : Value} {cs : List Value} (h : NS w wr gp q3 φ op sv cs) {b : Nat} (hb : b ≤ w.heap.size ∨ b = q3 ∨ wr.heap.size ≤ b) : φ b = 0 := by
  by_cases e : φ b = 0
  · exact e
  · have := h.hφ b e; omega
/-- Nothing that bears a label is touched. -/
theorem NS.touch {w wr V : World} {gp q3 : Nat} {φ : Nat → Nat} {op : List Nd} {sv : Value} {cs : List Value} {F : Nat → Prop} (h : NS w wr gp q3 φ op sv cs) (t : Touch F wr V) (hF : ∀ b, F b → b ≠ w.heap.size ∧ φ b ≠ 1 ∧ φ b ≠ 2 ∧ ∀ i, i < op.length → φ b ≠ 3 + 2 * i ∧ φ b ≠ 4 + 2 * i) (hw : ∀ b, F b → b = gp ∨ w.heap.size ≤ b) : NS w V gp q3 φ op sv cs :=
  ⟨h.t.trans t (fun b hb => hw b hb), h.b2.touch t (fun f => (hF _ f).1 rfl), row_touch h.rs t (fun k hk f => (hF k f).2.2.1 (h.hs k hk)), h.st.touch t (fun b f => ⟨(hF b f).2.1, (hF b f).2.2.2⟩), h.hs, fun b hb => ⟨(h.hφ b hb).1, Nat.lt_of_lt_of_le (h.hφ b hb).2.1 t.size, (h.hφ b hb).2.2⟩⟩
theorem NS.go {w wr V : World} {gp q3 : Nat} {φ : Nat → Nat} {op : List Nd} {sv : Value} {cs : List Value} (h : NS w wr gp q3 φ op sv cs) (t : Touch (AtB gp) wr V) (hgp : gp < w.heap.size) : NS w V gp q3 φ op sv cs := by
  have h0 := h.free (b := gp) (.inl (by omega))
  refine h.touch t (fun b hb => ?_) (fun b hb => .inl hb)
  have e : b = gp := hb
  subst e
  exact ⟨by omega, by omega, by omega, fun i _ => ⟨by omega, by omega⟩⟩
theorem NC.go {w wr V : World} {gp q3 : Nat} {φ : Nat → Nat} {op : List Nd} {sv : Value} {cs : List Value} {n : Nd} {e0 e1 : Int} {e2 : ByteArray} {A : Option Addr} {m c : Nat} {kv wv : Value} {D : Nat} {xs ys : List Value} (h : NC w wr gp q3 φ op sv cs n e0 e1 e2 A m c kv wv D xs ys) (t : Touch (AtB gp) wr V) (hgp : gp < w.heap.size) (hq : w.heap.size < q3) : NC w V gp q3 φ op sv cs n e0 e1 e2 A m c kv wv D xs ys := by
  have h0 := h.ns.free (b := gp) (.inl (by omega))
  refine ⟨h.ns.go t hgp, h.nb.go t (by omega), h.on.touch t (fun b hb => ?_)⟩
  have e : b = gp := hb
  subst e
  exact ⟨by omega, by omega, by omega⟩
/-- New labels, the old ones as they were. -/
theorem NS.label {w wr : World} {gp q3 : Nat} {φ ψ : Nat → Nat} {op : List Nd} {sv : Value} {cs : List Value} (h : NS w wr gp q3 φ op sv cs) (h1 : ∀ b, φ b ≠ 0 → ψ b = φ b) (h2 : ∀ b, ψ b ≠ 0 → w.heap.size < b ∧ b < wr.heap.size ∧ b ≠ q3) : NS w wr gp q3 ψ op sv cs :=
  ⟨h.t, h.b2, h.rs, h.st.label (fun b hb => by rw [h1 b (by omega)]; exact hb) (fun b i _ hb => h1 b (by omega)), fun b hb => by rw [h1 b (by rw [h.hs b hb]; decide)]; exact h.hs b hb, h2⟩
end Go.Proofs.YtnphaaahdlkmhaaGreat
end
/-
  The stack of package tree's node: a node is pushed, one is popped and gets a kid. No condition beyond those that each theorem names.
-/
section
namespace Go.Proofs.YtnphaaahdlkmhaaGreat
open Go.ChangeShapes Go.WideShapes Go.ChangeAt Go.RowKit
set_option maxRecDepth 100000
set_option maxHeartbeats 4000000

/-- Cells stored one behind another. -/
def setL (w : World) (g : Nat) : Nat → List Value → World
  | _, [] => w
  | i, v :: l => setL (w.setCell ⟨g, i, none⟩ v) g (i + 1) l
theorem setL_touch {g : Nat} : ∀ (l : List Value) (i : Nat) (w : World), Touch (fun b => b = g) w (setL w g i l)
  | [], _, w => Touch.refl _ w
  | v :: l, i, w => ((Touch.refl (fun b => b = g) w).setCell (p := ⟨g, i, none⟩) (.inl rfl) v).same (setL_touch l (i + 1) _)
section
variable {w wr wx W : World} {gp q3 gs gk cap svc : Nat} {φ : Nat → Nat} {op : List Nd} {sv : Value} {cs : List Value} {nd p : Nd} {e0 e1 : Int} {e2 : ByteArray} {A : Option Addr} {m c : Nat} {kv wv : Value} {D : Nat} {xs ys : List Value}
end
section
variable {w wr W : World} {gp q3 gs gk cap svc : Nat} {φ : Nat → Nat} {op : List Nd} {cs0 : List Value} {nd p : Nd} {e0 e1 : Int} {e2 : ByteArray} {A : Option Addr} {m c : Nat} {kv wv : Value} {D : Nat} {xs ys : List Value} {f0 f1 : Int} {f2 : ByteArray} {A' : Option Addr} {m' c' : Nat} {kvp wvp : Value} {D' : Nat} {xsp ysp : List Value}
end
end Go.Proofs.YtnphaaahdlkmhaaGreat
end
/-
  The last open node of package tree's node gets a kid, store by store. No condition beyond those that each theorem names.
-/
section
namespace Go.Proofs.YtnphaaahdlkmhaaGreat
open Go.ChangeShapes Go.WideShapes Go.ChangeAt Go.RowKit
set_option maxRecDepth 100000
set_option maxHeartbeats 4000000

theorem setL_blk {g : Nat} {t : TypeId} {fr : Nat × Nat} : ∀ (l zs xs : List Value) (w : World), zs.length = l.length → w.heap[g]? = some (.cells (xs ++ zs).toArray t fr) → (setL w g xs.length l).heap[g]? = some (.cells (xs ++ l).toArray t fr)
  | [], zs, xs, w, hl, h => by
    have : zs = [] := List.eq_nil_of_length_eq_zero hl
    subst this
    exact h
  | v :: l, [], xs, w, hl, h => by simp at hl
  | v :: l, z :: zs, xs, w, hl, h => by
    have h1 := set_blk h xs.length v
    have e1 : (xs ++ z :: zs).toArray.setIfInBounds xs.length v = ((xs ++ [v]) ++ zs).toArray := by simp
    rw [e1] at h1
    have h2 := setL_blk l zs (xs ++ [v]) _ (by simpa using hl) h1
    rw [List.length_append] at h2
    simpa [setL] using h2
theorem NB.setL {w : World} {q : Nat} {v0 v1 v2 v3 v4 v5 v6 v7 v8 v9 : Value} (h : NB w q v0 v1 v2 v3 v4 v5 v6 v7 v8 v9) (x0 x1 x2 x3 x4 x5 x6 x7 x8 x9 : Value) : NB (setL w q 0 [x0, x1, x2, x3, x4, x5, x6, x7, x8, x9]) q x0 x1 x2 x3 x4 x5 x6 x7 x8 x9 :=
  setL_blk [x0, x1, x2, x3, x4, x5, x6, x7, x8, x9] [v0, v1, v2, v3, v4, v5, v6, v7, v8, v9] [] w rfl h
theorem NB.drew {w : World} {q : Nat} {v0 v1 v2 v3 v4 v5 v6 v7 v8 v9 : Value} (h : NB w q v0 v1 v2 v3 v4 v5 v6 v7 v8 v9) : NB w.drew q v0 v1 v2 v3 v4 v5 v6 v7 v8 v9 := h
section
variable {w V U0 wx U : World} {gp g n cp q3 gs gk cap svc : Nat} {ts : List Tk} {st : St} {φ : Nat → Nat} {r : List Nd} {cs0 : List Value} {nd p : Nd} {e0 e1 : Int} {e2 : ByteArray} {A : Option Addr} {m c : Nat} {kv wv : Value} {D : Nat} {xs ys zs : List Value} {f0 f1 : Int} {f2 : ByteArray} {A' : Option Addr} {m' c' : Nat} {kvp wvp : Value} {D' : Nat} {xsp ysp : List Value}
end
end Go.Proofs.YtnphaaahdlkmhaaGreat
end
/-
  What the document's own letter, digit, begins, skip and signs return. Conditions: at most 65536 bytes; those that each theorem names.
-/
section
namespace Go.Proofs.YtnphaaahdlkmhaaGreat
open Go.ChangeShapes Go.WideShapes Go.ChangeAt Go.RowKit
set_option maxRecDepth 100000
set_option maxHeartbeats 4000000

theorem rdigit_any (c : Int) (w : World) : Calls Tryz.prog 57 #[.int .u8 c] w fun e w' => e = .returned (.bool (digB c)) ∧ w = w' := by
  by_cases h1 : 48 ≤ c <;> by_cases h2 : c ≤ 57
  all_goals
    go_enter Tryz.func57, Tryz.ntmps57
    go_wp2
    all_goals
      go_ret
      exact ⟨ret_bool (by unfold digB; simp [h1, h2]), rfl⟩
theorem rletter_any (c : Int) (w : World) : Calls Tryz.prog 56 #[.int .u8 c] w fun e w' => e = .returned (.bool (okB c)) ∧ w = w' := by
  have HD := Lib.hid (fun w => rdigit_any c w)
  cases hd : digB c <;> cases h5 : c == 95 <;> by_cases h1 : 97 ≤ c <;> by_cases h2 : c ≤ 122 <;> by_cases h3 : 65 ≤ c <;> by_cases h4 : c ≤ 90
  all_goals
    rw [hd] at HD
    have HH := Lib.hid hd
    have H5 := Lib.hid h5
    clear hd
    go_enter Tryz.func56, Tryz.ntmps56
    go_wp2_with (first | (go_at_call 57; refine (HD.out _).mono ?_; rintro e w' ⟨rfl, rfl⟩))
    all_goals
      go_ret
      exact ⟨ret_bool (by unfold okB; rw [HH.out, H5.out]; unfold letB; simp [h1, h2, h3, h4]), rfl⟩

/-- Does l stand at place a of b? -/
def begB (b : Bs) (a : Nat) (l : Bs) : Bool := cut b a (a + l.length) == l
theorem begins_any {A : Option Addr} {n cap : Nat} {b : Bs} {w : World} (hn : b.length = n) (hcap : n ≤ cap) (hmax : n ≤ 65536) (hb : BAt w A b) {a : Nat} (ha : a ≤ n) {l : Bs} (hl : l.length ≤ 100) :
    Calls Tryz.prog 55 #[.slice A n cap, .int .i64 a, .string (bs l)] w fun e w' => e = .returned (.bool (begB b a l)) ∧ w = w' := by
  have hsz : (bs l).size = l.length := bs_size l
  obtain ⟨q, hq⟩ : ∃ q, n - a = q := ⟨_, rfl⟩
  have d3 : IntKind.i64.wrap ((n : Int) - (a : Int)) = (q : Int) := by
    rw [show (n : Int) - (a : Int) = (q : Int) from by omega]; exact IntWalk.i64_in _ (by omega)
  have hLL : (bs l).toList = l := bs_toList l
  obtain ⟨s, hs⟩ : ∃ s, bs l = s := ⟨_, rfl⟩
  rw [hs] at hsz hLL
  rw [hs]
  by_cases hlt : l.length ≤ q
  · obtain ⟨v, hv, hc⟩ := win_text (l := a) (h := a + l.length) hb hn hcap (by omega) (by omega)
    have hc0 := hc w (Touch.refl _ _)
    have hv0 := hv w
    have HB : Hid (begB b a l = ((bs (cut b a (a + l.length))).toList == s.toList)) := Lib.hid (by rw [bs_toList, hLL]; rfl)
    obtain ⟨x, hx⟩ : ∃ x, bs (cut b a (a + l.length)) = x := ⟨_, rfl⟩
    rw [hx] at hc0 HB
    obtain ⟨ln, hln⟩ : ∃ ln, l.length = ln := ⟨_, rfl⟩
    obtain ⟨hh, hhh⟩ : ∃ hh, a + ln = hh := ⟨_, rfl⟩
    rw [hln] at hsz hlt hl hv0
    rw [hhh] at hv0
    have d5 : IntKind.i64.wrap ((a : Int) + (ln : Int)) = (hh : Int) := by
      rw [show (a : Int) + (ln : Int) = (hh : Int) from by omega]; exact IntWalk.i64_in _ (by omega)
    have d4 : decide ((ln : Int) ≤ (q : Int)) = true := by simp; omega
    rw [HB.out]
    clear hv hc hb hn hs hx hln hhh hq hLL
    go_enter Tryz.func55, Tryz.ntmps55
    go_wp2
    go_ret
    exact ⟨rfl, rfl⟩
  · have HB : Hid (begB b a l = false) := Lib.hid (by
      unfold begB
      rw [Bool.eq_false_iff]
      intro h
      have := congrArg List.length (beq_iff_eq.1 h)
      unfold cut at this
      rw [List.length_take, List.length_drop] at this
      omega)
    obtain ⟨ln, hln⟩ : ∃ ln, l.length = ln := ⟨_, rfl⟩
    rw [hln] at hsz hlt hl
    have d4 : decide ((ln : Int) ≤ (q : Int)) = false := by simp; omega
    rw [HB.out]
    clear hb hn hs hln hq hLL
    go_enter Tryz.func55, Tryz.ntmps55
    go_wp2
    go_ret
    exact ⟨rfl, rfl⟩

/-! ### what stands between tokens -/
theorem sk_blank {b : Bs} {a : Nat} {c : UInt8} (h : b[a]? = some c) (hc : bB c = true) : skipL false (b.drop a) = skipL false (b.drop (a + 1)) := by
  rw [drop_at h, skipL, if_pos hc]
theorem sk_within {b : Bs} {a : Nat} {c : UInt8} (h : b[a]? = some c) (hc : ¬ c.toNat = 10) : skipL true (b.drop a) = skipL true (b.drop (a + 1)) := by
  rw [drop_at h, skipL, if_neg hc]
theorem sk_shut {b : Bs} {a : Nat} {c : UInt8} (h : b[a]? = some c) (hc : c.toNat = 10) : skipL true (b.drop a) = skipL false (b.drop a) := by
  have hb : bB c = true := by simp [bB, hc]
  rw [sk_blank h hb, drop_at h, skipL, if_pos hc]
theorem sk_remark {b : Bs} {a : Nat} {c : UInt8} (h : b[a]? = some c) (hc : c.toNat = 47) (hs : slash (b.drop (a + 1)) = true) : skipL false (b.drop a) = skipL true (b.drop a) := by
  have hb : bB c = false := by simp [bB, hc]
  rw [sk_within h (by omega), drop_at h, skipL, if_neg (by simp [hb]), if_pos ⟨hc, hs⟩]
theorem sk_end (s : Bool) (b : Bs) : skipL s (b.drop b.length) = [] := by rw [List.drop_length]; cases s <;> rfl
/-- Where what is left of b begins. -/
def skAt (b : Bs) (a : Nat) : Nat := b.length - (skipL false (b.drop a)).length
theorem beg_slash {b : Bs} {a : Nat} {c : UInt8} (h : b[a]? = some c) : begB b a [47, 47] = true ↔ c.toNat = 47 ∧ slash (b.drop (a + 1)) = true := by
  unfold begB cut
  rw [show a + ([47, 47] : Bs).length - a = 2 from by simp, drop_at h, List.take_succ_cons, beq_iff_eq]
  cases hr : b.drop (a + 1) with
  | nil => simp [slash]
  | cons d r =>
    simp only [List.take_succ_cons, List.take_zero, List.cons.injEq, and_true, slash, decide_eq_true_eq]
    have e : ∀ x : UInt8, x = 47 ↔ x.toNat = 47 := fun x => ⟨fun h => by subst h; rfl, fun h => UInt8.toNat_inj.1 (by rw [h]; rfl)⟩
    rw [e, e]
def SkRel (b : Bs) (a0 : Nat) (w : World) (v1 : Value) (wr : World) : Prop := ∃ k : Nat, k ≤ b.length ∧ v1 = .int .i64 k ∧ skipL false (b.drop k) = skipL false (b.drop a0) ∧ wr = w
def SkIn (b : Bs) (a0 k0 : Nat) (w : World) (v1 : Value) (wr : World) : Prop := ∃ k : Nat, k0 ≤ k ∧ k ≤ b.length ∧ v1 = .int .i64 k ∧ skipL true (b.drop k) = skipL false (b.drop a0) ∧ wr = w
theorem skip_any {A : Option Addr} {n cap : Nat} {b : Bs} {w : World} (hn : b.length = n) (hcap : n ≤ cap) (hmax : n ≤ 65536) (hb : BAt w A b) {a0 : Nat} (ha : a0 ≤ n) :
    Calls Tryz.prog 30 #[.slice A n cap, .int .i64 a0] w fun e w' => e = .returned (.int .i64 (skAt b a0)) ∧ w = w' := by
  have HN := Lib.hid hn
  have HB := Lib.hid hb
  have HBG := Lib.hid (fun (a : Nat) (ha : a ≤ n) => begins_any (l := [47, 47]) hn hcap hmax hb ha (by decide))
  clear hn hb
  go_enter Tryz.func30, Tryz.ntmps30
  go_wp2
  go_loopw [1] (fun v1 wr => SkRel b a0 w v1 wr) (fun v1 _ => n - (intOf v1).toNat)
  case atStart => exact ⟨a0, by rw [HN.out]; exact ha, rfl, rfl, rfl⟩
  case round =>
    obtain ⟨k, hk, rfl, hsk, hwr⟩ := hrel
    subst hwr
    rw [HN.out] at hk
    by_cases hlt : k < n
    · obtain ⟨blk, off, rfl, hblk, ⟨c, hc, hcell⟩, -⟩ := bat_at HB.out (by rw [HN.out]; exact hlt)
      obtain ⟨x, hx⟩ : ∃ x, (c.toNat : Int) = x := ⟨_, rfl⟩
      have hbB : bB c = (x == 32 || x == 9 || x == 10 || x == 13) := by rw [← hx, ← spcB_b]; rfl
      have HC := Lib.hid (And.intro hc (And.intro hx hbB))
      have HSK := Lib.hid hsk
      have hbs := beg_slash hc
      have HBS := Lib.hid hbs
      rw [hx] at hcell
      clear hsk hc hx hbs hbB
      cases h1 : x == 32 <;> cases h2 : x == 9 <;> cases h3 : x == 10 <;> cases h4 : x == 13
      case false.false.false.false =>
        have HNB : Hid (bB c = false) := Lib.hid (by rw [HC.out.2.2, h1, h2, h3, h4]; rfl)
        go_wp2_with fail
        refine (HBG.out k hk).mono ?_
        rintro e w' ⟨rfl, rfl⟩
        cases hbg : begB b k [47, 47]
        · have HNS : Hid (¬ (c.toNat = 47 ∧ slash (b.drop (k + 1)) = true)) := Lib.hid (fun e => by have := HBS.out.2 e; rw [hbg] at this; cases this)
          clear hbg
          go_wp2
          go_ret
          refine ⟨ret_int ?_, rfl⟩
          unfold skAt
          rw [← HSK.out, drop_at HC.out.1, skip_stay HNB.out HNS.out, ← drop_at HC.out.1, List.length_drop, HN.out]
          omega
        · have HYS : Hid (c.toNat = 47 ∧ slash (b.drop (k + 1)) = true) := Lib.hid (HBS.out.1 hbg)
          clear hbg
          obtain ⟨wo, hwo⟩ : ∃ wo, wo = wr := ⟨_, rfl⟩
          subst hwo
          go_wp2
          go_loopw [1] (fun v1 wr => SkIn b a0 k wo v1 wr) (fun v1 _ => n - (intOf v1).toNat)
          case atStart => exact ⟨k, Nat.le_refl _, by rw [HN.out]; exact hk, rfl, by rw [← sk_remark HC.out.1 HYS.out.1 HYS.out.2]; exact HSK.out, rfl⟩
          case round =>
            obtain ⟨j, hj0, hj, rfl, hsj, hwj⟩ := hrel
            subst hwj
            rw [HN.out] at hj
            by_cases hltj : j < n
            · obtain ⟨_, _, e0, -, ⟨cj, hcj, hcellj⟩, -⟩ := bat_at HB.out (by rw [HN.out]; exact hltj)
              injection e0 with e0
              injection e0 with e1 e2
              subst e1
              subst e2
              obtain ⟨y, hy⟩ : ∃ y, (cj.toNat : Int) = y := ⟨_, rfl⟩
              have HCJ := Lib.hid (And.intro hcj (And.intro hy hsj))
              rw [hy] at hcellj
              clear hcj hy hsj
              cases h10 : y != 10
              · have HY10 : Hid (cj.toNat = 10) := Lib.hid (by have := HCJ.out.2.1; simp at h10; omega)
                have hjk : k < j := by
                  rcases Nat.lt_or_ge k j with h | h
                  · exact h
                  · obtain rfl : k = j := by omega
                    have e := HC.out.1.symm.trans HCJ.out.1
                    injection e with e
                    have := HYS.out.1
                    have := HY10.out
                    rw [e] at *
                    omega
                go_wp2
                go_roundw
                case rel => exact ⟨j, by rw [HN.out]; omega, rfl, by rw [← sk_shut HCJ.out.1 HY10.out]; exact HCJ.out.2.2, rfl⟩
                case measure => simp [intOf]; omega
              · have HY10 : Hid (¬ cj.toNat = 10) := Lib.hid (by have := HCJ.out.2.1; simp at h10; omega)
                go_wp2
                go_roundw
                case rel => exact ⟨j + 1, by omega, by rw [HN.out]; omega, by go_num, by rw [← sk_within HCJ.out.1 HY10.out]; exact HCJ.out.2.2, rfl⟩
                case measure => simp [intOf]; omega
            · obtain rfl : j = n := by omega
              have HSJ := Lib.hid hsj
              clear hsj
              go_wp2
              go_roundw
              case rel => exact ⟨j, by rw [HN.out]; omega, rfl, by have := HSJ.out; rw [← HN.out, sk_end] at this; rw [← HN.out, sk_end]; exact this, rfl⟩
              case measure => simp [intOf]; omega
      all_goals
        have HYB : Hid (bB c = true) := Lib.hid (by rw [HC.out.2.2, h1, h2, h3, h4]; rfl)
        go_wp2
        go_roundw
        case rel => exact ⟨k + 1, by rw [HN.out]; omega, by go_num, by rw [← sk_blank HC.out.1 HYB.out]; exact HSK.out, rfl⟩
        case measure => simp [intOf]; omega
    · obtain rfl : k = n := by omega
      have HSK := Lib.hid hsk
      clear hsk
      go_wp2
      go_ret
      refine ⟨ret_int ?_, rfl⟩
      unfold skAt
      rw [← HSK.out, ← HN.out, sk_end]
      simp
end Go.Proofs.YtnphaaahdlkmhaaGreat
end
/-
  The document's own token, said of lists: a number, a sign; what signs returns. Conditions: those that each theorem names.
-/
section
namespace Go.Proofs.YtnphaaahdlkmhaaGreat
open Go.ChangeShapes Go.WideShapes Go.ChangeAt Go.RowKit
set_option maxRecDepth 100000
set_option maxHeartbeats 4000000

/-- A number, or none, by the run of letters and digits. -/
theorem tok_word {b : Bs} {a k : Nat} {c : UInt8} (h : b[a]? = some c) (hl : bD c = true) (hr : Run bW b a k) (he : ∀ d, b[k]? = some d → bW d = false) :
    tokL a (b.drop a) = if (cut b a k).all bD = true ∧ valL (cut b a k) ≤ 9223372036854775807 ∧ ¬ (c.toNat = 48 ∧ 1 < k - a) then some (⟨3, valL (cut b a k), a, []⟩, k - a) else none := by
  have hw := hr.end he
  have hn := hr.len
  rw [drop_at h] at hw
  rw [drop_at h]
  rw [tokL]
  rw [if_pos hl, hw, ← drop_at h]
  unfold cut
  rw [hn]
theorem cut_succ {b : Bs} {a i : Nat} {d : UInt8} (ha : a ≤ i) (h : b[i]? = some d) : cut b a (i + 1) = cut b a i ++ [d] := by
  unfold cut
  have e : (b.drop a)[i - a]? = some d := by rw [List.getElem?_drop, show a + (i - a) = i from by omega]; exact h
  rw [show i + 1 - a = (i - a) + 1 from by omega, List.take_add_one, e]
  rfl
theorem cut_same (b : Bs) (a : Nat) : cut b a a = [] := by unfold cut; simp
theorem cut_more {b : Bs} {a i k : Nat} (h1 : a ≤ i) (h2 : i ≤ k) : cut b a k = cut b a i ++ cut b i k := by
  unfold cut
  rw [show k - a = (i - a) + (k - i) from by omega, List.take_add, List.drop_drop, show a + (i - a) = i from by omega]
theorem val_more (x y : Bs) : valL x ≤ valL (x ++ y) := by
  have : valL (x ++ y) = fold10 (valL x) y := by unfold valL fold10; rw [List.foldl_append]
  rw [this]
  exact fold_ge y _

/-- The signs, in the document's order. -/
def sgS : List Bs := [[58, 61], [60, 61], [62, 61], [61, 61], [123], [125], [40], [41], [59], [58], [61], [60], [43], [45], [42], [47], [44], [39]]
def tstB (n : Nat) (q : Bool) (l : Bs) : Bool := match l with
  | [x] => n == x.toNat
  | [x, _] => n == x.toNat && q
  | _ => false
def sgnB (n : Nat) (q : Bool) : Nat :=
  if (n = 58 ∨ n = 60 ∨ n = 62 ∨ n = 61) ∧ q = true then 2
  else if n = 123 ∨ n = 125 ∨ n = 40 ∨ n = 41 ∨ n = 59 ∨ n = 58 ∨ n = 61 ∨ n = 60 ∨ n = 43 ∨ n = 45 ∨ n = 42 ∨ n = 47 ∨ n = 44 ∨ n = 39 then 1 else 0
theorem sgn_tab : ∀ n, n < 256 → ∀ q : Bool, (sgS.find? (tstB n q)).map List.length = (if sgnB n q = 0 then none else some (sgnB n q)) := by decide +kernel
theorem eqB_nat (x y : UInt8) : (x == y) = (x.toNat == y.toNat) := by
  rw [Bool.eq_iff_iff, beq_iff_eq, beq_iff_eq]
  exact ⟨fun h => by rw [h], fun h => UInt8.toNat_inj.1 h⟩
theorem beg_tst {b : Bs} {a : Nat} {c : UInt8} (h : b[a]? = some c) : ∀ l ∈ sgS, begB b a l = tstB c.toNat (equal1 (b.drop (a + 1))) l := by
  have h1 : ∀ x : UInt8, begB b a [x] = (c.toNat == x.toNat) := fun x => by
    unfold begB cut
    rw [show a + ([x] : Bs).length - a = 1 from by simp, drop_at h, List.take_succ_cons, List.take_zero, ← eqB_nat, Bool.eq_iff_iff]
    simp
  have h2 : ∀ x : UInt8, begB b a [x, 61] = (c.toNat == x.toNat && equal1 (b.drop (a + 1))) := fun x => by
    unfold begB cut
    rw [show a + ([x, 61] : Bs).length - a = 2 from by simp, drop_at h, List.take_succ_cons, ← eqB_nat]
    cases b.drop (a + 1) with
    | nil => simp [equal1]
    | cons d r =>
      simp only [List.take_succ_cons, List.take_zero, equal1]
      have e : decide (d.toNat = 61) = (d == 61) := by
        rw [eqB_nat]; rw [Bool.eq_iff_iff]; simp
      rw [e, Bool.eq_iff_iff]
      simp
  intro l hl
  simp only [sgS, List.mem_cons, List.not_mem_nil, or_false] at hl
  rcases hl with rfl | rfl | rfl | rfl | rfl | rfl | rfl | rfl | rfl | rfl | rfl | rfl | rfl | rfl | rfl | rfl | rfl | rfl
  all_goals first | exact h2 _ | exact h1 _
theorem sgn_b (c : UInt8) (r : Bs) : sgnL c r = sgnB c.toNat (equal1 r) := rfl
/-- The first sign that stands here, if any, is the sign that the lexer on lists finds. -/
theorem sign_first {b : Bs} {a : Nat} {c : UInt8} (h : b[a]? = some c) (h1 : bL c = false) (h2 : bD c = false) {i : Nat} {l : Bs} (hi : sgS[i]? = some l) (hyes : begB b a l = true) (hno : ∀ (j : Nat) (m : Bs), j < i → sgS[j]? = some m → begB b a m = false) :
    tokL a (b.drop a) = some (⟨4, 0, a, l⟩, l.length) := by
  have ht := sgn_tab c.toNat (by have := c.toNat_lt; omega) (equal1 (b.drop (a + 1)))
  have hf : sgS.find? (tstB c.toNat (equal1 (b.drop (a + 1)))) = some l := by
    rw [List.find?_eq_some_iff_getElem]
    obtain ⟨hil, hie⟩ := List.getElem?_eq_some_iff.1 hi
    refine ⟨by rw [← beg_tst h l (List.mem_of_getElem? hi)]; exact hyes, i, hil, hie, fun j hj => ?_⟩
    have hjl : j < sgS.length := by omega
    have := hno j sgS[j] hj (List.getElem?_eq_getElem hjl)
    rw [beg_tst h _ (List.getElem_mem hjl)] at this
    simp [this]
  rw [hf, ← sgn_b] at ht
  rw [tok_sign h h1 h2]
  have hlpos : l.length ≠ 0 := by
    have : ∀ x ∈ sgS, x.length ≠ 0 := by decide
    exact this l (List.mem_of_getElem? hi)
  by_cases e : sgnL c (b.drop (a + 1)) = 0
  · rw [if_pos e] at ht; cases ht
  · rw [if_neg e] at ht ⊢
    simp only [Option.map_some, Option.some.injEq] at ht
    rw [← ht]
    have : cut b a (a + l.length) = l := beq_iff_eq.1 hyes
    rw [this]
theorem sign_none {b : Bs} {a : Nat} {c : UInt8} (h : b[a]? = some c) (h1 : bL c = false) (h2 : bD c = false) (hno : ∀ (j : Nat) (m : Bs), sgS[j]? = some m → begB b a m = false) : tokL a (b.drop a) = none := by
  have ht := sgn_tab c.toNat (by have := c.toNat_lt; omega) (equal1 (b.drop (a + 1)))
  have hf : sgS.find? (tstB c.toNat (equal1 (b.drop (a + 1)))) = none := by
    rw [List.find?_eq_none]
    intro x hx
    obtain ⟨j, hj⟩ := List.mem_iff_getElem?.1 hx
    rw [← beg_tst h x hx, hno j x hj]
    simp
  rw [hf, ← sgn_b] at ht
  rw [tok_sign h h1 h2]
  by_cases e : sgnL c (b.drop (a + 1)) = 0
  · rw [if_pos e]
  · rw [if_neg e] at ht; cases ht

def sgA : Array Value := (sgS.map fun b => Value.string (bs b)).toArray
theorem sgS_len : sgS.length = 18 := by decide
theorem signs_any' (w : World) : Calls Tryz.prog 59 #[] w fun e w' => ∃ g, e = .returned (.slice (some ⟨g, 0, none⟩) 18 18) ∧ (w.heap.size ≤ g ∧ g < w'.heap.size) ∧ (∀ (j : Nat) (l : Bs), sgS[j]? = some l → w'.cell? ⟨g, j, none⟩ = some (.string (bs l))) ∧ Touch NoB w w' := by
  go_enter Tryz.func59, Tryz.ntmps59
  go_wp2
  go_ret
  refine ⟨_, rfl, ⟨Nat.le_refl _, by simp⟩, fun j l hj => ?_, (Touch.refl _ _).alloc _⟩
  show (w.alloc (.cells sgA 9 (0, 0))).cell? _ = _
  rw [cell_of_row _ _ _ _ _ _ (heap_alloc_new w (.cells sgA 9 (0, 0)))]
  unfold sgA
  rw [List.getElem?_toArray, List.getElem?_map, hj]
  rfl
end Go.Proofs.YtnphaaahdlkmhaaGreat
end
