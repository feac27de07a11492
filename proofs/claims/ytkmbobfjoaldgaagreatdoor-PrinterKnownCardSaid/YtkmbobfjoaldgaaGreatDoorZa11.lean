/-
  What package printer's head returns of a parallel node. Conditions: the library's table can be read; those that each theorem names.
-/
import Derived.Test.YtkmbobfjoaldgaaGreatDoorZa9
import Derived.Test.YtkmbobfjoaldgaaGreatDoorZa10
import Derived.WalkKit
import Derived.Scope
import Derived.WalkMore
namespace Go.Proofs.YtkmbobfjoaldgaaGreatDoor
open Go.ChangeShapes Go.WideShapes Go.ChangeAt Go.RowKit
set_option maxRecDepth 100000
set_option maxHeartbeats 4000000

/-- A parallel node. -/
theorem head_par {w : World} (htab : Lib.TabIs Tryz.prog w "internal/strconv.uint64pow10" .u64 Lib.pow10Tab) {s : ByteArray} {a b : Int} (ha0 : -9223372036854775808 ≤ a) (ha1 : a ≤ 9223372036854775807) (hb0 : -9223372036854775808 ≤ b) (hb1 : b ≤ 9223372036854775807) {x0 x1 : Int} {x2 : ByteArray} {A : Option Addr} {m c : Nat} {A1 A2 : Option Addr} {m1 c1 m2 c2 : Nat} :
    Calls Tryz.prog 119 #[.agg #[.int .i64 4, .int .i64 a, .int .i64 b, .string s, .int .i64 x0, .int .i64 x1, .string x2, .slice A m c, .slice A1 m1 c1, .slice A2 m2 c2]] w (HeadP w [nodeW.getD 4 [], Lib.itoa a, Lib.itoa b]) := by
  obtain ⟨W0, hW0⟩ : ∃ W, w.alloc (.cells #[.int .i64 4, .int .i64 a, .int .i64 b, .string s, .int .i64 x0, .int .i64 x1, .string x2, .slice A m c, .slice A1 m1 c1, .slice A2 m2 c2] 47) = W := ⟨_, rfl⟩
  have t0 : Touch NoB w W0 := by rw [← hW0]; exact (Touch.refl _ _).alloc _
  have hblk : W0.heap[w.heap.size]? = some (.cells #[.int .i64 4, .int .i64 a, .int .i64 b, .string s, .int .i64 x0, .int .i64 x1, .string x2, .slice A m c, .slice A1 m1 c1, .slice A2 m2 c2] 47 (0, 0)) := by rw [← hW0]; exact alloc_blk _ _ _ rfl
  have td : Touch NoB W0 W0.drew := (Touch.refl _ _).drew
  have HN := Lib.hid (nodes_any W0.drew)
  have z0 : W0.cell? ⟨w.heap.size, 0, none⟩ = some (.int .i64 4) := cell_blk hblk 0
  have y0 : W0.drew.cell? ⟨w.heap.size, 0, none⟩ = some (.int .i64 4) := by simpa using z0
  have HB := Lib.hid (And.intro hblk (t0.same td))
  have HTB := Lib.hid (Lib.tabBelow_of_tabIs htab)
  clear hblk t0 td htab
  go_enter Tryz.func119, Tryz.ntmps119
  go_wp2_with fail
  go_region_with (first
    | (go_at_call 131; refine HN.out.mono ?_
       rintro r w1 ⟨q, rfl, hq, hT1⟩
       have hbk1 := (hT1.block _ (blk_lt HB.out.1) (fun x => x)).trans HB.out.1
       have x0' : w1.cell? ⟨w.heap.size, 0, none⟩ = some (.int .i64 4) := cell_blk hbk1 0
       have hlt' : w.heap.size < w1.heap.size := blk_lt hbk1
       have HW := Lib.hid (word_any hq 4)
       have HT1 := Lib.hid (HB.out.2.same hT1)
       have HB1 := Lib.hid hbk1
       clear hq hT1 hbk1)
    | (go_at_call 62; refine HW.out.mono ?_
       rintro r w2 ⟨rfl, rfl⟩))
  all_goals
    have hh := word1 (s := nodeW[4]?.getD []) HT1.out _ rfl
    obtain ⟨W2, hW2⟩ : ∃ W, w2.alloc (.cells #[.string (bs (nodeW[4]?.getD []))] 9) = W := ⟨_, rfl⟩
    have hb2 : W2.heap[w.heap.size]? = some (.cells #[.int .i64 4, .int .i64 a, .int .i64 b, .string s, .int .i64 x0, .int .i64 x1, .string x2, .slice A m c, .slice A1 m1 c1, .slice A2 m2 c2] 47 (0, 0)) := by rw [← hW2, heap_alloc_old _ _ hlt']; exact HB1.out
    have hn2 : w2.heap.size + 1 = W2.heap.size := by rw [← hW2]; simp
    rw [hW2] at hh
    have td2 : Touch NoB W2 W2.drew := (Touch.refl _ _).drew
    have HIa := Lib.hid (itoa_any a ha0 ha1 (HTB.out.on ((hh.2.same td2).belowB (Nat.le_refl _))).here)
    have HIb := Lib.hid (itoa_any b hb0 hb1 (HTB.out.on ((hh.2.same td2).belowB (Nat.le_refl _))).here)
    have c0 : W2.cell? ⟨w.heap.size, 0, none⟩ = some (.int .i64 4) := cell_blk hb2 0
    have d1 : W2.drew.cell? ⟨w.heap.size, 1, none⟩ = some (.int .i64 a) := by simpa using cell_blk hb2 1
    have d2 : W2.drew.cell? ⟨w.heap.size, 2, none⟩ = some (.int .i64 b) := by simpa using cell_blk hb2 2
    have HH := Lib.hid (And.intro hh.1 (hh.2.same td2))
    have HB2 := Lib.hid hb2
    clear hh hb2 td2 hn2
    go_wp2_with fail
    go_region_law (first
      | (refine step_appended (T := 41) (U := 41) (d := .tmp 13) (s := .tmp 20) rfl HA.out rfl (by first | (simp [Act.eval]; done) | (simp [Act.eval, Act.put]; done) | rfl) (by first | (simp [Act.eval]; done) | (simp [Act.eval, Act.put]; done) | rfl) ?_)
      | (go_simp; go_at_call 64; refine HS.out.mono ?_; rintro r w6 ⟨rfl, hT6⟩
         have hb6 := (hT6.block _ (blk_lt HB4.out) (fun x => x)).trans HB4.out
         have g1 : w6.cell? ⟨w.heap.size, 1, none⟩ = some (.int .i64 a) := cell_blk hb6 1
         have g2 : w6.cell? ⟨w.heap.size, 2, none⟩ = some (.int .i64 b) := cell_blk hb6 2
         have hT46 := HT4.out.same hT6
         obtain ⟨v', w7, hr, htr, hb⟩ := ((HH.out.1.below (Touch.refl _ _).drew).below hT46).app (Nat.le_trans HH.out.2.size hT46.size) [Lib.itoa a, Lib.itoa b] (cs := #[.string (bs (Lib.itoa a)), .string (bs (Lib.itoa b))]) rfl (by simp) (N := w6.heap.size) (m := 2) rfl rfl rfl
         have HA := Lib.hid hr
         have HE := Lib.hid (And.intro htr (touch_of (((HH.out.2.same hT46).belowB (Nat.le_refl _)).trans hb)))
         clear hr htr hb hT6 hT46 hb6)
      | (go_simp; go_at_call 64; refine HIa.out.mono ?_; rintro r w4 ⟨rfl, hT4⟩
         have hb4 := (hT4.block _ (blk_lt HB2.out) (fun x => x)).trans HB2.out
         have f1 : w4.cell? ⟨w.heap.size, 1, none⟩ = some (.int .i64 a) := cell_blk hb4 1
         have f2 : w4.cell? ⟨w.heap.size, 2, none⟩ = some (.int .i64 b) := cell_blk hb4 2
         have hlt4 : w.heap.size < w4.heap.size := blk_lt hb4
         have HS := Lib.hid (itoa_any b hb0 hb1 (HTB.out.on ((HH.out.2.same hT4).belowB (Nat.le_refl _))).here)
         have HT4 := Lib.hid hT4
         have HB4 := Lib.hid hb4
         clear hT4 hb4 HIa HIb)
      | (go_simp; go_at_call 64; refine HIb.out.mono ?_; rintro r w4 ⟨rfl, hT4⟩
         have hb4 := (hT4.block _ (blk_lt HB2.out) (fun x => x)).trans HB2.out
         have f1 : w4.cell? ⟨w.heap.size, 1, none⟩ = some (.int .i64 a) := cell_blk hb4 1
         have f2 : w4.cell? ⟨w.heap.size, 2, none⟩ = some (.int .i64 b) := cell_blk hb4 2
         have hlt4 : w.heap.size < w4.heap.size := blk_lt hb4
         have HS := Lib.hid (itoa_any a ha0 ha1 (HTB.out.on ((HH.out.2.same hT4).belowB (Nat.le_refl _))).here)
         have HT4 := Lib.hid hT4
         have HB4 := Lib.hid hb4
         clear hT4 hb4 HIa HIb))
    all_goals
      go_wp2
      go_ret
      exact ⟨_, rfl, HE.out⟩
end Go.Proofs.YtkmbobfjoaldgaaGreatDoor

/-
  What package printer's head returns of a node in memory, whatever its kind. Conditions: the library's table can be read; numbers fit; expressions are valid.
-/
namespace Go.Proofs.YtkmbobfjoaldgaaGreatDoor
open Go.ChangeShapes Go.WideShapes Go.ChangeAt Go.RowKit
set_option maxRecDepth 100000
set_option maxHeartbeats 4000000

/-- What head wants of a node. -/
structure HdOk (n : Nd) : Prop where
  a : (n.a : Int) ≤ 9223372036854775807
  b : (n.b : Int) ≤ 9223372036854775807
  x : n.kd = 7 ∨ n.kd = 8 → n.ex.depth ≤ 40 ∧ vE n.ex ∧ (prt n.ex).length ≤ 900000
theorem head_any {w : World} (htab : Lib.TabIs Tryz.prog w "internal/strconv.uint64pow10" .u64 Lib.pow10Tab) {Q : Nat → Prop} {D : Nat} {n : Nd} {l : List Value} (h : NT w Q D n l) (ho : HdOk n) :
    Calls Tryz.prog 119 #[.agg l.toArray] w (HeadP w (hdL n)) := by
  cases D with
  | zero => exact h.elim
  | succ D =>
    obtain ⟨e0, e1, s, A, m, c, kv, wv, xs, ys, rfl, hx, hk, -, hw, -⟩ := h
    obtain ⟨A1, c1, rfl, -⟩ := hk
    obtain ⟨A2, c2, rfl, -⟩ := hw
    have hxo := ho.x
    obtain ⟨k, a, b, nm, ex, ks, ws⟩ := n
    have ha := ho.a
    have hb := ho.b
    simp only [Nd.kd, Nd.a, Nd.b, Nd.nm, Nd.ex] at *
    unfold hdL
    simp only [Nd.kd, Nd.a', Nd.b', Nd.nm', Nd.ex']
    by_cases h4 : k = 4
    · subst h4; exact head_par htab (by omega) ha (by omega) hb
    by_cases h6 : k = 6
    · subst h6; exact head_rep htab (by omega) ha
    by_cases h7 : k = 7
    · subst h7; obtain ⟨h1, h2, h3⟩ := hxo (.inl rfl); exact head_if htab h1 h2 h3 hx
    by_cases h8 : k = 8
    · subst h8; obtain ⟨h1, h2, h3⟩ := hxo (.inr rfl); exact head_set htab h1 h2 h3 hx
    simp only [h4, h6, h7, h8, ↓reduceIte]
    by_cases h9 : k = 9 ∨ k = 10 ∨ k = 12
    · simp only [h9, ↓reduceIte]; exact head_name h9
    · simp only [h9, ↓reduceIte]; exact head_bare h4 h6 h7 h8 (by omega) (by omega) (by omega)
end Go.Proofs.YtkmbobfjoaldgaaGreatDoor

/-
  Kids of a node in memory; package printer's nested tells that a node is nested no deeper than may be. Conditions: those that each theorem names.
-/
namespace Go.Proofs.YtkmbobfjoaldgaaGreatDoor
open Go.ChangeShapes Go.WideShapes Go.ChangeAt Go.RowKit
set_option maxRecDepth 100000
set_option maxHeartbeats 4000000

/-- A node's kinds are such, its kids not too many. -/
def KdOk : Nat → Nd → Prop
  | 0, _ => True
  | D + 1, n => n.kd ≤ 15 ∧ n.ks.length ≤ 100000 ∧ ∀ k ∈ n.ks, KdOk D k
structure NKid (w : World) (Q : Nat → Prop) (D g i : Nat) (y : Nd) (e0 e1 : Int) (e2 : ByteArray) (A : Option Addr) (m c : Nat) (A1 : Option Addr) (c1 : Nat) (A2 : Option Addr) (c2 : Nat) : Prop where
  lt : g < w.heap.size
  k0 : w.cell? ⟨g, i * 10, none⟩ = some (.int .i64 (y.kd : Int))
  k1 : w.cell? ⟨g, i * 10 + 1, none⟩ = some (.int .i64 (y.a : Int))
  k2 : w.cell? ⟨g, i * 10 + 2, none⟩ = some (.int .i64 (y.b : Int))
  k3 : w.cell? ⟨g, i * 10 + 3, none⟩ = some (.string (bs y.nm))
  k4 : w.cell? ⟨g, i * 10 + 4, none⟩ = some (.int .i64 e0)
  k5 : w.cell? ⟨g, i * 10 + 5, none⟩ = some (.int .i64 e1)
  k6 : w.cell? ⟨g, i * 10 + 6, none⟩ = some (.string e2)
  k7 : w.cell? ⟨g, i * 10 + 7, none⟩ = some (.slice A m c)
  k8 : w.cell? ⟨g, i * 10 + 8, none⟩ = some (.slice A1 y.ks.length c1)
  k9 : w.cell? ⟨g, i * 10 + 9, none⟩ = some (.slice A2 y.ws.length c2)
  nt : NT w Q D y [.int .i64 (y.kd : Int), .int .i64 (y.a : Int), .int .i64 (y.b : Int), .string (bs y.nm), .int .i64 e0, .int .i64 e1, .string e2, .slice A m c, .slice A1 y.ks.length c1, .slice A2 y.ws.length c2]
theorem kids_at {w : World} {Q : Nat → Prop} {D : Nat} {ks : List Nd} {A : Option Addr} {c : Nat} {xs : List Value} (hs : SlAt w Q (.slice A ks.length c) ks.length xs) (hl : LsAt (NT w Q D) ks xs) (i : Nat) (y : Nd) (hi : ks[i]? = some y) :
    ∃ g e0 e1 e2 B m c' A1 c1 A2 c2, A = some ⟨g, 0, none⟩ ∧ NKid w Q D g i y e0 e1 e2 B m c' A1 c1 A2 c2 := by
  obtain ⟨ys, hy, hc⟩ := hl.at_ (s := 10) (fun a ys h => h.len) i y hi
  have hN := hy
  cases D with
  | zero => exact hy.elim
  | succ D =>
    obtain ⟨e0, e1, s, B, m, c', kv, wv, us, vs, rfl, hx, hk, -, hw, -⟩ := hy
    obtain ⟨A1, c1, rfl, -⟩ := hk
    obtain ⟨A2, c2, rfl, -⟩ := hw
    obtain ⟨A', c'', he, hA⟩ := hs
    cases he
    obtain ⟨g, hg, -, hlt, -⟩ := hA (i * 10 + 0) _ ((hc 0 (by decide)).trans rfl)
    have hcell : ∀ (j : Nat) (v : Value), j < 10 → ([Value.int .i64 (y.kd : Int), .int .i64 (y.a : Int), .int .i64 (y.b : Int), .string (bs y.nm), .int .i64 e0, .int .i64 e1, .string s, .slice B m c', .slice A1 y.ks.length c1, .slice A2 y.ws.length c2] : List Value)[j]? = some v → w.cell? ⟨g, i * 10 + j, none⟩ = some v := by
      intro j v hj hv
      obtain ⟨g', hg', -, -, hcc⟩ := hA (i * 10 + j) v ((hc j hj).trans hv)
      rw [hg] at hg'
      cases hg'
      exact hcc
    exact ⟨g, e0, e1, s, B, m, c', A1, c1, A2, c2, hg, hlt, hcell 0 _ (by decide) rfl, hcell 1 _ (by decide) rfl, hcell 2 _ (by decide) rfl, hcell 3 _ (by decide) rfl, hcell 4 _ (by decide) rfl, hcell 5 _ (by decide) rfl, hcell 6 _ (by decide) rfl, hcell 7 _ (by decide) rfl, hcell 8 _ (by decide) rfl, hcell 9 _ (by decide) rfl, hN⟩
end Go.Proofs.YtkmbobfjoaldgaaGreatDoor

/-
  Package printer's nested tells that a node is nested no deeper than may be. Conditions: those that each theorem names.
-/
namespace Go.Proofs.YtkmbobfjoaldgaaGreatDoor
open Go.ChangeShapes Go.WideShapes Go.ChangeAt Go.RowKit
set_option maxRecDepth 100000
set_option maxHeartbeats 4000000

def NsRel (m : Nat) (w : World) (v : Value) (wr : World) : Prop := ∃ i : Nat, i ≤ m ∧ v = .int .i64 i ∧ Touch NoB w wr
theorem nested_any : ∀ (D E : Nat) (n : Nd), D ≤ E → E ≤ 1000 → KdOk D n → ∀ (w : World) (Q : Nat → Prop) {e0 e1 : Int} {e2 : ByteArray} {A : Option Addr} {m c : Nat} {A1 : Option Addr} {c1 : Nat} {A2 : Option Addr} {c2 : Nat},
    NT w Q D n [.int .i64 (n.kd : Int), .int .i64 (n.a : Int), .int .i64 (n.b : Int), .string (bs n.nm), .int .i64 e0, .int .i64 e1, .string e2, .slice A m c, .slice A1 n.ks.length c1, .slice A2 n.ws.length c2] →
    Calls Tryz.prog 89 #[.agg #[.int .i64 (n.kd : Int), .int .i64 (n.a : Int), .int .i64 (n.b : Int), .string (bs n.nm), .int .i64 e0, .int .i64 e1, .string e2, .slice A m c, .slice A1 n.ks.length c1, .slice A2 n.ws.length c2], .int .i64 (E : Int)] w fun e w' => e = .returned (.bool true) ∧ Touch NoB w w'
  | 0, _, _, _, _, _, _, _, _, _, _, _, _, _, _, _, _, _, h => h.elim
  | D + 1, 0, _, h, _, _, _, _, _, _, _, _, _, _, _, _, _, _, _ => absurd h (by omega)
  | D + 1, E + 1, n, hDE, hE, hkd, w, Q, e0, e1, e2, A, m, c, A1, c1, A2, c2, hn => by
    have ih := Lib.hid (fun (y : Nd) (hy : KdOk D y) (w : World) (e0 e1 : Int) (e2 : ByteArray) (A : Option Addr) (m c : Nat) (A1 : Option Addr) (c1 : Nat) (A2 : Option Addr) (c2 : Nat) hn => nested_any D E y (by omega) (by omega) hy w Q (e0 := e0) (e1 := e1) (e2 := e2) (A := A) (m := m) (c := c) (A1 := A1) (c1 := c1) (A2 := A2) (c2 := c2) hn)
    obtain ⟨hk15, hkl, hkk⟩ := hkd
    have HK := Lib.hid hkk
    obtain ⟨_, _, _, _, _, _, kv, _, xs, _, he, -, hks, hls, -⟩ := hn
    have hkv : kv = .slice A1 n.ks.length c1 := by have := congrArg (fun l => l[8]?) he; simpa using this.symm
    subst hkv
    clear he
    have HKD := Lib.hid (fun (W : World) (t : Touch NoB w W) (i : Nat) (y : Nd) (hi : n.ks[i]? = some y) => kids_at (hks.touch t (fun _ _ x => x)) (hls.mono (NT.touch t (fun _ _ x => x) D)) i y hi)
    obtain ⟨k, hk⟩ : ∃ k, n.kd = k := ⟨_, rfl⟩
    obtain ⟨L, hL⟩ : ∃ L, n.ks.length = L := ⟨_, rfl⟩
    obtain ⟨M, hM⟩ : ∃ M, n.ws.length = M := ⟨_, rfl⟩
    rw [hk, hL, hM]
    rw [hk] at hk15
    rw [hL] at hkl
    obtain ⟨n1, hn1⟩ : ∃ n1, E + 1 = n1 := ⟨_, rfl⟩
    have hsub : IntKind.i64.wrap ((n1 : Int) - 1) = (E : Int) := by rw [show (n1 : Int) - 1 = (E : Int) from by omega]; exact IntWalk.i64_in _ (by omega)
    have hz : ((n1 : Int) == 0) = false := by simp; omega
    have HMK := Lib.hid (fun W => mostkids_any k hk15 W)
    obtain ⟨W0, hW0⟩ : ∃ W, w.alloc (.cells #[.int .i64 (k : Int), .int .i64 (n.a : Int), .int .i64 (n.b : Int), .string (bs n.nm), .int .i64 e0, .int .i64 e1, .string e2, .slice A m c, .slice A1 L c1, .slice A2 M c2] 47) = W := ⟨_, rfl⟩
    have t0 : Touch NoB w W0 := by rw [← hW0]; exact (Touch.refl _ _).alloc _
    have hblk : W0.heap[w.heap.size]? = some (.cells #[.int .i64 (k : Int), .int .i64 (n.a : Int), .int .i64 (n.b : Int), .string (bs n.nm), .int .i64 e0, .int .i64 e1, .string e2, .slice A m c, .slice A1 L c1, .slice A2 M c2] 47 (0, 0)) := by rw [← hW0]; exact alloc_blk _ _ _ rfl
    have z0 : W0.cell? ⟨w.heap.size, 0, none⟩ = some (.int .i64 (k : Int)) := cell_blk hblk 0
    have z8 : W0.cell? ⟨w.heap.size, 8, none⟩ = some (.slice A1 L c1) := cell_blk hblk 8
    have HT0 := Lib.hid t0
    clear hkk t0 hblk hks hls
    rw [hn1]
    by_cases hmo : mostL k = 0
    · have hm0 : ((mostL k : Int) == 0) = true := by rw [hmo]; rfl
      go_enter Tryz.func89, Tryz.ntmps89
      go_wp2_with (first | (go_at_call 118; refine (HMK.out _).mono ?_; rintro r w1 ⟨rfl, rfl⟩))
      go_ret
      exact ⟨rfl, HT0.out⟩
    · have hm0 : ((mostL k : Int) == 0) = false := by simp; omega
      go_enter Tryz.func89, Tryz.ntmps89
      go_wp2_with (first | (go_at_call 118; refine (HMK.out _).mono ?_; rintro r w1 ⟨rfl, rfl⟩))
      go_loopw [16] (fun v wr => NsRel L w v wr) (fun v _ => L - (intOf v).toNat)
      case atStart => exact ⟨0, Nat.zero_le _, rfl, HT0.out⟩
      case round =>
        obtain ⟨i, hi, rfl, hTr⟩ := hrel
        by_cases hlt : i < L
        · obtain ⟨y, hy⟩ : ∃ y, n.ks[i]? = some y := ⟨n.ks[i]'(by rw [hL]; exact hlt), List.getElem?_eq_getElem _⟩
          obtain ⟨g, f0, f1, f2, B, bm, bc, B1, d1, B2, d2, rfl, hkid⟩ := HKD.out _ hTr i y hy
          obtain ⟨kl, k0, k1, k2, k3, k4, k5, k6, k7, k8, k9, hnt⟩ := hkid
          have HR := Lib.hid (fun W (hW : Touch NoB wr W) => ih.out y (HK.out y (List.mem_of_getElem? hy)) W f0 f1 f2 B bm bc B1 d1 B2 d2 (NT.touch hW (fun _ _ x => x) D y _ hnt))
          have HT := Lib.hid hTr
          clear hTr hnt hy
          go_wp2_with fail
          refine (HR.out _ ((Touch.refl _ _).alloc _)).mono ?_
          rintro r w2 ⟨rfl, hT2⟩
          have HT2 := Lib.hid (HT.out.same (((Touch.refl _ _).alloc _).same hT2))
          clear hT2
          go_wp2
          go_roundw
          case rel => exact ⟨i + 1, by omega, by go_num, HT2.out⟩
          case measure => simp [intOf]; omega
        · obtain rfl : i = L := by omega
          have HT := Lib.hid hTr
          clear hTr
          go_wp2
          go_ret
          exact ⟨rfl, HT.out⟩
end Go.Proofs.YtkmbobfjoaldgaaGreatDoor

/-
  A scope in which the run jumps between many labels: what holds at every jump to each of them, and a measure that every pass from a label lowers. No program is named here; no condition beyond those that the theorem names.
-/
namespace Go.Proofs.YtkmbobfjoaldgaaGreatDoor

/-- As Q; by a goto: what J says of its label. -/
def hop (J : Nat → Act → World → Prop) (Q : Exit → Act → World → Prop) : Exit → Act → World → Prop
  | .goto l, a, w => J l a w
  | e, a, w => Q e a w
section
variable {P : Program} {a : Act} {w : World} {Q : Exit → Act → World → Prop} {J : Nat → Act → World → Prop}
theorem hop_goto (l : Nat) : hop J Q (.goto l) a w = J l a w := rfl
theorem hop_ret : hop J Q .ret a w = Q .ret a w := rfl
theorem hop_normal : hop J Q .normal a w = Q .normal a w := rfl
theorem hop_exit (id : Nat) : hop J Q (.exit id) a w = Q (.exit id) a w := rfl
theorem scope_hops {c : Code} (R : Nat → Code) (J : Nat → Act → World → Prop) (μ : Nat → Act → World → Nat) (hf : ∀ l a w, J l a w → findLabel c l = some (R l))
    (first : c.wp P (hop J Q) a w)
    (pass : ∀ l a w, J l a w → (R l).wp P (hop (fun l' a' w' => J l' a' w' ∧ μ l' a' w' < μ l a w) Q) a w) : (Code.scope c).wp P Q a w := by
  intro b k cs
  have hg : ∀ l a w, J l a w → gotoIn l (.inScope c :: k) = some (.code (R l) :: .inScope c :: k) := fun l a w h => by simp [gotoIn, hf l a w h]
  have key : ∀ n l a w, μ l a w = n → J l a w → ∃ e a' w', Q e a' w' ∧ Arrives P (lone (b.at a (.code (R l) :: .inScope c :: k)) cs w) b k cs e a' w' := by
    intro n
    induction n using Nat.strongRecOn with
    | _ n ih =>
      intro l a w hn hJ
      obtain ⟨e, a₁, w₁, hq, harr⟩ := pass l a w hJ b (.inScope c :: k) cs
      cases e with
      | normal => exact ⟨.normal, a₁, w₁, hq, Steps.trans harr (.one step_inScope)⟩
      | exit id => exact ⟨.exit id, a₁, w₁, hq, fun k' hk => harr k' (by simp [exitTo, hk])⟩
      | goto l' =>
        obtain ⟨hJ', hlt⟩ := hq
        obtain ⟨e₂, a₂, w₂, hq₂, harr₂⟩ := ih _ (by omega) l' a₁ w₁ rfl hJ'
        exact ⟨e₂, a₂, w₂, hq₂, .of_steps (harr _ (hg l' a₁ w₁ hJ')) harr₂⟩
      | ret => exact ⟨_, a₁, w₁, hq, harr⟩
      | panic ch => exact ⟨_, a₁, w₁, hq, harr⟩
      | outgrown => exact ⟨_, a₁, w₁, hq, harr⟩
  obtain ⟨e, a₁, w₁, hq, harr⟩ := first b (.inScope c :: k) cs
  cases e with
  | normal => exact ⟨.normal, a₁, w₁, hq, .head step_scope (Steps.trans harr (.one step_inScope))⟩
  | exit id => exact ⟨.exit id, a₁, w₁, hq, fun k' hk => .head step_scope (harr k' (by simp [exitTo, hk]))⟩
  | goto l' =>
    obtain ⟨e₂, a₂, w₂, hq₂, harr₂⟩ := key _ l' a₁ w₁ rfl hq
    exact ⟨e₂, a₂, w₂, hq₂, .of_steps (.head step_scope (harr _ (hg l' a₁ w₁ hq))) harr₂⟩
  | ret => exact ⟨_, a₁, w₁, hq, .of_steps (.one step_scope) harr⟩
  | panic ch => exact ⟨_, a₁, w₁, hq, .of_steps (.one step_scope) harr⟩
  | outgrown => exact ⟨_, a₁, w₁, hq, .of_steps (.one step_scope) harr⟩
end
end Go.Proofs.YtkmbobfjoaldgaaGreatDoor

/-
  The stack's way of reading a node, round by round, with fuel enough; a scope of labels with a number that every jump lowers. Lists alone; no condition beyond those that each theorem names.
-/
namespace Go.Proofs.YtkmbobfjoaldgaaGreatDoor
set_option maxRecDepth 100000

/-! ### errors stay, places go on -/
theorem exS_bad {ts : List Tk} {s : Bs} {σ : St} (h : σ.2 ≠ 0) : (exS ts s σ).2 ≠ 0 := by
  unfold exS
  simp only [if_neg h]
  split <;> exact h
theorem stepE_bad {t : Tk} {c e : Nat} (h : e ≠ 0) : stepE t c e ≠ 0 := by
  unfold stepE
  rw [if_neg h]
  split <;> exact h
theorem nuS_bad {ts : List Tk} {σ : St} (h : σ.2 ≠ 0) : (nuS ts σ).2 ≠ 0 := stepE_bad h
theorem naS_bad {ts : List Tk} {σ : St} (h : σ.2 ≠ 0) : (naS ts σ).2 ≠ 0 := stepE_bad h
theorem eqS_bad {ts : List Tk} {σ : St} (h : σ.2 ≠ 0) : (eqS ts σ).2 ≠ 0 := by unfold eqS; rw [if_neg h]; exact h
theorem failS_stay {c : Nat} {σ : St} (h : σ.2 ≠ 0) : (failS c σ).2 ≠ 0 := by unfold failS; simp only; rw [if_neg h]; exact h
theorem choF_bad {ts : List Tk} {σ : St} (h : σ.2 ≠ 0) : ∀ (ws : List Bs) (i : Nat), choF ts σ ws i = none
  | [], _ => rfl
  | s :: r, i => by unfold choF; rw [acS_bad h]; exact choF_bad h r (i + 1)
theorem choS_bad {ts : List Tk} {ws : List Bs} {σ : St} (h : σ.2 ≠ 0) : (choS ts ws σ).2 ≠ 0 := by unfold choS; rw [choF_bad h]; exact failS_stay h
theorem headT_bad {ts : List Tk} {kd : Nat} {s : St} (h : s.2 ≠ 0) : (headT ts kd s).2.2 ≠ 0 := by
  unfold headT
  repeat' split
  all_goals first
    | exact nuS_bad (nuS_bad h)
    | exact nuS_bad h
    | exact eqS_bad (exS_bad (naS_bad h))
    | exact eqS_bad h
    | exact naS_bad h
    | exact h
theorem headE_bad {ts : List Tk} {kd : Nat} {s : St} (h : s.2 ≠ 0) : (headE ts kd s).2 ≠ 0 := by
  unfold headE
  split
  · exact exS_bad h
  · split
    · exact exS_bad h
    · exact h
theorem headS_bad {ts : List Tk} {σ : St} (h : σ.2 ≠ 0) : (headS ts σ).2 ≠ 0 := headE_bad (headT_bad (choS_bad h))
theorem headT_ge {ts : List Tk} {L kd : Nat} {s : St} (hE : EnT ts L) (h : s.1 ≤ L) : s.1 ≤ (headT ts kd s).2.1 := by
  have hL : L ≤ ts.length := by obtain ⟨t, ht, -⟩ := hE; exact Nat.le_of_lt (List.getElem?_eq_some_iff.1 ht).1
  unfold headT
  repeat' split
  all_goals first
    | exact Nat.le_trans (nuS_ge ts s) (nuS_ge ts _)
    | exact nuS_ge ts s
    | exact Nat.le_trans (Nat.le_trans (naS_ge ts s) (exS_ge ts _ _)) (eqS_ge (Nat.le_trans (exS_L hE (naS_L hE h)) hL))
    | exact eqS_ge (Nat.le_trans h hL)
    | exact naS_ge ts s
    | exact Nat.le_refl _
theorem headE_ge {ts : List Tk} {kd : Nat} {s : St} : s.1 ≤ (headE ts kd s).1 := by
  unfold headE
  split
  · exact exS_ge ts _ s
  · split
    · exact exS_ge ts _ s
    · exact Nat.le_refl _
/-- A head without an error takes its word at least. -/
theorem headS_go {ts : List Tk} {L : Nat} {σ : St} (hE : EnT ts L) (h : σ.1 ≤ L) (h2 : (headS ts σ).2 = 0) : σ.1 + 1 ≤ (headS ts σ).1 := by
  have h3 : (choS ts nodeW σ).2 = 0 := by
    by_cases e : (choS ts nodeW σ).2 = 0
    · exact e
    · exact absurd h2 (headE_bad (headT_bad e))
  have h4 : (choS ts nodeW σ).1 = σ.1 + 1 := by
    unfold choS at h3 ⊢
    cases hc : choF ts σ nodeW 0 with
    | none => rw [hc] at h3; exact absurd h3 (failS_bad (by decide) σ)
    | some i => rfl
  have h5 := choS_L hE (ws := nodeW) h
  have h6 := headT_ge (kd := headK ts σ) hE h5
  have h7 : (headT ts (headK ts σ) (choS ts nodeW σ)).2.1 ≤ (headS ts σ).1 := headE_ge
  omega
theorem anoS_ge {ts : List Tk} {L : Nat} {n : Nd} {σ : St} (hE : EnT ts L) (h : σ.1 ≤ L) : σ.1 ≤ (anoS ts n σ).1 := by
  have hL : L ≤ ts.length := by obtain ⟨t, ht, -⟩ := hE; exact Nat.le_of_lt (List.getElem?_eq_some_iff.1 ht).1
  have hf : (anoF n σ).1 = σ.1 := by unfold anoF; split <;> rfl
  unfold anoS
  split
  · exact Nat.le_refl _
  · split
    · exact acS_ge ts _ σ
    · split
      · exact Nat.le_trans (Nat.le_trans (Nat.le_of_eq hf.symm) (eqS_ge (by omega))) (exS_ge ts _ _)
      · omega
/-! ### fuel -/
/-- Enough at a node's beginning; behind a node. -/
def FuB (f L d : Nat) (σ : St) : Prop := 2 ≤ f ∧ (σ.2 = 0 → 4 * (L - σ.1) + d + 8 ≤ f)
def FuN (f L d : Nat) (σ : St) : Prop := 1 ≤ f ∧ (σ.2 = 0 → 4 * (L - σ.1) + d + 11 ≤ f)
/-- What a node begins with. -/
theorem nod_begin {ts : List Tk} {f L : Nat} {op : List Nd} {σ : St} {R0 : Nd × St} (hE : EnT ts L) (hL : σ.1 ≤ L) (h : nodR ts f op none σ = R0) (hf : FuB f L op.length σ) :
    ∃ f', f = f' + 1 ∧ nodR ts f' op (some (headN ts (begS op σ))) (headS ts (begS op σ)) = R0 ∧ FuN f' L op.length (headS ts (begS op σ)) ∧ (headS ts (begS op σ)).1 ≤ L := by
  obtain ⟨h1, h2⟩ := hf
  cases f with
  | zero => omega
  | succ f =>
    unfold nodR at h
    have hb : (begS op σ).1 = σ.1 := by unfold begS; split <;> rfl
    refine ⟨f, rfl, h, ⟨by omega, fun h3 => ?_⟩, headS_L hE (by omega)⟩
    have h4 := headS_go hE (σ := begS op σ) (by omega) h3
    have h5 : (begS op σ).2 = 0 := by
      by_cases e : (begS op σ).2 = 0
      · exact e
      · exact absurd h3 (headS_bad e)
    have h6 : σ.2 = 0 := by
      unfold begS at h5
      split at h5
      · exact absurd h5 (failS_bad (by decide) σ)
      · exact h5
    have h7 := h2 h6
    have h8 := headS_L hE (σ := begS op σ) (by omega)
    omega
/-- What follows behind a node. -/
theorem nod_behind {ts : List Tk} {f L : Nat} {op : List Nd} {n : Nd} {σ : St} {R0 : Nd × St} (hE : EnT ts L) (hL : σ.1 ≤ L) (h : nodR ts f op (some n) σ = R0) (hf : FuN f L op.length σ) :
    (σ.2 ≠ 0 → R0 = (nd0, σ)) ∧
    (σ.2 = 0 → anoV ts n σ = true → ∃ f', f' < f ∧ nodR ts f' (anoN ts n σ :: op) none (anoS ts n σ) = R0 ∧ FuB f' L (op.length + 1) (anoS ts n σ) ∧ (anoS ts n σ).1 ≤ L) ∧
    (σ.2 = 0 → anoV ts n σ = false → op = [] → R0 = (anoN ts n σ, anoS ts n σ)) ∧
    (σ.2 = 0 → anoV ts n σ = false → ∀ p r, op = p :: r → ∃ f', f' < f ∧ nodR ts f' r (some (p.add (anoN ts n σ))) (anoS ts n σ) = R0 ∧ FuN f' L r.length (anoS ts n σ) ∧ (anoS ts n σ).1 ≤ L) := by
  obtain ⟨h1, h2⟩ := hf
  have hg := anoS_ge (n := n) hE hL
  have hg2 := anoS_L hE (n := n) hL
  cases f with
  | zero => omega
  | succ f =>
    unfold nodR at h
    refine ⟨fun e => ?_, fun e a => ?_, fun e a o => ?_, fun e a p r o => ?_⟩
    · rw [if_pos e] at h; exact h.symm
    · rw [if_neg (fun z => z e), if_pos a] at h
      have := h2 e
      exact ⟨f, by omega, h, ⟨by omega, fun _ => by omega⟩, hg2⟩
    · subst o
      rw [if_neg (fun z => z e), if_neg (by rw [a]; decide)] at h
      exact h.symm
    · subst o
      rw [if_neg (fun z => z e), if_neg (by rw [a]; decide)] at h
      have := h2 e
      simp only [List.length_cons] at this
      exact ⟨f, by omega, h, ⟨by omega, fun _ => by omega⟩, hg2⟩
/-! ### labels -/
section
variable {P : Program} {a : Act} {w : World} {Q : Exit → Act → World → Prop} {J : Nat → Nat → Act → World → Prop}
/-- As scope_hops, the measure a number of its own. -/
theorem scope_fuel {c : Code} (R : Nat → Code) (J : Nat → Nat → Act → World → Prop) (hf : ∀ n l a w, J n l a w → findLabel c l = some (R l))
    (first : c.wp P (hop (fun l a w => ∃ n, J n l a w) Q) a w)
    (pass : ∀ n l a w, J n l a w → (R l).wp P (hop (fun l' a' w' => ∃ n', n' < n ∧ J n' l' a' w') Q) a w) : (Code.scope c).wp P Q a w := by
  intro b k cs
  have hg : ∀ n l a w, J n l a w → gotoIn l (.inScope c :: k) = some (.code (R l) :: .inScope c :: k) := fun n l a w h => by simp [gotoIn, hf n l a w h]
  have key : ∀ n l a w, J n l a w → ∃ e a' w', Q e a' w' ∧ Arrives P (lone (b.at a (.code (R l) :: .inScope c :: k)) cs w) b k cs e a' w' := by
    intro n
    induction n using Nat.strongRecOn with
    | _ n ih =>
      intro l a w hJ
      obtain ⟨e, a₁, w₁, hq, harr⟩ := pass n l a w hJ b (.inScope c :: k) cs
      cases e with
      | normal => exact ⟨.normal, a₁, w₁, hq, Steps.trans harr (.one step_inScope)⟩
      | exit id => exact ⟨.exit id, a₁, w₁, hq, fun k' hk => harr k' (by simp [exitTo, hk])⟩
      | goto l' =>
        obtain ⟨n', hlt, hJ'⟩ := hq
        obtain ⟨e₂, a₂, w₂, hq₂, harr₂⟩ := ih n' hlt l' a₁ w₁ hJ'
        exact ⟨e₂, a₂, w₂, hq₂, .of_steps (harr _ (hg n' l' a₁ w₁ hJ')) harr₂⟩
      | ret => exact ⟨_, a₁, w₁, hq, harr⟩
      | panic ch => exact ⟨_, a₁, w₁, hq, harr⟩
      | outgrown => exact ⟨_, a₁, w₁, hq, harr⟩
  obtain ⟨e, a₁, w₁, hq, harr⟩ := first b (.inScope c :: k) cs
  cases e with
  | normal => exact ⟨.normal, a₁, w₁, hq, .head step_scope (Steps.trans harr (.one step_inScope))⟩
  | exit id => exact ⟨.exit id, a₁, w₁, hq, fun k' hk => .head step_scope (harr k' (by simp [exitTo, hk]))⟩
  | goto l' =>
    obtain ⟨n, hq⟩ := hq
    obtain ⟨e₂, a₂, w₂, hq₂, harr₂⟩ := key n l' a₁ w₁ hq
    exact ⟨e₂, a₂, w₂, hq₂, .of_steps (.head step_scope (harr _ (hg n l' a₁ w₁ hq))) harr₂⟩
  | ret => exact ⟨_, a₁, w₁, hq, .of_steps (.one step_scope) harr⟩
  | panic ch => exact ⟨_, a₁, w₁, hq, .of_steps (.one step_scope) harr⟩
  | outgrown => exact ⟨_, a₁, w₁, hq, .of_steps (.one step_scope) harr⟩
end
end Go.Proofs.YtkmbobfjoaldgaaGreatDoor
