/-
  What the parser of programs over lists comes to at the texts of TreeWrong. Lists alone.
-/
import Derived.Test.YtkmbobfjoaldgaaGreatDoorZa3
import Derived.Test.YtkmbobfjoaldgaaGreatDoorZa15
import Derived.Lib.SlBytesConst
import Derived.Test.YtkmbobfjoaldgaaGreatDoorZa8
import Derived.Test.YtkmbobfjoaldgaaGreatDoorZa9
import Derived.Deep.MidRow
import Derived.Test.YtkmbobfjoaldgaaGreatDoorZa11
namespace Go.Proofs.YtkmbobfjoaldgaaGreatDoor
set_option maxRecDepth 100000

/-- The texts that are no programs, and where. -/
def wrP : List (Bs × Nat) := [
  ([120], 0),
  ([116, 114, 101, 101], 4),
  ([116, 114, 101, 101, 32, 116], 6),
  ([116, 114, 101, 101, 32, 116, 32, 123], 8),
  ([116, 114, 101, 101, 32, 116, 32, 123, 32, 125], 9),
  ([116, 114, 101, 101, 32, 116, 32, 123, 32, 111, 107, 32, 125], 12),
  ([116, 114, 101, 101, 32, 116, 32, 123, 32, 111, 107, 59, 32, 111, 107, 59, 32, 125], 13),
  ([116, 114, 101, 101, 32, 115, 101, 113, 32, 123, 32, 111, 107, 59, 32, 125], 5),
  ([116, 114, 101, 101, 32, 116, 32, 123, 32, 115, 101, 113, 32, 123, 32, 125, 32, 125], 15),
  ([116, 114, 101, 101, 32, 116, 32, 123, 32, 112, 97, 114, 32, 49, 32, 123, 32, 111, 107, 59, 32, 125, 32, 125], 15),
  ([116, 114, 101, 101, 32, 116, 32, 123, 32, 110, 111, 116, 32, 125], 13),
  ([116, 114, 101, 101, 32, 116, 32, 123, 32, 114, 101, 112, 101, 97, 116, 32, 111, 107, 59, 32, 125], 16),
  ([116, 114, 101, 101, 32, 116, 32, 123, 32, 105, 102, 32, 59, 32, 125], 12),
  ([116, 114, 101, 101, 32, 116, 32, 123, 32, 115, 101, 116, 32, 97, 32, 61, 32, 49, 59, 32, 125], 15),
  ([116, 114, 101, 101, 32, 116, 32, 123, 32, 100, 111, 32, 115, 101, 113, 59, 32, 125], 12),
  ([116, 114, 101, 101, 32, 116, 32, 123, 32, 112, 105, 99, 107, 32, 123, 32, 111, 107, 59, 32, 125, 32, 125], 16),
  ([116, 114, 101, 101, 32, 116, 32, 123, 32, 112, 105, 99, 107, 32, 123, 32, 49, 32, 111, 107, 59, 32, 125, 32, 125], 18),
  ([107, 101, 121, 32, 97, 32, 105, 110, 116, 59], 4),
  ([107, 101, 121, 32, 111, 119, 110, 32, 97, 59], 9),
  ([107, 101, 121, 32, 111, 119, 110, 32, 97, 32, 114, 101, 97, 108, 59], 10),
  ([100, 111, 109, 97, 105, 110, 32, 100, 32, 123, 32, 97, 99, 116, 32, 97, 32, 123, 32, 125, 32, 125], 17),
  ([100, 111, 109, 97, 105, 110, 32, 100, 32, 123, 32, 97, 99, 116, 32, 97, 32, 99, 111, 115, 116, 32, 49, 32, 123, 32, 103, 111, 97, 108, 32, 97, 32, 61, 61, 32, 49, 59, 32, 125, 32, 125], 26),
  ([100, 111, 109, 97, 105, 110, 32, 100, 32, 123, 32, 118, 97, 114, 32, 97, 32, 49, 59, 32, 125], 18),
  ([100, 111, 109, 97, 105, 110, 32, 100, 32, 123, 32, 103, 111, 97, 108, 32, 97, 32, 61, 32, 49, 59, 32, 125], 18),
  ([100, 111, 109, 97, 105, 110, 32, 100, 32, 123, 32, 97, 99, 116, 32, 97, 32, 99, 111, 115, 116, 32, 49, 32, 123, 32, 109, 97, 107, 101, 32, 97, 32, 49, 59, 32, 125, 32, 125], 33),
  ([100, 111, 109, 97, 105, 110, 32, 100, 32, 123, 32, 97, 99, 116, 32, 97, 32, 99, 111, 115, 116, 32, 45, 32, 49, 32, 123, 32, 125, 32, 125], 22),
  ([116, 114, 101, 101, 32, 116, 32, 123, 32, 105, 102, 32, 97, 32, 61, 61, 32, 98, 32, 61, 61, 32, 99, 59, 32, 125], 19),
  ([116, 114, 101, 101, 32, 116, 32, 123, 32, 115, 101, 116, 32, 97, 32, 58, 61, 32, 40, 49, 59, 32, 125], 20),
  ([107, 101, 121, 32, 111, 119, 110, 32, 97, 32, 105, 110, 116], 13)]
def Pr.isEr (p : Pr) (e a : Nat) : Bool := match p with
  | .ok _ => false
  | .er e' a' => decide (e' = e) && decide (a' = a)
theorem Pr.isEr_eq {p : Pr} {e a : Nat} (h : p.isEr e a = true) : p = .er e a := by
  cases p with
  | ok _ => cases h
  | er e' a' => simp only [Pr.isEr, Bool.and_eq_true, decide_eq_true_eq] at h; obtain ⟨rfl, rfl⟩ := h; rfl
theorem wrP_all : wrP.all (fun p => (parP p.1).isEr 2 p.2 && decide (p.1.length ≤ 100)) = true := by decide +kernel
theorem wrP_at {i : Nat} {p : Bs × Nat} (h : wrP[i]? = some p) : parP p.1 = .er 2 p.2 ∧ p.1.length ≤ 100 := by
  have := List.all_eq_true.1 wrP_all p (List.mem_of_getElem? h)
  simp only [Bool.and_eq_true, decide_eq_true_eq] at this
  exact ⟨Pr.isEr_eq this.1, this.2⟩
end Go.Proofs.YtkmbobfjoaldgaaGreatDoor

/-
  The statements' own example; TreePlaces: an error's place is within the text; TreeWrong: given texts are no programs, and where. Conditions: the listed variables read as they are laid.
-/
namespace Go.Proofs.YtkmbobfjoaldgaaGreatDoor
open Go.ChangeShapes Go.WideShapes Go.ChangeAt Go.RowKit
set_option maxRecDepth 100000
set_option maxHeartbeats 8000000

/-- What the walks want of the listed variables. -/
def E2 (w : World) : Prop := ELv w ∧ EV w
theorem E2.touch {w w' : World} (h : E2 w) (t : Touch NoB w w') : E2 w' := ⟨h.1.touch t, h.2.touch t⟩
theorem num11_any (n : Int) (w : World) : Calls Tryz.prog 8 #[.int .i64 n] w fun e w' => e = .returned (.int .i64 n) ∧ w = w' := by
  go_enter Tryz.func8, Tryz.ntmps8
  go_wp2
  go_ret
  exact ⟨rfl, rfl⟩
theorem parse_e2 {w : World} {A : Option Addr} {n cap : Nat} {b : Bs} (hn : b.length = n) (hmax : n ≤ 65536) (hcap : n ≤ cap) (hc63 : cap ≤ 9223372036854775807) (hb : BAt w A b) (he : E2 w) :
    Calls Tryz.prog 7 #[.slice A n cap] w (PaPost w b) := by
  obtain ⟨⟨B, hB⟩, hev⟩ := he
  exact tparse_any hn hmax hcap hc63 hb hev hB
def aliT : Bs := [116, 114, 101, 101, 32, 116, 32, 123, 32, 111, 107, 59, 32, 125]
def Pr.lone (p : Pr) : Bool := match p with
  | .ok p => decide (p.trees.length = 1) && (p.trees.all fun t => decide (t.root.kd = 13))
  | .er _ _ => false
def Pr.bare (p : Pr) : Bool := match p with
  | .ok p => decide (p.trees.length = 0)
  | .er _ _ => false
theorem ali_0 : (parP []).bare = true := by decide +kernel
theorem ali_1 : (parP aliT).lone = true := by decide +kernel
theorem post_0 {w w' : World} {x : Ending} (h : PaPost w [] x w') : Touch NoB w w' ∧ ∃ x1 l1 c1 A c x3 l3 c3, x = .returned (.tuple #[.agg #[.slice x1 l1 c1, .slice A 0 c, .slice x3 l3 c3], .int .i64 0, .int .i64 0]) := by
  obtain ⟨hT, h⟩ := h
  have ha := ali_0
  cases hp : parP [] with
  | er e k => rw [hp] at ha; cases ha
  | ok p =>
    rw [hp] at ha h
    simp only [Pr.bare, decide_eq_true_eq] at ha
    obtain ⟨v1, v2, v3, rfl, hpg0⟩ := h
    have hpg := hpg0
    obtain ⟨u1, u2, u3, xs, ys, e, -, ⟨A, c, rfl, -⟩, -⟩ := hpg
    simp only [List.cons.injEq] at e
    obtain ⟨-, rfl, -, -⟩ := e
    obtain ⟨x1, l1, c1, -, -, -, x3, l3, c3, rfl, -, rfl⟩ := pg_form hpg0
    exact ⟨hT, x1, l1, c1, A, c, x3, l3, c3, by rw [ha]; rfl⟩
theorem post_1 {w w' : World} {x : Ending} (h : PaPost w aliT x w') : Touch NoB w w' ∧ ∃ x1 l1 c1 b c x3 l3 c3, x = .returned (.tuple #[.agg #[.slice x1 l1 c1, .slice (some ⟨b, 0, none⟩) 1 c, .slice x3 l3 c3], .int .i64 (14 : Int), .int .i64 0]) ∧ w.heap.size ≤ b ∧ b < w'.heap.size ∧ w'.cell? ⟨b, 1, none⟩ = some (.int .i64 13) := by
  obtain ⟨hT, h⟩ := h
  have ha := ali_1
  cases hp : parP aliT with
  | er e k => rw [hp] at ha; cases ha
  | ok p =>
    rw [hp] at ha h
    simp only [Pr.lone, Bool.and_eq_true, decide_eq_true_eq, List.all_eq_true] at ha
    obtain ⟨ha1, ha2⟩ := ha
    obtain ⟨v1, v2, v3, rfl, hpg0⟩ := h
    have hpg := hpg0
    obtain ⟨u1, u2, u3, xs, ys, e, -, ⟨A, c, rfl, hx⟩, hls, -⟩ := hpg
    simp only [List.cons.injEq] at e
    obtain ⟨-, rfl, -, -⟩ := e
    obtain ⟨t, ht⟩ : ∃ t, p.trees[0]? = some t := ⟨_, List.getElem?_eq_getElem (by omega)⟩
    obtain ⟨zs, ⟨D, qs, rfl, hnt⟩, hz⟩ := hls.at_ (s := 11) (fun a ys ha => by obtain ⟨D, qs, rfl, hnt⟩ := ha; rw [List.length_cons, hnt.len]) 0 t ht
    have hk : t.root.kd = 13 := ha2 t (List.mem_of_getElem? ht)
    have h1 := hz 1 (by decide)
    cases D with
    | zero => exact hnt.elim
    | succ D =>
      obtain ⟨a, b, s, A', m, c', kv, wv, xs', ys', rfl, -⟩ := hnt
      rw [hk] at h1
      obtain ⟨bk, rfl, h2, h3, h4⟩ := hx 1 _ h1
      obtain ⟨x1, l1, c1, -, -, -, x3, l3, c3, rfl, -, rfl⟩ := pg_form hpg0
      exact ⟨hT, x1, l1, c1, bk, c, x3, l3, c3, by rw [ha1]; rfl, h2, h3, h4⟩
/-- A text that the program itself lays. -/
theorem bat_lit (W : World) (b : Bs) (T : TypeId) (fr : Nat × Nat) : BAt (W.alloc (.cells (b.map fun c => Value.int .u8 (c.toNat : Int)).toArray T fr)) (some ⟨W.heap.size, 0, none⟩) b := by
  intro _
  refine ⟨W.heap.size, 0, rfl, by simp, fun i c hi => ?_⟩
  rw [cell_of_row _ _ _ _ T fr (heap_alloc_new W _), List.getElem?_toArray, List.getElem?_map, Nat.zero_add, hi]
  rfl
theorem alive_any (w : World) (he : E2 w) : Calls Tryz.prog 6 #[] w fun e w' => e = .returned (.bool true) ∧ Touch NoB w w' := by
  have HP := Lib.hid (parse_e2 (w := w) (A := none) (n := 0) (cap := 0) (b := []) rfl (by decide) (by decide) (by decide) (fun h => absurd rfl h) he)
  have HN := Lib.hid (fun n w => num11_any n w)
  have HE := Lib.hid he
  clear he
  go_enter Tryz.func6, Tryz.ntmps6
  go_wp2_with fail
  refine HP.out.mono ?_
  intro r w1 hr
  obtain ⟨hT1, x1, l1, d1, A, c, x3, l3, d3, rfl⟩ := post_0 hr
  obtain ⟨W1, hW1⟩ : ∃ W, w1.alloc (.cells #[(.slice x1 l1 d1), .slice A 0 c, (.slice x3 l3 d3)] 29) = W := ⟨_, rfl⟩
  have t1 : Touch NoB w W1 := by rw [← hW1]; exact hT1.alloc _
  have b1 : B3 W1 29 w1.heap.size (.slice x1 l1 d1) (.slice A 0 c) (.slice x3 l3 d3) := by rw [← hW1]; exact B3.new _ _ _ _ _ rfl
  obtain ⟨W2, hW2⟩ : ∃ W, W1.alloc (.cells #[.int .u8 116, .int .u8 114, .int .u8 101, .int .u8 101, .int .u8 32, .int .u8 116, .int .u8 32, .int .u8 123, .int .u8 32, .int .u8 111, .int .u8 107, .int .u8 59, .int .u8 32, .int .u8 125] 5 (14, 14 + 1)) = W := ⟨_, rfl⟩
  have hT2 : Touch NoB W1 W2 := by rw [← hW2]; exact (Touch.refl _ _).alloc _
  have hB2 : BAt W2 (some ⟨W1.heap.size, 0, none⟩) aliT := by rw [← hW2]; exact bat_lit W1 aliT _ _
  have hcv : (convert 33 33 (.slice (some ⟨W1.heap.size, 0, none⟩) 14 14)).run Tryz.prog (W1.alloc (.cells #[.int .u8 116, .int .u8 114, .int .u8 101, .int .u8 101, .int .u8 32, .int .u8 116, .int .u8 32, .int .u8 123, .int .u8 32, .int .u8 111, .int .u8 107, .int .u8 59, .int .u8 32, .int .u8 125] 5)) = .ok (.slice (some ⟨W1.heap.size, 0, none⟩) 14 14) W2 := by rw [← hW2]; exact Lib.run_convert_bytes_const W1 33 5 #[.int .u8 116, .int .u8 114, .int .u8 101, .int .u8 101, .int .u8 32, .int .u8 116, .int .u8 32, .int .u8 123, .int .u8 32, .int .u8 111, .int .u8 107, .int .u8 59, .int .u8 32, .int .u8 125] 14 14 Tryz.underlying33 Tryz.underlying5
  have HQ := Lib.hid (parse_e2 (w := W2) (n := 14) (cap := 14) (b := aliT) rfl (by decide) (by decide) (by decide) hB2 (HE.out.touch (t1.same hT2)))
  have HT := Lib.hid (And.intro (t1.same hT2) (show B3 W2 29 w1.heap.size (.slice x1 l1 d1) (.slice A 0 c) (.slice x3 l3 d3) from (hT2.block _ (blk_lt b1) (fun z => z)).trans b1))
  clear hr hT1 t1 b1 hT2 hB2
  go_wp2_with fail
  refine HQ.out.mono ?_
  intro r w3 hr
  obtain ⟨hT3, y1, m1, e1, bk, c3, y3, m3, e3, rfl, h1, h2, h3⟩ := post_1 hr
  obtain ⟨W3, hW3⟩ : ∃ W, w3.alloc (.cells #[(.slice y1 m1 e1), .slice (some ⟨bk, 0, none⟩) 1 c3, (.slice y3 m3 e3)] 29) = W := ⟨_, rfl⟩
  have t3 : Touch NoB w3 W3 := by rw [← hW3]; exact (Touch.refl _ _).alloc _
  have b3 : B3 W3 29 w3.heap.size (.slice y1 m1 e1) (.slice (some ⟨bk, 0, none⟩) 1 c3) (.slice y3 m3 e3) := by rw [← hW3]; exact B3.new _ _ _ _ _ rfl
  have b1 : B3 W3 29 w1.heap.size (.slice x1 l1 d1) (.slice A 0 c) (.slice x3 l3 d3) := ((hT3.same t3).block _ (blk_lt HT.out.2) (fun z => z)).trans HT.out.2
  have hk : W3.cell? ⟨bk, 1, none⟩ = some (.int .i64 13) := (t3.cell (p := ⟨bk, 1, none⟩) h2 (fun z => z)).trans h3
  obtain ⟨p0, p1, p2, pl⟩ := b1.cells
  obtain ⟨q0, q1, q2, ql⟩ := b3.cells
  have HE3 := Lib.hid (HT.out.1.same (hT3.same t3))
  clear hr hT3 t3 b3 b1 h1 h2 h3
  go_wp2_with (first | (go_at_call 8; refine (HN.out _ _).mono ?_; rintro e w' ⟨rfl, rfl⟩))
  go_ret
  exact ⟨rfl, HE3.out⟩
end Go.Proofs.YtkmbobfjoaldgaaGreatDoor

/-
  An expression among others in memory. No condition beyond those that the theorem names.
-/
namespace Go.Proofs.YtkmbobfjoaldgaaGreatDoor
open Go.ChangeShapes Go.WideShapes Go.ChangeAt Go.RowKit
set_option maxRecDepth 100000
set_option maxHeartbeats 4000000

/-- An expression among others. -/
theorem ex_at {w : World} {Q : Nat → Prop} {A : Option Addr} {n c i : Nat} {l : List Ex} {xs : List Value} {t : Ex} (h : SlAt w Q (.slice A n c) n xs) (hl : LsAt (XAt w Q) l xs) (ht : l[i]? = some t) :
    ∃ g a b s B m d, A = some ⟨g, 0, none⟩ ∧ w.cell? ⟨g, i * 4, none⟩ = some (.int .i64 a) ∧ w.cell? ⟨g, i * 4 + 1, none⟩ = some (.int .i64 b) ∧ w.cell? ⟨g, i * 4 + 2, none⟩ = some (.string s) ∧ w.cell? ⟨g, i * 4 + 3, none⟩ = some (.slice B m d) ∧ ET w Q t a b s B m d := by
  obtain ⟨ys, ⟨a, b, s, B, m, d, rfl, het⟩, hj⟩ := hl.at_ (s := 4) (fun a ys hy => hy.len) i t ht
  obtain ⟨g, rfl, k0, k1, k2, k3⟩ := h.cells4 (i := i) (hj 0 (by decide)) (hj 1 (by decide)) (hj 2 (by decide)) (hj 3 (by decide))
  exact ⟨g, a, b, s, B, m, d, rfl, k0, k1, k2, k3, het⟩
/-- The load of a whole node: closed to the walk's simp. -/
def LoadNd (v : Value) : Sem Value := Instr.loadAt 47 v
theorem loadNd_of (v : Value) : Instr.loadAt 47 v = LoadNd v := rfl
theorem isRow_nd : (Tryz.prog.underlying 47).map TypeDesc.isRow = some true := by kernel_rfl
theorem size_nd : (Tryz.prog.info? 47).map (·.size) = some 10 := by kernel_rfl
theorem run_LoadNd (W : World) (b o : Nat) (cs : List Value) (hl : cs.length = 10) (hc : W.rangeAt b o cs) : (LoadNd (.pointer (some ⟨b, o, none⟩))).run Tryz.prog W = .ok (.agg cs.toArray) W := by
  cases hu : Tryz.prog.underlying 47 with
  | none => have := isRow_nd; rw [hu] at this; cases this
  | some d =>
    have h := isRow_nd
    rw [hu] at h
    exact run_loadAt_mid W b o _ cs d hc hu (by injection h) (by rw [hl]; exact size_nd)
theorem range10 {W : World} {b o : Nat} {v0 v1 v2 v3 v4 v5 v6 v7 v8 v9 : Value} (h0 : W.cell? ⟨b, o, none⟩ = some v0) (h1 : W.cell? ⟨b, o + 1, none⟩ = some v1) (h2 : W.cell? ⟨b, o + 2, none⟩ = some v2) (h3 : W.cell? ⟨b, o + 3, none⟩ = some v3) (h4 : W.cell? ⟨b, o + 4, none⟩ = some v4) (h5 : W.cell? ⟨b, o + 5, none⟩ = some v5) (h6 : W.cell? ⟨b, o + 6, none⟩ = some v6) (h7 : W.cell? ⟨b, o + 7, none⟩ = some v7) (h8 : W.cell? ⟨b, o + 8, none⟩ = some v8) (h9 : W.cell? ⟨b, o + 9, none⟩ = some v9) : W.rangeAt b o [v0, v1, v2, v3, v4, v5, v6, v7, v8, v9] := by
  intro j v hj
  match j, hj with
  | 0, hj => cases hj; exact h0
  | 1, hj => cases hj; exact h1
  | 2, hj => cases hj; exact h2
  | 3, hj => cases hj; exact h3
  | 4, hj => cases hj; exact h4
  | 5, hj => cases hj; exact h5
  | 6, hj => cases hj; exact h6
  | 7, hj => cases hj; exact h7
  | 8, hj => cases hj; exact h8
  | 9, hj => cases hj; exact h9
  | n + 10, hj => cases hj
end Go.Proofs.YtkmbobfjoaldgaaGreatDoor

/-
  Nodes that are not too deep and not too wide, told by a plain function; a node in memory that is no deeper than its form. Lists alone, and memory that is read. No condition beyond those that each theorem names.
-/
namespace Go.Proofs.YtkmbobfjoaldgaaGreatDoor
open Go.ChangeShapes Go.WideShapes Go.ChangeAt Go.RowKit
set_option maxRecDepth 100000
set_option maxHeartbeats 4000000

theorem Ex.same_refl : ∀ x : Ex, x.same x = true
  | .leaf k n s => by simp [Ex.same]
  | .one k x => by simp [Ex.same, Ex.same_refl x]
  | .two k x y => by simp [Ex.same, Ex.same_refl x, Ex.same_refl y]
/-- Less than f deep, lists of at most 1000, kinds of nodes. -/
def fitB : Nat → Nd → Bool
  | 0, _ => false
  | f + 1, n => decide (n.kd ≤ 15) && decide (n.ks.length ≤ 1000) && decide (n.ws.length ≤ 1000) && n.ks.all (fitB f)
theorem LsAt.mono_mem {α : Type} {P P' : α → List Value → Prop} {l : List α} {xs : List Value} (h : LsAt P l xs) (hp : ∀ a ∈ l, ∀ ys, P a ys → P' a ys) : LsAt P' l xs := by
  induction h with
  | nil => exact .nil
  | snoc _ ha ih => exact .snoc (ih (fun a hm => hp a (List.mem_append.2 (.inl hm)))) (hp _ (by simp) _ ha)
theorem NT.fit {w : World} {Q : Nat → Prop} : ∀ (f D : Nat) (n : Nd) (l : List Value), fitB f n = true → NT w Q D n l → NT w Q f n l
  | 0, _, _, _, h, _ => by simp [fitB] at h
  | f + 1, 0, _, _, _, h => h.elim
  | f + 1, D + 1, n, l, hf, h => by
    simp only [fitB, Bool.and_eq_true, List.all_eq_true] at hf
    obtain ⟨a, b, s, A, m, c, kv, wv, xs, ys, e, h1, h2, h3, h4, h5⟩ := h
    exact ⟨a, b, s, A, m, c, kv, wv, xs, ys, e, h1, h2, h3.mono_mem (fun k hk zs hz => NT.fit f D k zs (hf.2 k hk) hz), h4, h5⟩
end Go.Proofs.YtkmbobfjoaldgaaGreatDoor

/-
  The document's own sameness of nodes: of two that lie apart in memory and are the same it returns true. Conditions: those that each theorem names.
-/
namespace Go.Proofs.YtkmbobfjoaldgaaGreatDoor
open Go.ChangeShapes Go.WideShapes Go.ChangeAt Go.RowKit
set_option maxRecDepth 100000
set_option maxHeartbeats 4000000

theorem samexs_any {A1 A2 : Option Addr} {c1 c2 m : Nat} {l : List Ex} {xs ys : List Value} {w : World} {Q1 Q2 : Nat → Prop} (hm : l.length = m) (hm2 : m ≤ 100000) (h1 : SlAt w Q1 (.slice A1 m c1) m xs) (l1 : LsAt (XAt w Q1) l xs) (h2 : SlAt w Q2 (.slice A2 m c2) m ys) (l2 : LsAt (XAt w Q2) l ys) :
    Calls Tryz.prog 46 #[.slice A1 m c1, .slice A2 m c2] w fun e w' => e = .returned (.bool true) ∧ Touch NoB w w' := by
  have HH := Lib.hid (And.intro h1 (And.intro l1 (And.intro h2 l2)))
  have HM := Lib.hid hm
  clear h1 l1 h2 l2 hm
  go_enter Tryz.func46, Tryz.ntmps46
  go_wp2
  go_loopw [5] (fun v5 wr => SrRel m w v5 wr) (fun v5 _ => m - (intOf v5).toNat)
  case atStart => exact ⟨0, Nat.zero_le _, rfl, Touch.refl _ _⟩
  case round =>
    obtain ⟨i, hi, rfl, hTr⟩ := hrel
    by_cases hlt : i < m
    · obtain ⟨t, ht⟩ : ∃ t, l[i]? = some t := ⟨l[i]'(by rw [HM.out]; exact hlt), List.getElem?_eq_getElem _⟩
      obtain ⟨g1, a1, b1, t1, B1, m1, d1, rfl, k0, k1, k2, k3, ket1⟩ := ex_at (HH.out.1.touch hTr (fun _ _ x => x)) (HH.out.2.1.mono (fun x ys hx => hx.touch hTr (fun _ _ x => x))) ht
      obtain ⟨g2, a2, b2, t2, B2, m2, d2, rfl, l0, l1, l2, l3, ket2⟩ := ex_at (HH.out.2.2.1.touch hTr (fun _ _ x => x)) (HH.out.2.2.2.mono (fun x ys hx => hx.touch hTr (fun _ _ x => x))) ht
      have p0 : wr.drew.cell? ⟨g1, i * 4, none⟩ = some (.int .i64 a1) := k0
      have p1 : wr.drew.cell? ⟨g1, i * 4 + 1, none⟩ = some (.int .i64 b1) := k1
      have p2 : wr.drew.cell? ⟨g1, i * 4 + 2, none⟩ = some (.string t1) := k2
      have p3 : wr.drew.cell? ⟨g1, i * 4 + 3, none⟩ = some (.slice B1 m1 d1) := k3
      have q0 : wr.drew.cell? ⟨g2, i * 4, none⟩ = some (.int .i64 a2) := l0
      have q1 : wr.drew.cell? ⟨g2, i * 4 + 1, none⟩ = some (.int .i64 b2) := l1
      have q2 : wr.drew.cell? ⟨g2, i * 4 + 2, none⟩ = some (.string t2) := l2
      have q3 : wr.drew.cell? ⟨g2, i * 4 + 3, none⟩ = some (.slice B2 m2 d2) := l3
      have tdr : Touch NoB wr wr.drew := (Touch.refl _ _).drew
      have HC := Lib.hid (same_all t.depth t t (Nat.le_refl _) wr.drew Q1 Q2 _ _ _ _ _ _ _ _ _ _ _ _ (ket1.far tdr (fun _ _ x => x)) (ket2.far tdr (fun _ _ x => x)))
      rw [Ex.same_refl] at HC
      have HT := Lib.hid (hTr.same tdr)
      clear ket1 ket2 hTr ht k0 k1 k2 k3 l0 l1 l2 l3 tdr
      go_wp2_with fail
      go_region_law (go_simp; go_at_call 45; refine HC.out.mono ?_; rintro r w2 ⟨rfl, hT2⟩; have HT2 := Lib.hid (HT.out.same hT2); clear hT2)
      all_goals
        go_wp2
        go_roundw
        case rel => exact ⟨i + 1, by omega, by go_num, HT2.out⟩
        case measure => simp [intOf]; omega
    · obtain rfl : i = m := by omega
      have HT := Lib.hid hTr
      clear hTr
      go_wp2
      go_ret
      exact ⟨rfl, HT.out⟩
/-- A node's ten cells in a block of its own. -/
theorem nd_block (w : World) (cs : Array Value) : Touch NoB w (w.alloc (.cells cs 47)) ∧ (w.alloc (.cells cs 47)).heap[w.heap.size]? = some (.cells cs 47 (0, 0)) := ⟨(Touch.refl _ _).alloc _, alloc_blk _ _ _ rfl⟩
theorem samenode_any : ∀ (f : Nat) (n : Nd), fitB f n = true → ∀ (w : World) (Q R : Nat → Prop) (D E : Nat)
    (a0 a1 : Int) (a2 : ByteArray) (A : Option Addr) (m c : Nat) (A1 : Option Addr) (c1 : Nat) (A2 : Option Addr) (c2 : Nat)
    (b0 b1 : Int) (b2 : ByteArray) (B : Option Addr) (n' d : Nat) (B1 : Option Addr) (d1 : Nat) (B2 : Option Addr) (d2 : Nat),
    NT w Q D n [.int .i64 (n.kd : Int), .int .i64 (n.a : Int), .int .i64 (n.b : Int), .string (bs n.nm), .int .i64 a0, .int .i64 a1, .string a2, .slice A m c, .slice A1 n.ks.length c1, .slice A2 n.ws.length c2] →
    NT w R E n [.int .i64 (n.kd : Int), .int .i64 (n.a : Int), .int .i64 (n.b : Int), .string (bs n.nm), .int .i64 b0, .int .i64 b1, .string b2, .slice B n' d, .slice B1 n.ks.length d1, .slice B2 n.ws.length d2] →
    Calls Tryz.prog 18 #[.agg #[.int .i64 (n.kd : Int), .int .i64 (n.a : Int), .int .i64 (n.b : Int), .string (bs n.nm), .int .i64 a0, .int .i64 a1, .string a2, .slice A m c, .slice A1 n.ks.length c1, .slice A2 n.ws.length c2], .agg #[.int .i64 (n.kd : Int), .int .i64 (n.a : Int), .int .i64 (n.b : Int), .string (bs n.nm), .int .i64 b0, .int .i64 b1, .string b2, .slice B n' d, .slice B1 n.ks.length d1, .slice B2 n.ws.length d2]] w fun e w' => e = .returned (.bool true) ∧ Touch NoB w w'
  | 0, n, h => by simp [fitB] at h
  | f + 1, n, hf => by
    intro w Q R D E a0 a1 a2 A m c A1 c1 A2 c2 b0 b1 b2 B n' d B1 d1 B2 d2 hx hy
    have ih := Lib.hid (fun (y : Nd) (hy : fitB f y = true) => samenode_any f y hy)
    simp only [fitB, Bool.and_eq_true, List.all_eq_true, decide_eq_true_eq] at hf
    obtain ⟨⟨⟨hk15, hkl⟩, hwl⟩, hfk⟩ := hf
    cases D with
    | zero => exact hx.elim
    | succ D =>
    cases E with
    | zero => exact hy.elim
    | succ E =>
    obtain ⟨e1, e2, e3, e4, e5, e6, kv, wv, xs, ys, he, hx1, hx2, hx3, hx4, hx5⟩ := hx
    obtain ⟨g1, g2, g3, g4, g5, g6, kv', wv', xs', ys', hg, hy1, hy2, hy3, hy4, hy5⟩ := hy
    simp only [List.cons.injEq, Value.int.injEq, Value.string.injEq, Value.slice.injEq, and_true, true_and] at he hg
    obtain ⟨rfl, rfl, rfl, ⟨rfl, rfl, rfl⟩, rfl, rfl⟩ := he
    obtain ⟨rfl, rfl, rfl, ⟨rfl, rfl, rfl⟩, rfl, rfl⟩ := hg
    have HFK := Lib.hid hfk
    have HKX := Lib.hid (fun (W : World) (t : Touch NoB w W) (i : Nat) (y : Nd) (hi : n.ks[i]? = some y) => kids_at (hx2.touch t (fun _ _ x => x)) (hx3.mono (NT.touch t (fun _ _ x => x) D)) i y hi)
    have HKY := Lib.hid (fun (W : World) (t : Touch NoB w W) (i : Nat) (y : Nd) (hi : n.ks[i]? = some y) => kids_at (hy2.touch t (fun _ _ x => x)) (hy3.mono (NT.touch t (fun _ _ x => x) E)) i y hi)
    have HSX := Lib.hid (fun (W : World) (t : Touch NoB w W) => same_all n.ex.depth n.ex n.ex (Nat.le_refl _) W Q R _ _ _ _ _ _ _ _ _ _ _ _ (hx1.far t (fun _ _ x => x)) (hy1.far t (fun _ _ x => x)))
    rw [Ex.same_refl] at HSX
    obtain ⟨M, hM⟩ : ∃ M, n.ws.length = M := ⟨_, rfl⟩
    obtain ⟨L, hL⟩ : ∃ L, n.ks.length = L := ⟨_, rfl⟩
    rw [hM] at hx4 hy4 hwl
    rw [hL] at hkl
    have HSS := Lib.hid (fun (W : World) (t : Touch NoB w W) => samexs_any hM (by omega) (hx4.touch t (fun _ _ x => x)) (hx5.mono (fun x ys hx => hx.touch t (fun _ _ x => x))) (hy4.touch t (fun _ _ x => x)) (hy5.mono (fun x ys hx => hx.touch t (fun _ _ x => x))))
    rw [hM, hL]
    obtain ⟨k, hk⟩ : ∃ k, (n.kd : Int) = k := ⟨_, rfl⟩
    obtain ⟨pa, hpa⟩ : ∃ k, (n.a : Int) = k := ⟨_, rfl⟩
    obtain ⟨pb, hpb⟩ : ∃ k, (n.b : Int) = k := ⟨_, rfl⟩
    obtain ⟨nm, hnm⟩ : ∃ k, bs n.nm = k := ⟨_, rfl⟩
    rw [hk, hpa, hpb, hnm]
    have dk : (k != k) = false := by simp
    have da : (pa != pa) = false := by simp
    have db : (pb != pb) = false := by simp
    have dn : (nm.toList == nm.toList) = true := by simp
    obtain ⟨W1, hW1⟩ : ∃ W, w.alloc (.cells #[.int .i64 k, .int .i64 pa, .int .i64 pb, .string nm, .int .i64 a0, .int .i64 a1, .string a2, .slice A m c, .slice A1 L c1, .slice A2 M c2] 47) = W := ⟨_, rfl⟩
    obtain ⟨W0, hW0⟩ : ∃ W, W1.alloc (.cells #[.int .i64 k, .int .i64 pa, .int .i64 pb, .string nm, .int .i64 b0, .int .i64 b1, .string b2, .slice B n' d, .slice B1 L d1, .slice B2 M d2] 47) = W := ⟨_, rfl⟩
    have hs1 : W1.heap.size = w.heap.size + 1 := by rw [← hW1]; simp only [World.size_alloc]
    have t1 : Touch NoB w W1 := by rw [← hW1]; exact (nd_block _ _).1
    have t2 : Touch NoB W1 W0 := by rw [← hW0]; exact (nd_block _ _).1
    have hA1 := (nd_block w #[.int .i64 k, .int .i64 pa, .int .i64 pb, .string nm, .int .i64 a0, .int .i64 a1, .string a2, .slice A m c, .slice A1 L c1, .slice A2 M c2]).2
    rw [hW1] at hA1
    have hA := (t2.block _ (blk_lt hA1) (fun x => x)).trans hA1
    have hB := (nd_block W1 #[.int .i64 k, .int .i64 pa, .int .i64 pb, .string nm, .int .i64 b0, .int .i64 b1, .string b2, .slice B n' d, .slice B1 L d1, .slice B2 M d2]).2
    rw [hW0] at hB
    have HT0 := Lib.hid (t1.same t2)
    have HBK := Lib.hid (fun (W : World) (t : Touch NoB W0 W) => And.intro ((t.block _ (blk_lt hA) (fun x => x)).trans hA) ((t.block _ (blk_lt hB) (fun x => x)).trans hB))
    have HCL := Lib.hid (fun (W : World) (t : Touch NoB W0 W) => And.intro (cell_blk (HBK.out W t).1) (cell_blk (HBK.out W t).2))
    have HLT := Lib.hid (And.intro (blk_lt hA) (blk_lt hB))
    have x0 : W0.cell? ⟨w.heap.size, 0, none⟩ = some (.int .i64 k) := (HCL.out W0 (Touch.refl _ _)).1 0
    have x1 : W0.cell? ⟨w.heap.size, 1, none⟩ = some (.int .i64 pa) := (HCL.out W0 (Touch.refl _ _)).1 1
    have x2 : W0.cell? ⟨w.heap.size, 2, none⟩ = some (.int .i64 pb) := (HCL.out W0 (Touch.refl _ _)).1 2
    have x3 : W0.cell? ⟨w.heap.size, 3, none⟩ = some (.string nm) := (HCL.out W0 (Touch.refl _ _)).1 3
    have x4 : W0.cell? ⟨w.heap.size, 4, none⟩ = some (.int .i64 a0) := (HCL.out W0 (Touch.refl _ _)).1 4
    have x5 : W0.cell? ⟨w.heap.size, 5, none⟩ = some (.int .i64 a1) := (HCL.out W0 (Touch.refl _ _)).1 5
    have x6 : W0.cell? ⟨w.heap.size, 6, none⟩ = some (.string a2) := (HCL.out W0 (Touch.refl _ _)).1 6
    have x7 : W0.cell? ⟨w.heap.size, 7, none⟩ = some (.slice A m c) := (HCL.out W0 (Touch.refl _ _)).1 7
    have y0 : W0.cell? ⟨W1.heap.size, 0, none⟩ = some (.int .i64 k) := (HCL.out W0 (Touch.refl _ _)).2 0
    have y1 : W0.cell? ⟨W1.heap.size, 1, none⟩ = some (.int .i64 pa) := (HCL.out W0 (Touch.refl _ _)).2 1
    have y2 : W0.cell? ⟨W1.heap.size, 2, none⟩ = some (.int .i64 pb) := (HCL.out W0 (Touch.refl _ _)).2 2
    have y3 : W0.cell? ⟨W1.heap.size, 3, none⟩ = some (.string nm) := (HCL.out W0 (Touch.refl _ _)).2 3
    have y4 : W0.cell? ⟨W1.heap.size, 4, none⟩ = some (.int .i64 b0) := (HCL.out W0 (Touch.refl _ _)).2 4
    have y5 : W0.cell? ⟨W1.heap.size, 5, none⟩ = some (.int .i64 b1) := (HCL.out W0 (Touch.refl _ _)).2 5
    have y6 : W0.cell? ⟨W1.heap.size, 6, none⟩ = some (.string b2) := (HCL.out W0 (Touch.refl _ _)).2 6
    have y7 : W0.cell? ⟨W1.heap.size, 7, none⟩ = some (.slice B n' d) := (HCL.out W0 (Touch.refl _ _)).2 7
    have hlA := HLT.out.1
    have hlB := HLT.out.2
    clear hx1 hx2 hx3 hx4 hx5 hy1 hy2 hy3 hy4 hy5 t1 t2 hA1 hA hB hs1 hfk hk hpa hpb hnm
    go_enter Tryz.func18, Tryz.ntmps18
    go_wp2_with fail
    try rw [hW1]
    try rw [hW0]
    refine (HSX.out _ HT0.out).mono ?_
    rintro x w1 ⟨rfl, hT⟩
    have HT1 := Lib.hid hT
    have p9 : w1.cell? ⟨w.heap.size, 9, none⟩ = some (.slice A2 M c2) := (HCL.out w1 hT).1 9
    have q9 : w1.cell? ⟨W1.heap.size, 9, none⟩ = some (.slice B2 M d2) := (HCL.out w1 hT).2 9
    have hl1 : W1.heap.size < w1.heap.size := Nat.lt_of_lt_of_le hlB hT.size
    clear hT
    go_wp2_with fail
    refine (HSS.out _ (HT0.out.same HT1.out)).mono ?_
    rintro x w2 ⟨rfl, hT⟩
    have HT2 := Lib.hid (HT1.out.same hT)
    have r8 : w2.cell? ⟨w.heap.size, 8, none⟩ = some (.slice A1 L c1) := (HCL.out w2 HT2.out).1 8
    have s8 : w2.cell? ⟨W1.heap.size, 8, none⟩ = some (.slice B1 L d1) := (HCL.out w2 HT2.out).2 8
    have hl2 : W1.heap.size < w2.heap.size := Nat.lt_of_lt_of_le hlB HT2.out.size
    have dl : ((L : Int) != (L : Int)) = false := by simp
    clear hT x0 x1 x2 x3 x4 x5 x6 x7 y0 y1 y2 y3 y4 y5 y6 y7 p9 q9
    go_wp2
    go_loopw [5] (fun v5 wr => SrRel L W0 v5 wr) (fun v5 _ => L - (intOf v5).toNat)
    case atStart => exact ⟨0, Nat.zero_le _, rfl, HT2.out⟩
    case round =>
      obtain ⟨i, hi, rfl, hTr⟩ := hrel
      have rr8 : wr.cell? ⟨w.heap.size, 8, none⟩ = some (.slice A1 L c1) := (HCL.out wr hTr).1 8
      have ss8 : wr.cell? ⟨W1.heap.size, 8, none⟩ = some (.slice B1 L d1) := (HCL.out wr hTr).2 8
      have rd8 : wr.drew.cell? ⟨w.heap.size, 8, none⟩ = some (.slice A1 L c1) := rr8
      have sd8 : wr.drew.cell? ⟨W1.heap.size, 8, none⟩ = some (.slice B1 L d1) := ss8
      have hlr : W1.heap.size < wr.heap.size := Nat.lt_of_lt_of_le hlB hTr.size
      have HTr := Lib.hid hTr
      by_cases hlt : i < L
      · obtain ⟨y, hy⟩ : ∃ y, n.ks[i]? = some y := ⟨n.ks[i]'(by rw [hL]; exact hlt), List.getElem?_eq_getElem _⟩
        have td : Touch NoB wr wr.drew := (Touch.refl _ _).drew
        obtain ⟨g, f0, f1, f2, C, cm, cc, C1, e1, C2, e2, rfl, hkid⟩ := HKX.out _ ((HT0.out.same hTr).same td) i y hy
        obtain ⟨kl, k0, k1, k2, k3, k4, k5, k6, k7, k8, k9, hnt⟩ := hkid
        obtain ⟨g', f0', f1', f2', C', cm', cc', C1', e1', C2', e2', rfl, hkid'⟩ := HKY.out _ ((HT0.out.same hTr).same td) i y hy
        obtain ⟨kl', k0', k1', k2', k3', k4', k5', k6', k7', k8', k9', hnt'⟩ := hkid'
        have HR := Lib.hid (ih.out y (HFK.out y (List.mem_of_getElem? hy)) wr.drew _ _ _ _ _ _ _ _ _ _ _ _ _ _ _ _ _ _ _ _ _ _ _ _ hnt hnt')
        have HT3 := Lib.hid (hTr.same td)
        clear hTr hnt hnt' hy td HTr
        go_wp2_with fail
        go_region_law (go_simp; go_at_call 18; refine HR.out.mono ?_; rintro r w3 ⟨rfl, hT3⟩; have HT4 := Lib.hid (HT3.out.same hT3); clear hT3)
        all_goals
          go_wp2
          go_roundw
          case rel => exact ⟨i + 1, by omega, by go_num, HT4.out⟩
          case measure => simp [intOf]; omega
      · obtain rfl : i = L := by omega
        clear hTr
        go_wp2
        go_ret
        exact ⟨rfl, HT0.out.same HTr.out⟩
end Go.Proofs.YtkmbobfjoaldgaaGreatDoor
