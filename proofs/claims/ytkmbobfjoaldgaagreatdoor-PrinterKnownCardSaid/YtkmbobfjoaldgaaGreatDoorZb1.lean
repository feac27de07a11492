/-
  What a node's text is made of, over lists: its kids' texts piece by piece; which nodes are written, told by a plain function. Lists alone, but for what a table's place is.
-/
import Derived.Test.YtkmbobfjoaldgaaGreatDoorZa11
import Derived.Test.YtkmbobfjoaldgaaGreatDoorZa16
import Derived.Deep.RegionLaw
import Derived.Test.YtkmbobfjoaldgaaGreatDoorZa5
import Derived.Test.YtkmbobfjoaldgaaGreatDoorZa2
import Derived.StillTailTactics
namespace Go.Proofs.YtkmbobfjoaldgaaGreatDoor
open Go.ChangeShapes Go.WideShapes Go.ChangeAt Go.RowKit
set_option maxRecDepth 100000
set_option maxHeartbeats 4000000

/-- A valid expression that is not too deep. -/
def veB : Ex → Bool
  | .leaf k n s => (decide (k = 0) && decide (-9223372036854775808 < n) && decide (n ≤ 9223372036854775807) && decide (s = [])) || (decide (k = 1) && (decide (n = 0) || decide (n = 1)) && decide (s = [])) || ((decide (k = 2) || decide (k = 3)) && decide (n = 0) && okN s) || ((decide (k = 4) || decide (k = 5)) && decide (n = 0) && decide (s = []))
  | .one k x => (decide (k = 14) || decide (k = 16) || decide (k = 17) || decide (k = 18)) && veB x
  | .two k x y => ((decide (6 ≤ k) && decide (k ≤ 13)) || decide (k = 15) || decide (k = 19)) && veB x && veB y
theorem veB_ok : ∀ (x : Ex), veB x = true → vE x
  | .leaf k n s, h => by
    simp only [veB, Bool.or_eq_true, Bool.and_eq_true, decide_eq_true_eq] at h
    unfold vE
    rcases h with ((⟨⟨⟨a, b⟩, c⟩, d⟩ | ⟨⟨a, b⟩, c⟩) | ⟨⟨a, b⟩, c⟩) | ⟨⟨a, b⟩, c⟩
    · exact .inl ⟨a, b, c, d⟩
    · exact .inr (.inl ⟨a, b, c⟩)
    · exact .inr (.inr (.inl ⟨a, b, c⟩))
    · exact .inr (.inr (.inr ⟨a, b, c⟩))
  | .one k x, h => by
    simp only [veB, Bool.or_eq_true, Bool.and_eq_true, decide_eq_true_eq] at h
    unfold vE
    exact ⟨by omega, veB_ok x h.2⟩
  | .two k x y, h => by
    simp only [veB, Bool.or_eq_true, Bool.and_eq_true, decide_eq_true_eq] at h
    unfold vE
    exact ⟨by omega, veB_ok x h.1.2, veB_ok y h.2⟩
def exB (x : Ex) : Bool := decide (x.depth ≤ 40) && veB x
theorem exB_ok {x : Ex} (h : exB x = true) : x.depth ≤ 40 ∧ vE x := by
  simp only [exB, Bool.and_eq_true, decide_eq_true_eq] at h
  exact ⟨h.1, veB_ok x h.2⟩
/-- Nodes less than D deep that are written. -/
def PrN : Nat → Nd → Prop
  | 0, _ => False
  | D + 1, n => n.kd ≤ 15 ∧ n.ks.length ≤ 1000 ∧ n.ws.length ≤ 1000 ∧ (n.a : Int) ≤ 9223372036854775807 ∧ (n.b : Int) ≤ 9223372036854775807 ∧ (n.kd = 7 ∨ n.kd = 8 → n.ex.depth ≤ 40 ∧ vE n.ex) ∧ (∀ x ∈ n.ws, x.depth ≤ 40 ∧ vE x) ∧ ∀ k ∈ n.ks, PrN D k
def prB : Nat → Nd → Bool
  | 0, _ => false
  | f + 1, n => decide (n.kd ≤ 15) && decide (n.ks.length ≤ 1000) && decide (n.ws.length ≤ 1000) && decide (n.a ≤ 9223372036854775807) && decide (n.b ≤ 9223372036854775807) && ((decide (n.kd ≠ 7) && decide (n.kd ≠ 8)) || exB n.ex) && n.ws.all exB && n.ks.all (prB f)
theorem prB_ok : ∀ (f : Nat) (n : Nd), prB f n = true → PrN f n
  | 0, _, h => by simp [prB] at h
  | f + 1, n, h => by
    simp only [prB, Bool.or_eq_true, Bool.and_eq_true, decide_eq_true_eq, List.all_eq_true] at h
    obtain ⟨⟨⟨⟨⟨⟨⟨h1, h2⟩, h3⟩, h4⟩, h5⟩, h6⟩, h7⟩, h8⟩ := h
    refine ⟨h1, h2, h3, by omega, by omega, fun hk => ?_, fun x hx => exB_ok (h7 x hx), fun k hk => prB_ok f k (h8 k hk)⟩
    rcases h6 with h6 | h6
    · omega
    · exact exB_ok h6
theorem PrN.kd : ∀ {D : Nat} {n : Nd}, PrN D n → KdOk D n
  | 0, _, _ => trivial
  | D + 1, n, h => ⟨h.1, by have := h.2.1; omega, fun k hk => PrN.kd (h.2.2.2.2.2.2.2 k hk)⟩
/-- A kid's text. -/
def pcL (f : Nat → Nd → Bs) (pick : Bool) (lv : Nat) (ws : List Ex) (i : Nat) (k : Nd) : Bs := match pick, ws[i]? with
  | true, some x => lnL lv [prt x, [58]] ++ f (lv + 1) k
  | _, _ => f lv k
theorem kdL_app (f : Nat → Nd → Bs) (p : Bool) (lv : Nat) (ws : List Ex) : ∀ (a : List Nd) (i : Nat) (b : List Nd), kdL f p lv ws i (a ++ b) = kdL f p lv ws i a ++ kdL f p lv ws (i + a.length) b
  | [], i, b => by simp [kdL]
  | x :: a, i, b => by
    rw [List.cons_append]
    simp only [kdL]
    rw [kdL_app f p lv ws a (i + 1) b, List.append_assoc, List.length_cons, show i + 1 + a.length = i + (a.length + 1) by omega]
theorem kdL_take {f : Nat → Nd → Bs} {p : Bool} {lv : Nat} {ws : List Ex} {ks : List Nd} {i : Nat} {y : Nd} (h : ks[i]? = some y) : kdL f p lv ws 0 (ks.take (i + 1)) = kdL f p lv ws 0 (ks.take i) ++ pcL f p lv ws i y := by
  have hi := (List.getElem?_eq_some_iff.1 h).1
  rw [List.take_add_one, h, Option.toList_some, kdL_app, List.length_take, Nat.min_eq_left (Nat.le_of_lt hi), Nat.zero_add]
  simp only [kdL, List.append_nil]
  rfl
theorem kdL_le (f : Nat → Nd → Bs) (p : Bool) (lv : Nat) (ws : List Ex) (ks : List Nd) (i : Nat) : (kdL f p lv ws 0 (ks.take i)).length ≤ (kdL f p lv ws 0 ks).length := by
  have h := kdL_app f p lv ws (ks.take i) 0 (ks.drop i)
  rw [List.take_append_drop] at h
  rw [h, List.length_append]
  omega
theorem jnL_mem {ws : List Bs} {t : Bs} (h : t ∈ ws) : t.length ≤ (jnL ws).length := by
  cases ws with
  | nil => cases h
  | cons a r =>
    unfold jnL
    rw [List.length_append]
    rcases List.mem_cons.1 h with rfl | h
    · omega
    · have : ∀ (r : List Bs), t ∈ r → t.length ≤ (r.flatMap (fun t => if t = [59] then t else 32 :: t)).length := by
        intro r
        induction r with
        | nil => intro h; cases h
        | cons b r ih =>
          intro h
          rw [List.flatMap_cons, List.length_append]
          rcases List.mem_cons.1 h with rfl | h
          · split
            · omega
            · simp only [List.length_cons]; omega
          · have := ih h; omega
      have := this r h
      omega
theorem lnL_mem {lv : Nat} {ws : List Bs} {t : Bs} (h : t ∈ ws) : t.length ≤ (lnL lv ws).length := by
  have := jnL_mem h
  unfold lnL
  simp only [List.length_append]
  omega
theorem lnL_lv (lv : Nat) (ws : List Bs) : 2 * lv ≤ (lnL lv ws).length := by
  unfold lnL
  simp only [List.length_append, indL_len]
  omega
/-- What head wants. -/
theorem PrN.hd {D : Nat} {n : Nd} (h : PrN (D + 1) n) {lv : Nat} (hl : (ndL (D + 1) lv n).length ≤ 900000) : HdOk n := by
  refine ⟨h.2.2.2.1, h.2.2.2.2.1, fun hk => ?_⟩
  obtain ⟨h1, h2⟩ := h.2.2.2.2.2.1 hk
  refine ⟨h1, h2, ?_⟩
  have hm : mostL n.kd = 0 := by rcases hk with e | e <;> rw [e] <;> rfl
  unfold ndL at hl
  rw [if_pos hm] at hl
  have hmem : prt n.ex ∈ hdL n ++ [[59]] := by
    obtain ⟨k, a, b, nm, ex, ks, ws⟩ := n
    simp only [Nd.kd, Nd.ex] at *
    unfold hdL
    simp only [Nd.kd, Nd.a', Nd.b', Nd.nm', Nd.ex']
    rcases hk with rfl | rfl <;> simp
  have := lnL_mem (lv := lv) hmem
  omega
theorem _root_.Go.RowKit.Below.touchB {B : Nat} {w w' : World} (h : Below B w w') : Touch (fun k => B ≤ k) w w' := ⟨h.os, h.tape, h.output, h.size, fun k _ hf => h.block k (by omega)⟩
end Go.Proofs.YtkmbobfjoaldgaaGreatDoor

/-
  What package printer's kids writes, if node writes what it should of nodes that are less deep. Conditions: those that each theorem names.
-/
namespace Go.Proofs.YtkmbobfjoaldgaaGreatDoor
open Go.ChangeShapes Go.WideShapes Go.ChangeAt Go.RowKit
set_option maxRecDepth 100000
set_option maxHeartbeats 4000000

theorem WB.touch {w w' : World} {B b : Nat} {l : Bs} (h : WB w B b l) (t : Touch NoB w w') : WB w' B b l := by
  obtain ⟨p, v, hb, hp, hr⟩ := h.blk
  exact ⟨h.le, p, v, (t.block _ (blk_lt hb) (fun x => x)).trans hb, hp, row_touch hr t (fun _ _ x => x)⟩
theorem tka_new (w : World) {ws : List Bs} {cs : Array Value} (hcs : cs.toList = sC ws) {N : Nat} (hN : w.heap.size = N) : TkA (w.alloc (.cells cs 9)) N ws :=
  ⟨⟨cs, _, alloc_blk _ _ _ hN, fun i s hi => by rw [← Array.getElem?_toList, hcs]; exact sC_at hi⟩⟩
/-- The library's table, below B. -/
def TbB (B : Nat) (w : World) : Prop := Lib.TabBelow Tryz.prog B w "internal/strconv.uint64pow10" .u64 Lib.pow10Tab
theorem TbB.go {B : Nat} {w w' : World} (h : TbB B w) (k : Below B w w') : TbB B w' := Lib.TabBelow.on h k
theorem TbB.here {B : Nat} {w : World} (h : TbB B w) : Lib.TabIs Tryz.prog w "internal/strconv.uint64pow10" .u64 Lib.pow10Tab := Lib.TabBelow.here h
/-- What node does of nodes less than D deep. -/
def NodeC (D : Nat) : Prop := ∀ (n : Nd), PrN D n → ∀ (w : World) (B b lv : Nat) (l : Bs) {e0 e1 : Int} {e2 : ByteArray} {A : Option Addr} {m c : Nat} {A1 : Option Addr} {c1 : Nat} {A2 : Option Addr} {c2 : Nat},
    NT w (fun k => k < B) D n [.int .i64 (n.kd : Int), .int .i64 (n.a : Int), .int .i64 (n.b : Int), .string (bs n.nm), .int .i64 e0, .int .i64 e1, .string e2, .slice A m c, .slice A1 n.ks.length c1, .slice A2 n.ws.length c2] →
    WB w B b l → TbB B w → l.length + (ndL D lv n).length ≤ 900000 → lv ≤ 500000 →
    Calls Tryz.prog 90 #[.pointer (some ⟨b, 0, none⟩), .agg #[.int .i64 (n.kd : Int), .int .i64 (n.a : Int), .int .i64 (n.b : Int), .string (bs n.nm), .int .i64 e0, .int .i64 e1, .string e2, .slice A m c, .slice A1 n.ks.length c1, .slice A2 n.ws.length c2], .int .i64 (lv : Int)] w fun e w' => e = .returned (.tuple #[]) ∧ WB w' B b (l ++ ndL D lv n) ∧ Wr B b w w'
def KsRel (w0 : World) (B b : Nat) (l : Bs) (f : Nat → Nd → Bs) (pk : Bool) (lv : Nat) (n : Nd) (v : Value) (wr : World) : Prop := ∃ i : Nat, i ≤ n.ks.length ∧ v = .int .i64 i ∧ WB wr B b (l ++ kdL f pk lv n.ws 0 (n.ks.take i)) ∧ Wr B b w0 wr
theorem pkids_any {D : Nat} (ih : NodeC D) (n : Nd) (hp : PrN (D + 1) n) {w : World} {B b lv : Nat} {l : Bs} {e0 e1 : Int} {e2 : ByteArray} {A : Option Addr} {m c : Nat} {A1 : Option Addr} {c1 : Nat} {A2 : Option Addr} {c2 : Nat}
    (hn : NT w (fun k => k < B) (D + 1) n [.int .i64 (n.kd : Int), .int .i64 (n.a : Int), .int .i64 (n.b : Int), .string (bs n.nm), .int .i64 e0, .int .i64 e1, .string e2, .slice A m c, .slice A1 n.ks.length c1, .slice A2 n.ws.length c2])
    (hw : WB w B b l) (ht : TbB B w) (hl : l.length + (kdL (ndL D) (n.kd == 11) lv n.ws 0 n.ks).length ≤ 900000) (hlv : lv ≤ 500000) :
    Calls Tryz.prog 120 #[.pointer (some ⟨b, 0, none⟩), .agg #[.int .i64 (n.kd : Int), .int .i64 (n.a : Int), .int .i64 (n.b : Int), .string (bs n.nm), .int .i64 e0, .int .i64 e1, .string e2, .slice A m c, .slice A1 n.ks.length c1, .slice A2 n.ws.length c2], .int .i64 (lv : Int)] w fun e w' => e = .returned (.tuple #[]) ∧ WB w' B b (l ++ kdL (ndL D) (n.kd == 11) lv n.ws 0 n.ks) ∧ Wr B b w w' := by
  obtain ⟨hk15, hkl, hwl, -, -, -, hws, hkk⟩ := hp
  have HKK := Lib.hid hkk
  have HWS := Lib.hid hws
  obtain ⟨_, _, _, _, _, _, kv, wv, xs, ys, he, -, hks, hls, hww, hwx⟩ := hn
  simp only [List.cons.injEq, Value.int.injEq, Value.string.injEq, and_true, true_and] at he
  obtain ⟨-, -, -, -, rfl, rfl⟩ := he
  have HKD := Lib.hid (fun (W : World) (t : Below B w W) (i : Nat) (y : Nd) (hi : n.ks[i]? = some y) => kids_at (hks.touch t.touchB (fun _ h h' => by omega)) (hls.mono (NT.touch t.touchB (fun _ h h' => by omega) D)) i y hi)
  have HWD := Lib.hid (fun (W : World) (t : Below B w W) (i : Nat) (x : Ex) (hi : n.ws[i]? = some x) => ex_at (hww.touch t.touchB (fun _ h h' => by omega)) (hwx.mono (fun x ys hx => hx.touch t.touchB (fun _ h h' => by omega))) hi)
  have IH := Lib.hid ih
  obtain ⟨L, hL⟩ : ∃ L, n.ks.length = L := ⟨_, rfl⟩
  obtain ⟨M, hM⟩ : ∃ M, n.ws.length = M := ⟨_, rfl⟩
  rw [hL, hM]
  rw [hL] at hkl
  rw [hM] at hwl
  obtain ⟨pk, hpk⟩ : ∃ pk, (n.kd == 11) = pk := ⟨_, rfl⟩
  rw [hpk] at hl ⊢
  have hk11 : ((n.kd : Int) == 11) = pk := by rw [← hpk]; exact eq_nat _ 11
  obtain ⟨k, hk⟩ : ∃ k, (n.kd : Int) = k := ⟨_, rfl⟩
  rw [hk] at hk11 ⊢
  obtain ⟨W0, hW0⟩ : ∃ W, w.alloc (.cells #[.int .i64 k, .int .i64 (n.a : Int), .int .i64 (n.b : Int), .string (bs n.nm), .int .i64 e0, .int .i64 e1, .string e2, .slice A m c, .slice A1 L c1, .slice A2 M c2] 47) = W := ⟨_, rfl⟩
  have t0 : Touch NoB w W0 := by rw [← hW0]; exact (Touch.refl _ _).alloc _
  have hblk : W0.heap[w.heap.size]? = some (.cells #[.int .i64 k, .int .i64 (n.a : Int), .int .i64 (n.b : Int), .string (bs n.nm), .int .i64 e0, .int .i64 e1, .string e2, .slice A m c, .slice A1 L c1, .slice A2 M c2] 47 (0, 0)) := by rw [← hW0]; exact alloc_blk _ _ _ rfl
  have hbne : w.heap.size ≠ b := by have := hw.lt; omega
  have HBK := Lib.hid (fun (W : World) (t : Wr B b W0 W) => t.oth _ _ _ _ hblk (by decide) hbne)
  have z8 : W0.cell? ⟨w.heap.size, 8, none⟩ = some (.slice A1 L c1) := cell_blk hblk 8
  have hlt0 : w.heap.size < W0.heap.size := blk_lt hblk
  have HW0 := Lib.hid (And.intro (hw.touch t0) (And.intro (Wr.touch (b := b) hw.leB t0) (And.intro ht hl)))
  have hpL : (kdL (ndL D) pk lv n.ws 0 (n.ks.take L)) = kdL (ndL D) pk lv n.ws 0 n.ks := by rw [List.take_of_length_le (by omega)]
  have HPL := Lib.hid hpL
  clear hkk hws hks hls hww hwx hw ht hl t0 hblk hpk ih hpL
  go_enter Tryz.func120, Tryz.ntmps120
  go_wp2
  go_loopw [11] (fun v wr => KsRel W0 B b l (ndL D) pk lv n v wr) (fun v _ => L - (intOf v).toNat)
  case atStart => exact ⟨0, Nat.zero_le _, rfl, by simpa [kdL] using HW0.out.1, Wr.refl _ _ _⟩
  case round =>
    obtain ⟨i, hi, rfl, hwb, hwr⟩ := hrel
    rw [hL] at hi
    by_cases hlt : i < L
    · obtain ⟨y, hy⟩ : ∃ y, n.ks[i]? = some y := ⟨n.ks[i]'(by rw [hL]; exact hlt), List.getElem?_eq_getElem _⟩
      have hbw : Below B w wr := HW0.out.2.1.below.trans hwr.below
      obtain ⟨g, f0, f1, f2, B0, bm, bc, B1, d1, B2, d2, rfl, hkid⟩ := HKD.out _ hbw i y hy
      obtain ⟨kl, k0, k1, k2, k3, k4, k5, k6, k7, k8, k9, hnt⟩ := hkid
      have htk := kdL_take (f := ndL D) (p := pk) (lv := lv) (ws := n.ws) hy
      have hle := kdL_le (ndL D) pk lv n.ws n.ks (i + 1)
      rw [htk, List.length_append] at hle
      have hbk := HBK.out wr hwr
      obtain ⟨Wk, hWk⟩ : ∃ W, wr.alloc (.cells #[.int .i64 (y.kd : Int), .int .i64 (y.a : Int), .int .i64 (y.b : Int), .string (bs y.nm), .int .i64 f0, .int .i64 f1, .string f2, .slice B0 bm bc, .slice B1 y.ks.length d1, .slice B2 y.ws.length d2] 47) = W := ⟨_, rfl⟩
      have tk : Touch NoB wr Wk := by rw [← hWk]; exact (Touch.refl _ _).alloc _
      have hkb : Wk.heap[wr.heap.size]? = some (.cells #[.int .i64 (y.kd : Int), .int .i64 (y.a : Int), .int .i64 (y.b : Int), .string (bs y.nm), .int .i64 f0, .int .i64 f1, .string f2, .slice B0 bm bc, .slice B1 y.ks.length d1, .slice B2 y.ws.length d2] 47 (0, 0)) := by rw [← hWk]; exact alloc_blk _ _ _ rfl
      have kb0 : Wk.cell? ⟨wr.heap.size, 0, none⟩ = some (.int .i64 (y.kd : Int)) := cell_blk hkb 0
      have kb1 : Wk.cell? ⟨wr.heap.size, 1, none⟩ = some (.int .i64 (y.a : Int)) := cell_blk hkb 1
      have kb2 : Wk.cell? ⟨wr.heap.size, 2, none⟩ = some (.int .i64 (y.b : Int)) := cell_blk hkb 2
      have kb3 : Wk.cell? ⟨wr.heap.size, 3, none⟩ = some (.string (bs y.nm)) := cell_blk hkb 3
      have kb4 : Wk.cell? ⟨wr.heap.size, 4, none⟩ = some (.int .i64 f0) := cell_blk hkb 4
      have kb5 : Wk.cell? ⟨wr.heap.size, 5, none⟩ = some (.int .i64 f1) := cell_blk hkb 5
      have kb6 : Wk.cell? ⟨wr.heap.size, 6, none⟩ = some (.string f2) := cell_blk hkb 6
      have kb7 : Wk.cell? ⟨wr.heap.size, 7, none⟩ = some (.slice B0 bm bc) := cell_blk hkb 7
      have kb8 : Wk.cell? ⟨wr.heap.size, 8, none⟩ = some (.slice B1 y.ks.length d1) := cell_blk hkb 8
      have kb9 : Wk.cell? ⟨wr.heap.size, 9, none⟩ = some (.slice B2 y.ws.length d2) := cell_blk hkb 9
      have hnb : Wk.heap[w.heap.size]? = _ := (tk.block _ (blk_lt hbk) (fun x => x)).trans hbk
      have n0 : Wk.cell? ⟨w.heap.size, 0, none⟩ = some (.int .i64 k) := cell_blk hnb 0
      have n9 : Wk.cell? ⟨w.heap.size, 9, none⟩ = some (.slice A2 M c2) := cell_blk hnb 9
      have hbl := hwb.lt
      have HE := Lib.hid (And.intro hwb (And.intro hwr (And.intro hbw (And.intro htk hle))))
      have HKB := Lib.hid (And.intro tk (And.intro hkb hnb))
      have HNT := Lib.hid hnt
      have hyk := HKK.out y (List.mem_of_getElem? hy)
      have HY := Lib.hid hyk
      clear hwb hwr hbw htk hle tk hkb hnb hbk hnt hyk hy
      cases pk with
      | false =>
        have hpc : pcL (ndL D) false lv n.ws i y = ndL D lv y := by simp [pcL]
        rw [hpc] at HE
        have HC := Lib.hid (IH.out y HY.out Wk B b lv _ (NT.touch HKB.out.1 (fun _ _ x => x) D y _ HNT.out) (HE.out.1.touch HKB.out.1) (HW0.out.2.2.1.go (HE.out.2.2.1.trans (HKB.out.1.belowB HE.out.1.leB))) (by have h1 := HE.out.2.2.2.2; have h2 := HW0.out.2.2.2; simp only [List.length_append]; omega) hlv)
        have HX := Lib.hid hWk
        go_wp2_with fail
        try rw [HX.out]
        refine HC.out.mono ?_
        rintro r w2 ⟨rfl, hw2, hk2⟩
        have HG := Lib.hid (And.intro hw2 (HE.out.2.1.trans ((Wr.touch HE.out.1.leB HKB.out.1).trans hk2)))
        clear hw2 hk2
        go_wp2
        go_roundw
        case rel => exact ⟨i + 1, by omega, by go_num, by rw [HE.out.2.2.2.1, ← List.append_assoc]; exact HG.out.1, HG.out.2⟩
        case measure => simp [intOf]; omega
      | true =>
        by_cases him : i < M
        · obtain ⟨x, hx⟩ : ∃ x, n.ws[i]? = some x := ⟨n.ws[i]'(by rw [hM]; exact him), List.getElem?_eq_getElem _⟩
          have hpc : pcL (ndL D) true lv n.ws i y = lnL lv [prt x, [58]] ++ ndL D (lv + 1) y := by simp [pcL, hx]
          rw [hpc] at HE
          have hbWk : Below B w Wk := HE.out.2.2.1.trans (HKB.out.1.belowB HE.out.1.leB)
          obtain ⟨gx, a1, b1, s1, C1, m1, dd, rfl, q0, q1, q2, q3, hxt⟩ := HWD.out Wk hbWk i x hx
          obtain ⟨hxd, hxv⟩ := HWS.out x (List.mem_of_getElem? hx)
          have hpl : (prt x).length ≤ 900000 := by
            have h1 := HE.out.2.2.2.2
            have h2 := HW0.out.2.2.2
            have h3 := lnL_mem (lv := lv) (ws := [prt x, [58]]) (t := prt x) (by simp)
            simp only [List.length_append] at h1
            omega
          have HPR := Lib.hid (fun (W : World) (t : Touch NoB Wk W) => print_any hxd hxv hpl W ((HW0.out.2.2.1.go hbWk).go (t.belowB (Nat.le_trans HE.out.1.leB HKB.out.1.size))).here (hxt.far t (fun _ _ x => x)))
          have HLN := Lib.hid (fun (w3 W4 : World) (t : Touch NoB Wk w3) (e : w3.alloc (.cells #[.string (bs (prt x)), .string ⟨#[58]⟩] 9) = W4) => And.intro ((HKB.out.1.same t).same (show Touch NoB w3 W4 by rw [← e]; exact (Touch.refl _ _).alloc _)) (line_any (w := W4) (b := b) ((HE.out.1.touch (HKB.out.1.same t)).touch (show Touch NoB w3 W4 by rw [← e]; exact (Touch.refl _ _).alloc _)) lv (t := w3.heap.size) (n := 2) (c := 2) (ws := [prt x, [58]]) rfl (by rw [← e]; exact tka_new (cs := #[.string (bs (prt x)), .string ⟨#[58]⟩]) w3 rfl rfl) (by have := HE.out.1.lt; have := HKB.out.1.size; have := t.size; omega) (by have h1 := HE.out.2.2.2.2; have h2 := HW0.out.2.2.2; simp only [List.length_append] at h1 ⊢; omega) (by omega)))
          have him' : decide ((i : Int) < (M : Int)) = true := by simp; omega
          obtain ⟨lv1, hlv1⟩ : ∃ lv1, lv + 1 = lv1 := ⟨_, rfl⟩
          have hsum : IntKind.i64.wrap ((lv : Int) + 1) = (lv1 : Int) := by rw [show (lv : Int) + 1 = (lv1 : Int) from by omega]; exact IntWalk.i64_in _ (by omega)
          rw [hlv1] at HE
          have hl1 : lv1 ≤ 500000 := by
            have h1 := HE.out.2.2.2.2
            have h2 := HW0.out.2.2.2
            have h3 := lnL_lv lv [prt x, [58]]
            simp only [List.length_append] at h1
            omega
          clear hx hxt hxd hxv hpl hbWk hlv1
          go_wp2_with fail
          refine (HPR.out _ (Touch.refl _ _)).mono ?_
          rintro r w3 ⟨rfl, hT3⟩
          obtain ⟨W4, hW4⟩ : ∃ W, w3.alloc (.cells #[.string (bs (prt x)), .string ⟨#[58]⟩] 9) = W := ⟨_, rfl⟩
          obtain ⟨ht4, hline⟩ := HLN.out w3 W4 hT3 hW4
          have t34 : Touch NoB w3 W4 := by rw [← hW4]; exact (Touch.refl _ _).alloc _
          have HB4 := Lib.hid ((t34.block _ (by have := blk_lt HKB.out.2.1; have := hT3.size; omega) (fun x => x)).trans ((hT3.block _ (blk_lt HKB.out.2.1) (fun x => x)).trans HKB.out.2.1))
          have HL4 := Lib.hid hline
          have HT4 := Lib.hid ht4
          clear hline ht4 hT3 t34 q0 q1 q2 q3 kb0 kb1 kb2 kb3 kb4 kb5 kb6 kb7 kb8 kb9
          go_wp2_with fail
          refine HL4.out.mono ?_
          rintro r w5 ⟨rfl, hw5, hk5⟩
          have hkb5 := hk5.oth _ _ _ _ HB4.out (by decide) (by have := HE.out.1.lt; omega)
          have kb0 : w5.cell? ⟨wr.heap.size, 0, none⟩ = some (.int .i64 (y.kd : Int)) := cell_blk hkb5 0
          have kb1 : w5.cell? ⟨wr.heap.size, 1, none⟩ = some (.int .i64 (y.a : Int)) := cell_blk hkb5 1
          have kb2 : w5.cell? ⟨wr.heap.size, 2, none⟩ = some (.int .i64 (y.b : Int)) := cell_blk hkb5 2
          have kb3 : w5.cell? ⟨wr.heap.size, 3, none⟩ = some (.string (bs y.nm)) := cell_blk hkb5 3
          have kb4 : w5.cell? ⟨wr.heap.size, 4, none⟩ = some (.int .i64 f0) := cell_blk hkb5 4
          have kb5 : w5.cell? ⟨wr.heap.size, 5, none⟩ = some (.int .i64 f1) := cell_blk hkb5 5
          have kb6 : w5.cell? ⟨wr.heap.size, 6, none⟩ = some (.string f2) := cell_blk hkb5 6
          have kb7 : w5.cell? ⟨wr.heap.size, 7, none⟩ = some (.slice B0 bm bc) := cell_blk hkb5 7
          have kb8 : w5.cell? ⟨wr.heap.size, 8, none⟩ = some (.slice B1 y.ks.length d1) := cell_blk hkb5 8
          have kb9 : w5.cell? ⟨wr.heap.size, 9, none⟩ = some (.slice B2 y.ws.length d2) := cell_blk hkb5 9
          have hb5 := hw5.lt
          have hbel : Below B wr w5 := (HT4.out.belowB HE.out.1.leB).trans hk5.below
          have HC := Lib.hid (IH.out y HY.out w5 B b lv1 _ (NT.touch hbel.touchB (fun _ h h' => by omega) D y _ HNT.out) hw5 (HW0.out.2.2.1.go (HE.out.2.2.1.trans hbel)) (by have h1 := HE.out.2.2.2.2; have h2 := HW0.out.2.2.2; simp only [List.length_append] at h1 ⊢; omega) hl1)
          have HK5 := Lib.hid ((Wr.touch HE.out.1.leB HT4.out).trans hk5)
          clear hkb5 hw5 hk5 hbel
          go_wp2_with fail
          refine HC.out.mono ?_
          rintro r w6 ⟨rfl, hw6, hk6⟩
          have HG := Lib.hid (And.intro hw6 (HE.out.2.1.trans (HK5.out.trans hk6)))
          clear hw6 hk6
          go_wp2
          go_roundw
          case rel => exact ⟨i + 1, by omega, by go_num, by rw [HE.out.2.2.2.1]; simpa only [List.append_assoc] using HG.out.1, HG.out.2⟩
          case measure => simp [intOf]; omega
        · have hpc : pcL (ndL D) true lv n.ws i y = ndL D lv y := by simp [pcL, List.getElem?_eq_none (show n.ws.length ≤ i by omega)]
          rw [hpc] at HE
          have HC := Lib.hid (IH.out y HY.out Wk B b lv _ (NT.touch HKB.out.1 (fun _ _ x => x) D y _ HNT.out) (HE.out.1.touch HKB.out.1) (HW0.out.2.2.1.go (HE.out.2.2.1.trans (HKB.out.1.belowB HE.out.1.leB))) (by have h1 := HE.out.2.2.2.2; have h2 := HW0.out.2.2.2; simp only [List.length_append]; omega) hlv)
          have HX := Lib.hid hWk
          have him' : decide ((i : Int) < (M : Int)) = false := by simp; omega
          go_wp2_with fail
          try rw [HX.out]
          refine HC.out.mono ?_
          rintro r w2 ⟨rfl, hw2, hk2⟩
          have HG := Lib.hid (And.intro hw2 (HE.out.2.1.trans ((Wr.touch HE.out.1.leB HKB.out.1).trans hk2)))
          clear hw2 hk2
          go_wp2
          go_roundw
          case rel => exact ⟨i + 1, by omega, by go_num, by rw [HE.out.2.2.2.1, ← List.append_assoc]; exact HG.out.1, HG.out.2⟩
          case measure => simp [intOf]; omega
    · obtain rfl : i = L := by omega
      have HE := Lib.hid (And.intro hwb hwr)
      clear hwb hwr
      go_wp2
      go_end0
      exact ⟨rfl, by have := HE.out.1; rw [HPL.out] at this; exact this, HW0.out.2.1.trans HE.out.2⟩
end Go.Proofs.YtkmbobfjoaldgaaGreatDoor

/-
  What package printer's node writes. Conditions: those that each theorem names.
-/
namespace Go.Proofs.YtkmbobfjoaldgaaGreatDoor
open Go.ChangeShapes Go.WideShapes Go.ChangeAt Go.RowKit
set_option maxRecDepth 100000
set_option maxHeartbeats 4000000

theorem hdL_len (n : Nd) : 1 ≤ (hdL n).length ∧ (hdL n).length ≤ 4 := by
  unfold hdL
  rw [List.length_cons]
  repeat' split
  all_goals simp
theorem nd_cells {W : World} {N : Nat} {T : TypeId} {fz : Nat × Nat} {v0 v1 v2 v3 v4 v5 v6 v7 v8 v9 : Value} (h : W.heap[N]? = some (.cells #[v0, v1, v2, v3, v4, v5, v6, v7, v8, v9] T fz)) :
    W.cell? ⟨N, 0, none⟩ = some v0 ∧ W.cell? ⟨N, 1, none⟩ = some v1 ∧ W.cell? ⟨N, 2, none⟩ = some v2 ∧ W.cell? ⟨N, 3, none⟩ = some v3 ∧ W.cell? ⟨N, 4, none⟩ = some v4 ∧ W.cell? ⟨N, 5, none⟩ = some v5 ∧ W.cell? ⟨N, 6, none⟩ = some v6 ∧ W.cell? ⟨N, 7, none⟩ = some v7 ∧ W.cell? ⟨N, 8, none⟩ = some v8 ∧ W.cell? ⟨N, 9, none⟩ = some v9 ∧ N < W.heap.size :=
  ⟨by rw [Lib.cell_of_heap h]; rfl, by rw [Lib.cell_of_heap h]; rfl, by rw [Lib.cell_of_heap h]; rfl, by rw [Lib.cell_of_heap h]; rfl, by rw [Lib.cell_of_heap h]; rfl, by rw [Lib.cell_of_heap h]; rfl, by rw [Lib.cell_of_heap h]; rfl, by rw [Lib.cell_of_heap h]; rfl, by rw [Lib.cell_of_heap h]; rfl, by rw [Lib.cell_of_heap h]; rfl, blk_lt h⟩
theorem mostL_cases {k : Nat} (h : k ≤ 15) : mostL k = 0 ∨ mostL k = 1 ∨ mostL k = 16 := by
  have : ∀ k, k < 16 → mostL k = 0 ∨ mostL k = 1 ∨ mostL k = 16 := by decide
  exact this k (by omega)
theorem pnode_all : ∀ D : Nat, NodeC D
  | 0 => fun n h => h.elim
  | D + 1 => by
    intro n hp w B b lv l e0 e1 e2 A m c A1 c1 A2 c2 hn hw ht hl hlv
    have HKS := Lib.hid (fun (W : World) (hb : Below B w W) (l' : Bs) (hw' : WB W B b l') (lv' : Nat) (hl' : l'.length + (kdL (ndL D) (n.kd == 11) lv' n.ws 0 n.ks).length ≤ 900000) (hlv' : lv' ≤ 500000) => pkids_any (pnode_all D) n hp (NT.touch hb.touchB (fun _ h h' => by omega) (D + 1) n _ hn) hw' (ht.go hb) hl' hlv')
    have HMK := Lib.hid (fun W => mostkids_any n.kd hp.1 W)
    have hmost := mostL_cases hp.1
    have hho := hp.hd (lv := lv) (by omega)
    obtain ⟨hl1, hl4⟩ := hdL_len n
    obtain ⟨L, hL⟩ : ∃ L, n.ks.length = L := ⟨_, rfl⟩
    obtain ⟨M, hM⟩ : ∃ M, n.ws.length = M := ⟨_, rfl⟩
    rw [hL, hM] at hn HKS ⊢
    obtain ⟨W0, hW0⟩ : ∃ W, w.alloc (.cells #[.int .i64 (n.kd : Int), .int .i64 (n.a : Int), .int .i64 (n.b : Int), .string (bs n.nm), .int .i64 e0, .int .i64 e1, .string e2, .slice A m c, .slice A1 L c1, .slice A2 M c2] 47) = W := ⟨_, rfl⟩
    have t0 : Touch NoB w W0 := by rw [← hW0]; exact (Touch.refl _ _).alloc _
    have hblk : W0.heap[w.heap.size]? = some (.cells #[.int .i64 (n.kd : Int), .int .i64 (n.a : Int), .int .i64 (n.b : Int), .string (bs n.nm), .int .i64 e0, .int .i64 e1, .string e2, .slice A m c, .slice A1 L c1, .slice A2 M c2] 47 (0, 0)) := by rw [← hW0]; exact alloc_blk _ _ _ rfl
    have hbne : w.heap.size ≠ b := by have := hw.lt; omega
    have hB0 : B ≤ W0.heap.size := Nat.le_trans hw.leB t0.size
    have HD := Lib.hid (head_any (w := W0) (ht.go (t0.belowB hw.leB)).here (NT.touch t0 (fun _ _ x => x) (D + 1) n _ hn) hho)
    obtain ⟨z0, z1, z2, z3, z4, z5, z6, z7, z8, z9, zl⟩ := nd_cells hblk
    have HW := Lib.hid (And.intro hw (And.intro t0 (And.intro ht (And.intro hl hblk))))
    have HP := Lib.hid (And.intro hbne (And.intro hB0 (And.intro hl1 hl4)))
    clear hn hw t0 ht hl hblk hbne hho hp
    rcases hmost with hmo | hmo | hmo
    · have hm0 : ((mostL n.kd : Int) == 0) = true := by rw [hmo]; rfl
      have htx : ndL (D + 1) lv n = lnL lv (hdL n ++ [[59]]) := by simp [ndL, hmo]
      rw [htx] at HW ⊢
      clear hmo htx
      go_enter Tryz.func90, Tryz.ntmps90
      go_wp2_with fail
      refine HD.out.mono ?_
      rintro r w1 ⟨v, rfl, htr, hT1⟩
      have hb1 := (hT1.block _ (blk_lt HW.out.2.2.2.2) (fun x => x)).trans HW.out.2.2.2.2
      obtain ⟨y0, y1, y2, y3, y4, y5, y6, y7, y8, y9, yl⟩ := nd_cells hb1
      obtain ⟨v', w5, hr, htr', hb⟩ := htr.app hT1.size [[59]] (cs := #[.string ⟨#[59]⟩]) rfl (by have := HP.out.2.2.2; simp only [List.length_cons, List.length_nil]; omega) (N := w1.heap.size) (m := 1) rfl rfl rfl
      obtain ⟨t, ct, rfl, htB, htk⟩ := htr'.tka (by simp)
      have hT5 : Touch NoB W0 w5 := touch_of ((hT1.belowB (Nat.le_refl _)).trans hb)
      have hw5 : WB w5 B b l := HW.out.1.touch (HW.out.2.1.same hT5)
      obtain ⟨q, hq⟩ : ∃ q, (hdL n ++ [[59]]).length = q := ⟨_, rfl⟩
      rw [hq] at hr
      have HLN := Lib.hid (line_any hw5 lv (c := ct) hq htk (by have := HW.out.1.lt; have := HW.out.2.1.size; omega) HW.out.2.2.2.1 (by rw [← hq, List.length_append]; have := HP.out.2.2.2; simp only [List.length_cons, List.length_nil]; omega))
      have HA := Lib.hid hr
      have HT := Lib.hid (Wr.touch (b := b) HW.out.1.leB (HW.out.2.1.same hT5))
      clear htr hT1 hb1 hr htr' hb htB htk hT5 hw5 hq
      go_wp2_with (first
        | (go_at_call 118; refine (HMK.out _).mono ?_; rintro r w2 ⟨rfl, rfl⟩)
        | (at_builtin; refine Lib.wpList_append_run _ rfl _ _ _ _ rfl _ _ rfl rfl _ _ HA.out ?_)
        | (go_at_call 60; refine HLN.out.mono ?_; rintro r w6 ⟨rfl, hw6, hk6⟩))
      go_end0
      exact ⟨rfl, hw6, HT.out.trans hk6⟩
    · have hm0 : ((mostL n.kd : Int) == 0) = false := by rw [hmo]; rfl
      have hm1 : ((mostL n.kd : Int) == 1) = true := by rw [hmo]; rfl
      have htx : ndL (D + 1) lv n = lnL lv (hdL n) ++ kdL (ndL D) (n.kd == 11) (lv + 1) n.ws 0 n.ks := by simp [ndL, hmo]
      obtain ⟨lv1, hlv1⟩ : ∃ lv1, lv + 1 = lv1 := ⟨_, rfl⟩
      have hsum : IntKind.i64.wrap ((lv : Int) + 1) = (lv1 : Int) := by rw [show (lv : Int) + 1 = (lv1 : Int) from by omega]; exact IntWalk.i64_in _ (by omega)
      rw [hlv1] at htx
      rw [htx] at HW ⊢
      clear hmo htx
      go_enter Tryz.func90, Tryz.ntmps90
      go_wp2_with fail
      refine HD.out.mono ?_
      rintro r w1 ⟨v, rfl, htr, hT1⟩
      have hb1 := (hT1.block _ (blk_lt HW.out.2.2.2.2) (fun x => x)).trans HW.out.2.2.2.2
      obtain ⟨y0, y1, y2, y3, y4, y5, y6, y7, y8, y9, yl⟩ := nd_cells hb1
      obtain ⟨t, ct, rfl, htB, htk⟩ := htr.tka (by intro e; have := HP.out.2.2.1; rw [e] at this; simp at this)
      obtain ⟨q, hq⟩ : ∃ q, (hdL n).length = q := ⟨_, rfl⟩
      have HLN := Lib.hid (line_any (HW.out.1.touch (HW.out.2.1.same hT1)) lv (c := ct) hq htk (by have := HW.out.1.lt; have := HW.out.2.1.size; omega) (by have h1 := HW.out.2.2.2.1; simp only [List.length_append] at h1; omega) (by have := HP.out.2.2.2; omega))
      have HT := Lib.hid (Wr.touch (b := b) HW.out.1.leB (HW.out.2.1.same hT1))
      have HB5 := Lib.hid hb1
      rw [hq]
      clear htr hT1 hb1 htB htk hq
      go_wp2_with (first
        | (go_at_call 118; refine (HMK.out _).mono ?_; rintro r w2 ⟨rfl, rfl⟩))
      refine HLN.out.mono ?_
      rintro r w6 ⟨rfl, hw6, hk6⟩
      obtain ⟨x0, x1, x2, x3, x4, x5, x6, x7, x8, x9, xl⟩ := nd_cells (hk6.oth _ _ _ _ HB5.out (by decide) HP.out.1)
      have hbl6 := hw6.lt
      have HC := Lib.hid (HKS.out w6 (HT.out.trans hk6).below _ hw6 lv1 (by have h1 := HW.out.2.2.2.1; simp only [List.length_append] at h1 ⊢; omega) (by have h1 := HW.out.2.2.2.1; have h3 := lnL_lv lv (hdL n); simp only [List.length_append] at h1 h3; omega))
      have HT6 := Lib.hid (HT.out.trans hk6)
      clear hw6 hk6
      go_wp2_with fail
      refine HC.out.mono ?_
      rintro r w7 ⟨rfl, hw7, hk7⟩
      go_wp2
      go_end0
      exact ⟨rfl, by simpa only [List.append_assoc] using hw7, HT6.out.trans hk7⟩
    · have hm0 : ((mostL n.kd : Int) == 0) = false := by rw [hmo]; rfl
      have hm1 : ((mostL n.kd : Int) == 1) = false := by rw [hmo]; rfl
      have htx : ndL (D + 1) lv n = lnL lv (hdL n ++ [[123]]) ++ kdL (ndL D) (n.kd == 11) (lv + 1) n.ws 0 n.ks ++ lnL lv [[125]] := by simp [ndL, hmo]
      obtain ⟨lv1, hlv1⟩ : ∃ lv1, lv + 1 = lv1 := ⟨_, rfl⟩
      have hsum : IntKind.i64.wrap ((lv : Int) + 1) = (lv1 : Int) := by rw [show (lv : Int) + 1 = (lv1 : Int) from by omega]; exact IntWalk.i64_in _ (by omega)
      rw [hlv1] at htx
      rw [htx] at HW ⊢
      clear hmo htx
      go_enter Tryz.func90, Tryz.ntmps90
      go_wp2_with fail
      refine HD.out.mono ?_
      rintro r w1 ⟨v, rfl, htr, hT1⟩
      have hb1 := (hT1.block _ (blk_lt HW.out.2.2.2.2) (fun x => x)).trans HW.out.2.2.2.2
      obtain ⟨y0, y1, y2, y3, y4, y5, y6, y7, y8, y9, yl⟩ := nd_cells hb1
      obtain ⟨v', w5, hr, htr', hb⟩ := htr.app hT1.size [[123]] (cs := #[.string ⟨#[123]⟩]) rfl (by have := HP.out.2.2.2; simp only [List.length_cons, List.length_nil]; omega) (N := w1.heap.size) (m := 1) rfl rfl rfl
      obtain ⟨t, ct, rfl, htB, htk⟩ := htr'.tka (by simp)
      have hT5 : Touch NoB W0 w5 := touch_of ((hT1.belowB (Nat.le_refl _)).trans hb)
      have hw5 : WB w5 B b l := HW.out.1.touch (HW.out.2.1.same hT5)
      obtain ⟨q, hq⟩ : ∃ q, (hdL n ++ [[123]]).length = q := ⟨_, rfl⟩
      rw [hq] at hr
      have HLN := Lib.hid (line_any hw5 lv (c := ct) hq htk (by have := HW.out.1.lt; have := HW.out.2.1.size; omega) (by have h1 := HW.out.2.2.2.1; simp only [List.length_append] at h1 ⊢; omega) (by rw [← hq, List.length_append]; have := HP.out.2.2.2; simp only [List.length_cons, List.length_nil]; omega))
      have HA := Lib.hid hr
      have HT := Lib.hid (Wr.touch (b := b) HW.out.1.leB (HW.out.2.1.same hT5))
      have HB5 := Lib.hid ((hT5.block _ (blk_lt HW.out.2.2.2.2) (fun x => x)).trans HW.out.2.2.2.2)
      clear htr hT1 hb1 hr htr' hb htB htk hT5 hw5 hq
      go_wp2_with (first
        | (go_at_call 118; refine (HMK.out _).mono ?_; rintro r w2 ⟨rfl, rfl⟩)
        | (at_builtin; refine Lib.wpList_append_run _ rfl _ _ _ _ rfl _ _ rfl rfl _ _ HA.out ?_))
      refine HLN.out.mono ?_
      rintro r w6 ⟨rfl, hw6, hk6⟩
      obtain ⟨x0, x1, x2, x3, x4, x5, x6, x7, x8, x9, xl⟩ := nd_cells (hk6.oth _ _ _ _ HB5.out (by decide) HP.out.1)
      have hbl6 := hw6.lt
      have HC := Lib.hid (HKS.out w6 (HT.out.trans hk6).below _ hw6 lv1 (by have h1 := HW.out.2.2.2.1; simp only [List.length_append] at h1 ⊢; omega) (by have h1 := HW.out.2.2.2.1; have h3 := lnL_lv lv (hdL n ++ [[123]]); simp only [List.length_append] at h1 h3; omega))
      have HT6 := Lib.hid (HT.out.trans hk6)
      clear hw6 hk6
      go_wp2_with fail
      refine HC.out.mono ?_
      rintro r w7 ⟨rfl, hw7, hk7⟩
      have hbl7 := hw7.lt
      obtain ⟨W8, hW8⟩ : ∃ W, w7.alloc (.cells #[.string ⟨#[125]⟩] 9) = W := ⟨_, rfl⟩
      have t78 : Touch NoB w7 W8 := by rw [← hW8]; exact (Touch.refl _ _).alloc _
      have HL8 := Lib.hid (line_any (w := W8) (b := b) (hw7.touch t78) lv (t := w7.heap.size) (n := 1) (c := 1) (ws := [[125]]) rfl (by rw [← hW8]; exact tka_new (cs := #[.string ⟨#[125]⟩]) w7 rfl rfl) (by omega) (by have h1 := HW.out.2.2.2.1; simp only [List.length_append] at h1 ⊢; omega) (by omega))
      have HT8 := Lib.hid (HT6.out.trans (hk7.trans (Wr.touch (b := b) hw7.leB t78)))
      clear hw7 hk7 t78
      go_wp2_with fail
      refine HL8.out.mono ?_
      rintro r w9 ⟨rfl, hw9, hk9⟩
      go_wp2
      go_end0
      exact ⟨rfl, by simpa only [List.append_assoc] using hw9, HT8.out.trans hk9⟩
end Go.Proofs.YtkmbobfjoaldgaaGreatDoor

/-
  What package printer's root writes, and its Node. Conditions: those that each theorem names.
-/
namespace Go.Proofs.YtkmbobfjoaldgaaGreatDoor
open Go.ChangeShapes Go.WideShapes Go.ChangeAt Go.RowKit
set_option maxRecDepth 100000
set_option maxHeartbeats 4000000

/-- A node that is in no other one. -/
theorem root_any {D : Nat} (hD : D ≤ 40) (n : Nd) (hp : PrN D n) (w : World) (B b lv : Nat) (l : Bs) {e0 e1 : Int} {e2 : ByteArray} {A : Option Addr} {m c : Nat} {A1 : Option Addr} {c1 : Nat} {A2 : Option Addr} {c2 : Nat}
    (hn : NT w (fun k => k < B) D n [.int .i64 (n.kd : Int), .int .i64 (n.a : Int), .int .i64 (n.b : Int), .string (bs n.nm), .int .i64 e0, .int .i64 e1, .string e2, .slice A m c, .slice A1 n.ks.length c1, .slice A2 n.ws.length c2])
    (hw : WB w B b l) (ht : TbB B w) (hl : l.length + (ndL D lv n).length ≤ 900000) (hlv : lv ≤ 500000) :
    Calls Tryz.prog 49 #[.pointer (some ⟨b, 0, none⟩), .agg #[.int .i64 (n.kd : Int), .int .i64 (n.a : Int), .int .i64 (n.b : Int), .string (bs n.nm), .int .i64 e0, .int .i64 e1, .string e2, .slice A m c, .slice A1 n.ks.length c1, .slice A2 n.ws.length c2], .int .i64 (lv : Int)] w fun e w' => e = .returned (.tuple #[]) ∧ WB w' B b (l ++ ndL D lv n) ∧ Wr B b w w' := by
  have HNE := Lib.hid (fun (W : World) (t : Touch NoB w W) => nested_any D 40 n hD (by omega) hp.kd W _ (NT.touch t (fun _ _ x => x) D n _ hn))
  have HNO := Lib.hid (fun (W : World) (t : Touch NoB w W) => pnode_all D n hp W B b lv l (NT.touch t (fun _ _ x => x) D n _ hn) (hw.touch t) (ht.go (t.belowB hw.leB)) hl hlv)
  obtain ⟨L, hL⟩ : ∃ L, n.ks.length = L := ⟨_, rfl⟩
  obtain ⟨M, hM⟩ : ∃ M, n.ws.length = M := ⟨_, rfl⟩
  rw [hL, hM] at HNE HNO ⊢
  obtain ⟨W0, hW0⟩ : ∃ W, w.alloc (.cells #[.int .i64 (n.kd : Int), .int .i64 (n.a : Int), .int .i64 (n.b : Int), .string (bs n.nm), .int .i64 e0, .int .i64 e1, .string e2, .slice A m c, .slice A1 L c1, .slice A2 M c2] 47) = W := ⟨_, rfl⟩
  have t0 : Touch NoB w W0 := by rw [← hW0]; exact (Touch.refl _ _).alloc _
  have hblk : W0.heap[w.heap.size]? = some (.cells #[.int .i64 (n.kd : Int), .int .i64 (n.a : Int), .int .i64 (n.b : Int), .string (bs n.nm), .int .i64 e0, .int .i64 e1, .string e2, .slice A m c, .slice A1 L c1, .slice A2 M c2] 47 (0, 0)) := by rw [← hW0]; exact alloc_blk _ _ _ rfl
  have HB := Lib.hid hblk
  have HT := Lib.hid (And.intro t0 hw.leB)
  obtain ⟨z0, z1, z2, z3, z4, z5, z6, z7, z8, z9, zl⟩ := nd_cells hblk
  clear hn hw ht hl hblk t0 hp
  go_enter Tryz.func49, Tryz.ntmps49
  go_wp2_with fail
  refine (HNE.out _ HT.out.1).mono ?_
  rintro r w1 ⟨rfl, hT1⟩
  obtain ⟨y0, y1, y2, y3, y4, y5, y6, y7, y8, y9, yl⟩ := nd_cells ((hT1.block _ (blk_lt HB.out) (fun x => x)).trans HB.out)
  have HT1 := Lib.hid (HT.out.1.same hT1)
  clear hT1 z0 z1 z2 z3 z4 z5 z6 z7 z8 z9 zl
  go_wp2_with fail
  refine (HNO.out _ HT1.out).mono ?_
  rintro r w2 ⟨rfl, hw2, hk2⟩
  go_wp2
  go_end0
  exact ⟨rfl, hw2, (Wr.touch HT.out.2 HT1.out).trans hk2⟩
end Go.Proofs.YtkmbobfjoaldgaaGreatDoor

/-
  What the Builder's String returns of a writer of text. Conditions: those that each theorem names.
-/
namespace Go.Proofs.YtkmbobfjoaldgaaGreatDoor
open Go.ChangeShapes Go.WideShapes Go.ChangeAt Go.RowKit
set_option maxRecDepth 100000
set_option maxHeartbeats 4000000

/-- What has been written, as a string. -/
theorem bstr_any {w : World} {B b : Nat} {l : Bs} (h : WB w B b l) (h0 : l ≠ []) :
    Calls Tryz.prog 34 #[.pointer (some ⟨b, 0, none⟩)] w fun e w' => e = .returned (.string (bs l)) ∧ Below B w w' := by
  obtain ⟨p, v, hbk, -, hr⟩ := h.blk
  have hl0 : l.length ≠ 0 := fun e => h0 (List.eq_nil_of_length_eq_zero e)
  obtain ⟨g, cap, cur, rfl, hbg, hg, hnc, hcm, hcs, htake⟩ : ∃ g cap cur, v = .slice (some ⟨g, 0, none⟩) l.length cap ∧ B ≤ g ∧ w.heap[g]? = some (.cells cur 5 (0, 0)) ∧ l.length ≤ cap ∧ cap ≤ maxLen ∧ cur.size = cap * 1 ∧ cur.toList.take (l.length * 1) = bC l := by
    rcases hr.2 with ⟨_, hz⟩ | ⟨g, cap, cur, hv, r⟩
    · exact absurd hz hl0
    · exact ⟨g, cap, cur, hv, r⟩
  have c1 : w.drew.cell? ⟨b, 1, none⟩ = some (.slice (some ⟨g, 0, none⟩) l.length cap) := by
    have : w.drew.heap[b]? = some (.cells #[p, .slice (some ⟨g, 0, none⟩) l.length cap] 88 (0, 0)) := hbk
    rw [Lib.cell_of_heap this]; rfl
  have hSD : (Builtin.unsafeSliceData_ #[33] 127 #[.slice (some ⟨g, 0, none⟩) l.length cap]).run Tryz.prog w.drew = .ok (.pointer (some ⟨g, 0, none⟩)) w.drew :=
    Lib.run_unsafeSliceData_row _ _ _ _ _ _ (by omega)
  have hUS : (Builtin.unsafeString_ #[127, 3] 9 #[.pointer (some ⟨g, 0, none⟩), .int .i64 l.length]).run Tryz.prog w.drew = .ok (.string (bs l)) (w.drew.freeze ⟨g, 0, none⟩ l.length) := by
    refine Lib.run_unsafeString_row w.drew 127 3 9 5 Tryz.underlying127 (by kernel_rfl) g cur.size (by have hg' : w.drew.heap[g]? = some (.cells cur 5 (0, 0)) := hg; simp [World.shape?, hg']) l h0 (by omega) (by unfold maxLen at hcm; omega) ?_
    intro j x hx
    exact World.ownsRow.cells (g := g) hr rfl j (.int .u8 x.toNat) (by simp [bC, hx])
  clear h hr hbk hl0 hcs htake hg
  have mixed : Tryz.prog.follows Departure.mixedOrders = true := by kernel_rfl
  go_enter Tryz.func34, Tryz.ntmps34
  go_wp2
  go_region_o
  all_goals (go_wp2; go_ret; exact ⟨rfl, Lib.below_freeze (Below.drew (Below.refl B w)) (p := ⟨g, 0, none⟩) hbg _⟩)
/-- .. nothing. -/
theorem bstr_nil {w : World} {B b : Nat} {p : Value} {T : TypeId} (hbk : w.heap[b]? = some (.cells #[p, .slice none 0 0] T (0, 0))) :
    Calls Tryz.prog 34 #[.pointer (some ⟨b, 0, none⟩)] w fun e w' => e = .returned (.string (bs [])) ∧ Below B w w' := by
  have hUS : ∀ (W : World) (q : Option Addr), (Builtin.unsafeString_ #[127, 3] 9 #[.pointer q, .int .i64 0]).run Tryz.prog W = .ok (.string .empty) W := fun W q => Lib.run_unsafeString_none W _ _ _ q
  have c1 : w.drew.cell? ⟨b, 1, none⟩ = some (.slice none 0 0) := by
    have : w.drew.heap[b]? = some (.cells #[p, .slice none 0 0] T (0, 0)) := hbk
    rw [Lib.cell_of_heap this]; rfl
  have hSD : (Builtin.unsafeSliceData_ #[33] 127 #[.slice none 0 0]).run Tryz.prog w.drew = .ok (.pointer none) w.drew := rfl
  clear hbk
  have mixed : Tryz.prog.follows Departure.mixedOrders = true := by kernel_rfl
  go_enter Tryz.func34, Tryz.ntmps34
  go_wp2
  go_region_o
  all_goals (go_wp2; go_ret; exact ⟨rfl, Below.drew (Below.refl B w)⟩)
end Go.Proofs.YtkmbobfjoaldgaaGreatDoor

/-
  What package printer's cond, change and key write. Conditions: numbers fit; those that each theorem names.
-/
namespace Go.Proofs.YtkmbobfjoaldgaaGreatDoor
open Go.ChangeShapes Go.WideShapes Go.ChangeAt Go.RowKit
set_option maxRecDepth 100000
set_option maxHeartbeats 4000000

theorem WdAt.touch {w w' : World} {b m : Nat} {ws : List Bs} (h : WdAt w b m ws) (t : Touch NoB w w') : WdAt w' b m ws :=
  ⟨h.1, Nat.lt_of_lt_of_le h.2.1 t.size, fun i s hi => (t.cell (p := ⟨b, i, none⟩) h.2.1 (fun x => x)).trans (h.2.2 i s hi)⟩
theorem info_mkw : ∀ (a : List Bs), (a.map (fun s => Value.string (bs s))) = sC a := fun _ => rfl
/-- A line of words that the program lays. -/
theorem line_lit {W0 cur W5 : World} {B b : Nat} {l : Bs} (hw : WB W0 B b l) (t : Touch NoB W0 cur) (lv : Nat) (ws : List Bs) {cs : Array Value} (hcs : cs.toList = sC ws) {m : Nat} (hm : ws.length = m) (hW : cur.alloc (.cells cs 9) = W5) (hl : l.length + (lnL lv ws).length ≤ 900000) (hm2 : m ≤ 1000) :
    Calls Tryz.prog 60 #[.pointer (some ⟨b, 0, none⟩), .int .i64 (lv : Int), .slice (some ⟨cur.heap.size, 0, none⟩) m m] W5 fun e w' => e = .returned (.tuple #[]) ∧ WB w' B b (l ++ lnL lv ws) ∧ Wr B b W0 w' := by
  subst hW
  have t5 : Touch NoB cur (cur.alloc (.cells cs 9)) := (Touch.refl _ _).alloc _
  refine (line_any (hw.touch (t.same t5)) lv (t := cur.heap.size) (c := m) (ws := ws) hm (tka_new (cs := cs) cur hcs rfl) (by have := hw.lt; have := t.size; omega) hl (by omega)).mono ?_
  rintro e w' ⟨h1, h2, h3⟩
  exact ⟨h1, h2, (Wr.touch hw.leB (t.same t5)).trans h3⟩
/-- A number's text behind what was made new. -/
theorem itoa_at {W0 cur : World} {B : Nat} (hB : B ≤ W0.heap.size) (ht : TbB B W0) (t : Touch NoB W0 cur) (n : Int) (h0 : -9223372036854775808 ≤ n) (h1 : n ≤ 9223372036854775807) :
    Calls Tryz.prog 64 #[.int .i64 n] cur fun e w' => e = .returned (.string (bs (Lib.itoa n))) ∧ Touch NoB cur w' := itoa_any n h0 h1 (ht.go (t.belowB hB)).here
theorem cond_any {w : World} {B b : Nat} {l : Bs} (hw : WB w B b l) (ht : TbB B w) (lv : Nat) (wd : Bs) (c : Cn) (h0 : -9223372036854775808 ≤ c.n) (h1 : c.n ≤ 9223372036854775807) (hl : l.length + (cnL lv wd c).length ≤ 900000) :
    Calls Tryz.prog 66 #[.pointer (some ⟨b, 0, none⟩), .int .i64 (lv : Int), .string (bs wd), .agg #[.string (bs c.nm), .int .i64 (c.op : Int), .int .i64 c.n]] w fun e w' => e = .returned (.tuple #[]) ∧ WB w' B b (l ++ cnL lv wd c) ∧ Wr B b w w' := by
  unfold cnL at hl ⊢
  obtain ⟨W0, hW0⟩ : ∃ W, w.alloc (.cells #[.string (bs c.nm), .int .i64 (c.op : Int), .int .i64 c.n] 118) = W := ⟨_, rfl⟩
  have t0 : Touch NoB w W0 := by rw [← hW0]; exact (Touch.refl _ _).alloc _
  have hb : B3 W0 118 w.heap.size (.string (bs c.nm)) (.int .i64 (c.op : Int)) (.int .i64 c.n) := by rw [← hW0]; exact B3.new _ _ _ _ _ rfl
  have hB := hw.leB
  have HLN := Lib.hid (fun (cur W5 : World) (t : Touch NoB w cur) (e : cur.alloc (.cells #[.string (bs wd), .string (bs c.nm), .string (bs (opW.getD c.op [])), .string (bs (Lib.itoa c.n)), .string ⟨#[59]⟩] 9) = W5) => line_lit hw t lv [wd, c.nm, opW.getD c.op [], Lib.itoa c.n, [59]] (m := 5) rfl rfl e hl (by omega))
  have HIT := Lib.hid (fun (cur : World) (t : Touch NoB w cur) => itoa_at hB ht t c.n h0 h1)
  have HT := Lib.hid (show Touch NoB w W0.drew from t0.drew)
  have HBK := Lib.hid (fun (W : World) (t : Touch NoB W0 W) => B3.cells ((t.block _ (blk_lt hb) (fun x => x)).trans hb))
  obtain ⟨x0, x1, x2, xl⟩ := HBK.out W0.drew (Touch.refl _ _).drew
  have HTT := Lib.hid (show Touch NoB W0 W0.drew from (Touch.refl _ _).drew)
  obtain ⟨op, hop⟩ : ∃ z, opW.getD c.op [] = z := ⟨_, rfl⟩
  rw [hop] at HLN ⊢
  clear hw ht hl t0 hb
  go_enter Tryz.func66, Tryz.ntmps66
  go_wp2_with fail
  go_region_law (first
    | (go_simp; go_at_call 103; refine (compare_any _).mono ?_
       rintro r w1 ⟨q, rfl, hq, hT1⟩
       have hx := HT.out.same hT1
       have hy := HTT.out.same hT1
       obtain ⟨x0, x1, x2, xl⟩ := HBK.out _ hy
       clear HT HTT
       have HT := Lib.hid hx
       have HTT := Lib.hid hy
       have HQ := Lib.hid hq
       clear hx hy hq hT1)
    | (go_simp; go_at_call 62; refine (word_any HQ.out c.op).mono ?_
       rintro r w1 ⟨rfl, rfl⟩
       rw [hop])
    | (go_simp; go_at_call 64; refine (HIT.out _ HT.out).mono ?_
       rintro r w1 ⟨rfl, hT1⟩
       have hx := HT.out.same hT1
       have hy := HTT.out.same hT1
       obtain ⟨x0, x1, x2, xl⟩ := HBK.out _ hy
       clear HT HTT
       have HT := Lib.hid hx
       have HTT := Lib.hid hy
       (try (have hq := HQ.out.touch hT1; clear HQ; have HQ := Lib.hid hq; clear hq))
       clear hx hy hT1)
    | (go_simp; go_at_call 60; refine (HLN.out _ _ HT.out rfl).mono ?_
       rintro r w1 ⟨rfl, hw1, hk1⟩
       have HG := Lib.hid (And.intro hw1 hk1)
       clear hw1 hk1))
  all_goals
    go_wp2
    go_end0
    exact ⟨rfl, HG.out.1, HG.out.2⟩
end Go.Proofs.YtkmbobfjoaldgaaGreatDoor
