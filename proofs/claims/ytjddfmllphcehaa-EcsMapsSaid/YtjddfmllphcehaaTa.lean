/-
  A Table in memory; what table.New, hasRow, hasColumn and Row return.
-/
import Derived.Test.YtjddfmllphcehaaSd
import Derived.Test.YtjddfmllphcehaaTm
import Derived.Laws.BitsAllLaws
import Derived.Laws.BitsLemmas
import Derived.DeepKeys4
import Derived.MapViews
import Derived.ChangeSame
import Derived.Maps.OwnSet
import Derived.Deep.RegionHeld3
namespace Go.Proofs.Ytjddfmllphcehaa
open Go.ChangeShapes Go.WideShapes Go.ChangeAt Go.RowKit Go.Maps

/-- An int that is one of 64 bits. -/
def I64 (a : Int) : Prop := (Lit.int .i64 a).wf = true
theorem i64_mk {a : Int} (h1 : -9223372036854775808 ≤ a) (h2 : a ≤ 9223372036854775807) : I64 a := WalkArith.wf_i64 ⟨h1, h2⟩

set_option maxRecDepth 100000 in
theorem laidOutP : laidOutB Try.prog = true := by kernel_rfl
set_option maxRecDepth 100000 in
theorem rowId : (30 : TypeId) < Try.prog.types.size := of_decide_eq_true (by kernel_rfl)
theorem wideId : (match Try.prog.underlying 30 with | some (.array _ _) | some (.struct _) => true | _ => false) = true := by rw [Try.underlying30]
set_option maxRecDepth 100000 in
theorem deepId : Try.prog.keyTypeAt (Try.prog.types.size + 1) 30 = true := by kernel_rfl
theorem cellsId : Try.prog.cellsOf 30 = 2 := by kernel_rfl
theorem cellsInt : Try.prog.cellsOf 3 = 1 := by kernel_rfl
set_option maxRecDepth 100000 in
theorem lawId : Keyed Try.prog 30 := Keyed.of_law (deep_law_laid laidOutP (m := 3) (by omega) rowId (by kernel_rfl) wideId)
theorem zeroInt (w : World) : (zeroValue 3).run Try.prog w = .ok (.int .i64 0) w := by kernel_rfl

/-- What the identifier (i, x) reads as, as a key. -/
def klI (i x : Int) : Lit := (DataW.agg [.lit (.int .i64 i), .lit (.int .i64 x)] : DataW Unit).asKey
set_option maxRecDepth 100000 in
theorem key_id {i x : Int} (hi : I64 i) (hx : I64 x) : keyOf Try.prog 30 (.agg #[.int .i64 i, .int .i64 x]) = some (klI i x) := by
  have h0 : ∀ {a : Int}, I64 a → DataW.trod (fun _ => ()) Try.prog default 0 (fun _ => true) true 1 3 [.int .i64 a] = some (.lit (.int .i64 a), []) := by
    intro a ha
    have : (Lit.int .i64 a).wf = true := ha
    simp [DataW.trod, Try.underlying3, this]
  have ht : DataW.trod (fun _ => ()) Try.prog default 0 (fun _ => true) true 2 30 [.int .i64 i, .int .i64 x] = some (.agg [.lit (.int .i64 i), .lit (.int .i64 x)], [] ++ []) :=
    trod_struct2_mk (cs := [.int .i64 i, .int .i64 x]) Try.underlying30 (by rw [cellsId]; rfl) (by simpa [cellsInt] using h0 hi) (by simpa [cellsInt] using h0 hx)
  have hf : (Value.agg #[.int .i64 i, .int .i64 x]).formed Try.prog 30 = true := by simp [Value.formed, Try.underlying30, cellsId]
  exact (keyOf_asKey (H := Unit) (enc := fun _ => ()) (w := default) (base := 0) (sp := fun _ => true) (held := true) deepId wideId hf ⟨2, by simpa [Value.cells] using ht⟩).1
theorem kl_inj {i x i' x' : Int} (hi : I64 i) (hx : I64 x) (hi' : I64 i') (hx' : I64 x') (h : klI i x = klI i' x') : (i, x) = (i', x') := by
  have h1 := key_id hi hx
  have h2 := key_id hi' hx'
  rw [← h] at h2
  have := lawId.inj h1 h2
  simp at this
  rw [this.1, this.2]
theorem kl_key {i x : Int} (hi : I64 i) (hx : I64 x) : WideAt.IsKeyLit (klI i x) := lawId.key (key_id hi hx)

/-- The map of a Table: nil, or a block that reads as D. -/
def MapAt (w : World) (vm : Value) (n : Nat) (D : DataW Unit) : Prop :=
  (vm = .map none ∧ D = .map []) ∨ ∃ b, vm = .map (some b) ∧ w.ownsMap Try.prog 30 (plainElem Try.prog 3) b n D

/-- A Table lies at block g: its entities, its columns, its map; every block of it is in F. -/
structure TG (w : World) (F : Nat → Prop) (g : Nat) (m : Int) (ids : List (Int × Int)) (cf : Nat → List Int) (D : DataW Unit) (n : Nat) (vi vm : Value) (vc : Nat → Value) (cs : Array Value) : Prop where
  blk : w.heap[g]? = some (.cells cs 127 (0, 0))
  size : cs.size = 19
  c0 : cs[0]? = some (.int .u16 m)
  c1 : cs[1]? = some vi
  c2 : cs[2]? = some vm
  cc : ∀ c, c < 16 → cs[3 + c]? = some (vc c)
  ri : w.ownsRow 0 30 2 vi ids.length (idc ids)
  rc : ∀ c, c < 16 → w.ownsRow 0 3 1 (vc c) (cf c).length (ic (cf c))
  mp : MapAt w vm n D
  ap : ∀ c d, c < 16 → d < 16 → c ≠ d → ∀ k, (vc c).ownBlock = some k → (vc d).ownBlock ≠ some k
  fg : F g
  fi : ∀ k, vi.ownBlock = some k → F k
  fc : ∀ c, c < 16 → ∀ k, (vc c).ownBlock = some k → F k
  fm : ∀ b, vm = .map (some b) → F b
def TO (w : World) (F : Nat → Prop) (g : Nat) (m : Int) (ids : List (Int × Int)) (cf : Nat → List Int) (D : DataW Unit) (n : Nat) : Prop :=
  ∃ vi vm vc cs, TG w F g m ids cf D n vi vm vc cs

theorem MapAt.touch {w w' : World} {G : Nat → Prop} {vm : Value} {n : Nat} {D : DataW Unit} (h : MapAt w vm n D) (t : Touch G w w') (hn : ∀ b, vm = .map (some b) → ¬ G b) : MapAt w' vm n D := by
  rcases h with h | ⟨b, rfl, es, clock, hb, r⟩
  · exact .inl h
  · exact .inr ⟨b, rfl, es, clock, (t.block b (blk_lt hb) (hn b rfl)).trans hb, r⟩

section
variable {w w' : World} {F G : Nat → Prop} {g : Nat} {m : Int} {ids : List (Int × Int)} {cf : Nat → List Int} {D : DataW Unit} {n : Nat} {vi vm : Value} {vc : Nat → Value} {cs : Array Value}
theorem TG.keep (h : TG w F g m ids cf D n vi vm vc cs) (t : Touch G w w') (d : Dis F G) : TG w' F g m ids cf D n vi vm vc cs :=
  ⟨(t.block g (blk_lt h.blk) (fun x => d g h.fg x)).trans h.blk, h.size, h.c0, h.c1, h.c2, h.cc, row_touch h.ri t (fun k hk x => d k (h.fi k hk) x), fun c hc => row_touch (h.rc c hc) t (fun k hk x => d k (h.fc c hc k hk) x), h.mp.touch t (fun b hb x => d b (h.fm b hb) x), h.ap, h.fg, h.fi, h.fc, h.fm⟩
theorem TG.more (h : TG w F g m ids cf D n vi vm vc cs) (d : ∀ k, F k → G k) : TG w G g m ids cf D n vi vm vc cs :=
  ⟨h.blk, h.size, h.c0, h.c1, h.c2, h.cc, h.ri, h.rc, h.mp, h.ap, d _ h.fg, fun k hk => d _ (h.fi k hk), fun c hc k hk => d _ (h.fc c hc k hk), fun b hb => d _ (h.fm b hb)⟩
theorem TG.quiet (h : TG w F g m ids cf D n vi vm vc cs) (t : Touch NoB w w') : TG w' F g m ids cf D n vi vm vc cs := h.keep t (fun _ _ x => x)
theorem TO.keep (h : TO w F g m ids cf D n) (t : Touch G w w') (d : Dis F G) : TO w' F g m ids cf D n := by
  obtain ⟨vi, vm, vc, cs, h⟩ := h
  exact ⟨vi, vm, vc, cs, h.keep t d⟩
theorem TO.more (h : TO w F g m ids cf D n) (d : ∀ k, F k → G k) : TO w G g m ids cf D n := by
  obtain ⟨vi, vm, vc, cs, h⟩ := h
  exact ⟨vi, vm, vc, cs, h.more d⟩
theorem TO.quiet (h : TO w F g m ids cf D n) (t : Touch NoB w w') : TO w' F g m ids cf D n := h.keep t (fun _ _ x => x)
theorem TG.lt (h : TG w F g m ids cf D n vi vm vc cs) : g < w.heap.size := blk_lt h.blk
theorem TG.at0 (h : TG w F g m ids cf D n vi vm vc cs) : w.cell? ⟨g, 0, none⟩ = some (.int .u16 m) := (cell_blk h.blk 0).trans h.c0
theorem TG.at1 (h : TG w F g m ids cf D n vi vm vc cs) : w.cell? ⟨g, 1, none⟩ = some vi := (cell_blk h.blk 1).trans h.c1
theorem TG.at2 (h : TG w F g m ids cf D n vi vm vc cs) : w.cell? ⟨g, 2, none⟩ = some vm := (cell_blk h.blk 2).trans h.c2
theorem TG.atc (h : TG w F g m ids cf D n vi vm vc cs) (c : Nat) (hc : c < 16) : w.cell? ⟨g, 3 + c, none⟩ = some (vc c) := (cell_blk h.blk (3 + c)).trans (h.cc c hc)
theorem TG.free (h : TG w F g m ids cf D n vi vm vc cs) (i : Nat) : w.frozen? ⟨g, i, none⟩ = false := free_blk h.blk i
end

theorem and_one {x : Int} (h0 : 0 ≤ x) (h1 : x < 65536) : bits .and .u16 x 1 = x % 2 :=
  bits_mask .u16 16 (by decide) (fun n a b => by simp [IntKind.wrap, IntKind.bits, IntKind.signed]; omega) 1 (by decide) x h0 h1
theorem div_range {m : Int} (h0 : 0 ≤ m) (h1 : m < 65536) (c : Nat) : 0 ≤ m / 2 ^ c ∧ m / 2 ^ c < 65536 := by
  have hp : (0 : Int) < 2 ^ c := Int.pow_pos (by decide)
  refine ⟨Int.ediv_nonneg h0 (Int.le_of_lt hp), ?_⟩
  have := Int.ediv_le_self (2 ^ c) h0
  omega

set_option maxHeartbeats 400000 in
theorem hasCol_any (g : Nat) (m c : Int) (w : World) (hm : 0 ≤ m) (hm2 : m < 65536) (h0 : w.cell? ⟨g, 0, none⟩ = some (.int .u16 m)) :
    Calls Try.prog 67 #[.pointer (some ⟨g, 0, none⟩), .int .i64 c] w fun e w' => e = .returned (.bool (colB m c)) ∧ w = w' := by
  by_cases h1 : 0 ≤ c
  · by_cases h2 : c < 16
    · obtain ⟨k, rfl⟩ := Int.eq_ofNat_of_zero_le h1
      have hr := div_range hm hm2 k
      have e1 : colB m (k : Int) = (bits .and .u16 (m / 2 ^ k) 1 == 1) := by
        rw [and_one hr.1 hr.2]
        unfold colB
        simp [h2, bit_mod]
      rw [e1]
      clear e1 hr
      go_enter Try.func67, Try.ntmps67
      go_wp2
      go_ret
      exact ⟨rfl, rfl⟩
    · have e1 : colB m c = false := by unfold colB; simp [h2]
      rw [e1]
      clear e1
      go_enter Try.func67, Try.ntmps67
      go_wp2
      go_ret
      exact ⟨rfl, rfl⟩
  · have e1 : colB m c = false := by unfold colB; simp [h1]
    rw [e1]
    clear e1
    go_enter Try.func67, Try.ntmps67
    go_wp2
    go_ret
    exact ⟨rfl, rfl⟩

/-- Is there a row r of L? -/
def rowB (L : Nat) (r : Int) : Bool := decide (0 ≤ r) && decide (r < (L : Int))

set_option maxHeartbeats 400000 in
theorem hasRow_any (g : Nat) (r : Int) (A : Option Addr) (L cap : Nat) (w : World) (hL : L ≤ 9223372036854775807) (h1 : w.cell? ⟨g, 1, none⟩ = some (.slice A L cap)) :
    Calls Try.prog 66 #[.pointer (some ⟨g, 0, none⟩), .int .i64 r] w fun e w' => e = .returned (.bool (rowB L r)) ∧ w = w' := by
  by_cases h0 : 0 ≤ r <;> by_cases h2 : r < (L : Int)
  all_goals first | (exfalso; omega) | skip
  all_goals
    go_enter Try.func66, Try.ntmps66
    go_wp2
    go_ret
    exact ⟨by simp [rowB, h0, h2], rfl⟩

/-- The new Table at block g of w'. -/
theorem tnew_any (m : Int) (w : World) :
    Calls Try.prog 74 #[.int .u16 m] w fun e w' => e = .returned (.pointer (some ⟨w.heap.size, 0, none⟩)) ∧ TO w' (fun b => b = w.heap.size) w.heap.size m [] (fun _ => []) (.map []) 0 ∧ Touch NoB w w' := by
  go_enter Try.func74, Try.ntmps74
  go_wp2
  go_ret
  refine ⟨rfl, ⟨.slice none 0 0, .map none, fun _ => .slice none 0 0, _, alloc_blk w _ _ rfl, rfl, rfl, rfl, rfl, ?_, World.ownsRow_nil _ _ _ _, fun c hc => World.ownsRow_nil _ _ _ _, .inl ⟨rfl, rfl⟩, ?_, rfl, ?_, ?_, ?_⟩, (Touch.refl _ _).alloc _⟩
  · intro c hc
    rcases c with _ | _ | _ | _ | _ | _ | _ | _ | _ | _ | _ | _ | _ | _ | _ | _ | c
    all_goals first | rfl | omega
  · intro c d _ _ _ k hk; simp [Value.ownBlock] at hk
  · intro k hk; simp [Value.ownBlock] at hk
  · intro c _ k hk; simp [Value.ownBlock] at hk
  · intro b hb; cases hb
end Go.Proofs.Ytjddfmllphcehaa
