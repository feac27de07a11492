/-
  What TablePlays keeps: its two Tables, the document's own Table beside them, and the call at hand; what each call does to them.
-/
import Derived.Test.YtmafhcfdamhejaaRe
import Derived.Test.YtmafhcfdamhejaaTf
import Derived.Deep.Onto
namespace Go.Proofs.Ytmafhcfdamhejaa
open Go.ChangeShapes Go.WideShapes Go.ChangeAt Go.RowKit Go.Maps

/-- The entities of the other Table. -/
def idsO (k : Nat) : List (Int × Int) := (List.range k).map (fun (i : Nat) => ((i : Int), 0))
theorem idsO_succ (k : Nat) : idsO (k + 1) = idsO k ++ [((k : Int), 0)] := by simp [idsO, List.range_succ]
theorem idsO_length (k : Nat) : (idsO k).length = k := by simp [idsO]
theorem idsO_some {k j : Nat} {p : Int × Int} (h : (idsO k)[j]? = some p) : j < k ∧ p = ((j : Int), 0) := by
  have hj := (List.getElem?_eq_some_iff.1 h).1
  rw [idsO_length] at hj
  have : (idsO k)[j]? = some ((j : Int), 0) := by simp [idsO, hj]
  rw [this] at h
  injection h with h
  exact ⟨hj, h.symm⟩
theorem idsO_none (k : Nat) : rowOf (idsO k) ((k : Int), 0) = none := by
  refine rowOf_none_of (fun j h => ?_)
  obtain ⟨hj, e⟩ := idsO_some h
  injection e with e
  omega
theorem idsO_ok {k : Nat} (h : k ≤ 1000) : IdsOk (idsO k) := by
  constructor
  · intro r i x hr
    obtain ⟨hj, e⟩ := idsO_some hr
    injection e with e1 e2
    subst e1 e2
    exact ⟨nat_i64 (by omega), i64_zero⟩
  · intro a b p ha hb
    obtain ⟨_, e1⟩ := idsO_some ha
    obtain ⟨_, e2⟩ := idsO_some hb
    rw [e1] at e2
    injection e2 with e2
    omega

/-- Rows that a Table can have behind K calls. -/
structure LOk (l : List Rw) (K : Nat) : Prop where
  ids : IdsOk (l.map Prod.fst)
  len : l.length ≤ K
theorem LOk.more {l : List Rw} {K K' : Nat} (h : LOk l K) (hK : K ≤ K') : LOk l K' := ⟨h.ids, Nat.le_trans h.len hK⟩
theorem lok_nil : LOk [] 0 := ⟨idsok_nil, Nat.le_refl _⟩

/-- The memory of TablePlays, from block B on: t (lt), o (ko calls), r (lr), and blocks that stay (xs). -/
structure TPAt (B : Nat) (w : World) (gt go gr : Nat) (m : Int) (lt lr : List Rw) (ko K : Nat) (xs : List (Nat × Obj)) (Ft Fo Fr : Nat → Prop) : Prop where
  t : ∃ D n, TO w Ft gt m (lt.map Prod.fst) (colsOf m lt) D n ∧ MapIs D (lt.map Prod.fst) ∧ n ≤ K
  o : ∃ cf D n, TO w Fo go 3 (idsO ko) cf D n ∧ MapIs D (idsO ko) ∧ n ≤ ko ∧ ∀ c, c < 16 → bitB 3 c = true → (cf c).length = ko
  r : RT w Fr gr m lr
  id : ∀ q ∈ xs, w.heap[q.1]? = some q.2
  it : InW w B Ft
  io : InW w B Fo
  ir : InW w B Fr
  d1 : Dis Ft Fo
  d2 : Dis Ft Fr
  d3 : Dis Fo Fr
  n1 : ∀ q ∈ xs, ¬ Ft q.1
  n2 : ∀ q ∈ xs, ¬ Fo q.1
  n3 : ∀ q ∈ xs, ¬ Fr q.1
  size : B ≤ w.heap.size
def TPMem (B : Nat) (w : World) (gt go gr : Nat) (m : Int) (lt lr : List Rw) (ko K : Nat) (xs : List (Nat × Obj)) : Prop :=
  ∃ Ft Fo Fr, TPAt B w gt go gr m lt lr ko K xs Ft Fo Fr
/-- .. and a row of cells that r does not know. -/
def TPRow (B : Nat) (w : World) (gt go gr : Nat) (m : Int) (lt lr : List Rw) (ko K : Nat) (xs : List (Nat × Obj)) (v : Value) (ls : List (Int × Int)) : Prop :=
  ∃ Ft Fo Fr, TPAt B w gt go gr m lt lr ko K xs Ft Fo Fr ∧ w.ownsRow B 66 2 v ls.length (idc ls) ∧ ∀ k, v.ownBlock = some k → ¬ Fr k

theorem not_ext {w w' : World} {F : Nat → Prop} {b : Nat} (h : ¬ F b) (hb : b < w.heap.size) : ¬ Ext F w w' b := by
  rintro (e | ⟨e, _⟩)
  · exact h e
  · omega

section
variable {B : Nat} {w w' : World} {gt go gr : Nat} {m : Int} {lt lr : List Rw} {ko K : Nat} {xs : List (Nat × Obj)} {Ft Fo Fr : Nat → Prop}

theorem TPAt.quiet (a : TPAt B w gt go gr m lt lr ko K xs Ft Fo Fr) (t : Touch NoB w w') : TPAt B w' gt go gr m lt lr ko K xs Ft Fo Fr := by
  obtain ⟨D, n, h1, h2, h3⟩ := a.t
  obtain ⟨cf, D', n', h4, h5, h6, h7⟩ := a.o
  exact ⟨⟨D, n, h1.quiet t, h2, h3⟩, ⟨cf, D', n', h4.quiet t, h5, h6, h7⟩, a.r.quiet t, fun q hq => (t.block q.1 (blk_lt (a.id q hq)) (fun e => e)).trans (a.id q hq), a.it.more t.size, a.io.more t.size, a.ir.more t.size, a.d1, a.d2, a.d3, a.n1, a.n2, a.n3, Nat.le_trans a.size t.size⟩
theorem TPMem.quiet (h : TPMem B w gt go gr m lt lr ko K xs) (t : Touch NoB w w') : TPMem B w' gt go gr m lt lr ko K xs := by
  obtain ⟨Ft, Fo, Fr, a⟩ := h
  exact ⟨Ft, Fo, Fr, a.quiet t⟩
theorem TPMem.more (h : TPMem B w gt go gr m lt lr ko K xs) {K' : Nat} (hK : K ≤ K') : TPMem B w gt go gr m lt lr ko K' xs := by
  obtain ⟨Ft, Fo, Fr, a⟩ := h
  obtain ⟨D, n, h1, h2, h3⟩ := a.t
  exact ⟨Ft, Fo, Fr, ⟨D, n, h1, h2, by omega⟩, a.o, a.r, a.id, a.it, a.io, a.ir, a.d1, a.d2, a.d3, a.n1, a.n2, a.n3, a.size⟩
theorem TPMem.forget (h : TPMem B w gt go gr m lt lr ko K xs) {ys : List (Nat × Obj)} (hy : ∀ q ∈ ys, q ∈ xs) : TPMem B w gt go gr m lt lr ko K ys := by
  obtain ⟨Ft, Fo, Fr, a⟩ := h
  exact ⟨Ft, Fo, Fr, a.t, a.o, a.r, fun q hq => a.id q (hy q hq), a.it, a.io, a.ir, a.d1, a.d2, a.d3, fun q hq => a.n1 q (hy q hq), fun q hq => a.n2 q (hy q hq), fun q hq => a.n3 q (hy q hq), a.size⟩
theorem TPMem.blk (h : TPMem B w gt go gr m lt lr ko K xs) {g : Nat} {o : Obj} (hq : (g, o) ∈ xs) : w.heap[g]? = some o := by
  obtain ⟨Ft, Fo, Fr, a⟩ := h
  exact a.id _ hq
theorem TPMem.size (h : TPMem B w gt go gr m lt lr ko K xs) : B ≤ w.heap.size := by
  obtain ⟨Ft, Fo, Fr, a⟩ := h
  exact a.size
/-- A new block. -/
theorem TPMem.box (h : TPMem B w gt go gr m lt lr ko K xs) (ob : Obj) : TPMem B (w.alloc ob) gt go gr m lt lr ko K ((w.heap.size, ob) :: xs) := by
  obtain ⟨Ft, Fo, Fr, a⟩ := h
  have t := ((Touch.refl NoB w).alloc ob)
  have b := a.quiet t
  refine ⟨Ft, Fo, Fr, b.t, b.o, b.r, ?_, b.it, b.io, b.ir, b.d1, b.d2, b.d3, ?_, ?_, ?_, b.size⟩
  · intro q hq
    rcases List.mem_cons.1 hq with rfl | hq
    · exact heap_alloc_new w ob
    · exact b.id q hq
  · intro q hq
    rcases List.mem_cons.1 hq with rfl | hq
    · intro e; have := (a.it _ e).2; simp at this
    · exact a.n1 q hq
  · intro q hq
    rcases List.mem_cons.1 hq with rfl | hq
    · intro e; have := (a.io _ e).2; simp at this
    · exact a.n2 q hq
  · intro q hq
    rcases List.mem_cons.1 hq with rfl | hq
    · intro e; have := (a.ir _ e).2; simp at this
    · exact a.n3 q hq

/-- t has changed, nothing else. -/
theorem TPAt.stepT (a : TPAt B w gt go gr m lt lr ko K xs Ft Fo Fr) {lt' : List Rw} {K' : Nat} (hO : ∃ D n, TO w' (Ext Ft w w') gt m (lt'.map Prod.fst) (colsOf m lt') D n ∧ MapIs D (lt'.map Prod.fst) ∧ n ≤ K') (t : Touch Ft w w') :
    TPAt B w' gt go gr m lt' lr ko K' xs (Ext Ft w w') Fo Fr := by
  obtain ⟨cf, D', n', h4, h5, h6, h7⟩ := a.o
  exact ⟨hO, ⟨cf, D', n', h4.keep t a.d1.symm, h5, h6, h7⟩, a.r.keep t a.d2.symm, fun q hq => (t.block q.1 (blk_lt (a.id q hq)) (a.n1 q hq)).trans (a.id q hq), a.it.ext t.size a.size, a.io.more t.size, a.ir.more t.size, a.d1.ext a.io, a.d2.ext a.ir, a.d3,
    fun q hq => not_ext (a.n1 q hq) (blk_lt (a.id q hq)), a.n2, a.n3, Nat.le_trans a.size t.size⟩
theorem TPAt.stepO (a : TPAt B w gt go gr m lt lr ko K xs Ft Fo Fr) {ko' : Nat} (hO : ∃ cf D n, TO w' (Ext Fo w w') go 3 (idsO ko') cf D n ∧ MapIs D (idsO ko') ∧ n ≤ ko' ∧ ∀ c, c < 16 → bitB 3 c = true → (cf c).length = ko') (t : Touch Fo w w') :
    TPAt B w' gt go gr m lt lr ko' K xs Ft (Ext Fo w w') Fr := by
  obtain ⟨D, n, h1, h2, h3⟩ := a.t
  exact ⟨⟨D, n, h1.keep t a.d1, h2, h3⟩, hO, a.r.keep t a.d3.symm, fun q hq => (t.block q.1 (blk_lt (a.id q hq)) (a.n2 q hq)).trans (a.id q hq), a.it.more t.size, a.io.ext t.size a.size, a.ir.more t.size, a.d1.ext' a.it, a.d2, a.d3.ext a.ir,
    a.n1, fun q hq => not_ext (a.n2 q hq) (blk_lt (a.id q hq)), a.n3, Nat.le_trans a.size t.size⟩
theorem TPAt.stepR (a : TPAt B w gt go gr m lt lr ko K xs Ft Fo Fr) {lr' : List Rw} (hO : RT w' (Ext Fr w w') gr m lr') (t : Touch Fr w w') :
    TPAt B w' gt go gr m lt lr' ko K xs Ft Fo (Ext Fr w w') := by
  obtain ⟨D, n, h1, h2, h3⟩ := a.t
  obtain ⟨cf, D', n', h4, h5, h6, h7⟩ := a.o
  exact ⟨⟨D, n, h1.keep t a.d2, h2, h3⟩, ⟨cf, D', n', h4.keep t a.d3, h5, h6, h7⟩, hO, fun q hq => (t.block q.1 (blk_lt (a.id q hq)) (a.n3 q hq)).trans (a.id q hq), a.it.more t.size, a.io.more t.size, a.ir.ext t.size a.size, a.d1, a.d2.ext' a.it, a.d3.ext' a.io,
    a.n1, a.n2, fun q hq => not_ext (a.n3 q hq) (blk_lt (a.id q hq)), Nat.le_trans a.size t.size⟩
end

/-- What a call leaves: its answer, the memory, and nothing below B changed. -/
def TPPost (B : Nat) (w : World) (v : Value) (M : World → Prop) (e : Ending) (w' : World) : Prop := e = .returned v ∧ M w' ∧ Below B w w'
/-- What Remove leaves. -/
def TPRem (B : Nat) (w : World) (b : Bool) (M : Value → World → Prop) (e : Ending) (w' : World) : Prop := ∃ v, e = .returned (.tuple #[v, .bool b]) ∧ M v w' ∧ Below B w w'

theorem cells_low {w : World} {B : Nat} {F : Nat → Prop} {A : Option Addr} {cl : List (Int × Int)} (h : CellsAt w (fun b => B ≤ b) A cl) (hF : InW w B F) : CellsAt w F A cl := by
  intro j c v hj
  obtain ⟨b, off, e, hb, hn, h1, h2⟩ := h j c v hj
  exact ⟨b, off, e, hb, fun x => hn (hF b x).1, h1, h2⟩
theorem CellsAt.below {w w' : World} {B : Nat} {A : Option Addr} {cl : List (Int × Int)} (h : CellsAt w (fun b => B ≤ b) A cl) (k : Below B w w') : CellsAt w' (fun b => B ≤ b) A cl :=
  h.touch ⟨k.os, k.tape, k.output, k.size, fun x _ hx => k.block x (by omega)⟩
theorem InW.zero' {w : World} {B : Nat} {F : Nat → Prop} (h : InW w B F) : InW w 0 F := fun b hb => ⟨Nat.zero_le _, (h b hb).2⟩

theorem map_at {l : List Rw} {r : Nat} {p : Rw} (h : l[r]? = some p) : (l.map Prod.fst)[r]? = some p.1 := by rw [List.getElem?_map, h]; rfl
theorem colsOf_len (m : Int) (l : List Rw) {c : Nat} (hc : c < 16) (hb : bitB m c = true) : (colsOf m l c).length = (l.map Prod.fst).length := by rw [colsOf_length hc hb, List.length_map]
theorem LOk.add {l : List Rw} {K : Nat} (h : LOk l K) {i x : Int} (hi : I64 i) (hx : I64 x) (hr : rowOf (l.map Prod.fst) (i, x) = none) (f : Nat → Int) : LOk (l ++ [((i, x), f)]) (K + 1) := by
  constructor
  · rw [List.map_append]
    exact h.ids.snoc hi hx hr
  · have := h.len
    simp
    omega
theorem LOk.cut {l : List Rw} {K : Nat} (h : LOk l K) {r : Nat} (hr : r < l.length) : LOk (cutAt noRow l r) K := by
  constructor
  · rw [← ids_rem]
    exact h.ids.cut (by rw [List.length_map]; exact hr)
  · rw [cutAt_length]
    have := h.len
    omega
theorem LOk.set {l : List Rw} {K : Nat} (h : LOk l K) {r : Nat} {p : Rw} (hp : l[r]? = some p) (f : Nat → Int) : LOk (l.set r (p.1, f)) K ∧ (l.set r (p.1, f)).map Prod.fst = l.map Prod.fst := by
  have e : (l.set r (p.1, f)).map Prod.fst = l.map Prod.fst := by
    rw [List.map_set]
    apply List.ext_getElem?
    intro j
    rw [List.getElem?_set]
    by_cases ej : r = j
    · subst ej
      rw [if_pos rfl, map_at hp]
      have := (List.getElem?_eq_some_iff.1 hp).1
      rw [if_pos (by rw [List.length_map]; exact this)]
    · rw [if_neg ej]
  exact ⟨⟨by rw [e]; exact h.ids, by rw [List.length_set]; exact h.len⟩, e⟩

section
variable {m : Int} {l : List Rw} {K : Nat}

theorem tp_add (h : LOk l K) (hm : 0 ≤ m) (hm2 : m < 65536) (hK : K < 1000) {i x : Int} (hi : I64 i) (hx : I64 x) (cl : List (Int × Int)) (N : Nat) (hN : cl.length = N) (hN2 : N ≤ 1000) :
    ∃ (v : Int) (l' : List Rw), LOk l' (K + 1) ∧
      (∀ (B : Nat) (w : World) (gt go gr : Nat) (lr : List Rw) (ko : Nat) (xs : List (Nat × Obj)) (A : Option Addr) (cap : Nat), TPMem B w gt go gr m l lr ko K xs → CellsAt w (fun b => B ≤ b) A cl →
        Calls Try.prog 23 #[.pointer (some ⟨gt, 0, none⟩), .agg #[.int .i64 i, .int .i64 x], .slice A N cap] w (TPPost B w (.int .i64 v) fun w' => TPMem B w' gt go gr m l' lr ko (K + 1) xs)) ∧
      (∀ (B : Nat) (w : World) (gt go gr : Nat) (lt : List Rw) (ko K' : Nat) (xs : List (Nat × Obj)) (A : Option Addr) (cap : Nat), TPMem B w gt go gr m lt l ko K' xs → CellsAt w (fun b => B ≤ b) A cl →
        Calls Try.prog 24 #[.pointer (some ⟨gr, 0, none⟩), .agg #[.int .i64 i, .int .i64 x], .slice A N cap] w (TPPost B w (.int .i64 v) fun w' => TPMem B w' gt go gr m lt l' ko K' xs)) := by
  have hlen := h.len
  rcases hr : rowOf (l.map Prod.fst) (i, x) with _ | r
  · refine ⟨l.length, _, h.add hi hx hr (newVals m cl), ?_, ?_⟩
    · rintro B w gt go gr lr ko xs A cap ⟨Ft, Fo, Fr, a⟩ hC
      obtain ⟨D, n, h1, h2, h3⟩ := a.t
      refine (tadd_yes gt m i x A N cap cl _ _ D n Ft w h1 h2 a.it.zero' hi hx hr hm hm2 (by omega) (by rw [List.length_map]; omega) (fun c hc hb => colsOf_len m l hc hb) hN hN2 (cells_low hC a.it)).mono ?_
      rintro e w' ⟨rfl, hO, hT⟩
      have e2 : l.map Prod.fst ++ [(i, x)] = (l ++ [((i, x), newVals m cl)]).map Prod.fst := by rw [List.map_append]; rfl
      have hD := h2.snoc h.ids h1.isMap hi hx hr
      rw [e2] at hO hD
      rw [cols_add m i x] at hO
      exact ⟨by rw [List.length_map], ⟨_, Fo, Fr, a.stepT ⟨_, n + 1, hO, hD, by omega⟩ hT⟩, hT.grow (fun b hb => (a.it b hb).1) a.size⟩
    · rintro B w gt go gr lt ko K' xs A cap ⟨Ft, Fo, Fr, a⟩ hC
      refine (rtadd_yes gr m i x A N cap cl l Fr w a.r a.ir.zero' hr hm hm2 (by omega) hN hN2 (cells_low hC a.ir)).mono ?_
      rintro e w' ⟨rfl, hO, hT⟩
      exact ⟨rfl, ⟨Ft, Fo, _, a.stepR hO hT⟩, hT.grow (fun b hb => (a.ir b hb).1) a.size⟩
  · refine ⟨-1, l, h.more (by omega), ?_, ?_⟩
    · rintro B w gt go gr lr ko xs A cap hM hC
      obtain ⟨Ft, Fo, Fr, a⟩ := hM
      obtain ⟨D, n, h1, h2, h3⟩ := a.t
      refine (tadd_no gt m i x _ _ _ D n Ft w h1 h2 hi hx hr).mono ?_
      rintro e w' ⟨rfl, hT⟩
      exact ⟨rfl, (TPMem.quiet ⟨Ft, Fo, Fr, a⟩ hT).more (by omega), hT.grow (fun b hb => hb.elim) a.size⟩
    · rintro B w gt go gr lt ko K' xs A cap hM hC
      obtain ⟨Ft, Fo, Fr, a⟩ := hM
      refine (rtadd_no gr m i x _ l Fr w a.r hr).mono ?_
      rintro e w' ⟨rfl, hT⟩
      exact ⟨rfl, TPMem.quiet ⟨Ft, Fo, Fr, a⟩ hT, hT.grow (fun b hb => hb.elim) a.size⟩

theorem tp_set (h : LOk l K) (hm : 0 ≤ m) (hm2 : m < 65536) (r c x : Int) :
    ∃ (b : Bool) (l' : List Rw), LOk l' K ∧
      (∀ (B : Nat) (w : World) (gt go gr : Nat) (lr : List Rw) (ko : Nat) (xs : List (Nat × Obj)), TPMem B w gt go gr m l lr ko K xs →
        Calls Try.prog 28 #[.pointer (some ⟨gt, 0, none⟩), .int .i64 r, .int .i64 c, .int .i64 x] w (TPPost B w (.bool b) fun w' => TPMem B w' gt go gr m l' lr ko K xs)) ∧
      (∀ (B : Nat) (w : World) (gt go gr : Nat) (lt : List Rw) (ko K' : Nat) (xs : List (Nat × Obj)), TPMem B w gt go gr m lt l ko K' xs →
        Calls Try.prog 29 #[.pointer (some ⟨gr, 0, none⟩), .int .i64 r, .int .i64 c, .int .i64 x] w (TPPost B w (.bool b) fun w' => TPMem B w' gt go gr m lt l' ko K' xs)) := by
  rcases hh : rowB l.length r && colB m c
  · refine ⟨false, l, h, ?_, ?_⟩
    · rintro B w gt go gr lr ko xs ⟨Ft, Fo, Fr, a⟩
      obtain ⟨D, n, h1, h2, h3⟩ := a.t
      refine (tset_no gt m r c x _ _ D n Ft w h1 hm hm2 (by rw [List.length_map]; exact hh)).mono ?_
      rintro e w' ⟨rfl, rfl⟩
      exact ⟨rfl, ⟨Ft, Fo, Fr, a⟩, Below.refl _ _⟩
    · rintro B w gt go gr lt ko K' xs ⟨Ft, Fo, Fr, a⟩
      refine (rtset_no gr m r c x l Fr w a.r hm hm2 hh).mono ?_
      rintro e w' ⟨rfl, rfl⟩
      exact ⟨rfl, ⟨Ft, Fo, Fr, a⟩, Below.refl _ _⟩
  · rw [Bool.and_eq_true] at hh
    obtain ⟨r, rfl, hr⟩ := rowB_true hh.1
    obtain ⟨c, rfl, hc, hb⟩ := colB_true hh.2
    obtain ⟨p, hp⟩ : ∃ p, l[r]? = some p := ⟨_, List.getElem?_eq_getElem hr⟩
    obtain ⟨k1, k2⟩ := h.set hp (valAt p.2 c x)
    refine ⟨true, _, k1, ?_, ?_⟩
    · rintro B w gt go gr lr ko xs ⟨Ft, Fo, Fr, a⟩
      obtain ⟨D, n, h1, h2, h3⟩ := a.t
      refine (tset_yes gt r c m x _ _ D n Ft w h1 hm hm2 (by rw [List.length_map]; exact hr) hc hb (by rw [colsOf_length hc hb]; exact hr)).mono ?_
      rintro e w' ⟨rfl, hO, hT⟩
      refine ⟨rfl, ⟨_, Fo, Fr, a.stepT ⟨D, n, ?_, by rw [k2]; exact h2, h3⟩ hT⟩, hT.grow (fun b hb => (a.it b hb).1) a.size⟩
      rw [k2, ← cols_set hp hc hb]
      exact hO.more (fun _ e => .inl e)
    · rintro B w gt go gr lt ko K' xs ⟨Ft, Fo, Fr, a⟩
      refine (rtset_yes gr r c m x p l Fr w a.r hm hm2 hp hc hb).mono ?_
      rintro e w' ⟨rfl, hO, hT⟩
      exact ⟨rfl, ⟨Ft, Fo, _, a.stepR (hO.more (fun _ e => .inl e)) hT⟩, hT.grow (fun b hb => (a.ir b hb).1) a.size⟩

theorem tp_get (hm : 0 ≤ m) (hm2 : m < 65536) (l : List Rw) (r c : Int) :
    ∃ (x : Int) (b : Bool),
      (∀ (B : Nat) (w : World) (gt go gr : Nat) (lr : List Rw) (ko K : Nat) (xs : List (Nat × Obj)), TPMem B w gt go gr m l lr ko K xs →
        Calls Try.prog 30 #[.pointer (some ⟨gt, 0, none⟩), .int .i64 r, .int .i64 c] w fun e w' => e = .returned (.tuple #[.int .i64 x, .bool b]) ∧ w = w') ∧
      (∀ (B : Nat) (w : World) (gt go gr : Nat) (lt : List Rw) (ko K' : Nat) (xs : List (Nat × Obj)), TPMem B w gt go gr m lt l ko K' xs →
        Calls Try.prog 31 #[.pointer (some ⟨gr, 0, none⟩), .int .i64 r, .int .i64 c] w fun e w' => e = .returned (.tuple #[.int .i64 x, .bool b]) ∧ w = w') := by
  rcases hh : rowB l.length r && colB m c
  · refine ⟨0, false, ?_, ?_⟩
    · rintro B w gt go gr lr ko K xs ⟨Ft, Fo, Fr, a⟩
      obtain ⟨D, n, h1, h2, h3⟩ := a.t
      exact tget_no gt m r c _ _ D n Ft w h1 hm hm2 (by rw [List.length_map]; exact hh)
    · rintro B w gt go gr lt ko K' xs ⟨Ft, Fo, Fr, a⟩
      exact rtget_no gr m r c l Fr w a.r hm hm2 hh
  · rw [Bool.and_eq_true] at hh
    obtain ⟨r, rfl, hr⟩ := rowB_true hh.1
    obtain ⟨c, rfl, hc, hb⟩ := colB_true hh.2
    obtain ⟨p, hp⟩ : ∃ p, l[r]? = some p := ⟨_, List.getElem?_eq_getElem hr⟩
    refine ⟨p.2 c, true, ?_, ?_⟩
    · rintro B w gt go gr lr ko K xs ⟨Ft, Fo, Fr, a⟩
      obtain ⟨D, n, h1, h2, h3⟩ := a.t
      refine tget_yes gt r c m _ _ _ D n Ft w h1 hm hm2 (by rw [List.length_map]; exact hr) hc hb ?_
      unfold colsOf
      rw [if_pos ⟨hc, hb⟩, List.getElem?_map, hp]
      rfl
    · rintro B w gt go gr lt ko K' xs ⟨Ft, Fo, Fr, a⟩
      exact rtget_yes gr r c m p l Fr w a.r hm hm2 hp hc hb

theorem tp_remove (h : LOk l K) (hm : 0 ≤ m) (hm2 : m < 65536) (hK : K < 1000) (r : Int) :
    ∃ (ls : List (Int × Int)) (b : Bool) (l' : List Rw), LOk l' K ∧ ls.length ≤ 16 ∧
      (∀ (B : Nat) (w : World) (gt go gr : Nat) (lr : List Rw) (ko : Nat) (xs : List (Nat × Obj)), TPMem B w gt go gr m l lr ko K xs →
        Calls Try.prog 25 #[.pointer (some ⟨gt, 0, none⟩), .int .i64 r] w (TPRem B w b fun v w' => TPRow B w' gt go gr m l' lr ko (K + 1) xs v ls)) ∧
      (∀ (B : Nat) (w : World) (gt go gr : Nat) (lt : List Rw) (ko K' : Nat) (xs : List (Nat × Obj)) (v : Value), TPRow B w gt go gr m lt l ko K' xs v ls →
        Calls Try.prog 26 #[.pointer (some ⟨gr, 0, none⟩), .int .i64 r] w (TPRem B w b fun v' w' => TPMem B w' gt go gr m lt l' ko K' xs ∧ w'.ownsRow B 66 2 v ls.length (idc ls) ∧ w'.ownsRow B 66 2 v' ls.length (idc ls))) := by
  have hlen := h.len
  rcases hh : rowB l.length r
  · refine ⟨[], false, l, h, by simp, ?_, ?_⟩
    · rintro B w gt go gr lr ko xs ⟨Ft, Fo, Fr, a⟩
      obtain ⟨D, n, h1, h2, h3⟩ := a.t
      refine (tremove_no gt m r _ _ D n Ft w h1 (by rw [List.length_map]; exact hh)).mono ?_
      rintro e w' ⟨rfl, rfl⟩
      obtain ⟨_, _, _, b⟩ := TPMem.more ⟨Ft, Fo, Fr, a⟩ (Nat.le_succ K)
      exact ⟨_, rfl, ⟨_, _, _, b, World.ownsRow_nil _ _ _ _, by simp [Value.ownBlock]⟩, Below.refl _ _⟩
    · rintro B w gt go gr lt ko K' xs v ⟨Ft, Fo, Fr, a, h4, _⟩
      refine (rtremove_no gr m r l Fr w a.r hh).mono ?_
      rintro e w' ⟨rfl, rfl⟩
      exact ⟨_, rfl, ⟨⟨Ft, Fo, Fr, a⟩, h4, World.ownsRow_nil _ _ _ _⟩, Below.refl _ _⟩
  · obtain ⟨r, rfl, hr⟩ := rowB_true hh
    obtain ⟨p, hp⟩ : ∃ p, l[r]? = some p := ⟨_, List.getElem?_eq_getElem hr⟩
    obtain ⟨M, hM⟩ : ∃ M, l.length = M + 1 := ⟨l.length - 1, by omega⟩
    obtain ⟨q, hq⟩ : ∃ q, l[M]? = some q := ⟨_, List.getElem?_eq_getElem (by omega)⟩
    have hML : l.length - 1 = M := by omega
    refine ⟨outR m p, true, _, h.cut hr, ?_, ?_, ?_⟩
    · rw [← outK_all]
      exact outK_length m p 16
    · rintro B w gt go gr lr ko xs ⟨Ft, Fo, Fr, a⟩
      obtain ⟨D, n, h1, h2, h3⟩ := a.t
      have h9 : (l.map Prod.fst)[(l.map Prod.fst).length - 1]? = some q.1 := by rw [List.length_map, hML]; exact map_at hq
      obtain ⟨⟨p0, p1⟩, pf⟩ := p
      obtain ⟨⟨q0, q1⟩, qf⟩ := q
      refine (tremove_yes gt r m p0 p1 q0 q1 _ _ D n Ft w h1 a.it.zero' hm hm2 (by omega) (by rw [List.length_map]; omega) (by rw [List.length_map]; exact hr) (fun c hc hb => colsOf_len m l hc hb) (map_at hp) h9 (h.ids.wf _ _ _ (map_at hp)) (h.ids.wf _ _ _ h9)).mono ?_
      rintro e w' ⟨v, rfl, ho, hO, hT⟩
      rw [cols_out hp] at ho
      rw [ids_rem, cols_rem] at hO
      have hD := h2.cut h.ids h1.isMap (by rw [List.length_map]; exact hr) (map_at hp) h9
      rw [ids_rem] at hD
      refine ⟨v, rfl, ⟨_, Fo, Fr, a.stepT ⟨_, n + 1, hO, hD, by omega⟩ hT, ho.mono a.size, fun k hk e => ?_⟩, hT.grow (fun b hb => (a.it b hb).1) a.size⟩
      have h8 := (ho.lt k hk).1
      have := (a.ir k e).2
      omega
    · rintro B w gt go gr lt ko K' xs v ⟨Ft, Fo, Fr, a, h4, h5⟩
      refine (rtremove_yes gr r M m p q l Fr w a.r a.ir.zero' hm hm2 hM (by omega) hp hq).mono ?_
      rintro e w' ⟨v2, rfl, ho, hO, hT⟩
      exact ⟨v2, rfl, ⟨⟨Ft, Fo, _, a.stepR (hO.more (fun _ e => .inl e)) hT⟩, row_touch h4 hT h5, ho.mono a.size⟩, hT.grow (fun b hb => (a.ir b hb).1) a.size⟩
end

section
variable {B : Nat} {w : World} {gt go gr : Nat} {m : Int} {l lr : List Rw} {ko K : Nat} {xs : List (Nat × Obj)}

/-- What Add of the other Table leaves. -/
def TPOther (B : Nat) (w : World) (M : World → Prop) (e : Ending) (w' : World) : Prop := ∃ v, e = .returned v ∧ M w' ∧ Below B w w'
theorem tp_other (h : TPMem B w gt go gr m l lr ko K xs) (hk : ko < 1000) :
    Calls Try.prog 23 #[.pointer (some ⟨go, 0, none⟩), .agg #[.int .i64 ko, .int .i64 0], .slice none 0 0] w (TPOther B w fun w' => TPMem B w' gt go gr m l lr (ko + 1) K xs) := by
  obtain ⟨Ft, Fo, Fr, a⟩ := h
  obtain ⟨cf, D, n, h1, h2, h3, h4⟩ := a.o
  refine (tadd_yes go 3 ko 0 none 0 0 [] _ _ D n Fo w h1 h2 a.io.zero' (nat_i64 (by omega)) i64_zero (idsO_none ko) (by decide) (by decide) (by omega) (by rw [idsO_length]; omega) (fun c hc hb => by rw [idsO_length, h4 c hc hb]) rfl (by omega) (fun j c v hj => by simp at hj)).mono ?_
  rintro e w' ⟨rfl, hO, hT⟩
  have hD := h2.snoc (idsO_ok (by omega)) h1.isMap (nat_i64 (k := ko) (by omega)) i64_zero (idsO_none ko)
  rw [← idsO_succ] at hO hD
  exact ⟨_, rfl, ⟨Ft, _, Fr, a.stepO ⟨_, _, n + 1, hO, hD, by omega, fun c hc hb => newCol_len hc hb (h4 c hc hb)⟩ hT⟩, hT.grow (fun b hb => (a.io b hb).1) a.size⟩

theorem tp_ids (h : TPMem B w gt go gr m l lr ko K xs) {li : List (Int × Int)} (he : l.map Prod.fst = li) (hl : li.length ≤ 1000000) :
    Calls Try.prog 32 #[.pointer (some ⟨gt, 0, none⟩)] w (NewRow w 30 2 li.length (idc li)) := by
  obtain ⟨Ft, Fo, Fr, a⟩ := h
  obtain ⟨D, n, h1, h2, h3⟩ := a.t
  subst he
  exact tids_any gt m _ _ D n Ft w h1 hl
theorem tp_rids (h : TPMem B w gt go gr m lr l ko K xs) {li : List (Int × Int)} (he : l.map Prod.fst = li) (hl : li.length ≤ 1000000) :
    Calls Try.prog 33 #[.pointer (some ⟨gr, 0, none⟩)] w (NewRow w 30 2 li.length (idc li)) := by
  obtain ⟨Ft, Fo, Fr, a⟩ := h
  subst he
  rw [List.length_map] at hl ⊢
  exact rtids_any gr m l Fr w a.r hl
theorem tp_col (h : TPMem B w gt go gr m l lr ko K xs) (hm : 0 ≤ m) (hm2 : m < 65536) {c : Int} {lc : List Int} (he : colR m l c = lc) (hl : l.length ≤ 1000000) :
    Calls Try.prog 35 #[.pointer (some ⟨gt, 0, none⟩), .int .i64 c] w (NewRow w 3 1 lc.length (ic lc)) := by
  obtain ⟨Ft, Fo, Fr, a⟩ := h
  obtain ⟨D, n, h1, h2, h3⟩ := a.t
  have := tcolumn_any gt m c _ _ D n Ft w h1 hm hm2 (fun c hc => by
    unfold colsOf
    split
    · rw [List.length_map]; exact hl
    · simp)
  rw [cols_column, he] at this
  exact this
theorem tp_rcol (h : TPMem B w gt go gr m lr l ko K xs) (hm : 0 ≤ m) (hm2 : m < 65536) {c : Int} {lc : List Int} (he : colR m l c = lc) (hl : l.length ≤ 1000000) :
    Calls Try.prog 36 #[.pointer (some ⟨gr, 0, none⟩), .int .i64 c] w (NewRow w 3 1 lc.length (ic lc)) := by
  obtain ⟨Ft, Fo, Fr, a⟩ := h
  subst he
  exact rtcol_any gr m c l Fr w a.r hl hm hm2
theorem tp_row (h : TPMem B w gt go gr m l lr ko K xs) {i x : Int} (hi : I64 i) (hx : I64 x) {rv : Int} (he : rowV (l.map Prod.fst) (i, x) = rv) :
    Calls Try.prog 37 #[.pointer (some ⟨gt, 0, none⟩), .agg #[.int .i64 i, .int .i64 x]] w fun e w' => e = .returned (.int .i64 rv) ∧ Touch NoB w w' := by
  obtain ⟨Ft, Fo, Fr, a⟩ := h
  obtain ⟨D, n, h1, h2, h3⟩ := a.t
  subst he
  exact trow_any gt m i x _ _ D n Ft w h1 h2 hi hx
theorem tp_rrow (h : TPMem B w gt go gr m lr l ko K xs) {i x : Int} {rv : Int} (he : rowV (l.map Prod.fst) (i, x) = rv) :
    Calls Try.prog 38 #[.pointer (some ⟨gr, 0, none⟩), .agg #[.int .i64 i, .int .i64 x]] w fun e w' => e = .returned (.int .i64 rv) ∧ Touch NoB w w' := by
  obtain ⟨Ft, Fo, Fr, a⟩ := h
  subst he
  exact rtrow_any gr m i x l Fr w a.r
end
end Go.Proofs.Ytmafhcfdamhejaa
