/-
  What enter and leave return, and what they leave in memory.
-/
import Derived.Test.YtjddfmllphcehaaEf
import Derived.Test.YtjddfmllphcehaaTg
namespace Go.Proofs.Ytjddfmllphcehaa
open Go.ChangeShapes Go.WideShapes Go.ChangeAt Go.RowKit Go.Maps
set_option maxRecDepth 100000
set_option maxHeartbeats 1000000

/-- ts' is ts with p in the table of m, with the values of cl. -/
def EntT (ts : List Ar) (m : Int) (p : Int × Int) (cl : List (Int × Int)) (ts' : List Ar) : Prop :=
  ∃ tm j r D' n', OpenT ts m tm j r ∧ tm[j]? = some r ∧ ts' = tm.set j ⟨r.a, r.t, D', n', ⟨r.b.m, r.b.ids ++ [p], newCol r.b.m r.b.cf cl⟩⟩
def EnterPost (w : World) (φ : Nat → Int) (g : Nat) (room tables : Int) (ps : List (Int × Bool)) (ds : List Int) (ts : List Ar) (bh : Nat) (m i x : Int) (cl : List (Int × Int)) (cnt : Nat) (e : Ending) (w' : World) : Prop :=
  ∃ φ' ts' H' nh' va', e = .returned (.tuple #[]) ∧ SG w' φ' g room tables ps ds ts' H' nh' va' bh ∧ TInv (cnt + 1) ts' H' nh' ∧ EntT ts m (i, x) cl ts' ∧ Touch (fun b => φ b ≠ 0) w w' ∧ ∀ b, φ' b ≠ 0 → φ b ≠ 0 ∨ w.heap.size ≤ b

theorem CellsAt.move {w w' : World} {F G : Nat → Prop} {A : Option Addr} {cl : List (Int × Int)} (h : CellsAt w F A cl) (t : Touch F w w') (hg : ∀ b, b < w.heap.size → G b → F b) : CellsAt w' G A cl := by
  intro j c v hj
  obtain ⟨b, off, e, h1, h2, h3, h4⟩ := h.touch t j c v hj
  obtain ⟨b', off', e', h1', h2', _⟩ := h j c v hj
  rw [e] at e'
  injection e' with e'
  injection e' with e1
  subst e1
  exact ⟨b, off, e, h1, fun x => h2 (hg b h1' x), h3, h4⟩
theorem ownsMap_isMap {w : World} {P : Program} {k : TypeId} {R : Value → Option (DataW Unit × List MemPlace)} {b n : Nat} {D : DataW Unit} (h : w.ownsMap P k R b n D) : IsMap D := by
  obtain ⟨es, clock, _, _, _, rfl⟩ := h
  exact ⟨_, rfl⟩

section
variable {w : World} {φ : Nat → Int} {g : Nat} {room tables : Int} {ps : List (Int × Bool)} {ds : List Int} {ts : List Ar} {H : DataW Unit} {nh : Nat} {va : Value} {bh : Nat}

theorem enter_any {cnt : Nat} (h : SG w φ g room tables ps ds ts H nh va bh) (I : TInv cnt ts H nh) (m i x : Int) (A : Option Addr) (N cap : Nat) (cl : List (Int × Int)) (hm : 0 ≤ m ∧ m < 65536) (hi : I64 i) (hx : I64 x) (hn : ¬ InT ts (i, x)) (hc : cnt ≤ 1000) (hl : ts.length ≤ 1000) (hN : cl.length = N) (hN2 : N ≤ 1000) (hC : CellsAt w (fun b => φ b ≠ 0) A cl) :
    Calls Try.prog 28 #[.pointer (some ⟨g, 0, none⟩), .agg #[.int .i64 i, .int .i64 x], .int .u16 m, .slice A N cap] w (EnterPost w φ g room tables ps ds ts bh m i x cl cnt) := by
  have TW : Touch NoB w (w.alloc (.cells #[.int .i64 i, .int .i64 x] 30)) := (Touch.refl NoB w).alloc _
  have h0 := h.quiet TW
  have HA := Lib.hid (arch_any h0 m hm (by omega))
  have hq0 : φ w.heap.size = 0 := Classical.byContradiction fun e => by have := h.wf _ e; omega
  have hqb : (w.alloc (.cells #[.int .i64 i, .int .i64 x] 30)).heap[w.heap.size]? = some (.cells #[.int .i64 i, .int .i64 x] 30 (0, 0)) := alloc_blk w _ _ rfl
  have H0 := Lib.hid h0
  have HI := Lib.hid I
  have HC := Lib.hid (hC.touch (TW.mono (fun _ e => e.elim)))
  have HQ := Lib.hid (And.intro hq0 hqb)
  have HN := Lib.hid hn
  have HT := Lib.hid TW
  have HNN := Lib.hid hN
  clear h h0 I hC hq0 hqb hn TW hN
  go_enter Try.func28, Try.ntmps28
  go_wp2_with fail
  refine HA.out.mono ?_
  rintro e w1 ⟨φ1, t1, va1, j, r, rfl, h1, hr, hO, hT1, hφ1⟩
  have hq1 : w1.heap[w.heap.size]? = some (.cells #[.int .i64 i, .int .i64 x] 30 (0, 0)) := (hT1.block _ (by simp) (fun e => e HQ.out.1)).trans HQ.out.2
  have hqφ : φ1 w.heap.size = 0 := Classical.byContradiction fun e => by
    rcases hφ1 _ e with a | a
    · exact a HQ.out.1
    · rw [World.size_alloc] at a; omega
  have I1 := HI.out.opened hO
  have hn1 : ¬ InT t1 (i, x) := fun e => HN.out ((open_in hO _).1 e)
  obtain ⟨o1, o2, o3, o4, o5⟩ := I1.ok j r hr
  have hmr := h1.m0 j r hr
  have hTO := (h1.tab j r hr).quiet ((Touch.refl NoB w1).drew)
  have hC1 : CellsAt w1.drew (fun b => φ1 b = 5 + 2 * r.b.m) A cl := (HC.out.move hT1 (fun b hb e => (hφ1 b (by rw [e]; omega)).elim id (fun x => by omega))).touch ((Touch.refl _ w1).drew)
  have HAdd := Lib.hid (tadd_yes r.t r.b.m i x A N cap cl r.b.ids r.b.cf r.D r.n _ w1.drew hTO o2 (fun b hb => ⟨Nat.zero_le _, h1.wf b (by rw [hb]; omega)⟩) hi hx (rowOf_not (fun e => hn1 ⟨j, r, hr, e⟩)) hmr.1 hmr.2 (by omega) (by omega) o3 HNN.out hN2 hC1)
  have hra := (h1.arch j r hr).1
  have hrφ := (h1.arch j r hr).2
  have k1 : w1.cell? ⟨r.a, 1, none⟩ = some (.pointer (some ⟨r.t, 0, none⟩)) := cell_blk hra 1
  have k2 : w1.cell? ⟨w.heap.size, 0, none⟩ = some (.int .i64 i) := cell_blk hq1 0
  have k3 : w1.cell? ⟨w.heap.size, 1, none⟩ = some (.int .i64 x) := cell_blk hq1 1
  have l1 := blk_lt hra
  have l2 := blk_lt hq1
  have H1 := Lib.hid h1
  have HI1 := Lib.hid I1
  have HN1 := Lib.hid hn1
  have HR := Lib.hid hr
  have HO := Lib.hid hO
  have HT1 := Lib.hid hT1
  have Hφ := Lib.hid hφ1
  have HX := Lib.hid (And.intro hq1 (And.intro hqφ (And.intro hra (And.intro hrφ hmr))))
  have HD := Lib.hid hTO.isMap
  clear h1 I1 hn1 hr hO hT1 hφ1 hq1 hqφ hra hrφ hmr hTO hC1 o1 o2 o3 o4 o5
  go_wp2_with fail
  go_region_held3 (fun w' => w'.cell? ⟨r.a, 1, none⟩ = some (.pointer (some ⟨r.t, 0, none⟩)) ∧ w'.cell? ⟨w.heap.size, 0, none⟩ = some (.int .i64 i) ∧ w'.cell? ⟨w.heap.size, 1, none⟩ = some (.int .i64 x)) (first | go_keep | exact ⟨kk1, kk2, kk3⟩)
    (first | (go_at_call 61
              refine HAdd.out.mono ?_
              rintro e w2 ⟨rfl, hA, hT2⟩
              have hq2 := (hT2.block w.heap.size (blk_lt HX.out.1) (fun e => by have := HX.out.2.1; have := HX.out.2.2.2.2; omega)).trans HX.out.1
              have ha2 := (hT2.block r.a (blk_lt HX.out.2.2.1) (fun e => by have := HX.out.2.2.2.1; omega)).trans HX.out.2.2.1
              have kk1 : w2.cell? ⟨r.a, 1, none⟩ = some (.pointer (some ⟨r.t, 0, none⟩)) := cell_blk ha2 1
              have kk2 : w2.cell? ⟨w.heap.size, 0, none⟩ = some (.int .i64 i) := cell_blk hq2 0
              have kk3 : w2.cell? ⟨w.heap.size, 1, none⟩ = some (.int .i64 x) := cell_blk hq2 1
              have HA2 := Lib.hid (And.intro hA hT2)
              clear hA hT2 hq2 ha2))
  have h2 := (H1.out.quiet ((Touch.refl NoB w1).drew)).putTab HR.out HA2.out.2 HA2.out.1
  have l2 : w.heap.size < w2.heap.size := Nat.lt_of_lt_of_le l2 HA2.out.2.size
  have k5 := h2.at5
  have hg2 := h2.lt
  have h3 := h2.quiet ((Touch.refl NoB w2).drew)
  obtain ⟨w4, hrun, ho4, hg4⟩ := h3.map.update lawId Try.underlying67 (by have := HI1.out.nhc; unfold maxLen; omega) (key_id hi hx) (ptr_at r.a)
  have h4 := h3.putMap hg4 ho4
  have I4 := HI1.out.entered HR.out hi hx HN1.out HD.out (ownsMap_isMap h2.map) cl
  have hT24 : Touch (fun b => φ1 b ≠ 0) w1 w4 := by
    have t2 : Touch (fun b => φ1 b ≠ 0) w1 w2 := ((Touch.refl _ w1).drew).same (HA2.out.2.mono (fun b e => by rw [e]; have := HX.out.2.2.2.2; omega))
    refine (t2.drew).grown hg4 (fun k e => ?_)
    injection e with e
    subst e
    exact .inl (by rw [H1.out.mapL]; decide)
  have hP : EnterPost w φ g room tables ps ds ts bh m i x cl cnt (.returned (.tuple #[])) w4 := by
    refine ⟨_, _, _, _, _, rfl, h4, I4, ⟨t1, j, r, _, _, HO.out, HR.out, rfl⟩, ?_, fun b hb => ?_⟩
    · refine ((HT.out.mono (fun _ e => e.elim)).same HT1.out).trans hT24 (fun b e => ?_)
      rcases Hφ.out b e with a | a
      · exact .inl a
      · right; rw [World.size_alloc] at a; omega
    · have hs2 := HA2.out.2.size
      have hs1 := HT1.out.size
      simp at hs1
      have hs1' : w1.drew.heap.size = w1.heap.size := rfl
      have hs2' : w2.drew.heap.size = w2.heap.size := rfl
      unfold relab at hb
      split at hb
      · right; omega
      · split at hb
        · right; omega
        · rcases Hφ.out b hb with a | a
          · exact .inl a
          · right; rw [World.size_alloc] at a; omega
  have HP := Lib.hid hP
  clear h2 h3 h4 I4 ho4 hg4 hT24 hP
  go_wp2
  go_region
  go_end0
  exact HP.out
end
end Go.Proofs.Ytjddfmllphcehaa
