/-
  What Forget and New of package board return, and what they leave in memory; the example of the document.
-/
import Derived.Test.YteacpfknfbmjkaaBf
namespace Go.Proofs.Yteacpfknfbmjkaa
open Go.ChangeShapes Go.WideShapes Go.ChangeAt Go.RowKit Go.Maps
set_option maxRecDepth 100000
set_option maxHeartbeats 4000000

attribute [local go_sem] run_equalIn_complex run_store_complex
section
variable {w : World} {F : Nat → Prop} {g : Nat} {l : List Ky} {C : Ow → Nat → Int × Int} {now : Int} {cnt : Nat} {v : Value} {bo : Nat} {D : DataW Unit}
theorem forget_any (h : BB w F g l C now cnt v bo D) {i x : Int} (hi : I64 i) (hx : I64 x) :
    Calls Try.prog 13 #[.pointer (some ⟨g, 0, none⟩), .agg #[.int .i64 i, .int .i64 x]] w fun e w' => e = .returned (.tuple #[]) ∧ BD w' F g l (noC C ⟨i, x, false⟩) now cnt ∧ Touch F w w' := by
  have hok : OwOk ⟨i, x, false⟩ := ⟨hi, hx⟩
  have T1 : Touch NoB w ((w.alloc (.cells #[.int .i64 i, .int .i64 x] 23)).drew) := ((Touch.refl NoB w).alloc _).drew
  have h1 := h.quiet T1
  obtain ⟨w2, hrun, ho2, ht2⟩ := h1.map.drop lawOw Try.underlying55 (key_ow hok) 0
  have T2 : Touch (fun k => k = bo) ((w.alloc (.cells #[.int .i64 i, .int .i64 x] 23)).drew) w2 := (Touch.refl (fun k => k = bo) _).grown ht2.grown (fun q e => by injection e with e; subst e; exact .inl rfl)
  have h2 := h1.forgot hok ho2 T2
  have TF : Touch F w w2 := (T1.mono (fun _ e => e.elim)).trans T2 (fun k e => .inl (by rw [e]; exact h.fo))
  have k1 := h.at1
  have hgl := h.lt
  have HEnd := Lib.hid (show BD w2 F g l (noC C ⟨i, x, false⟩) now cnt ∧ Touch F w w2 from ⟨⟨_, _, _, h2⟩, TF⟩)
  unfold owV at hrun
  clear T1 h1 ho2 ht2 T2 h2 TF h hi hx hok
  go_enter Try.func13, Try.ntmps13
  go_wp2
  go_region
  go_end0
  exact ⟨rfl, HEnd.out⟩

/-- No cell was changed. -/
def C0 : Ow → Nat → Int × Int := fun _ _ => (0, 0)
/-- What New leaves: a Board of the keys, all of whose blocks are new. -/
def NewB (w : World) (l : List Ky) (e : Ending) (w' : World) : Prop := ∃ g : Nat, e = .returned (.tuple #[.pointer (some ⟨g, 0, none⟩), .int .i64 0]) ∧ BD w' (Ext NoB w w') g l C0 0 0 ∧ Touch NoB w w'
theorem bnew_yes (A : Option Addr) (n cap : Nat) (l : List Ky) (w : World) (hn : l.length = n) (hn2 : n ≤ 1000000) (h : KAt w NoB A l) (he : errK l = 0) (hk : ∀ (j : Nat) (k : Ky), l[j]? = some k → k.nm.size ≤ 1000 ∧ k.kd = 0) :
    Calls Try.prog 7 #[.slice A n cap] w (NewB w l) := by
  have HN := Lib.hid (new_yes A n cap l w hn hn2 h he)
  have hmm := @run_makeMap Try.prog
  have HK := Lib.hid hk
  clear hn hn2 h he hk
  go_enter Try.func7, Try.ntmps7
  go_wp2_with fail
  refine HN.out.mono ?_
  rintro e w1 ⟨q, rfl, hS, hT1⟩
  obtain ⟨v, hq, hr, f0, f1, hs⟩ := hS
  have k0 : w1.cell? ⟨q, 0, none⟩ = some v := cell_blk hq 0
  have hql := blk_lt hq
  have T2 : Touch NoB w1 ((w1.alloc (.map #[] 0)).alloc (.cells #[v, .map (some w1.heap.size), .int .i64 0] 57)) := ((Touch.refl NoB w1).alloc _).alloc _
  have hm : ((w1.alloc (.map #[] 0)).alloc (.cells #[v, .map (some w1.heap.size), .int .i64 0] 57)).ownsMap Try.prog 59 mapElem w1.heap.size 0 (.map []) := (World.ownsMap_made w1 Try.prog 59 mapElem).alloc _
  have hs1 := hT1.size
  have hB : BB ((w1.alloc (.map #[] 0)).alloc (.cells #[v, .map (some w1.heap.size), .int .i64 0] 57)) (Ext NoB w ((w1.alloc (.map #[] 0)).alloc (.cells #[v, .map (some w1.heap.size), .int .i64 0] 57))) (w1.heap.size + 1) l C0 0 0 v w1.heap.size (.map []) := by
    refine ⟨alloc_blk _ _ _ (by simp only [World.size_alloc]), row_touch hr T2 (fun _ _ e => e), HK.out, hm, fun o _ => .inl ⟨rfl, fun _ => rfl⟩, fun o p b _ _ h1 _ => absurd h1.symm bd_nd, .inr ⟨by omega, by simp⟩, fun k hk => ?_, .inr ⟨by omega, by simp only [World.size_alloc]; omega⟩⟩
    rcases f1 k hk with e | e
    · exact e.elim
    · exact .inr ⟨e.1, by simp only [World.size_alloc]; omega⟩
  have HEnd := Lib.hid (show BD _ _ _ l C0 0 0 ∧ Touch NoB w _ from ⟨⟨_, _, _, hB⟩, hT1.same T2⟩)
  clear hq hr f0 f1 hs hT1 T2 hm hB
  go_wp2
  exact bodyPost_ret (v := .tuple #[.pointer (some ⟨w1.heap.size + 1, 0, none⟩), .int .i64 0]) (by simp [results, Try.results7, go_sem]) rfl ⟨_, rfl, HEnd.out⟩
end
theorem num_any (n : Int) (w : World) :
    Calls Try.prog 8 #[.int .i64 n] w fun e w' => e = .returned (.int .i64 n) ∧ w = w' := by
  go_enter Try.func8, Try.ntmps8
  go_wp2
  go_ret
  exact ⟨rfl, rfl⟩
end Go.Proofs.Yteacpfknfbmjkaa
