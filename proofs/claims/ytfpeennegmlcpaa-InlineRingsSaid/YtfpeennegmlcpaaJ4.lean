/-
  Package inline's expander as Tree lays it. Conditions: those that each theorem names.
-/
import Derived.Test.YtfpeennegmlcpaaJ2
import Derived.Test.YtfpeennegmlcpaaI4
import Derived.Deep.OwnRows
namespace Go.Proofs.Ytfpeennegmlcpaa
open Go.ChangeShapes Go.WideShapes Go.ChangeAt Go.RowKit
set_option maxRecDepth 100000
set_option maxHeartbeats 4000000

def StoreX (x y : Value) : Sem Unit := Instr.storeAt 75 x y
theorem storeX_of (x y : Value) : Instr.storeAt 75 x y = StoreX x y := rfl
theorem size_X : (Try.prog.info? 75).map (·.size) = some 5 := by kernel_rfl
theorem made_bools (n : Nat) : madeCells #[.bool false] n = ((List.replicate n false).map Value.bool).toArray := by
  apply Array.ext_getElem?
  intro i
  unfold madeCells
  by_cases h : i < n
  · simp [h, Nat.mod_one]
  · simp [h]
/-- The cells of an expander before anything is in it. -/
def zX : Array Value := #[.slice none 0 0, .map none, .slice none 0 0, .int .i64 0, .int .i64 0]
def exC (tb nl c mb ob : Nat) : List Value := [.slice (some ⟨tb, 0, none⟩) nl c, .map (some mb), .slice (some ⟨ob, 0, none⟩) nl nl, .int .i64 0, .int .i64 0]
theorem keepB {W W' : World} (t : Touch NoB W W') {b : Nat} {o : Obj} (h : W.heap[b]? = some o) : W'.heap[b]? = some o := (t.block b (blk_lt h) (fun f => f)).trans h
theorem ex_make {W : World} {B eb ob mb tb D nl c : Nat} {ts : List TrP} (hn : ts.length = nl) (hz : W.heap[eb]? = some (.cells zX 75 (0, 0))) (ho : W.heap[ob]? = some (.cells (madeCells #[.bool false] nl) 4 (0, 0))) (hp : PK W mb nl (nmsT ts)) (ht : TL W (fun b => b < B) D ts tb) (hi : B ≤ eb ∧ B ≤ ob ∧ B ≤ mb ∧ eb ≠ ob ∧ mb ≠ eb ∧ mb ≠ ob) :
    ∃ W', (StoreX (.pointer (some ⟨eb, 0, none⟩)) (.agg #[.slice (some ⟨tb, 0, none⟩) nl c, .map (some mb), .slice (some ⟨ob, 0, none⟩) nl nl, .int .i64 0, .int .i64 0])).run Try.prog W = .ok () W' ∧ EX W' B eb ob mb tb D ts (List.replicate nl false) 0 0 ∧ Touch (fun b => b = eb) W W' := by
  subst hn
  have hl : (exC tb ts.length c mb ob).length = 5 := rfl
  have hth : W.there eb 0 (exC tb ts.length c mb ob).length := fun j hj => ⟨by rw [Lib.cell_of_heap hz]; simp [zX]; rw [hl] at hj; omega, free_blk hz _⟩
  have tW : Touch (fun b => b = eb) W (W.setCells eb 0 (exC tb ts.length c mb ob)) := touch_setCells eb (exC tb ts.length c mb ob) 0 W W (Touch.refl _ _)
  refine ⟨W.setCells eb 0 (exC tb ts.length c mb ob), ?_, ⟨⟨c, ?_⟩, ?_, by simp, hp.touch tW hi.2.2.2.2.1, ht.via tW (fun b hb e => by subst e; exact absurd hb (by omega)), hi⟩, tW⟩
  · have := run_storeAt_mid W eb 0 75 (exC tb ts.length c mb ob).toArray (by simpa using hth) (P := Try.prog) (by rw [List.size_toArray]; exact size_X) (all_oneCell_toArray (by intro u hu; simp only [exC, List.mem_cons, List.not_mem_nil, or_false] at hu; rcases hu with rfl | rfl | rfl | rfl | rfl <;> rfl))
    have e : (exC tb ts.length c mb ob).toArray.toList = exC tb ts.length c mb ob := by simp
    rw [e] at this
    exact this
  · obtain ⟨us', h1, h2⟩ := blk_setCells eb (exC tb ts.length c mb ob) 0 W hz
    have h3 : us' = (exC tb ts.length c mb ob).toArray := by
      apply Array.ext_getElem?
      intro i
      by_cases h5 : i < 5
      · obtain ⟨v, hv⟩ : ∃ v, (exC tb ts.length c mb ob)[i]? = some v := ⟨_, List.getElem?_eq_getElem (by rw [hl]; exact h5)⟩
        have h4 := World.rangeAt_setCells_same W eb 0 _ hth i v hv
        rw [Nat.zero_add, cell_blk h1 i] at h4
        rw [h4, List.getElem?_toArray, hv]
      · rw [Array.getElem?_eq_none (by rw [h2]; simp [zX]; omega), Array.getElem?_eq_none (by simp [exC]; omega)]
    rw [h1, h3]
    rfl
  · rw [← made_bools]
    exact (tW.block ob (blk_lt ho) (fun e => hi.2.2.2.1 e.symm)).trans ho
end Go.Proofs.Ytfpeennegmlcpaa
