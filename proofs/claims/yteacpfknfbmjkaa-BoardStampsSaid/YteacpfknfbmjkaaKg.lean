/-
  The example of the document; the walk of SchemaErrors.
-/
import Derived.Test.YteacpfknfbmjkaaKe
namespace Go.Proofs.Yteacpfknfbmjkaa
open Go.ChangeShapes Go.WideShapes Go.ChangeAt Go.RowKit
set_option maxRecDepth 100000
set_option maxHeartbeats 4000000

/-- A list of keys in a block of its own. -/
theorem kat_blk {w : World} {g : Nat} {cs : Array Value} {l : List Ky} {t : TypeId} {fr : Nat × Nat} (h : w.heap[g]? = some (.cells cs t fr)) (hc : cs.toList = kc l) (hs : ∀ k ∈ l, k.nm.size ≤ 1000) : KAt w NoB (some ⟨g, 0, none⟩) l := by
  intro j k hj
  have hm := hs k (List.mem_of_getElem? hj)
  have hx : ∀ i : Nat, cs[i]? = (kc l)[i]? := fun i => by rw [← hc, Array.getElem?_toList]
  refine ⟨by omega, g, 0, rfl, blk_lt h, fun x => x, ?_, ?_, ?_⟩
  · rw [Nat.zero_add, cell_blk h, hx, show j * 3 = j * 3 + 0 from rfl, kc_at l j 0 (by decide), hj]; rfl
  · rw [Nat.zero_add, cell_blk h, hx, kc_at l j 1 (by decide), hj]; rfl
  · rw [Nat.zero_add, cell_blk h, hx, kc_at l j 2 (by decide), hj]; rfl
theorem kat_nil (w : World) (A : Option Addr) : KAt w NoB A [] := fun j k hj => by simp at hj

def nmA : ByteArray := ⟨#[97]⟩
def keyA : Ky := ⟨nmA, 0, false⟩

theorem errK_A : errK [keyA] = 0 := by decide +kernel
theorem find_b : findK [keyA] ⟨#[98]⟩ = none := by decide +kernel
theorem find_a : findK [keyA] ⟨#[97]⟩ = some 0 := by decide +kernel
end Go.Proofs.Yteacpfknfbmjkaa
