/-
  The example of the document; the walk of SchemaErrors.
-/
import Derived.Test.YtmlnnmdidcbglaaKe
namespace Go.Proofs.Ytmlnnmdidcbglaa
open Go.ChangeShapes Go.WideShapes Go.ChangeAt Go.RowKit
set_option maxRecDepth 100000
set_option maxHeartbeats 4000000

/-- A list of keys in a block of its own. -/
theorem kat_blk {w : World} {g : Nat} {cs : Array Value} {l : List Ky} {t : TypeId} {fr : Nat × Nat} (h : w.heap[g]? = some (.cells cs t fr)) (hc : cs.toList = kc l) (hs : ∀ k ∈ l, k.nm.size ≤ 1000) : KAt w NoB (some ⟨g, 0, none⟩) l := by
  intro j k hj
  have hm := hs k (List.mem_of_getElem? hj)
  have hx : ∀ i : Nat, cs[i]? = (kc l)[i]? := fun i => by rw [← hc, Array.getElem?_toList]
  refine ⟨by omega, g, 0, rfl, blk_lt h, fun x => x, ?_, ?_, ?_⟩
  · rw [Nat.zero_add, cell_blk h, hx, show j * 3 = j * 3 + 0 from rfl, kc_at l j 0 (by decide), hj]; rfl
  · rw [Nat.zero_add, cell_blk h, hx, kc_at l j 1 (by decide), hj]; rfl
  · rw [Nat.zero_add, cell_blk h, hx, kc_at l j 2 (by decide), hj]; rfl
theorem kat_nil (w : World) (A : Option Addr) : KAt w NoB A [] := fun j k hj => by simp at hj

def nmA : ByteArray := ⟨#[97]⟩
def keyA : Ky := ⟨nmA, 0, false⟩

theorem errK_A : errK [keyA] = 0 := by decide +kernel
theorem find_b : findK [keyA] ⟨#[98]⟩ = none := by decide +kernel
theorem find_a : findK [keyA] ⟨#[97]⟩ = some 0 := by decide +kernel
theorem alive_any (w : World) :
    Calls Try.prog 6 #[] w fun e w' => e = .returned (.bool true) ∧ Touch NoB w w' := by
  have hN := fun w' (h : KAt w' NoB (some ⟨w.heap.size, 0, none⟩) [keyA]) => new_yes (some ⟨w.heap.size, 0, none⟩) 1 1 [keyA] w' rfl (by decide) h errK_A
  have HN := Lib.hid hN
  clear hN
  have hK : KAt (w.alloc (.cells #[.string ⟨#[97]⟩, .int .i64 0, .bool false] 35)) NoB (some ⟨w.heap.size, 0, none⟩) [keyA] := kat_blk (alloc_blk w _ _ rfl) rfl (by intro k hk; simp at hk; subst hk; decide)
  have HK := Lib.hid hK
  clear hK
  go_enter Try.func6, Try.ntmps6
  go_wp2_with fail
  refine (HN.out _ HK.out).mono ?_
  rintro e w1 ⟨g, rfl, hS, hT⟩
  have HS := Lib.hid hS
  have HT := Lib.hid (((Touch.refl NoB w).alloc _).same hT)
  clear hS hT
  go_wp2_with fail
  refine (find_any _ [keyA] ⟨#[98]⟩ _ _ HS.out (by simp)).mono ?_
  rintro e w2 ⟨rfl, hT⟩
  have HT2 := Lib.hid hT
  clear hT
  rw [find_b]
  unfold fndV
  go_wp2_with fail
  refine (find_any _ [keyA] ⟨#[97]⟩ _ _ (HS.out.quiet HT2.out) (by simp)).mono ?_
  rintro e w3 ⟨rfl, hT⟩
  have HT3 := Lib.hid (HT.out.same (HT2.out.same hT))
  clear hT
  rw [find_a]
  unfold fndV
  go_wp2_with fail
  refine (num_any _ _).mono ?_
  rintro e w' ⟨rfl, rfl⟩
  go_wp2
  go_ret
  exact ⟨rfl, HT3.out⟩
end Go.Proofs.Ytmlnnmdidcbglaa
