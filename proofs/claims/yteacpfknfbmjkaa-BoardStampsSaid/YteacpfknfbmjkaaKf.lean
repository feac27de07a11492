/-
  What Key, Own and Shared of package schema return.
-/
import Derived.Test.YteacpfknfbmjkaaKe
import Derived.Deep.AppendLies
namespace Go.Proofs.Yteacpfknfbmjkaa
open Go.ChangeShapes Go.WideShapes Go.ChangeAt Go.RowKit
set_option maxRecDepth 100000
set_option maxHeartbeats 4000000

/-- The names of those keys whose mark is b. -/
def nmsB (b : Bool) (l : List Ky) : List ByteArray := (l.filter fun k => k.sh == b).map Ky.nm
/-- The cells of a row of strings. -/
def sc (l : List ByteArray) : List Value := l.map Value.string
theorem nms_le (b : Bool) (l : List Ky) : (nmsB b l).length ≤ l.length := by unfold nmsB; rw [List.length_map]; exact List.length_filter_le _ _
theorem nms_snoc (b : Bool) (l : List Ky) (k : Ky) : nmsB b (l ++ [k]) = nmsB b l ++ (if (k.sh == b) = true then [k.nm] else []) := by
  unfold nmsB
  rw [List.filter_append, List.map_append]
  by_cases h : (k.sh == b) = true
  · rw [if_pos h, show [k].filter (fun k => k.sh == b) = [k] from List.filter_eq_self.2 (by intro x hx; simp at hx; subst hx; exact h)]; rfl
  · rw [if_neg h, show [k].filter (fun k => k.sh == b) = [] from List.filter_eq_nil_iff.2 (by intro x hx; simp at hx; subst hx; exact h)]; rfl
theorem sc_snoc (l : List ByteArray) (s : ByteArray) : sc (l ++ [s]) = sc l ++ [.string s] := by simp [sc]
theorem info_string : (Try.prog.info? 9).map (fun i => (i.zero, i.size, i.bytes)) = some (some (.string ⟨#[]⟩), 1, 16) := by kernel_rfl

/-- The result of names: a new row of strings. -/
def NmPost (w : World) (l : List ByteArray) (e : Ending) (w' : World) : Prop :=
  ∃ v, e = .returned v ∧ w'.ownsRow w.heap.size 9 1 v l.length (sc l) ∧ Touch NoB w w'
def NsRel (w : World) (b : Bool) (l : List Ky) (v5 v13 : Value) (wr : World) : Prop :=
  ∃ i : Nat, i ≤ l.length ∧ v13 = .int .i64 i ∧ wr.ownsRow w.heap.size 9 1 v5 (nmsB b (l.take i)).length (sc (nmsB b (l.take i))) ∧ Touch NoB w wr

/-- What Key returns. -/
def keyV (l : List Ky) (i : Int) : Value := match (if 0 ≤ i then l[i.toNat]? else none) with
  | some k => .tuple #[.agg #[.string k.nm, .int .i64 k.kd, .bool k.sh], .bool true]
  | none => .tuple #[.agg #[.string ⟨#[]⟩, .int .i64 0, .bool false], .bool false]
theorem key_any (g : Nat) (i : Int) (l : List Ky) (F : Nat → Prop) (w : World) (h : SK w F g l) :
    Calls Try.prog 21 #[.pointer (some ⟨g, 0, none⟩), .int .i64 i] w fun e w' => e = .returned (keyV l i) ∧ Touch NoB w w' := by
  obtain ⟨v, hg, hr, f0, f1, hs⟩ := h
  obtain ⟨A, cap, rfl, hc1, hc2⟩ := row_any hr
  unfold maxLen at hc2
  have hgl := blk_lt hg
  have k0 : w.cell? ⟨g, 0, none⟩ = some (.slice A l.length cap) := cell_blk hg 0
  obtain ⟨n, hn⟩ : ∃ n, l.length = n := ⟨_, rfl⟩
  rw [hn] at k0 hr hc1
  have hK := row_kat hr hn hs
  clear hr f0 f1 hs hg
  by_cases h0 : i < 0
  · have e : keyV l i = .tuple #[.agg #[.string ⟨#[]⟩, .int .i64 0, .bool false], .bool false] := by unfold keyV; rw [if_neg (by omega)]
    rw [e]
    clear hK hn e
    go_enter Try.func21, Try.ntmps21
    go_wp2
    exact bodyPost_ret (v := .tuple #[.agg #[.string ⟨#[]⟩, .int .i64 0, .bool false], .bool false]) (by simp [results, Try.results21, go_sem]) rfl ⟨rfl, by repeat (first | with_reducible exact Touch.refl _ _ | with_reducible refine Touch.alloc ?_ _ | with_reducible refine Touch.setCell ?_ (.inr (by simp)) _)⟩
  · obtain ⟨j, rfl⟩ := Int.eq_ofNat_of_zero_le (by omega : 0 ≤ i)
    by_cases h1 : n ≤ j
    · have e : keyV l (j : Int) = .tuple #[.agg #[.string ⟨#[]⟩, .int .i64 0, .bool false], .bool false] := by unfold keyV; rw [if_pos (by omega), show ((j : Int)).toNat = j from rfl, List.getElem?_eq_none (by omega)]
      rw [e]
      have d1 : decide ((n : Int) ≤ (j : Int)) = true := by simpa using h1
      clear hK hn e
      go_enter Try.func21, Try.ntmps21
      go_wp2
      exact bodyPost_ret (v := .tuple #[.agg #[.string ⟨#[]⟩, .int .i64 0, .bool false], .bool false]) (by simp [results, Try.results21, go_sem]) rfl ⟨rfl, by repeat (first | with_reducible exact Touch.refl _ _ | with_reducible refine Touch.alloc ?_ _ | with_reducible refine Touch.setCell ?_ (.inr (by simp)) _)⟩
    · obtain ⟨k, hk⟩ : ∃ k, l[j]? = some k := ⟨l[j]'(by omega), List.getElem?_eq_getElem _⟩
      obtain ⟨hsz, b, off, rfl, hb, -, c0, c1, c2⟩ := hK j k hk
      have e : keyV l (j : Int) = .tuple #[.agg #[.string k.nm, .int .i64 k.kd, .bool k.sh], .bool true] := by unfold keyV; rw [if_pos (by omega), show ((j : Int)).toNat = j from rfl, hk]
      rw [e]
      obtain ⟨nm, kd, sh⟩ := k
      simp only at c0 c1 c2
      have d1 : decide ((n : Int) ≤ (j : Int)) = false := by simpa using h1
      clear hK hn e hk hsz
      go_enter Try.func21, Try.ntmps21
      go_wp2
      exact bodyPost_ret (v := .tuple #[.agg #[.string nm, .int .i64 kd, .bool sh], .bool true]) (by simp [results, Try.results21, go_sem]) rfl ⟨rfl, by repeat (first | with_reducible exact Touch.refl _ _ | with_reducible refine Touch.alloc ?_ _ | with_reducible refine Touch.setCell ?_ (.inr (by simp)) _)⟩
end Go.Proofs.Yteacpfknfbmjkaa
