/-
  What Find and Key return of a Board's keys; what ownerOf and find of package board return.
-/
import Derived.Test.YteacpfknfbmjkaaBa
import Derived.Test.YteacpfknfbmjkaaKf
import Derived.Deep.RegionWith
import Derived.Deep.DeepCutAuto
namespace Go.Proofs.Yteacpfknfbmjkaa
open Go.ChangeShapes Go.WideShapes Go.ChangeAt Go.RowKit Go.Maps
set_option maxRecDepth 100000
set_option maxHeartbeats 4000000

attribute [local go_sem] run_equalIn_complex run_store_complex

theorem bfind_any {w : World} {F : Nat → Prop} {g : Nat} {l : List Ky} {C : Ow → Nat → Int × Int} {now : Int} {cnt : Nat} {v : Value} {bo : Nat} {D : DataW Unit} (h : BB w F g l C now cnt v bo D) (s : ByteArray) (hl : l.length ≤ 1000000) :
    Calls Try.prog 20 #[.pointer (some ⟨g, 0, none⟩), .string s] w fun e w' => e = .returned (fndV (findK l s)) ∧ Touch NoB w w' := by
  obtain ⟨A, cap, rfl, hc1, hc2⟩ := row_any h.row
  unfold maxLen at hc2
  have hgl := h.lt
  have k0 := h.at0
  obtain ⟨n, hn⟩ : ∃ n, l.length = n := ⟨_, rfl⟩
  have hr := h.row
  rw [hn] at k0 hr hl hc1
  have HI := Lib.hid (indexfunc_any A n cap w.heap.size l s (w.alloc (.cells #[.string s] 9)) hn hl ((row_kat hr hn (fun j k hj => by have := (h.nms j k hj).1; omega)).touch ((Touch.refl _ _).alloc _)) (by simp) (cell_blk (alloc_blk w _ 9 rfl) 0))
  clear hr h hn
  cases hf : findK l s
  · rw [hf] at HI
    clear hf
    unfold posV at HI
    go_enter Try.func20, Try.ntmps20
    go_wp2_with fail
    refine HI.out.mono ?_
    rintro e w1 ⟨rfl, hT⟩
    have HT := Lib.hid (((Touch.refl _ w).alloc _).same hT)
    clear hT
    go_wp2
    exact bodyPost_ret (v := .tuple #[.int .i64 0, .bool false]) (by simp [results, Try.results20, go_sem]) rfl ⟨rfl, HT.out⟩
  · rename_i i
    rw [hf] at HI
    clear hf
    unfold posV at HI
    go_enter Try.func20, Try.ntmps20
    go_wp2_with fail
    refine HI.out.mono ?_
    rintro e w1 ⟨rfl, hT⟩
    have HT := Lib.hid (((Touch.refl _ w).alloc _).same hT)
    clear hT
    go_wp2
    exact bodyPost_ret (v := .tuple #[.int .i64 i, .bool true]) (by simp [results, Try.results20, go_sem]) rfl ⟨rfl, HT.out⟩
theorem bkey_any {w : World} {F : Nat → Prop} {g : Nat} {l : List Ky} {C : Ow → Nat → Int × Int} {now : Int} {cnt : Nat} {v : Value} {bo : Nat} {D : DataW Unit} (h : BB w F g l C now cnt v bo D) {j : Nat} {k : Ky} (hj : l[j]? = some k) :
    Calls Try.prog 21 #[.pointer (some ⟨g, 0, none⟩), .int .i64 j] w fun e w' => e = .returned (.tuple #[.agg #[.string k.nm, .int .i64 k.kd, .bool k.sh], .bool true]) ∧ Touch NoB w w' := by
  obtain ⟨A, cap, rfl, hc1, hc2⟩ := row_any h.row
  unfold maxLen at hc2
  have hgl := h.lt
  have k0 := h.at0
  obtain ⟨n, hn⟩ : ∃ n, l.length = n := ⟨_, rfl⟩
  have hr := h.row
  rw [hn] at k0 hr hc1
  have hlt : j < n := by have := (List.getElem?_eq_some_iff.1 hj).1; omega
  obtain ⟨hsz, b, off, rfl, hb, -, c0, c1, c2⟩ := row_kat hr hn (fun j k hj => by have := (h.nms j k hj).1; omega) j k hj
  obtain ⟨nm, kd, sh⟩ := k
  simp only at c0 c1 c2
  have d1 : decide ((n : Int) ≤ (j : Int)) = false := by simp; omega
  clear h hr hn hj hsz
  go_enter Try.func21, Try.ntmps21
  go_wp2
  exact bodyPost_ret (v := .tuple #[.agg #[.string nm, .int .i64 kd, .bool sh], .bool true]) (by simp [results, Try.results21, go_sem]) rfl ⟨rfl, by repeat (first | with_reducible exact Touch.refl _ _ | with_reducible refine Touch.alloc ?_ _ | with_reducible refine Touch.setCell ?_ (.inr (by simp)) _)⟩

/-- Whose cell of k is seen through (i, x). -/
def ownO (k : Ky) (i x : Int) : Ow := if k.sh = true then ⟨0, 0, true⟩ else ⟨i, x, false⟩
theorem ownO_ok {k : Ky} {i x : Int} (hi : I64 i) (hx : I64 x) : OwOk (ownO k i x) := by
  unfold ownO
  split
  · exact ⟨i64_mk (by decide) (by decide), i64_mk (by decide) (by decide)⟩
  · exact ⟨hi, hx⟩
theorem ownerOf_any (k : Ky) (i x : Int) (w : World) :
    Calls Try.prog 22 #[.agg #[.string k.nm, .int .i64 k.kd, .bool k.sh], .agg #[.int .i64 i, .int .i64 x]] w fun e w' => e = .returned (owV (ownO k i x)) ∧ Touch NoB w w' := by
  obtain ⟨nm, kd, sh⟩ := k
  unfold ownO owV
  cases sh
  · go_enter Try.func22, Try.ntmps22
    go_wp2
    exact bodyPost_ret (v := .agg #[.int .i64 i, .int .i64 x, .bool false]) (by simp [results, Try.results22, go_sem]) rfl ⟨rfl, by repeat (first | with_reducible exact Touch.refl _ _ | with_reducible refine Touch.alloc ?_ _ | with_reducible refine Touch.setCell ?_ (.inr (by simp)) _)⟩
  · go_enter Try.func22, Try.ntmps22
    go_wp2
    exact bodyPost_ret (v := .agg #[.int .i64 0, .int .i64 0, .bool true]) (by simp [results, Try.results22, go_sem]) rfl ⟨rfl, by repeat (first | with_reducible exact Touch.refl _ _ | with_reducible refine Touch.alloc ?_ _ | with_reducible refine Touch.setCell ?_ (.inr (by simp)) _)⟩
end Go.Proofs.Yteacpfknfbmjkaa
