/-
  What Key, Own and Shared of package schema return.
-/
import Derived.Test.YtmlnnmdidcbglaaKe
import Derived.Deep.AppendLies
namespace Go.Proofs.Ytmlnnmdidcbglaa
open Go.ChangeShapes Go.WideShapes Go.ChangeAt Go.RowKit
set_option maxRecDepth 100000
set_option maxHeartbeats 4000000

/-- The names of those keys whose mark is b. -/
def nmsB (b : Bool) (l : List Ky) : List ByteArray := (l.filter fun k => k.sh == b).map Ky.nm
/-- The cells of a row of strings. -/
def sc (l : List ByteArray) : List Value := l.map Value.string
theorem nms_le (b : Bool) (l : List Ky) : (nmsB b l).length ≤ l.length := by unfold nmsB; rw [List.length_map]; exact List.length_filter_le _ _
theorem nms_snoc (b : Bool) (l : List Ky) (k : Ky) : nmsB b (l ++ [k]) = nmsB b l ++ (if (k.sh == b) = true then [k.nm] else []) := by
  unfold nmsB
  rw [List.filter_append, List.map_append]
  by_cases h : (k.sh == b) = true
  · rw [if_pos h, show [k].filter (fun k => k.sh == b) = [k] from List.filter_eq_self.2 (by intro x hx; simp at hx; subst hx; exact h)]; rfl
  · rw [if_neg h, show [k].filter (fun k => k.sh == b) = [] from List.filter_eq_nil_iff.2 (by intro x hx; simp at hx; subst hx; exact h)]; rfl
theorem sc_snoc (l : List ByteArray) (s : ByteArray) : sc (l ++ [s]) = sc l ++ [.string s] := by simp [sc]
theorem info_string : (Try.prog.info? 9).map (fun i => (i.zero, i.size, i.bytes)) = some (some (.string ⟨#[]⟩), 1, 16) := by kernel_rfl

/-- The result of names: a new row of strings. -/
def NmPost (w : World) (l : List ByteArray) (e : Ending) (w' : World) : Prop :=
  ∃ v, e = .returned v ∧ w'.ownsRow w.heap.size 9 1 v l.length (sc l) ∧ Touch NoB w w'
def NsRel (w : World) (b : Bool) (l : List Ky) (v5 v13 : Value) (wr : World) : Prop :=
  ∃ i : Nat, i ≤ l.length ∧ v13 = .int .i64 i ∧ wr.ownsRow w.heap.size 9 1 v5 (nmsB b (l.take i)).length (sc (nmsB b (l.take i))) ∧ Touch NoB w wr

theorem names_any (g : Nat) (b : Bool) (l : List Ky) (F : Nat → Prop) (w : World) (h : SK w F g l) (hl : l.length ≤ 1000) :
    Calls Try.prog 20 #[.pointer (some ⟨g, 0, none⟩), .bool b] w (NmPost w (nmsB b l)) := by
  obtain ⟨v, hg, hr, f0, f1, hs⟩ := h
  obtain ⟨A, cap, rfl, hc1, hc2⟩ := row_any hr
  unfold maxLen at hc2
  have hgl := blk_lt hg
  have k0 : w.cell? ⟨g, 0, none⟩ = some (.slice A l.length cap) := cell_blk hg 0
  obtain ⟨i0, hi, hz0, hz1, hz2⟩ := info_parts info_string
  obtain ⟨n, hn⟩ : ∃ n, l.length = n := ⟨_, rfl⟩
  rw [hn] at k0 hr hl hc1
  have HK := Lib.hid (row_kat hr hn hs)
  have HN := Lib.hid hn
  clear hr f0 f1 hs hg hn
  go_enter Try.func20, Try.ntmps20
  go_wp2
  go_loopw [5, 13] (fun v5 v13 wr => NsRel w b l v5 v13 wr) (fun _ v13 _ => n - (intOf v13).toNat)
  case atStart => exact ⟨0, Nat.zero_le _, rfl, World.ownsRow_nil _ _ _ _, Touch.refl _ _⟩
  case round =>
    obtain ⟨i, hil, rfl, hown, hT⟩ := hrel
    by_cases hlt : i < n
    · have hil2 : i < l.length := by have := HN.out; omega
      obtain ⟨k, hk⟩ : ∃ k, l[i]? = some k := ⟨l[i]'hil2, List.getElem?_eq_getElem _⟩
      obtain ⟨hsz, bb, off, rfl, hb, -, c0, c1, c2⟩ := HK.out.touch hT i k hk
      have hsn : nmsB b (l.take (i + 1)) = nmsB b (l.take i) ++ (if (k.sh == b) = true then [k.nm] else []) := by
        rw [List.take_succ_eq_append_getElem hil2, nms_snoc]
        rw [List.getElem?_eq_getElem hil2] at hk
        injection hk with hk
        rw [hk]
      have hll : (nmsB b (l.take i)).length ≤ i := by have := nms_le b (l.take i); rw [List.length_take] at this; omega
      obtain ⟨nm, kd, sh⟩ := k
      simp only at c0 c1 c2 hsn
      obtain ⟨q, hq⟩ : ∃ q, (sh == b) = q := ⟨_, rfl⟩
      rw [hq] at hsn
      have Hs := Lib.hid hsn
      have Ho := Lib.hid hown
      have HT := Lib.hid hT
      clear hk hsn hown hT hsz
      cases q
      · go_wp2
        go_roundw
        case rel =>
          refine ⟨i + 1, by have := HN.out; omega, by go_num, ?_, HT.out.alloc _⟩
          rw [Hs.out]
          simpa using Ho.out.alloc _
        case measure => simp [intOf]; omega
      · go_wp2_with (at_builtin; refine wpList_append_own_at _ rfl (.tmp 21) (.tmp 24) 38 rfl w.heap.size 9 i0 _ 1 16 Try.underlying38 hi hz0 hz1 hz2 rfl (by decide) _ (nmsB b (l.take i)).length (sc (nmsB b (l.take i))) rfl ?o1 ⟨wr.heap.size + 1, 0, none⟩ 1 1 [.string nm] rfl rfl ?c1 ?c2 ?c3 ?c4 ?c5 ?go)
        case o1 => exact (Ho.out.alloc _).alloc _
        case c2 => rfl
        case c3 => unfold maxLen; omega
        case c4 => omega
        case c5 => have := HT.out.size; simp; omega
        case go =>
        intro v1 w1 hown1 hgrow _ _
        have hT1 : Touch NoB w w1 := ((HT.out.alloc _).alloc _).grown hgrow (fun b e => .inr (Ho.out.lt b e).1)
        have Ho1 := Lib.hid hown1
        have HT1 := Lib.hid hT1
        clear hown1 hgrow hT1
        go_wp2
        go_roundw
        case rel =>
          refine ⟨i + 1, by have := HN.out; omega, by go_num, ?_, HT1.out⟩
          rw [Hs.out, if_pos trivial, sc_snoc, List.length_append]
          exact Ho1.out
        case measure => simp [intOf]; omega
    · have hin : i = n := by have := HN.out; omega
      subst hin
      have htk : l.take i = l := List.take_of_length_le (by have := HN.out; omega)
      rw [htk] at hown
      have HO := Lib.hid (And.intro hown hT)
      clear hT hown htk
      go_wp2
      go_ret
      exact ⟨_, rfl, HO.out.1, HO.out.2⟩
theorem own_any (g : Nat) (l : List Ky) (F : Nat → Prop) (w : World) (h : SK w F g l) (hl : l.length ≤ 1000) :
    Calls Try.prog 13 #[.pointer (some ⟨g, 0, none⟩)] w (NmPost w (nmsB false l)) := by
  have H := Lib.hid (names_any g false l F w h hl)
  clear h
  go_enter Try.func13, Try.ntmps13
  go_wp2_with fail
  refine H.out.mono ?_
  rintro e w' ⟨v, rfl, hv⟩
  have HV := Lib.hid hv
  clear hv
  go_wp2
  go_ret
  exact ⟨v, rfl, HV.out⟩
theorem shared_any (g : Nat) (l : List Ky) (F : Nat → Prop) (w : World) (h : SK w F g l) (hl : l.length ≤ 1000) :
    Calls Try.prog 14 #[.pointer (some ⟨g, 0, none⟩)] w (NmPost w (nmsB true l)) := by
  have H := Lib.hid (names_any g true l F w h hl)
  clear h
  go_enter Try.func14, Try.ntmps14
  go_wp2_with fail
  refine H.out.mono ?_
  rintro e w' ⟨v, rfl, hv⟩
  have HV := Lib.hid hv
  clear hv
  go_wp2
  go_ret
  exact ⟨v, rfl, HV.out⟩

/-- What Key returns. -/
def keyV (l : List Ky) (i : Int) : Value := match (if 0 ≤ i then l[i.toNat]? else none) with
  | some k => .tuple #[.agg #[.string k.nm, .int .i64 k.kd, .bool k.sh], .bool true]
  | none => .tuple #[.agg #[.string ⟨#[]⟩, .int .i64 0, .bool false], .bool false]
theorem key_any (g : Nat) (i : Int) (l : List Ky) (F : Nat → Prop) (w : World) (h : SK w F g l) :
    Calls Try.prog 12 #[.pointer (some ⟨g, 0, none⟩), .int .i64 i] w fun e w' => e = .returned (keyV l i) ∧ Touch NoB w w' := by
  obtain ⟨v, hg, hr, f0, f1, hs⟩ := h
  obtain ⟨A, cap, rfl, hc1, hc2⟩ := row_any hr
  unfold maxLen at hc2
  have hgl := blk_lt hg
  have k0 : w.cell? ⟨g, 0, none⟩ = some (.slice A l.length cap) := cell_blk hg 0
  obtain ⟨n, hn⟩ : ∃ n, l.length = n := ⟨_, rfl⟩
  rw [hn] at k0 hr hc1
  have hK := row_kat hr hn hs
  clear hr f0 f1 hs hg
  by_cases h0 : i < 0
  · have e : keyV l i = .tuple #[.agg #[.string ⟨#[]⟩, .int .i64 0, .bool false], .bool false] := by unfold keyV; rw [if_neg (by omega)]
    rw [e]
    clear hK hn e
    go_enter Try.func12, Try.ntmps12
    go_wp2
    exact bodyPost_ret (v := .tuple #[.agg #[.string ⟨#[]⟩, .int .i64 0, .bool false], .bool false]) (by simp [results, Try.results12, go_sem]) rfl ⟨rfl, by repeat (first | with_reducible exact Touch.refl _ _ | with_reducible refine Touch.alloc ?_ _ | with_reducible refine Touch.setCell ?_ (.inr (by simp)) _)⟩
  · obtain ⟨j, rfl⟩ := Int.eq_ofNat_of_zero_le (by omega : 0 ≤ i)
    by_cases h1 : n ≤ j
    · have e : keyV l (j : Int) = .tuple #[.agg #[.string ⟨#[]⟩, .int .i64 0, .bool false], .bool false] := by unfold keyV; rw [if_pos (by omega), show ((j : Int)).toNat = j from rfl, List.getElem?_eq_none (by omega)]
      rw [e]
      have d1 : decide ((n : Int) ≤ (j : Int)) = true := by simpa using h1
      clear hK hn e
      go_enter Try.func12, Try.ntmps12
      go_wp2
      exact bodyPost_ret (v := .tuple #[.agg #[.string ⟨#[]⟩, .int .i64 0, .bool false], .bool false]) (by simp [results, Try.results12, go_sem]) rfl ⟨rfl, by repeat (first | with_reducible exact Touch.refl _ _ | with_reducible refine Touch.alloc ?_ _ | with_reducible refine Touch.setCell ?_ (.inr (by simp)) _)⟩
    · obtain ⟨k, hk⟩ : ∃ k, l[j]? = some k := ⟨l[j]'(by omega), List.getElem?_eq_getElem _⟩
      obtain ⟨hsz, b, off, rfl, hb, -, c0, c1, c2⟩ := hK j k hk
      have e : keyV l (j : Int) = .tuple #[.agg #[.string k.nm, .int .i64 k.kd, .bool k.sh], .bool true] := by unfold keyV; rw [if_pos (by omega), show ((j : Int)).toNat = j from rfl, hk]
      rw [e]
      obtain ⟨nm, kd, sh⟩ := k
      simp only at c0 c1 c2
      have d1 : decide ((n : Int) ≤ (j : Int)) = false := by simpa using h1
      clear hK hn e hk hsz
      go_enter Try.func12, Try.ntmps12
      go_wp2
      exact bodyPost_ret (v := .tuple #[.agg #[.string nm, .int .i64 kd, .bool sh], .bool true]) (by simp [results, Try.results12, go_sem]) rfl ⟨rfl, by repeat (first | with_reducible exact Touch.refl _ _ | with_reducible refine Touch.alloc ?_ _ | with_reducible refine Touch.setCell ?_ (.inr (by simp)) _)⟩
end Go.Proofs.Ytmlnnmdidcbglaa
