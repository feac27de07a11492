/-
  LexSigns: of signs that begin alike the longest is told. Conditions: the library's own variable can be read.
-/
import Derived.Test.YtmgmmbeldhleoaaDoorLk
namespace Go.Proofs.YtmgmmbeldhleoaaDoor
open Go.ChangeShapes Go.WideShapes Go.ChangeAt Go.RowKit
set_option maxRecDepth 100000
set_option maxHeartbeats 4000000

/-- Blocks laid one behind another. -/
def allocs (w : World) : List Obj → World
  | [] => w
  | o :: os => allocs (w.alloc o) os
theorem allocs_touch : ∀ (os : List Obj) (w0 w : World), Touch NoB w0 w → Touch NoB w0 (allocs w os)
  | [], _, _, h => h
  | o :: os, w0, w, h => allocs_touch os w0 (w.alloc o) (h.alloc o)
theorem allocs_size : ∀ (os : List Obj) (w : World), (allocs w os).heap.size = w.heap.size + os.length
  | [], w => rfl
  | o :: os, w => by
    show (allocs (w.alloc o) os).heap.size = _
    rw [allocs_size os, World.size_alloc, List.length_cons]; omega
theorem allocs_at : ∀ (os : List Obj) (w : World) (j : Nat) (o : Obj), os[j]? = some o → (allocs w os).heap[w.heap.size + j]? = some o
  | [], _, _, _, h => by cases h
  | o :: os, w, 0, x, h => by
    simp only [List.getElem?_cons_zero, Option.some.injEq] at h
    subst h
    show (allocs (w.alloc o) os).heap[w.heap.size]? = _
    have := (allocs_touch os (w.alloc o) (w.alloc o) (Touch.refl _ _)).block w.heap.size (by simp) (fun x => x)
    rw [this]
    exact heap_alloc_new w o
  | o :: os, w, j + 1, x, h => by
    have := allocs_at os (w.alloc o) j x (by simpa using h)
    rw [World.size_alloc, show w.heap.size + 1 + j = w.heap.size + (j + 1) from by omega] at this
    exact this
def strs (l : List Bs) : Array Value := (l.map fun b => Value.string (bs b)).toArray
def sgO (N : Nat) : List Obj := .cells (strs sgT) 9 (0, 0) :: (sgW.map (fun l => Obj.cells (strs l) 9 (0, 0)) ++ [.cells ((List.range 10).map fun j => Value.slice (some ⟨N + 1 + j, 0, none⟩) (sgW.getD j []).length (sgW.getD j []).length).toArray 36 (0, 0)])

theorem strs_at (l : List Bs) (j : Nat) (b : Bs) (h : l[j]? = some b) : (strs l)[j]? = some (.string (bs b)) := by
  unfold strs
  rw [List.getElem?_toArray, List.getElem?_map, h]
  rfl
/-- The texts and what is wanted of them, in memory. -/
theorem sg_mem (w : World) (k : Nat) (s : Bs) (ws : List Bs) (hs : sgT[k]? = some s) (hw : sgW[k]? = some ws) :
    (allocs w (sgO w.heap.size)).cell? ⟨w.heap.size, k, none⟩ = some (.string (bs s)) ∧
    (allocs w (sgO w.heap.size)).cell? ⟨w.heap.size + 11, k, none⟩ = some (.slice (some ⟨w.heap.size + 1 + k, 0, none⟩) ws.length ws.length) ∧
    w.heap.size + 1 + k < (allocs w (sgO w.heap.size)).heap.size ∧
    ∀ (i : Nat) (b : Bs), ws[i]? = some b → (allocs w (sgO w.heap.size)).cell? ⟨w.heap.size + 1 + k, i, none⟩ = some (.string (bs b)) := by
  have hk : k < 10 := (List.getElem?_eq_some_iff.1 hw).1
  refine ⟨?_, ?_, ?_, fun i b hi => ?_⟩
  · have h := allocs_at (sgO w.heap.size) w 0 _ rfl
    rw [Nat.add_zero] at h
    rw [cell_of_row _ _ _ _ _ _ h]
    exact strs_at _ _ _ hs
  · have h := allocs_at (sgO w.heap.size) w 11 _ rfl
    rw [cell_of_row _ _ _ _ _ _ h, List.getElem?_toArray, List.getElem?_map, List.getElem?_range hk]
    simp only [Option.map_some, List.getD, hw, Option.getD_some]
  · rw [allocs_size]
    show _ < _ + 12
    omega
  · have h0 : (sgO w.heap.size)[1 + k]? = some (.cells (strs ws) 9 (0, 0)) := by
      unfold sgO
      rw [show 1 + k = k + 1 from by omega, List.getElem?_cons_succ, List.getElem?_append_left (by rw [List.length_map]; exact hk), List.getElem?_map, hw]
      rfl
    have h := allocs_at (sgO w.heap.size) w (1 + k) _ h0
    rw [← Nat.add_assoc] at h
    rw [cell_of_row _ _ _ _ _ _ h]
    exact strs_at _ _ _ hi
/-- What the lexer makes of each of them. -/
theorem sg_lex (k : Nat) (s : Bs) (ws : List Bs) (hs : sgT[k]? = some s) (hw : sgW[k]? = some ws) : ∃ ts, lexL s = .good ts ∧ ts.length = ws.length + 1 ∧ ∀ (i : Nat) (b : Bs), ws[i]? = some b → ∃ t, ts[i]? = some t ∧ t.tx = b := by
  have h := congrArg (·[k]?) signs_lex
  simp only [List.getElem?_map, hs, hw, Option.map_some, Option.some.injEq] at h
  cases hx : lexL s with
  | bad p => rw [hx] at h; simp [Lx.texts] at h
  | good ts =>
    rw [hx] at h
    simp only [Lx.texts] at h
    refine ⟨ts, rfl, ?_, fun i b hi => ?_⟩
    · have := congrArg List.length h
      simpa using this
    · have h2 := congrArg (·[i]?) h
      simp only [List.getElem?_map] at h2
      rw [List.getElem?_append_left (List.getElem?_eq_some_iff.1 hi).1, hi] at h2
      cases ht : ts[i]? with
      | none => rw [ht] at h2; cases h2
      | some t => rw [ht] at h2; exact ⟨t, rfl, by simpa using h2⟩
def SgRel (m : Nat) (w3 : World) (v9 : Value) (wr : World) : Prop := ∃ i : Nat, i ≤ m ∧ v9 = .int .i64 i ∧ Touch NoB w3 wr

theorem signs_in (k : Nat) (hk : k < 10) (w : World) (hev : EV w) : Calls Tryd.prog 8 #[.int .i64 k] w fun e w' => e = .returned (.bool true) ∧ Touch NoB w w' := by
  have HA := Lib.hid (alive_any w hev)
  have HN := Lib.hid (fun n w => num_any n w)
  have HE := Lib.hid hev
  obtain ⟨s, hs⟩ : ∃ s, sgT[k]? = some s := ⟨sgT[k]'hk, List.getElem?_eq_getElem _⟩
  obtain ⟨ws, hw⟩ : ∃ s, sgW[k]? = some s := ⟨sgW[k]'hk, List.getElem?_eq_getElem _⟩
  have hsl : s.length ≤ 4 := by
    have : ∀ x ∈ sgT, x.length ≤ 4 := by decide
    exact this s (List.mem_of_getElem? hs)
  have hwl : ws.length ≤ 3 := by
    have : ∀ x ∈ sgW, x.length ≤ 3 := by decide
    exact this ws (List.mem_of_getElem? hw)
  obtain ⟨ts, hlex, htl, htx⟩ := sg_lex k s ws hs hw
  have HM := Lib.hid (fun w => sg_mem w k s ws hs hw)
  have HX := Lib.hid htx
  have HLX := Lib.hid hlex
  clear hev hs hw htx hlex
  have hd0 : decide ((k : Int) < 0) = false := by simp
  have hd1 : decide ((10 : Int) ≤ (k : Int)) = false := by simp; omega
  go_enter Tryd.func8, Tryd.ntmps8
  go_wp2_with fail
  refine HA.out.mono ?_
  rintro e w1 ⟨rfl, hT1⟩
  have HE1 := Lib.hid (And.intro hT1 (HE.out.touch hT1))
  clear hT1
  go_upto_region 4 with fail
  obtain ⟨W, hW⟩ : ∃ W, W = allocs w1 (sgO w1.heap.size) := ⟨_, rfl⟩
  show Code.wp _ _ _ _ (allocs w1 (sgO w1.heap.size))
  obtain ⟨cL, cW, cl, cI⟩ := HM.out w1
  have hTW : Touch NoB w1 W := by rw [hW]; exact allocs_touch _ _ _ (Touch.refl _ _)
  rw [← hW] at cL cW cl cI ⊢
  obtain ⟨N, hN⟩ : ∃ N, w1.heap.size = N := ⟨_, rfl⟩
  simp only [hN, Nat.add_assoc, Nat.reduceAdd] at cL cW cl cI ⊢
  obtain ⟨m, hm⟩ : ∃ m, ws.length = m := ⟨_, rfl⟩
  rw [hm] at cW hwl htl
  have HCI := Lib.hid cI
  have hbl : (bs s).size = s.length := bs_size s
  have hNW : N + 11 < W.heap.size := by rw [hW, allocs_size, hN]; exact Nat.lt_succ_self (N + 11)
  obtain ⟨cap, W2, hcv, hc1, hc2, hT2, hB2⟩ := conv_any (bs s) (by omega) W
  rw [bs_list] at hB2
  rw [hbl] at hc1
  have HTK := Lib.hid (toks_good (n := (bs s).size) HLX.out rfl rfl hbl.symm (by omega) (by omega) hc2 hB2 ((HE1.out.2.touch hTW).touch hT2))
  have HT2 := Lib.hid (And.intro (HE1.out.1.same (hTW.same hT2)) hT2)
  clear hW hTW hN hT2 hB2 hc1 hc2 cI hbl
  obtain ⟨st, hst⟩ : ∃ st, bs s = st := ⟨_, rfl⟩
  rw [hst] at cL hcv HTK
  clear hst
  go_wp2_with fail
  refine HTK.out.mono ?_
  rintro e w3 ⟨g, cp, rfl, hL, hT3⟩
  rw [htl]
  have hT23 := HT2.out.2.same hT3
  have cW3 : w3.cell? ⟨N + 11, k, none⟩ = some (.slice (some ⟨N + (1 + k), 0, none⟩) m m) := (hT23.cell (p := ⟨N + 11, k, none⟩) hNW (fun x => x)).trans cW
  have HCI3 : Hid (∀ (i : Nat) (b : Bs), ws[i]? = some b → w3.cell? ⟨N + (1 + k), i, none⟩ = some (.string (bs b))) := Lib.hid (fun i b hi => (hT23.cell (p := ⟨N + (1 + k), i, none⟩) cl (fun x => x)).trans (HCI.out i b hi))
  have HL := Lib.hid hL
  have HT3 := Lib.hid (HT2.out.1.same hT3)
  have hl3 : N + (1 + k) < w3.heap.size := Nat.lt_of_lt_of_le cl hT23.size
  have hn3 : N + 11 < w3.heap.size := Nat.lt_of_lt_of_le hNW hT23.size
  clear hL hT3 hT23 cW cL hcv cl hNW HCI
  obtain ⟨m1, hm1⟩ : ∃ m1, m + 1 = m1 := ⟨_, rfl⟩
  have hwr : IntKind.i64.wrap ((m : Int) + 1) = (m1 : Int) := by
    rw [show (m : Int) + 1 = (m1 : Int) from by omega]
    exact IntWalk.i64_in _ (by omega)
  have HM1 := Lib.hid (And.intro hm1 (And.intro hm htl))
  rw [hm1]
  clear hm1 hm htl
  go_wp2_with (first | (go_at_call 13; refine (HN.out _ _).mono ?_; rintro e w' ⟨rfl, rfl⟩))
  go_loopw [9] (fun v9 wr => SgRel m w3 v9 wr) (fun v9 _ => m - (intOf v9).toNat)
  case atStart => exact ⟨0, Nat.zero_le _, rfl, Touch.refl _ _⟩
  case round =>
    obtain ⟨i, hi, rfl, hTr⟩ := hrel
    have cWr : wr.cell? ⟨N + 11, k, none⟩ = some (.slice (some ⟨N + (1 + k), 0, none⟩) m m) := (hTr.cell (p := ⟨N + 11, k, none⟩) hn3 (fun x => x)).trans cW3
    by_cases hlt : i < m
    · obtain ⟨b, hb⟩ : ∃ b, ws[i]? = some b := ⟨ws[i]'(by rw [HM1.out.2.1]; exact hlt), List.getElem?_eq_getElem _⟩
      obtain ⟨t, ht, htb⟩ := HX.out i b hb
      have cI : wr.cell? ⟨N + (1 + k), i, none⟩ = some (.string (bs b)) := (hTr.cell (p := ⟨N + (1 + k), i, none⟩) hl3 (fun x => x)).trans (HCI3.out i b hb)
      have cT : wr.cell? ⟨g, i * 4 + 3, none⟩ = some (.string (bs b)) := by rw [← htb]; exact ((HL.out.touch hTr).at_ i t ht).2.2.2
      obtain ⟨sb, hsb⟩ : ∃ sb, bs b = sb := ⟨_, rfl⟩
      rw [hsb] at cI cT
      have hne : (sb.toList != sb.toList) = false := by simp
      have him : i < m1 := by have := HM1.out.1; omega
      have HT := Lib.hid hTr
      clear hTr hb ht htb hsb cW3
      go_wp2
      have cI1 : wr.drew.cell? ⟨N + (1 + k), i, none⟩ = some (.string sb) := cI
      have cT1 : wr.drew.cell? ⟨g, i * 4 + 3, none⟩ = some (.string sb) := cT
      have cW1 : wr.drew.cell? ⟨N + 11, k, none⟩ = some (.slice (some ⟨N + (1 + k), 0, none⟩) m m) := cWr
      clear cI cT cWr
      go_region
      go_wp2
      go_roundw
      case rel => exact ⟨i + 1, by omega, by go_num, HT.out.drew⟩
      case measure => simp [intOf]; omega
    · obtain rfl : i = m := by omega
      have HT := Lib.hid hTr
      clear hTr
      go_wp2
      go_ret
      exact ⟨rfl, HT3.out.same HT.out⟩

theorem signs_out (n : Int) (hn : n < 0 ∨ 10 ≤ n) (w : World) (hev : EV w) : Calls Tryd.prog 8 #[.int .i64 n] w fun e w' => e = .returned (.bool true) ∧ Touch NoB w w' := by
  have HA := Lib.hid (alive_any w hev)
  clear hev
  have hcase : decide (n < 0) = true ∨ (decide (n < 0) = false ∧ decide ((10 : Int) ≤ n) = true) := by
    by_cases h : n < 0
    · exact .inl (by simpa using h)
    · exact .inr ⟨by simpa using h, by simp; omega⟩
  clear hn
  rcases hcase with hd0 | ⟨hd0, hd1⟩
  all_goals
    go_enter Tryd.func8, Tryd.ntmps8
    go_wp2_with fail
    refine HA.out.mono ?_
    rintro e w1 ⟨rfl, hT1⟩
    have HE1 := Lib.hid hT1
    clear hT1
    go_upto_region 4 with fail
    have hTW : Touch NoB w (allocs w1 (sgO w1.heap.size)) := HE1.out.same (allocs_touch _ _ _ (Touch.refl _ _))
    obtain ⟨W, hW⟩ : ∃ W, W = allocs w1 (sgO w1.heap.size) := ⟨_, rfl⟩
    show Code.wp _ _ _ _ (allocs w1 (sgO w1.heap.size))
    rw [← hW] at hTW ⊢
    have HTW := Lib.hid hTW
    clear hW hTW
    go_wp2
    go_ret
    exact ⟨rfl, HTW.out⟩
theorem signs_any (n : Int) (w : World) (hev : EV w) : Calls Tryd.prog 8 #[.int .i64 n] w fun e w' => e = .returned (.bool true) ∧ Touch NoB w w' := by
  by_cases h : n < 0 ∨ 10 ≤ n
  · exact signs_out n h w hev
  · have hk := signs_in n.toNat (by omega) w hev
    rwa [show ((n.toNat : Nat) : Int) = n from by omega] at hk
end Go.Proofs.YtmgmmbeldhleoaaDoor
