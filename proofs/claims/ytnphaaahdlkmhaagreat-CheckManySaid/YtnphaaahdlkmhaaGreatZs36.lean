/-
  Package check's checkKeys. Conditions: those that each theorem names.
-/
import Derived.Test.YtnphaaahdlkmhaaGreatZs19
import Derived.Test.YtnphaaahdlkmhaaGreatZs20
import Derived.Test.YtnphaaahdlkmhaaGreatZs35
import Derived.Test.YtnphaaahdlkmhaaGreatZs18
import Derived.Test.YtnphaaahdlkmhaaGreatZs25
section
namespace Go.Proofs.YtnphaaahdlkmhaaGreat
open Go.ChangeShapes Go.WideShapes Go.ChangeAt Go.RowKit Go.Maps
set_option maxRecDepth 100000
set_option maxHeartbeats 4000000

theorem kyC_at13 : ∀ (l : List Ky) (k : Nat) (c : Ky), l[k]? = some c → (kyC l)[k * 3]? = some (.string (bs c.nm)) ∧ (kyC l)[k * 3 + 1]? = some (.int .i64 (c.kd : Int)) ∧ (kyC l)[k * 3 + 2]? = some (.bool c.sh)
  | [], k, c, h => by simp at h
  | x :: l, 0, c, h => by simp at h; subst h; exact ⟨rfl, rfl, rfl⟩
  | x :: l, k + 1, c, h => by
    obtain ⟨a, b, d⟩ := kyC_at13 l k c (by simpa using h)
    have e : kyC (x :: l) = [.string (bs x.nm), .int .i64 (x.kd : Int), .bool x.sh] ++ kyC l := rfl
    rw [e]
    refine ⟨?_, ?_, ?_⟩
    · rw [List.getElem?_append_right (by simp; omega)]; simpa [show (k + 1) * 3 - 3 = k * 3 by omega] using a
    · rw [List.getElem?_append_right (by simp; omega)]; simpa [show (k + 1) * 3 + 1 - 3 = k * 3 + 1 by omega] using b
    · rw [List.getElem?_append_right (by simp; omega)]; simpa [show (k + 1) * 3 + 2 - 3 = k * 3 + 2 by omega] using d
theorem ky_at13 {w : World} {Q : Nat → Prop} {A : Option Addr} {n c : Nat} {l : List Ky} (h : SlAt w Q (.slice A n c) n (kyC l)) {i : Nat} {k : Ky} (hk : l[i]? = some k) :
    ∃ b, A = some ⟨b, 0, none⟩ ∧ b < w.heap.size ∧ w.cell? ⟨b, i * 3, none⟩ = some (.string (bs k.nm)) ∧ w.cell? ⟨b, i * 3 + 1, none⟩ = some (.int .i64 (k.kd : Int)) ∧ w.cell? ⟨b, i * 3 + 2, none⟩ = some (.bool k.sh) := by
  obtain ⟨g0, g1, g2⟩ := kyC_at13 l i k hk
  obtain ⟨A', c', e, hx⟩ := h
  cases e
  obtain ⟨b, rfl, -, hb, c0⟩ := hx _ _ g0
  obtain ⟨b', hb', -, -, c1⟩ := hx _ _ g1
  cases hb'
  obtain ⟨b', hb', -, -, c2⟩ := hx _ _ g2
  cases hb'
  exact ⟨b, rfl, hb, c0, c1, c2⟩
theorem kat7 {w : World} {Q : Nat → Prop} {A : Option Addr} {n c : Nat} {l : List Ky} (h : SlAt w Q (.slice A n c) n (kyC l)) (hs : ∀ k ∈ l, nmB k.nm = true) : K7.KAt w NoB A (l.map ky7) := by
  intro j k hj
  rw [List.getElem?_map] at hj
  cases hl : l[j]? with
  | none => rw [hl] at hj; cases hj
  | some y =>
    rw [hl] at hj
    injection hj with hj
    subst hj
    obtain ⟨b, rfl, hb, c0, c1, c2⟩ := ky_at13 h hl
    exact ⟨bs_le (hs y (List.mem_of_getElem? hl)), b, 0, rfl, hb, fun f => f, by simpa [ky7] using c0, by simpa [ky7] using c1, by simpa [ky7] using c2⟩
theorem katG {w : World} {Q : Nat → Prop} {A : Option Addr} {n c : Nat} {l : List Ky} (h : SlAt w Q (.slice A n c) n (kyC l)) (hs : ∀ k ∈ l, nmB k.nm = true) : KAtG w NoB A (l.map kyG) := by
  intro j k hj
  rw [List.getElem?_map] at hj
  cases hl : l[j]? with
  | none => rw [hl] at hj; cases hj
  | some y =>
    rw [hl] at hj
    injection hj with hj
    subst hj
    obtain ⟨b, rfl, hb, c0, c1, c2⟩ := ky_at13 h hl
    exact ⟨bs_le (hs y (List.mem_of_getElem? hl)), b, 0, rfl, hb, fun f => f, by simpa [kyG] using c0, by simpa [kyG] using c1, by simpa [kyG] using c2⟩
/-! ### beginnings of keys that have an error -/
theorem errFrom_app : ∀ (a b pre : List K7.Ky), K7.errFrom pre (a ++ b) = if K7.errFrom pre a = 0 then K7.errFrom (pre ++ a) b else K7.errFrom pre a
  | [], b, pre => by simp [K7.errFrom]
  | x :: a, b, pre => by
    rw [List.cons_append, K7.errFrom_cons, K7.errFrom_cons, errFrom_app a b (pre ++ [x])]
    by_cases h : K7.errAt pre x = 0
    · simp [h]
    · simp [h]
theorem errK_mono {l : List K7.Ky} (hl : l.length ≤ 100) {i j : Nat} (hij : i ≤ j) (h : K7.errK (l.take i) ≠ 0) : K7.errK (l.take j) ≠ 0 := by
  unfold K7.errK at h ⊢
  rw [if_neg (by rw [List.length_take]; omega)] at h ⊢
  have e : l.take j = l.take i ++ (l.drop i).take (j - i) := by
    have h2 : l.take j = (l.take j).take i ++ (l.take j).drop i := (List.take_append_drop i _).symm
    rw [List.take_take, Nat.min_eq_left hij, List.drop_take] at h2
    exact h2
  rw [e, errFrom_app, if_neg h]
  exact h
theorem badI_spec (l : List K7.Ky) (hl : l.length ≤ 100) : ∀ (f i : Nat), i + f = l.length → K7.errK l ≠ 0 → (∀ j, j < i → K7.errK (l.take (j + 1)) = 0) →
    badI l f i < l.length ∧ (∀ j, j < badI l f i → K7.errK (l.take (j + 1)) = 0) ∧ K7.errK (l.take (badI l f i + 1)) ≠ 0
  | 0, i, hf, he, hz => by
    exfalso
    have hi : i = l.length := by omega
    by_cases h0 : l.length = 0
    · have : l = [] := List.eq_nil_of_length_eq_zero h0
      subst this
      exact he rfl
    · have := hz (i - 1) (by omega)
      rw [show i - 1 + 1 = i by omega, hi, List.take_length] at this
      exact he this
  | f + 1, i, hf, he, hz => by
    unfold badI
    by_cases h : K7.errK (l.take (i + 1)) = 0
    · rw [if_pos h]
      exact badI_spec l hl f (i + 1) (by omega) he (fun j hj => by
        by_cases e : j = i
        · subst e; exact h
        · exact hz j (by omega))
    · rw [if_neg h]
      exact ⟨by omega, hz, h⟩
end Go.Proofs.YtnphaaahdlkmhaaGreat
end
/-
  Package check's checkKeys: the search for the key that is to be named. Conditions: those that each theorem names.
-/
section
namespace Go.Proofs.YtnphaaahdlkmhaaGreat
open Go.ChangeShapes Go.WideShapes Go.ChangeAt Go.RowKit Go.Maps
set_option maxRecDepth 100000
set_option maxHeartbeats 4000000

theorem new13 (A : Option Addr) (n cap : Nat) (l : List K7.Ky) (w : World) (hn : l.length = n) (hn2 : n ≤ 1000000) (h : K7.KAt w NoB A l) :
    Calls Tryz.prog 39 #[.slice A n cap] w fun e w' => (∃ p, e = .returned (.tuple #[p, .int .i64 (K7.errK l)])) ∧ Touch NoB w w' := by
  refine (K7.new_any A n cap l w hn hn2 h).mono ?_
  rintro e w' (⟨h0, g, rfl, -, hT⟩ | ⟨h0, rfl, hT⟩)
  · exact ⟨⟨_, by rw [h0]⟩, hT⟩
  · exact ⟨⟨_, rfl⟩, hT⟩
theorem keys1_any {b pb n cap i : Nat} {v2 v3 : Value} (l : List K7.Ky) (w : World) (hn : l.length = n) (hcap : n ≤ cap) (hn2 : n ≤ 100) (hi : i < n) (hK : K7.KAt w NoB (some ⟨b, 0, none⟩) l) (hE : w.heap[pb]? = some (.cells #[.slice (some ⟨b, 0, none⟩) n cap, v2, v3] 29 (0, 0))) :
    Calls Tryz.prog 41 #[.int .i64 (i : Int), .pointer (some ⟨pb, 0, none⟩)] w fun e w' => e = .returned (.bool (K7.errK (l.take (i + 1)) != 0)) ∧ Touch NoB w w' := by
  have HO := Lib.hid (fun W (t : Touch NoB w W) => new13 (some ⟨b, 0, none⟩) (i + 1) cap (l.take (i + 1)) W (by rw [List.length_take]; omega) (by omega) ((hK.touch t).take (i + 1)))
  have a0 := cell_blk hE 0
  have a9 := blk_lt hE
  obtain ⟨x, hx⟩ : ∃ x, K7.errK (l.take (i + 1)) = x := ⟨_, rfl⟩
  rw [hx] at HO ⊢
  have hwr : IntKind.i64.wrap ((i : Int) + 1) = ((i + 1 : Nat) : Int) := by rw [IntWalk.i64_in _ (by omega)]; simp
  clear hK hE hn hx
  obtain ⟨q, hq⟩ : ∃ q, (x != 0) = q := ⟨_, rfl⟩
  rw [hq]
  obtain ⟨j, hj⟩ : ∃ j, i + 1 = j := ⟨_, rfl⟩
  rw [hj] at HO hwr
  have hjc : j ≤ cap := by omega
  clear hj hi hcap
  go_enter Tryz.func41, Tryz.ntmps41
  go_wp2_with fail
  refine (HO.out _ (by repeat (first | with_reducible exact Touch.refl NoB _ | with_reducible refine Touch.drew ?_ | with_reducible refine Touch.alloc ?_ _))).mono ?_
  rintro r w2 ⟨⟨p, rfl⟩, hT⟩
  have HT := Lib.hid (Touch.same (F := NoB) (a := w) (by repeat (first | with_reducible exact Touch.refl NoB _ | with_reducible refine Touch.drew ?_ | with_reducible refine Touch.alloc ?_ _)) hT)
  clear hT
  go_wp2
  go_ret
  exact ⟨rfl, HT.out⟩
def ShRel (bad n : Nat) (w : World) (v5 v6 : Value) (wr : World) : Prop := ∃ lo hi : Nat, v5 = .int .i64 lo ∧ v6 = .int .i64 hi ∧ lo ≤ bad ∧ bad ≤ hi ∧ hi ≤ n ∧ Touch NoB w wr
theorem search13 {bad n pb : Nat} (w : World) (hb : bad ≤ n) (hn : n ≤ 1000)
    (hf : ∀ (i : Nat) (W : World), i < n → Touch NoB w W → Calls Tryz.prog 41 #[.int .i64 (i : Int), .pointer (some ⟨pb, 0, none⟩)] W fun e w' => e = .returned (.bool (decide (bad ≤ i))) ∧ Touch NoB W w') :
    Calls Tryz.prog 40 #[.int .i64 (n : Int), .func (.func 41) #[] #[.pointer (some ⟨pb, 0, none⟩)]] w fun e w' => e = .returned (.int .i64 (bad : Int)) ∧ Touch NoB w w' := by
  have e0 : ∀ (args : Array Value) (w : World), (callFunc 41 args).run Tryz.prog w = .ok (.enter 41 args) w := enters_of Tryz.func41 (by kernel_rfl) rfl
  have HF := Lib.hid hf
  clear hf
  go_enter Tryz.func40, Tryz.ntmps40
  go_wp2
  go_loopw [5, 6] (fun v5 v6 wr => ShRel bad n w v5 v6 wr) (fun v5 v6 _ => (intOf v6).toNat - (intOf v5).toNat)
  case atStart => exact ⟨0, n, rfl, rfl, Nat.zero_le _, hb, Nat.le_refl _, Touch.refl _ _⟩
  case round =>
    obtain ⟨lo, hi, rfl, rfl, h1, h2, h3, hT⟩ := hrel
    by_cases hlt : lo < hi
    · have hc := fun W (t : Touch NoB wr W) => HF.out ((lo + hi) / 2) W (by omega) (hT.same t)
      rw [show (((lo + hi) / 2 : Nat) : Int) = ((lo : Int) + (hi : Int)) / 2 by omega] at hc
      by_cases hp : bad ≤ (lo + hi) / 2
      · have HC := Lib.hid hc
        rw [show decide (bad ≤ (lo + hi) / 2) = true by simpa using hp] at HC
        have HH := Lib.hid (And.intro hp hT)
        clear hc hp hT
        go_wp2_with (go_at_fn 41; refine (HC.out _ (by repeat (first | with_reducible exact Touch.refl NoB _ | with_reducible refine Touch.drew ?_ | with_reducible refine Touch.alloc ?_ _))).mono ?_; rintro r w2 ⟨rfl, hT2⟩; have HT2 := Lib.hid (Touch.same (F := NoB) (a := wr) (by repeat (first | with_reducible exact Touch.refl NoB _ | with_reducible refine Touch.drew ?_ | with_reducible refine Touch.alloc ?_ _)) hT2); clear hT2)
        go_roundw
        case rel => exact ⟨lo, (lo + hi) / 2, rfl, by rw [show ((lo : Int) + (hi : Int)) / 2 = (((lo + hi) / 2 : Nat) : Int) by omega], h1, HH.out.1, by omega, HH.out.2.same HT2.out⟩
        case measure => simp [intOf]; omega
      · have HC := Lib.hid hc
        rw [show decide (bad ≤ (lo + hi) / 2) = false by simpa using hp] at HC
        have HH := Lib.hid (And.intro hp hT)
        clear hc hp hT
        go_wp2_with (go_at_fn 41; refine (HC.out _ (by repeat (first | with_reducible exact Touch.refl NoB _ | with_reducible refine Touch.drew ?_ | with_reducible refine Touch.alloc ?_ _))).mono ?_; rintro r w2 ⟨rfl, hT2⟩; have HT2 := Lib.hid (Touch.same (F := NoB) (a := wr) (by repeat (first | with_reducible exact Touch.refl NoB _ | with_reducible refine Touch.drew ?_ | with_reducible refine Touch.alloc ?_ _)) hT2); clear hT2)
        go_roundw
        case rel => exact ⟨(lo + hi) / 2 + 1, hi, by rw [show ((lo : Int) + (hi : Int)) / 2 + 1 = (((lo + hi) / 2 + 1 : Nat) : Int) by omega], rfl, by have := HH.out.1; omega, h2, h3, HH.out.2.same HT2.out⟩
        case measure => simp [intOf]; omega
    · obtain rfl : lo = bad := by omega
      have HT := Lib.hid hT
      clear hT
      go_wp2
      go_ret
      exact ⟨rfl, HT.out⟩
theorem ckeys_any {A1 : Option Addr} {n c1 : Nat} {v2 v3 : Value} {Q : Nat → Prop} (l : List Ky) (w : World) (hv2 : ∃ x y z, v2 = .slice x y z) (hv3 : ∃ x y z, v3 = .slice x y z) (hn : l.length = n) (hn2 : n ≤ 1000) (hcap : n ≤ c1) (hS : SlAt w Q (.slice A1 n c1) n (kyC l)) (hs : ∀ k ∈ l, nmB k.nm = true) :
    Calls Tryz.prog 23 #[.agg #[.slice A1 n c1, v2, v3]] w fun e w' => e = .returned (.tuple #[.string (keysE (l.map ky7)).1, .int .i64 (keysE (l.map ky7)).2]) ∧ Touch NoB w w' := by
  obtain ⟨y1, y2, y3, rfl⟩ := hv2
  obtain ⟨u1, u2, u3, rfl⟩ := hv3
  have hK := kat7 hS hs
  have hlen : (l.map ky7).length = n := by rw [List.length_map]; exact hn
  have HO := Lib.hid (fun W (t : Touch NoB w W) => new13 A1 n c1 (l.map ky7) W hlen (by omega) (hK.touch t))
  obtain ⟨W0, hW0⟩ : ∃ W, w.alloc (.cells #[.slice A1 n c1, .slice y1 y2 y3, .slice u1 u2 u3] 29) = W := ⟨_, rfl⟩
  have t0 : Touch NoB w W0 := by rw [← hW0]; exact (Touch.refl _ _).alloc _
  have b0 : W0.heap[w.heap.size]? = some (.cells #[.slice A1 n c1, .slice y1 y2 y3, .slice u1 u2 u3] 29 (0, 0)) := by rw [← hW0]; exact alloc_blk _ _ _ rfl
  have HB := Lib.hid (And.intro t0 b0)
  have a0 := cell_blk b0 0
  have a9 := blk_lt b0
  obtain ⟨x, hx⟩ : ∃ x, K7.errK (l.map ky7) = x := ⟨_, rfl⟩
  by_cases h0 : x = 0
  · have hr : keysE (l.map ky7) = (⟨#[]⟩, 0) := by unfold keysE; rw [if_pos (hx.trans h0)]
    rw [hr]
    rw [hx, h0] at HO
    clear hK hS hs hlen t0 b0 hx h0 hr hn
    go_enter Tryz.func23, Tryz.ntmps23
    go_wp2_with fail
    refine (HO.out _ HB.out.1).mono ?_
    rintro r w2 ⟨⟨p, rfl⟩, hT⟩
    have HT := Lib.hid hT
    clear hT
    go_wp2
    go_ret2
    exact ⟨rfl, HB.out.1.same HT.out⟩
  · by_cases h9 : x = 9
    · have hr : keysE (l.map ky7) = (⟨#[]⟩, 9) := by unfold keysE; rw [if_neg (by rw [hx]; exact h0), if_pos (hx.trans h9)]
      rw [hr]
      rw [hx, h9] at HO
      clear hK hS hs hlen t0 b0 hx h0 h9 hr hn
      go_enter Tryz.func23, Tryz.ntmps23
      go_wp2_with fail
      refine (HO.out _ HB.out.1).mono ?_
      rintro r w2 ⟨⟨p, rfl⟩, hT⟩
      have HT := Lib.hid hT
      clear hT
      go_wp2
      go_ret2
      exact ⟨rfl, HB.out.1.same HT.out⟩
    · have h100 : n ≤ 100 := by
        by_cases h : n ≤ 100
        · exact h
        · exfalso
          apply h9
          rw [← hx]
          unfold K7.errK
          rw [if_pos (by omega)]
      obtain ⟨hb1, hb2, hb3⟩ := badI_spec (l.map ky7) (by omega) (l.map ky7).length 0 (by omega) (by rw [hx]; exact h0) (fun j hj => by omega)
      obtain ⟨bad, hbad⟩ : ∃ z, badI (l.map ky7) (l.map ky7).length 0 = z := ⟨_, rfl⟩
      have hkE : keysE (l.map ky7) = (match (l.map ky7)[bad]? with | some k => k.nm | none => ⟨#[]⟩, x) := by unfold keysE; rw [if_neg (by rw [hx]; exact h0), if_neg (by rw [hx]; exact h9), hbad, hx]; cases (l.map ky7)[bad]? <;> rfl
      rw [hbad] at hb1 hb2 hb3
      rw [hlen] at hb1
      obtain ⟨ky, hky⟩ : ∃ ky, l[bad]? = some ky := ⟨_, List.getElem?_eq_getElem (by omega)⟩
      have hr : keysE (l.map ky7) = (bs ky.nm, x) := by
        rw [hkE, List.getElem?_map, hky]
        rfl
      rw [hr]
      have hfn : ∀ i, i < n → (K7.errK ((l.map ky7).take (i + 1)) != 0) = decide (bad ≤ i) := fun i hi => by
        by_cases h : bad ≤ i
        · have := errK_mono (l := l.map ky7) (by omega) (show bad + 1 ≤ i + 1 by omega) hb3
          simp [h, this]
        · have := hb2 i (by omega)
          simp [h, this]
      obtain ⟨b, rfl, hbl, c0, -, -⟩ := ky_at13 hS hky
      have HSR := Lib.hid (fun W (t : Touch NoB W0 W) => search13 (bad := bad) (n := n) (pb := w.heap.size) W (by omega) (by omega) (fun i W' hi t' => by
        have h := keys1_any (l.map ky7) W' hlen hcap h100 hi (hK.touch (t0.same (t.same t'))) (((t.same t').block _ (blk_lt b0) (fun f => f)).trans b0)
        rw [hfn i hi] at h
        exact h))
      have HC := Lib.hid (And.intro hbl c0)
      have hne : (x == 0) = false := by simpa using h0
      have hn9 : (x == 9) = false := by simpa using h9
      rw [hx] at HO
      obtain ⟨nm, hnm⟩ : ∃ z, bs ky.nm = z := ⟨_, rfl⟩
      rw [hnm] at HC ⊢
      clear hK hS hs hlen t0 b0 hx h0 h9 hr hn hb2 hb3 hbad hkE hky hfn hbl c0 hnm
      have HBD := Lib.hid hb1
      go_enter Tryz.func23, Tryz.ntmps23
      go_wp2_with fail
      refine (HO.out _ HB.out.1).mono ?_
      rintro r w2 ⟨⟨p, rfl⟩, hT⟩
      have a0 := cell_blk ((hT.block _ (blk_lt HB.out.2) (fun f => f)).trans HB.out.2) 0
      have a9 := Nat.lt_of_lt_of_le (blk_lt HB.out.2) hT.size
      have HT := Lib.hid hT
      clear hT
      go_wp2_with fail
      refine (HSR.out _ HT.out).mono ?_
      rintro r w3 ⟨rfl, hT3⟩
      have a0 := cell_blk ((hT3.block _ (Nat.lt_of_lt_of_le (blk_lt HB.out.2) HT.out.size) (fun f => f)).trans ((HT.out.block _ (blk_lt HB.out.2) (fun f => f)).trans HB.out.2)) 0
      have a9 := Nat.lt_of_lt_of_le a9 hT3.size
      have hT4 := HB.out.1.same (HT.out.same hT3)
      have c0 := (hT4.cell (p := ⟨b, bad * 3, none⟩) HC.out.1 (fun f => f)).trans HC.out.2
      have c9 := Nat.lt_of_lt_of_le HC.out.1 hT4.size
      have HT4 := Lib.hid hT4
      clear hT3 hT4
      go_wp2
      go_ret2
      exact ⟨rfl, HT4.out⟩
end Go.Proofs.YtnphaaahdlkmhaaGreat
end
/-
  Package check's expr and alone: an expression that is to be of a kind, a node without its Kids. Conditions: those that each theorem names.
-/
section
namespace Go.Proofs.YtnphaaahdlkmhaaGreat
open Go.ChangeShapes Go.WideShapes Go.ChangeAt Go.RowKit Go.Maps
set_option maxRecDepth 100000
set_option maxHeartbeats 4000000

theorem CkB.touch {w w' : World} {F : Nat → Prop} {cb kb rb db : Nat} {k : Int} (h : CkB w cb kb rb db k) (t : Touch F w w') (hf : ¬ F cb) : CkB w' cb kb rb db k := (t.block cb (blk_lt h) hf).trans h
theorem cexpr_any {cb kb rb db mk : Nat} {k want : Int} {ks : List KyG} {Q : Nat → Prop} (x : Ex) (a b : Int) (s : ByteArray) (A : Option Addr) (m c : Nat) (w : World) (hc : CkB w cb kb rb db k) (hk : KM w kb mk ks) (hx : ET w Q x a b s A m c) (hf : exFit x = true) :
    Calls Tryz.prog 90 #[.pointer (some ⟨cb, 0, none⟩), .agg #[.int .i64 a, .int .i64 b, .string s, .slice A m c], .int .i64 want] w fun e w' => e = .returned (.int .i64 (exprE ks want x)) ∧ Touch NoB w w' := by
  obtain ⟨d, hd⟩ := gat_of x a b s A m c hf hx
  have hlen := hx.len
  have HK := Lib.hid (fun W (t : Touch NoB w W) => kkind_any (toG x) W d (hd.touch t) (Nat.le_of_eq hlen.2.1.symm) (hk.touch t (fun f => f)))
  have HE := Lib.hid (fun b x w => eu_any b x w)
  obtain ⟨p, hp⟩ : ∃ p, (kindT ks (toG x)).1 = p := ⟨_, rfl⟩
  obtain ⟨q, hq⟩ : ∃ q, (kindT ks (toG x)).2 = q := ⟨_, rfl⟩
  have hR : exprE ks want x = if q = 0 then (if p = want then 0 else 7) else q := by unfold exprE; rw [hp, hq]
  rw [hp, hq] at HK
  rw [hR]
  have c0 := cell_blk hc 0
  have c9 := blk_lt hc
  clear hc hk hx hf hd hp hq hR hlen
  by_cases h0 : q = 0
  · subst h0
    rw [if_pos rfl]
    by_cases h1 : p = want
    · rw [if_pos h1]
      have e1 : (p == want) = true := by simpa using h1
      clear h1
      go_enter Tryz.func90, Tryz.ntmps90
      go_wp2_with fail
      go_region_law (first | (go_simp; go_at_call 29; refine (HK.out _ (by repeat (first | with_reducible exact Touch.refl NoB _ | with_reducible refine Touch.drew ?_ | with_reducible refine Touch.alloc ?_ _))).mono ?_; rintro r w2 ⟨rfl, hT⟩; have HT := Lib.hid (Touch.same (F := NoB) (a := w) (by repeat (first | with_reducible exact Touch.refl NoB _ | with_reducible refine Touch.drew ?_ | with_reducible refine Touch.alloc ?_ _)) hT); clear hT))
      all_goals
        go_wp2_with (first | (go_at_call 49; refine (HE.out _ _ _).mono ?_; rintro r w3 ⟨rfl, rfl⟩))
        go_ret
        exact ⟨rfl, HT.out⟩
    · rw [if_neg h1]
      have e1 : (p == want) = false := by simpa using h1
      clear h1
      go_enter Tryz.func90, Tryz.ntmps90
      go_wp2_with fail
      go_region_law (first | (go_simp; go_at_call 29; refine (HK.out _ (by repeat (first | with_reducible exact Touch.refl NoB _ | with_reducible refine Touch.drew ?_ | with_reducible refine Touch.alloc ?_ _))).mono ?_; rintro r w2 ⟨rfl, hT⟩; have HT := Lib.hid (Touch.same (F := NoB) (a := w) (by repeat (first | with_reducible exact Touch.refl NoB _ | with_reducible refine Touch.drew ?_ | with_reducible refine Touch.alloc ?_ _)) hT); clear hT))
      all_goals
        go_wp2_with (first | (go_at_call 49; refine (HE.out _ _ _).mono ?_; rintro r w3 ⟨rfl, rfl⟩))
        go_ret
        exact ⟨rfl, HT.out⟩
  · rw [if_neg h0]
    have hne : (q != 0) = true := by simpa using h0
    go_enter Tryz.func90, Tryz.ntmps90
    go_wp2_with fail
    go_region_law (first | (go_simp; go_at_call 29; refine (HK.out _ (by repeat (first | with_reducible exact Touch.refl NoB _ | with_reducible refine Touch.drew ?_ | with_reducible refine Touch.alloc ?_ _))).mono ?_; rintro r w2 ⟨rfl, hT⟩; have HT := Lib.hid (Touch.same (F := NoB) (a := w) (by repeat (first | with_reducible exact Touch.refl NoB _ | with_reducible refine Touch.drew ?_ | with_reducible refine Touch.alloc ?_ _)) hT); clear hT))
    all_goals
      go_wp2
      go_ret
      exact ⟨rfl, HT.out⟩
end Go.Proofs.YtnphaaahdlkmhaaGreat
end
/-
  Package check's first over the weights of a node. Conditions: those that each theorem names.
-/
section
namespace Go.Proofs.YtnphaaahdlkmhaaGreat
open Go.ChangeShapes Go.WideShapes Go.ChangeAt Go.RowKit Go.Maps
set_option maxRecDepth 100000
set_option maxHeartbeats 4000000

theorem cweight_any {cb kb rb db mk eb : Nat} {k : Int} {ks : List KyG} {Q : Nat → Prop} (x : Ex) (a b : Int) (s : ByteArray) (A : Option Addr) (m c : Nat) (w : World) (hc : CkB w cb kb rb db k) (hk : KM w kb mk ks) (hE : w.heap[eb]? = some (.cells #[.pointer (some ⟨cb, 0, none⟩)] 105 (0, 0))) (hx : ET w Q x a b s A m c) (hf : exFit x = true) :
    Calls Tryz.prog 92 #[.agg #[.int .i64 a, .int .i64 b, .string s, .slice A m c], .pointer (some ⟨eb, 0, none⟩)] w fun e w' => e = .returned (.int .i64 (exprE ks 0 x)) ∧ Touch NoB w w' := by
  have HO := Lib.hid (fun W (t : Touch NoB w W) => cexpr_any (want := 0) x a b s A m c W (hc.touch t (fun f => f)) (hk.touch t (fun f => f)) (hx.touch0 t) hf)
  have a0 := cell_blk hE 0
  have a3 := blk_lt hE
  clear hc hk hE hx
  go_enter Tryz.func92, Tryz.ntmps92
  go_wp2_with fail
  refine (HO.out _ (by repeat (first | with_reducible exact Touch.refl NoB _ | with_reducible refine Touch.drew ?_ | with_reducible refine Touch.alloc ?_ _))).mono ?_
  rintro r w2 ⟨rfl, hT⟩
  have HT := Lib.hid (Touch.same (F := NoB) (a := w) (by repeat (first | with_reducible exact Touch.refl NoB _ | with_reducible refine Touch.drew ?_ | with_reducible refine Touch.alloc ?_ _)) hT)
  clear hT
  go_wp2
  go_ret
  exact ⟨rfl, HT.out⟩
def FxRel (f : Ex → Int) (l : List Ex) (w : World) (v : Value) (wr : World) : Prop := ∃ i : Nat, i ≤ l.length ∧ v = .int .i64 i ∧ (∀ (j : Nat) (c : Ex), j < i → l[j]? = some c → f c = 0) ∧ Touch NoB w wr
theorem first_expr {cb kb rb db mk eb : Nat} {k : Int} {ks : List KyG} {Q : Nat → Prop} (l : List Ex) (A : Option Addr) (n cap : Nat) (ys : List Value) (w : World) (hn : l.length = n) (hS : SlAt w Q (.slice A n cap) n ys) (hL : LsAt (XAt w Q) l ys) (hc : CkB w cb kb rb db k) (hk : KM w kb mk ks) (hE : w.heap[eb]? = some (.cells #[.pointer (some ⟨cb, 0, none⟩)] 105 (0, 0))) (hf : ∀ x ∈ l, exFit x = true) (hl : n ≤ 1000000) :
    Calls Tryz.prog 91 #[.slice A n cap, .func (.func 92) #[] #[.pointer (some ⟨eb, 0, none⟩)]] w fun e w' => e = .returned (.int .i64 (firstE (l.map (exprE ks 0)))) ∧ Touch NoB w w' := by
  have HX := Lib.hid (And.intro hS (And.intro hL hf))
  have HC := Lib.hid (fun W (x : Ex) (a b : Int) (s : ByteArray) (A : Option Addr) (m c : Nat) (t : Touch NoB w W) (hx : ET W Q x a b s A m c) (hf : exFit x = true) => cweight_any (eb := eb) x a b s A m c W (hc.touch t (fun f => f)) (hk.touch t (fun f => f)) ((t.block _ (blk_lt hE) (fun f => f)).trans hE) hx hf)
  have e0 : ∀ (args : Array Value) (w : World), (callFunc 92 args).run Tryz.prog w = .ok (.enter 92 args) w := enters_of Tryz.func92 (by kernel_rfl) rfl
  clear hS hL hf hc hk hE
  have HN := Lib.hid hn
  clear hn
  go_enter Tryz.func91, Tryz.ntmps91
  go_wp2
  go_loopw [10] (fun v10 wr => FxRel (exprE ks 0) l w v10 wr) (fun v10 _ => n - (intOf v10).toNat)
  case atStart => exact ⟨0, Nat.zero_le _, rfl, fun j c hj => by omega, Touch.refl _ _⟩
  case round =>
    obtain ⟨i, hi, rfl, hno, hT⟩ := hrel
    by_cases hlt : i < n
    · obtain ⟨x, hx⟩ : ∃ x, l[i]? = some x := ⟨l[i]'(by have := HN.out; omega), List.getElem?_eq_getElem _⟩
      obtain ⟨g, a, b, s, B, m, d, rfl, d0, d1, d2, d3, het⟩ := ex_at (HX.out.1.touch hT (fun _ _ f => f)) (HX.out.2.1.mono (fun x ys h => h.touch hT (fun _ _ f => f))) hx
      have hfx := HX.out.2.2 x (List.mem_of_getElem? hx)
      have d4 : g < wr.heap.size := by
        obtain ⟨ys0, hy0, hz0⟩ := HX.out.2.1.at_ (s := 4) (fun a ys h => h.len) i x hx
        obtain ⟨A', c', he, hA⟩ := HX.out.1
        cases he
        obtain ⟨g', hg', -, hlt', -⟩ := hA (i * 4 + 0) _ ((hz0 0 (by omega)).trans (List.getElem?_eq_getElem (by rw [hy0.len]; omega)))
        cases hg'
        exact Nat.lt_of_lt_of_le hlt' hT.size
      obtain ⟨r, hr⟩ : ∃ r, exprE ks 0 x = r := ⟨_, rfl⟩
      have HR := Lib.hid (And.intro hr (And.intro hx (And.intro hno hT)))
      have HC2 := Lib.hid (fun W (t : Touch NoB wr W) => hr ▸ HC.out W x a b s B m d (hT.same t) (het.touch0 t) hfx)
      clear hr hx hno hT het hfx
      by_cases hr0 : r = 0
      · subst hr0
        go_wp2_with (go_at_fn 92; refine (HC2.out _ (by repeat (first | with_reducible exact Touch.refl NoB _ | with_reducible refine Touch.drew ?_ | with_reducible refine Touch.alloc ?_ _))).mono ?_; rintro r w2 ⟨rfl, hT2⟩; have HT2 := Lib.hid (Touch.same (F := NoB) (a := wr) (by repeat (first | with_reducible exact Touch.refl NoB _ | with_reducible refine Touch.drew ?_ | with_reducible refine Touch.alloc ?_ _)) hT2); clear hT2)
        go_roundw
        case rel => exact ⟨i + 1, by have := HN.out; omega, by go_num, fun j y hj hy => by
          by_cases e : j = i
          · subst e; rw [HR.out.2.1] at hy; injection hy with hy; subst hy; exact HR.out.1
          · exact HR.out.2.2.1 j y (by omega) hy, HR.out.2.2.2.same HT2.out⟩
        case measure => simp [intOf]; omega
      · have hne : (r != 0) = true := by simpa using hr0
        go_wp2_with (go_at_fn 92; refine (HC2.out _ (by repeat (first | with_reducible exact Touch.refl NoB _ | with_reducible refine Touch.drew ?_ | with_reducible refine Touch.alloc ?_ _))).mono ?_; rintro r w2 ⟨rfl, hT2⟩; have HT2 := Lib.hid (Touch.same (F := NoB) (a := wr) (by repeat (first | with_reducible exact Touch.refl NoB _ | with_reducible refine Touch.drew ?_ | with_reducible refine Touch.alloc ?_ _)) hT2); clear hT2)
        go_ret
        exact ⟨by rw [firstE_at HR.out.2.1 (by rw [HR.out.1]; exact hr0) HR.out.2.2.1, HR.out.1]; rfl, HR.out.2.2.2.same HT2.out⟩
    · have hin : i = n := by have := HN.out; omega
      subst hin
      have HR := Lib.hid (And.intro hno hT)
      clear hno hT
      go_wp2
      go_ret
      exact ⟨by rw [firstE_zero (fun j c hc => HR.out.1 j c (by have := (List.getElem?_eq_some_iff.1 hc).1; have := HN.out; omega) hc)]; rfl, HR.out.2⟩
end Go.Proofs.YtnphaaahdlkmhaaGreat
end
/-
  Package check's alone: a node without its Kids, kind by kind. Conditions: those that each theorem names.
-/
section
namespace Go.Proofs.YtnphaaahdlkmhaaGreat
open Go.ChangeShapes Go.WideShapes Go.ChangeAt Go.RowKit Go.Maps
set_option maxRecDepth 100000
set_option maxHeartbeats 4000000

/-- A node's ten cells as one value. -/
def ndV (kd a b : Int) (s : ByteArray) (e0 e1 : Int) (e2 : ByteArray) (A : Option Addr) (m c : Nat) (A1 : Option Addr) (n1 c1 : Nat) (A2 : Option Addr) (n2 c2 : Nat) : Array Value :=
  #[.int .i64 kd, .int .i64 a, .int .i64 b, .string s, .int .i64 e0, .int .i64 e1, .string e2, .slice A m c, .slice A1 n1 c1, .slice A2 n2 c2]
section
variable {cb kb rb db mk md mr : Nat} {k : Int} {ks : List KyG} {dn : List ByteArray} {vs : List Value} {rs : List (ByteArray × Value)} {Q : Nat → Prop} {w : World}
  (a b : Int) (s : ByteArray) (e0 e1 : Int) (e2 : ByteArray) (A : Option Addr) (m c : Nat) (A1 : Option Addr) (n1 c1 : Nat) (A2 : Option Addr) (n2 c2 : Nat)
theorem alone_if (x : Ex) (hc : CkB w cb kb rb db k) (hk : KM w kb mk ks) (hx : ET w Q x e0 e1 e2 A m c) (hf : exFit x = true) :
    Calls Tryz.prog 72 #[.pointer (some ⟨cb, 0, none⟩), .agg (ndV 7 a b s e0 e1 e2 A m c A1 n1 c1 A2 n2 c2)] w fun e w' => e = .returned (.int .i64 (exprE ks 1 x)) ∧ Touch NoB w w' := by
  have HO := Lib.hid (fun W (t : Touch NoB w W) => cexpr_any (want := 1) x e0 e1 e2 A m c W (hc.touch t (fun f => f)) (hk.touch t (fun f => f)) (hx.touch0 t) hf)
  clear hc hk hx
  unfold ndV
  go_enter Tryz.func72, Tryz.ntmps72
  go_wp2_with fail
  refine (HO.out _ (by repeat (first | with_reducible exact Touch.refl NoB _ | with_reducible refine Touch.drew ?_ | with_reducible refine Touch.alloc ?_ _))).mono ?_
  rintro r w2 ⟨rfl, hT⟩
  have HT := Lib.hid (Touch.same (F := NoB) (a := w) (by repeat (first | with_reducible exact Touch.refl NoB _ | with_reducible refine Touch.drew ?_ | with_reducible refine Touch.alloc ?_ _)) hT)
  clear hT
  go_wp2
  go_ret
  exact ⟨rfl, HT.out⟩
theorem alone_set (x : Ex) (hc : CkB w cb kb rb db k) (hk : KM w kb mk ks) (hx : ET w Q x e0 e1 e2 A m c) (hf : exFit x = true) (hs : s.size ≤ 9223372036854775807) :
    Calls Tryz.prog 72 #[.pointer (some ⟨cb, 0, none⟩), .agg (ndV 8 a b s e0 e1 e2 A m c A1 n1 c1 A2 n2 c2)] w fun e w' => e = .returned (.int .i64 (match kdG ks s with | none => 5 | some k => exprE ks k x)) ∧ Touch NoB w w' := by
  have HO := Lib.hid (fun W want (t : Touch NoB w W) => cexpr_any (want := want) x e0 e1 e2 A m c W (hc.touch t (fun f => f)) (hk.touch t (fun f => f)) (hx.touch0 t) hf)
  have a0 := cell_blk hc 0
  have a3 := blk_lt hc
  obtain ⟨z, hrun, hz⟩ := (KM.touch (w' := ((w.alloc (.cells #[.pointer (some ⟨cb, 0, none⟩)] 105)).alloc (.cells #[.int .i64 8, .int .i64 a, .int .i64 b, .string s, .int .i64 e0, .int .i64 e1, .string e2, .slice A m c, .slice A1 n1 c1, .slice A2 n2 c2] 62)).drew) (F := NoB) hk (by repeat (first | with_reducible exact Touch.refl NoB _ | with_reducible refine Touch.drew ?_ | with_reducible refine Touch.alloc ?_ _)) (fun f => f)).look hs
  clear hc hk hx
  unfold ndV
  cases hq : kdG ks s with
  | none =>
    rw [hq] at hrun
    clear hz hq
    go_enter Tryz.func72, Tryz.ntmps72
    go_wp2_with fail
    go_region
    go_wp2
    go_ret
    exact ⟨rfl, by repeat (first | with_reducible exact Touch.refl NoB _ | with_reducible refine Touch.drew ?_ | with_reducible refine Touch.alloc ?_ _)⟩
  | some v =>
    rw [hq] at hrun
    have hzv := hz v hq
    subst hzv
    clear hz hq
    go_enter Tryz.func72, Tryz.ntmps72
    go_wp2_with fail
    go_region
    go_wp2_with fail
    refine (HO.out _ _ (by repeat (first | with_reducible exact Touch.refl NoB _ | with_reducible refine Touch.drew ?_ | with_reducible refine Touch.alloc ?_ _))).mono ?_
    rintro r w2 ⟨rfl, hT⟩
    have HT := Lib.hid (Touch.same (F := NoB) (a := w) (by repeat (first | with_reducible exact Touch.refl NoB _ | with_reducible refine Touch.drew ?_ | with_reducible refine Touch.alloc ?_ _)) hT)
    clear hT
    go_wp2
    go_ret
    exact ⟨rfl, HT.out⟩
theorem alone_pick (l : List Ex) (ys : List Value) (hc : CkB w cb kb rb db k) (hk : KM w kb mk ks) (hn : l.length = n2) (hS : SlAt w Q (.slice A2 n2 c2) n2 ys) (hL : LsAt (XAt w Q) l ys) (hf : ∀ x ∈ l, exFit x = true) (hl : n2 ≤ 1000000) :
    Calls Tryz.prog 72 #[.pointer (some ⟨cb, 0, none⟩), .agg (ndV 11 a b s e0 e1 e2 A m c A1 n1 c1 A2 n2 c2)] w fun e w' => e = .returned (.int .i64 (firstE (l.map (exprE ks 0)))) ∧ Touch NoB w w' := by
  have HO := Lib.hid (fun W eb (t : Touch NoB w W) hE => first_expr (eb := eb) l A2 n2 c2 ys W hn (hS.touch t (fun _ _ f => f)) (hL.mono (fun x ys h => h.touch t (fun _ _ f => f))) (hc.touch t (fun f => f)) (hk.touch t (fun f => f)) hE hf hl)
  clear hc hk hS hL hf hn hl
  unfold ndV
  go_enter Tryz.func72, Tryz.ntmps72
  go_wp2_with fail
  refine (HO.out _ _ (by repeat (first | with_reducible exact Touch.refl NoB _ | with_reducible refine Touch.drew ?_ | with_reducible refine Touch.alloc ?_ _)) ((Touch.block (F := NoB) (w := w.alloc (.cells #[.pointer (some ⟨cb, 0, none⟩)] 105)) (by repeat (first | with_reducible exact Touch.refl NoB _ | with_reducible refine Touch.drew ?_ | with_reducible refine Touch.alloc ?_ _)) _ (by rw [World.size_alloc]; omega) (fun f => f)).trans (alloc_blk _ _ _ rfl))).mono ?_
  rintro r w2 ⟨rfl, hT⟩
  have HT := Lib.hid (Touch.same (F := NoB) (a := w) (by repeat (first | with_reducible exact Touch.refl NoB _ | with_reducible refine Touch.drew ?_ | with_reducible refine Touch.alloc ?_ _)) hT)
  clear hT
  go_wp2
  go_ret
  exact ⟨rfl, HT.out⟩
theorem alone_plan (hc : CkB w cb kb rb db k) (hd : NM w db md dn) (hs : s.size ≤ 9223372036854775807) :
    Calls Tryz.prog 72 #[.pointer (some ⟨cb, 0, none⟩), .agg (ndV 12 a b s e0 e1 e2 A m c A1 n1 c1 A2 n2 c2)] w fun e w' => e = .returned (.int .i64 (if inN dn s = true then 0 else 5)) ∧ Touch NoB w w' := by
  have HO := Lib.hid (fun W (t : Touch NoB w W) => has13_any (s := s) W (hd.touch t (fun f => f)) hs)
  have HE := Lib.hid (fun b x w => eu_any b x w)
  have a0 := cell_blk hc 2
  have a3 := blk_lt hc
  have hR : (if inN dn s = true then (0 : Int) else 5) = euE (inN dn s) 5 := rfl
  rw [hR]
  clear hR
  obtain ⟨q, hq⟩ : ∃ q, inN dn s = q := ⟨_, rfl⟩
  rw [hq] at HO ⊢
  clear hc hd hq
  unfold ndV
  go_enter Tryz.func72, Tryz.ntmps72
  go_wp2_with fail
  go_region_law (first | (go_simp; go_at_call 64; refine (HO.out _ (by repeat (first | with_reducible exact Touch.refl NoB _ | with_reducible refine Touch.drew ?_ | with_reducible refine Touch.alloc ?_ _))).mono ?_; rintro r w2 ⟨rfl, hT⟩; have HT := Lib.hid (Touch.same (F := NoB) (a := w) (by repeat (first | with_reducible exact Touch.refl NoB _ | with_reducible refine Touch.drew ?_ | with_reducible refine Touch.alloc ?_ _)) hT); clear hT) | (go_simp; go_at_call 49; refine (HE.out _ _ _).mono ?_; rintro r w3 ⟨rfl, rfl⟩))
  all_goals
    go_wp2
    go_ret
    exact ⟨rfl, HT.out⟩
def nodeZc : Array Value := #[.int .i64 0, .int .i64 0, .int .i64 0, .string ⟨#[]⟩, .int .i64 0, .int .i64 0, .string ⟨#[]⟩, .slice none 0 0, .slice none 0 0, .slice none 0 0]
theorem alone_use (hc : CkB w cb kb rb db k) (hr : RM w vs rb mr rs) (hvs : ∀ v ∈ vs, ∃ kd a b s e0 e1 e2 A m c A1 n1 c1 A2 n2 c2, v = .agg (ndV kd a b s e0 e1 e2 A m c A1 n1 c1 A2 n2 c2)) (hs : s.size ≤ 9223372036854775807) :
    Calls Tryz.prog 72 #[.pointer (some ⟨cb, 0, none⟩), .agg (ndV 10 a b s e0 e1 e2 A m c A1 n1 c1 A2 n2 c2)] w fun e w' => e = .returned (.int .i64 (if inN (rs.map (·.1)) s = true then 0 else 5)) ∧ Touch NoB w w' := by
  have HE := Lib.hid (fun b x w => eu_any b x w)
  obtain ⟨kd', a', b', s', e0', e1', e2', A', m', c', A1', n1', c1', A2', n2', c2', hv⟩ := hvs _ (hr.val s)
  have hR : (if inN (rs.map (·.1)) s = true then (0 : Int) else 5) = euE (fnd rs s).isSome 5 := by rw [fnd_in]; rfl
  rw [hR]
  obtain ⟨q, hq⟩ : ∃ q, (fnd rs s).isSome = q := ⟨_, rfl⟩
  obtain ⟨W0, hW0⟩ : ∃ W, (w.alloc (.cells #[.pointer (some ⟨cb, 0, none⟩)] 105)).alloc (.cells #[.int .i64 10, .int .i64 a, .int .i64 b, .string s, .int .i64 e0, .int .i64 e1, .string e2, .slice A m c, .slice A1 n1 c1, .slice A2 n2 c2] 62) = W := ⟨_, rfl⟩
  have t0 : Touch NoB w W0 := by rw [← hW0]; exact ((Touch.refl _ _).alloc _).alloc _
  have b0 : W0.heap[w.heap.size]? = some (.cells #[.pointer (some ⟨cb, 0, none⟩)] 105 (0, 0)) := by
    rw [← hW0]
    exact (((Touch.refl NoB _).alloc _).block _ (by rw [World.size_alloc]; omega) (fun f => f)).trans (alloc_blk _ _ _ rfl)
  have b1 : W0.heap[w.heap.size + 1]? = some (.cells #[.int .i64 10, .int .i64 a, .int .i64 b, .string s, .int .i64 e0, .int .i64 e1, .string e2, .slice A m c, .slice A1 n1 c1, .slice A2 n2 c2] 62 (0, 0)) := by rw [← hW0]; exact alloc_blk _ _ _ (by rw [World.size_alloc])
  have hc0 := hc.touch t0 (fun f => f)
  have hr0 := hr.touch t0 (fun f => f)
  have c0 := cell_blk hc0 1
  have c9 := blk_lt hc0
  have d0 := cell_blk b0 0
  have d9 := blk_lt b0
  have e3 := cell_blk b1 3
  have e9 := blk_lt b1
  have k0 := cell_blk b1 0
  have hr1 := (hr0.touch (w' := W0.drew) (F := NoB) (by repeat (first | with_reducible exact Touch.refl NoB _ | with_reducible refine Touch.drew ?_ | with_reducible refine Touch.alloc ?_ _)) (fun f => f)).look2 hs
  have hr2 := (hr0.touch (w' := (W0.alloc (.cells nodeZc 62)).drew) (F := NoB) (by repeat (first | with_reducible exact Touch.refl NoB _ | with_reducible refine Touch.drew ?_ | with_reducible refine Touch.alloc ?_ _)) (fun f => f)).look2 hs
  rw [hv, hq] at hr1 hr2
  rw [hq]
  have HT := Lib.hid t0
  unfold nodeZc at hr2
  clear hR hq hv hc hr hvs b0 b1 hc0 hr0 t0
  unfold ndV at hr1 hr2 ⊢
  go_enter Tryz.func72, Tryz.ntmps72
  go_wp2_with fail
  go_region
  all_goals go_wp2_with (first | (go_at_call 49; refine (HE.out _ _ _).mono ?_; rintro r w3 ⟨rfl, rfl⟩))
  all_goals go_ret
  all_goals exact ⟨rfl, HT.out.same (by repeat (first | with_reducible exact Touch.refl NoB _ | with_reducible refine Touch.drew ?_ | with_reducible refine Touch.alloc ?_ _))⟩
theorem alone_par :
    Calls Tryz.prog 72 #[.pointer (some ⟨cb, 0, none⟩), .agg (ndV 4 a b s e0 e1 e2 A m c A1 n1 c1 A2 n2 c2)] w fun e w' => e = .returned (.int .i64 (euE ((decide (1 ≤ a) && decide (a ≤ (n1 : Int))) && (decide (1 ≤ b) && decide (b ≤ (n1 : Int)))) 1)) ∧ Touch NoB w w' := by
  have HW := Lib.hid (fun n lo hi w => within13_any n lo hi w)
  have HE := Lib.hid (fun b x w => eu_any b x w)
  obtain ⟨p, hp⟩ : ∃ p, (decide (1 ≤ a) && decide (a ≤ (n1 : Int))) = p := ⟨_, rfl⟩
  obtain ⟨q, hq⟩ : ∃ q, (decide (1 ≤ b) && decide (b ≤ (n1 : Int))) = q := ⟨_, rfl⟩
  rw [hp, hq]
  have HP := Lib.hid hp
  have HQ := Lib.hid hq
  clear hp hq
  unfold ndV
  cases p <;> cases q
  all_goals
    go_enter Tryz.func72, Tryz.ntmps72
    go_wp2_with (first | (go_at_call 85; refine (HW.out _ _ _ _).mono ?_; rintro r w2 ⟨rfl, rfl⟩; first | rw [HP.out] | rw [HQ.out]) | (go_at_call 49; refine (HE.out _ _ _).mono ?_; rintro r w3 ⟨rfl, rfl⟩))
    go_ret
    exact ⟨rfl, by repeat (first | with_reducible exact Touch.refl NoB _ | with_reducible refine Touch.drew ?_ | with_reducible refine Touch.alloc ?_ _)⟩
theorem alone_rep :
    Calls Tryz.prog 72 #[.pointer (some ⟨cb, 0, none⟩), .agg (ndV 6 a b s e0 e1 e2 A m c A1 n1 c1 A2 n2 c2)] w fun e w' => e = .returned (.int .i64 (euE (decide (1 ≤ a) && decide (a ≤ 1000)) 1)) ∧ Touch NoB w w' := by
  have HE := Lib.hid (fun b x w => eu_any b x w)
  have HW := Lib.hid (fun n lo hi w => within13_any n lo hi w)
  obtain ⟨p, hp⟩ : ∃ p, (decide (1 ≤ a) && decide (a ≤ 1000)) = p := ⟨_, rfl⟩
  rw [hp]
  have HP := Lib.hid hp
  clear hp
  unfold ndV
  go_enter Tryz.func72, Tryz.ntmps72
  go_wp2_with (first | (go_at_call 85; refine (HW.out _ _ _ _).mono ?_; rintro r w2 ⟨rfl, rfl⟩; rw [HP.out]) | (go_at_call 49; refine (HE.out _ _ _).mono ?_; rintro r w3 ⟨rfl, rfl⟩))
  go_ret
  exact ⟨rfl, by repeat (first | with_reducible exact Touch.refl NoB _ | with_reducible refine Touch.drew ?_ | with_reducible refine Touch.alloc ?_ _)⟩
theorem alone_else (kd : Nat) (hk : kd = 0 ∨ kd = 1 ∨ kd = 2 ∨ kd = 3 ∨ kd = 5 ∨ kd = 9 ∨ kd = 13 ∨ kd = 14 ∨ kd = 15) :
    Calls Tryz.prog 72 #[.pointer (some ⟨cb, 0, none⟩), .agg (ndV (kd : Int) a b s e0 e1 e2 A m c A1 n1 c1 A2 n2 c2)] w fun e w' => e = .returned (.int .i64 0) ∧ Touch NoB w w' := by
  have f7 : ((kd : Int) == 7) = false := by simp; omega
  have f8 : ((kd : Int) == 8) = false := by simp; omega
  have f11 : ((kd : Int) == 11) = false := by simp; omega
  have f12 : ((kd : Int) == 12) = false := by simp; omega
  have f10 : ((kd : Int) == 10) = false := by simp; omega
  have f4 : ((kd : Int) == 4) = false := by simp; omega
  have f6 : ((kd : Int) == 6) = false := by simp; omega
  obtain ⟨z, hz⟩ : ∃ z, (kd : Int) = z := ⟨_, rfl⟩
  rw [hz] at f7 f8 f11 f12 f10 f4 f6 ⊢
  clear hz hk
  unfold ndV
  go_enter Tryz.func72, Tryz.ntmps72
  go_wp2
  go_ret
  exact ⟨rfl, by repeat (first | with_reducible exact Touch.refl NoB _ | with_reducible refine Touch.drew ?_ | with_reducible refine Touch.alloc ?_ _)⟩
end
end Go.Proofs.YtnphaaahdlkmhaaGreat
end
/-
  Package check's alone over any well-formed node. Conditions: those that the theorem names.
-/
section
namespace Go.Proofs.YtnphaaahdlkmhaaGreat
open Go.ChangeShapes Go.WideShapes Go.ChangeAt Go.RowKit Go.Maps
set_option maxRecDepth 100000
set_option maxHeartbeats 4000000

/-- A node's cells. -/
structure NdC (w : World) (Q : Nat → Prop) (D : Nat) (n : Nd) (e0 e1 : Int) (e2 : ByteArray) (A : Option Addr) (m c : Nat) (A1 : Option Addr) (c1 : Nat) (A2 : Option Addr) (c2 : Nat) (xs ys : List Value) : Prop where
  ex : ET w Q n.ex e0 e1 e2 A m c
  ks : SlAt w Q (.slice A1 n.ks.length c1) n.ks.length xs
  kl : LsAt (NT w Q D) n.ks xs
  ws : SlAt w Q (.slice A2 n.ws.length c2) n.ws.length ys
  wl : LsAt (XAt w Q) n.ws ys
/-- The cells' value. -/
def ndA (n : Nd) (e0 e1 : Int) (e2 : ByteArray) (A : Option Addr) (m c : Nat) (A1 : Option Addr) (c1 : Nat) (A2 : Option Addr) (c2 : Nat) : Array Value := ndV (n.kd : Int) (n.a : Int) (n.b : Int) (bs n.nm) e0 e1 e2 A m c A1 n.ks.length c1 A2 n.ws.length c2
theorem nt_open {w : World} {Q : Nat → Prop} {D : Nat} {n : Nd} {l : List Value} (h : NT w Q (D + 1) n l) : ∃ e0 e1 e2 A m c A1 c1 A2 c2 xs ys, l.toArray = ndA n e0 e1 e2 A m c A1 c1 A2 c2 ∧ NdC w Q D n e0 e1 e2 A m c A1 c1 A2 c2 xs ys := by
  obtain ⟨a, b, s, A, m, c, kv, wv, xs, ys, rfl, h1, h2, h3, h4, h5⟩ := h
  have h2' := h2
  have h4' := h4
  obtain ⟨A1, c1, rfl, -⟩ := h2'
  obtain ⟨A2, c2, rfl, -⟩ := h4'
  exact ⟨a, b, s, A, m, c, A1, c1, A2, c2, xs, ys, rfl, h1, h2, h3, h4, h5⟩
theorem NdC.touch {w w' : World} {Q F : Nat → Prop} {D : Nat} {n : Nd} {e0 e1 : Int} {e2 : ByteArray} {A : Option Addr} {m c : Nat} {A1 : Option Addr} {c1 : Nat} {A2 : Option Addr} {c2 : Nat} {xs ys : List Value} (h : NdC w Q D n e0 e1 e2 A m c A1 c1 A2 c2 xs ys) (t : Touch F w w') (hq : ∀ b, Q b → ¬ F b) : NdC w' Q D n e0 e1 e2 A m c A1 c1 A2 c2 xs ys :=
  ⟨h.ex.far t hq, h.ks.touch t hq, h.kl.mono (NT.touch t hq D), h.ws.touch t hq, h.wl.mono (fun _ _ h => h.touch t hq)⟩
theorem alone_all {cb kb rb db mk md mr : Nat} {k : Int} {ks : List KyG} {dn : List ByteArray} {vs : List Value} {rs : List (ByteArray × Value)} {Q : Nat → Prop} {w : World} {D : Nat} (f : Nat) (n : Nd) {e0 e1 : Int} {e2 : ByteArray} {A : Option Addr} {m c : Nat} {A1 : Option Addr} {c1 : Nat} {A2 : Option Addr} {c2 : Nat} {xs ys : List Value}
    (hc : CkB w cb kb rb db k) (hk : KM w kb mk ks) (hr : RM w vs rb mr rs) (hs : ∀ v ∈ vs, ∃ kd a b s e0 e1 e2 A m c A1 n1 c1 A2 n2 c2, v = .agg (ndV kd a b s e0 e1 e2 A m c A1 n1 c1 A2 n2 c2)) (hd : NM w db md dn) (hn : NdC w Q D n e0 e1 e2 A m c A1 c1 A2 c2 xs ys) (hf : ndFit (f + 1) n = true) :
    Calls Tryz.prog 72 #[.pointer (some ⟨cb, 0, none⟩), .agg (ndA n e0 e1 e2 A m c A1 c1 A2 c2)] w fun e w' => e = .returned (.int .i64 (aloneE ks (rs.map (·.1)) dn n)) ∧ Touch NoB w w' := by
  simp only [ndFit, Bool.and_eq_true, decide_eq_true_eq, Bool.or_eq_true, List.all_eq_true] at hf
  obtain ⟨⟨⟨⟨⟨⟨⟨⟨⟨f1, f2⟩, f3⟩, f4⟩, f5⟩, f6⟩, f7⟩, f8⟩, f9⟩, f10⟩ := hf
  have hnm : (bs n.nm).size ≤ 9223372036854775807 := by rw [bs_size]; omega
  have hm16 : mostL n.kd ≤ 16 := by unfold mostL; split <;> (try split) <;> omega
  unfold ndA aloneE
  by_cases h7 : n.kd = 7
  · rw [if_pos h7, h7]
    exact alone_if _ _ _ _ _ _ _ _ _ _ _ _ _ _ _ n.ex hc hk hn.ex f5
  rw [if_neg h7]
  by_cases h8 : n.kd = 8
  · rw [if_pos h8, h8]
    exact alone_set _ _ _ _ _ _ _ _ _ _ _ _ _ _ _ n.ex hc hk hn.ex f5 hnm
  rw [if_neg h8]
  by_cases h11 : n.kd = 11
  · rw [if_pos h11, h11]
    exact alone_pick _ _ _ _ _ _ _ _ _ _ _ _ _ _ _ n.ws ys hc hk rfl hn.ws hn.wl f6 (by rw [if_pos h11] at f4; omega)
  rw [if_neg h11]
  by_cases h12 : n.kd = 12
  · rw [if_pos h12, h12]
    exact alone_plan _ _ _ _ _ _ _ _ _ _ _ _ _ _ _ hc hd hnm
  rw [if_neg h12]
  by_cases h10 : n.kd = 10
  · rw [if_pos h10, h10]
    exact alone_use _ _ _ _ _ _ _ _ _ _ _ _ _ _ _ hc hr hs hnm
  rw [if_neg h10]
  by_cases h4 : n.kd = 4
  · rw [if_pos h4, h4]
    have h := alone_par (n.a : Int) (n.b : Int) (bs n.nm) e0 e1 e2 A m c A1 n.ks.length c1 A2 n.ws.length c2 (cb := cb) (w := w)
    have e : euE ((decide ((1 : Int) ≤ (n.a : Int)) && decide ((n.a : Int) ≤ (n.ks.length : Int))) && (decide ((1 : Int) ≤ (n.b : Int)) && decide ((n.b : Int) ≤ (n.ks.length : Int)))) 1 = if (decide (1 ≤ n.a ∧ n.a ≤ n.ks.length) && decide (1 ≤ n.b ∧ n.b ≤ n.ks.length)) = true then 0 else 1 := by
      unfold euE
      have e1 : (decide ((1 : Int) ≤ (n.a : Int)) && decide ((n.a : Int) ≤ (n.ks.length : Int))) = decide (1 ≤ n.a ∧ n.a ≤ n.ks.length) := by
        by_cases a1 : 1 ≤ n.a <;> by_cases a2 : n.a ≤ n.ks.length <;> simp [a1, a2] <;> omega
      have e2 : (decide ((1 : Int) ≤ (n.b : Int)) && decide ((n.b : Int) ≤ (n.ks.length : Int))) = decide (1 ≤ n.b ∧ n.b ≤ n.ks.length) := by
        by_cases a1 : 1 ≤ n.b <;> by_cases a2 : n.b ≤ n.ks.length <;> simp [a1, a2] <;> omega
      rw [e1, e2]
    rw [e] at h
    exact h
  rw [if_neg h4]
  by_cases h6 : n.kd = 6
  · rw [if_pos h6, h6]
    have h := alone_rep (n.a : Int) (n.b : Int) (bs n.nm) e0 e1 e2 A m c A1 n.ks.length c1 A2 n.ws.length c2 (cb := cb) (w := w)
    have e : euE (decide ((1 : Int) ≤ (n.a : Int)) && decide ((n.a : Int) ≤ 1000)) 1 = if decide (1 ≤ n.a ∧ n.a ≤ 1000) = true then 0 else 1 := by
      unfold euE
      have e1 : (decide ((1 : Int) ≤ (n.a : Int)) && decide ((n.a : Int) ≤ 1000)) = decide (1 ≤ n.a ∧ n.a ≤ 1000) := by
        by_cases a1 : 1 ≤ n.a <;> by_cases a2 : n.a ≤ 1000 <;> simp [a1, a2] <;> omega
      rw [e1]
    rw [e] at h
    exact h
  rw [if_neg h6]
  exact alone_else _ _ _ _ _ _ _ _ _ _ _ _ _ _ _ n.kd (by omega)
end Go.Proofs.YtnphaaahdlkmhaaGreat
end
