/-
  Lists of keys: the place of a name, the document's own FindKey; package check's kindsOf. Conditions: those that each theorem names.
-/
import Derived.Test.YtnphaaahdlkmhaaGreatZs1
import Derived.Test.YtnphaaahdlkmhaaGreatZs3
import Derived.Maps.OwnSet
import Derived.Carry
section
namespace Go.Proofs.YtnphaaahdlkmhaaGreat
open Go.ChangeShapes Go.WideShapes Go.ChangeAt Go.RowKit Go.Deep Go.Maps
set_option maxRecDepth 100000
set_option maxHeartbeats 4000000

/-- A key: its name, its kind, is it shared? -/
structure KyG where
  nm : ByteArray
  kd : Int
  sh : Bool
/-- Are two strings one? -/
def eqG (a b : ByteArray) : Bool := a.data.toList == b.data.toList
theorem eqG_list (a b : ByteArray) : (a.toList == b.toList) = eqG a b := by unfold eqG; rw [ByteArray.toList_eq, ByteArray.toList_eq]
/-- A list of keys lies at A, in no block of F; each name is of a string's length. -/
def KAtG (w : World) (F : Nat → Prop) (A : Option Addr) (l : List KyG) : Prop :=
  ∀ (j : Nat) (k : KyG), l[j]? = some k → k.nm.size ≤ 9223372036854775807 ∧ ∃ b off, A = some ⟨b, off, none⟩ ∧ b < w.heap.size ∧ ¬ F b ∧ w.cell? ⟨b, off + j * 3, none⟩ = some (.string k.nm) ∧ w.cell? ⟨b, off + j * 3 + 1, none⟩ = some (.int .i64 k.kd) ∧ w.cell? ⟨b, off + j * 3 + 2, none⟩ = some (.bool k.sh)
theorem KAtG.touch {w w' : World} {F : Nat → Prop} {A : Option Addr} {l : List KyG} (h : KAtG w F A l) (t : Touch F w w') : KAtG w' F A l := by
  intro j k hj
  obtain ⟨hs, b, off, rfl, hb, hf, h1, h2, h3⟩ := h j k hj
  exact ⟨hs, b, off, rfl, Nat.lt_of_lt_of_le hb t.size, hf, (t.cell (p := ⟨b, off + j * 3, none⟩) hb hf).trans h1, (t.cell (p := ⟨b, off + j * 3 + 1, none⟩) hb hf).trans h2, (t.cell (p := ⟨b, off + j * 3 + 2, none⟩) hb hf).trans h3⟩
theorem KAtG.more {w : World} {F G : Nat → Prop} {A : Option Addr} {l : List KyG} (h : KAtG w F A l) (d : ∀ b, G b → F b) : KAtG w G A l := by
  intro j k hj
  obtain ⟨hs, b, off, e, hb, hf, h1, h2, h3⟩ := h j k hj
  exact ⟨hs, b, off, e, hb, fun x => hf (d b x), h1, h2, h3⟩
theorem KAtG.take {w : World} {F : Nat → Prop} {A : Option Addr} {l : List KyG} (h : KAtG w F A l) (n : Nat) : KAtG w F A (l.take n) := by
  intro j k hj
  rw [List.getElem?_take] at hj
  split at hj
  · exact h j k hj
  · cases hj

section
variable {H : Type} {enc : TypeId × Value → H} {w : World} {base : Nat} {held : Bool} {fuel : Nat}
end


/-- The kind of the first key of a name. -/
def kdG : List KyG → ByteArray → Option Int
  | [], _ => none
  | k :: r, s => if eqG k.nm s = true then some k.kd else kdG r s
theorem kdG_snoc : ∀ (l : List KyG) (k : KyG) (s : ByteArray), kdG (l ++ [k]) s = match kdG l s with | some x => some x | none => if eqG k.nm s = true then some k.kd else none
  | [], k, s => rfl
  | x :: r, k, s => by
    show (if eqG x.nm s = true then some x.kd else kdG (r ++ [k]) s) = _
    rw [kdG_snoc r k s, show kdG (x :: r) s = if eqG x.nm s = true then some x.kd else kdG r s from rfl]
    split <;> rfl
theorem eqG_iff {a b : ByteArray} : eqG a b = true ↔ a = b := by
  unfold eqG
  constructor
  · intro h
    have h1 : a.data.toList = b.data.toList := by simpa using h
    cases a; cases b
    congr
    exact Array.toList_inj.1 h1
  · rintro rfl; simp
/-- The key of a name in a map. -/
def klS (s : ByteArray) : Lit := .string s.data.toList
theorem klS_ne {a b : ByteArray} (h : eqG a b = false) : klS b ≠ klS a := by
  intro e
  unfold klS at e
  injection e with e
  have : eqG a b = true := by unfold eqG; rw [e]; simp
  rw [h] at this; cases this
theorem key_str {s : ByteArray} (h : s.size ≤ 9223372036854775807) : keyOf Tryz.prog 9 (.string s) = some (klS s) := WideMaps.keyOf_string_mk Tryz.underlying9 (by unfold maxLen; omega)
theorem lawStr : Keyed Tryz.prog 9 := string_keyed Tryz.underlying9
theorem zeroG (w : World) : (zeroValue 3).run Tryz.prog w = .ok (.int .i64 0) w := by kernel_rfl
def zdG : DataW Unit := .lit (.int .i64 0)
theorem zdG_int : plainElem (H := Unit) Tryz.prog 3 (.int .i64 0) = some (zdG, []) := plainElem_int Tryz.underlying3 (by decide)
/-- The map at block mb tells the kinds of the keys l. -/
def KM (w : World) (mb n : Nat) (l : List KyG) : Prop := ∃ D : DataW Unit, w.ownsMap Tryz.prog 9 (plainElem Tryz.prog 3) mb n D ∧ ∀ s : ByteArray, Maps.has D (klS s) = (kdG l s).isSome ∧ ∀ k, kdG l s = some k → D.atKey (klS s) zdG = .lit (.int .i64 k)
theorem KM.touch {w w' : World} {mb n : Nat} {l : List KyG} {F : Nat → Prop} (h : KM w mb n l) (t : Touch F w w') (hf : ¬ F mb) : KM w' mb n l := by
  obtain ⟨D, ⟨es, clock, hb, r⟩, r2⟩ := h
  exact ⟨D, ⟨es, clock, (t.block mb (blk_lt hb) hf).trans hb, r⟩, r2⟩
theorem KM.made (w : World) : KM (w.alloc (.map #[] 0)) w.heap.size 0 [] := ⟨.map [], World.ownsMap_made _ _ _ _, fun s => ⟨rfl, fun k h => by cases h⟩⟩
theorem KM.lt {w : World} {mb n : Nat} {l : List KyG} (h : KM w mb n l) : mb < w.heap.size := by obtain ⟨D, h, _⟩ := h; exact h.lt
/-- A look-up. -/
theorem KM.look {w : World} {mb n : Nat} {l : List KyG} (h : KM w mb n l) {s : ByteArray} (hs : s.size ≤ 9223372036854775807) :
    ∃ c : Int, (Instr.lookup 74 (.map (some mb)) (.string s) true).run Tryz.prog w = .ok (.tuple #[.int .i64 c, .bool (kdG l s).isSome]) w ∧ ∀ k, kdG l s = some k → c = k := by
  obtain ⟨D, hown, hD⟩ := h
  obtain ⟨v, ps, hrun, hv⟩ := hown.look_ok lawStr Tryz.underlying74 (zeroG w) zdG_int (key_str hs)
  obtain ⟨c, rfl, hc, -⟩ := plainElem_int_inv Tryz.underlying3 hv
  refine ⟨c, by rw [← (hD s).1]; exact hrun, fun k hk => ?_⟩
  have h1 := congrArg Prod.fst hc
  rw [(hD s).2 k hk] at h1
  simp at h1
  exact h1.symm
/-- A store of a name that is not there. -/
theorem KM.store {w : World} {mb n : Nat} {l : List KyG} (h : KM w mb n l) (hn : n < 9223372036854775807) {k : KyG} (hs : k.nm.size ≤ 9223372036854775807) (hk : W64 k.kd) (hno : kdG l k.nm = none) :
    ∃ w', (Instr.mapUpdate 74 (.map (some mb)) (.string k.nm) (.int .i64 k.kd)).run Tryz.prog w = .ok () w' ∧ KM w' mb (n + 1) (l ++ [k]) ∧ Touch (fun b => b = mb) w w' := by
  obtain ⟨D, hown, hD⟩ := h
  obtain ⟨w', hrun, hown', ht⟩ := hown.store lawStr Tryz.underlying74 (by unfold maxLen; omega) (key_str hs) (plainElem_int Tryz.underlying3 (w64_wf hk))
  have hmp := hown.isMap
  have hkl : WideAt.IsKeyLit (klS k.nm) := lawStr.key (key_str hs)
  refine ⟨w', hrun, ⟨_, hown', fun s => ?_⟩, (Touch.refl _ _).grown ht.grown (fun b e => by cases e; exact .inl rfl)⟩
  rw [kdG_snoc]
  cases he : eqG k.nm s with
  | true =>
    have e := eqG_iff.1 he
    subst e
    rw [hno]
    exact ⟨has_put_same hmp hkl _, fun x hx => by simp at hx; subst hx; exact atKey_put_same hmp hkl _ _⟩
  | false =>
    rw [has_put_other (klS_ne he), atKey_put_other (klS_ne he), (hD s).1]
    cases hx : kdG l s with
    | none => exact ⟨rfl, fun x hx => by simp at hx⟩
    | some y => exact ⟨rfl, fun x h2 => by simp at h2; subst h2; exact (hD s).2 _ hx⟩
theorem KM.same {w : World} {mb n m : Nat} {l l' : List KyG} (h : KM w mb n l) (hm : n ≤ m) (he : ∀ s, kdG l' s = kdG l s) : KM w mb m l' := by
  obtain ⟨D, hown, hD⟩ := h
  exact ⟨D, hown.mono hm, fun s => by rw [he s]; exact hD s⟩
end Go.Proofs.YtnphaaahdlkmhaaGreat
end
/-
  What package check's kindsOf returns. Conditions: those that each theorem names.
-/
section
namespace Go.Proofs.YtnphaaahdlkmhaaGreat
open Go.ChangeShapes Go.WideShapes Go.ChangeAt Go.RowKit Go.Maps
set_option maxRecDepth 100000
set_option maxHeartbeats 4000000

def KoRel (B n : Nat) (l : List KyG) (w : World) (v11 : Value) (wr : World) : Prop := ∃ i : Nat, i ≤ n ∧ v11 = .int .i64 i ∧ KM wr B i (l.take i) ∧ Touch NoB w wr
theorem kindsof_any (A : Option Addr) (n cap : Nat) (l : List KyG) (w : World) (hn : l.length = n) (hn2 : n ≤ 1000000) (h : KAtG w NoB A l) (hw : ∀ k ∈ l, W64 k.kd) :
    Calls Tryz.prog 22 #[.slice A n cap] w fun e w' => e = .returned (.map (some w.heap.size)) ∧ KM w' w.heap.size n l ∧ Touch NoB w w' := by
  have hmm := @run_makeMap Tryz.prog
  have HK := Lib.hid (And.intro h (And.intro hn hw))
  clear h hn hw
  go_enter Tryz.func22, Tryz.ntmps22
  go_wp2
  go_loopw [11] (fun v11 wr => KoRel w.heap.size n l w v11 wr) (fun v11 _ => n - (intOf v11).toNat)
  case atStart => exact ⟨0, Nat.zero_le _, rfl, KM.made w, (Touch.refl _ _).alloc _⟩
  case round =>
    obtain ⟨i, hi, rfl, hm, hT⟩ := hrel
    by_cases hlt : i < n
    · obtain ⟨k, hk⟩ : ∃ k, l[i]? = some k := ⟨l[i]'(by have := HK.out.2.1; omega), List.getElem?_eq_getElem _⟩
      have hkl := (List.getElem?_eq_some_iff.1 hk)
      have hw64 := HK.out.2.2 k (List.mem_of_getElem? hk)
      have htk : l.take (i + 1) = l.take i ++ [k] := by rw [List.take_add_one, hk]; rfl
      obtain ⟨hsz, b, off, rfl, hb, -, c0, c1, c2⟩ := (HK.out.1.touch hT) i k hk
      obtain ⟨nm, kd, sh⟩ := k
      simp only at hsz c0 c1 c2 hw64
      obtain ⟨W1, hW1⟩ : ∃ W, wr.alloc (.cells #[.string nm, .int .i64 kd, .bool sh] 57) = W := ⟨_, rfl⟩
      have t1 : Touch NoB wr W1 := by rw [← hW1]; exact (Touch.refl _ _).alloc _
      have hbk : W1.heap[wr.heap.size]? = some (.cells #[.string nm, .int .i64 kd, .bool sh] 57 (0, 0)) := by rw [← hW1]; exact alloc_blk _ _ _ rfl
      have q0 := cell_blk hbk 0
      have q1 := cell_blk hbk 1
      have q2 := cell_blk hbk 2
      have q3 := blk_lt hbk
      have hm1 := hm.touch t1 (fun f => f)
      obtain ⟨c, hrun, hc⟩ := hm1.look hsz
      have hB : w.heap.size ≤ w.heap.size := Nat.le_refl _
      have HTW := Lib.hid (hT.same t1)
      cases hf : kdG (l.take i) nm with
      | some x =>
        rw [hf] at hrun
        have HR : Hid (KM W1 w.heap.size (i + 1) (l.take (i + 1))) := Lib.hid (hm1.same (Nat.le_succ _) (fun s => by
          rw [htk, kdG_snoc]
          cases h1 : kdG (l.take i) s with
          | some y => rfl
          | none =>
            have : eqG nm s = false := by
              cases h2 : eqG nm s with
              | false => rfl
              | true => have := eqG_iff.1 h2; subst this; rw [hf] at h1; cases h1
            simp [this]))
        clear hm hm1 hbk htk hkl hk hf hc hT t1 hw64
        go_wp2
        go_roundw
        case rel => exact ⟨i + 1, by omega, by go_num, HR.out, HTW.out⟩
        case measure => simp [intOf]; omega
      | none =>
        rw [hf] at hrun
        obtain ⟨W2, hrun2, hm2, t2⟩ := hm1.store (k := ⟨nm, kd, sh⟩) (by omega) hsz hw64 hf
        rw [← htk] at hm2
        have HR := Lib.hid (And.intro hm2 (HTW.out.trans t2 (fun x hx => .inr (by subst hx; exact Nat.le_refl _))))
        clear hm hm1 hbk htk hkl hk hf hc hT t1 hw64 hm2 t2
        go_wp2
        go_roundw
        case rel => exact ⟨i + 1, by omega, by go_num, HR.out.1, HR.out.2⟩
        case measure => simp [intOf]; omega
    · obtain rfl : i = n := by omega
      have e : l.take i = l := by rw [← HK.out.2.1, List.take_length]
      rw [e] at hm
      have HR := Lib.hid (And.intro hm hT)
      clear hm hT e
      go_wp2
      go_ret
      exact ⟨rfl, HR.out.1, HR.out.2⟩
end Go.Proofs.YtnphaaahdlkmhaaGreat
end
/-
  Package check's small functions: within, inRange, errUnless; its sets of names: has, add; a domain's operand and var. Conditions: those that each theorem names.
-/
section
namespace Go.Proofs.YtnphaaahdlkmhaaGreat
open Go.ChangeShapes Go.WideShapes Go.ChangeAt Go.RowKit Go.Maps
set_option maxRecDepth 100000
set_option maxHeartbeats 4000000

theorem within13_any (n lo hi : Int) (w : World) : Calls Tryz.prog 85 #[.int .i64 n, .int .i64 lo, .int .i64 hi] w fun e w' => e = .returned (.bool (decide (lo ≤ n) && decide (n ≤ hi))) ∧ w = w' := by
  go_enter Tryz.func85, Tryz.ntmps85
  by_cases h1 : lo ≤ n
  · by_cases h2 : n ≤ hi
    · go_wp2
      go_ret
      exact ⟨by simp [h1, h2], rfl⟩
    · go_wp2
      go_ret
      exact ⟨by simp [h2], rfl⟩
  · go_wp2
    go_ret
    exact ⟨by simp; omega, rfl⟩
theorem inrange_any (n : Int) (w : World) : Calls Tryz.prog 84 #[.int .i64 n] w fun e w' => e = .returned (.bool (decide (-100 ≤ n) && decide (n ≤ 100))) ∧ w = w' := by
  have HW := Lib.hid (fun n lo hi w => within13_any n lo hi w)
  go_enter Tryz.func84, Tryz.ntmps84
  go_wp2_with (first | (go_at_call 85; refine (HW.out _ _ _ _).mono ?_; rintro r w2 ⟨rfl, rfl⟩))
  go_ret
  exact ⟨rfl, rfl⟩
theorem errunless_any (b : Bool) (x : Int) (w : World) : Calls Tryz.prog 49 #[.bool b, .int .i64 x] w fun e w' => e = .returned (.int .i64 (if b = true then 0 else x)) ∧ w = w' := by
  go_enter Tryz.func49, Tryz.ntmps49
  cases b
  · go_wp2
    go_ret
    exact ⟨rfl, rfl⟩
  · go_wp2
    go_ret
    exact ⟨rfl, rfl⟩

/-- Is a name among these? -/
def inN (l : List ByteArray) (s : ByteArray) : Bool := l.any fun x => eqG x s
def addNm (l : List ByteArray) (s : ByteArray) : List ByteArray := if inN l s = true then l else l ++ [s]
theorem zeroU (w : World) : (zeroValue 131).run Tryz.prog w = .ok (.agg #[]) w := by kernel_rfl
/-- The set of names at block mb holds l. -/
def NM (w : World) (mb n : Nat) (l : List ByteArray) : Prop := ∃ D : DataW Unit, w.ownsMap Tryz.prog 9 unitElem mb n D ∧ ∀ s : ByteArray, Maps.has D (klS s) = inN l s
theorem NM.touch {w w' : World} {mb n : Nat} {l : List ByteArray} {F : Nat → Prop} (h : NM w mb n l) (t : Touch F w w') (hf : ¬ F mb) : NM w' mb n l := by
  obtain ⟨D, ⟨es, clock, hb, r⟩, r2⟩ := h
  exact ⟨D, ⟨es, clock, (t.block mb (blk_lt hb) hf).trans hb, r⟩, r2⟩
theorem NM.made (w : World) : NM (w.alloc (.map #[] 0)) w.heap.size 0 [] := ⟨.map [], World.ownsMap_made _ _ _ _, fun _ => rfl⟩
theorem NM.lt {w : World} {mb n : Nat} {l : List ByteArray} (h : NM w mb n l) : mb < w.heap.size := by obtain ⟨D, h, _⟩ := h; exact h.lt
theorem NM.more {w : World} {mb n m : Nat} {l : List ByteArray} (h : NM w mb n l) (hm : n ≤ m) : NM w mb m l := by
  obtain ⟨D, hown, hD⟩ := h
  exact ⟨D, hown.mono hm, hD⟩
theorem NM.look {w : World} {mb n : Nat} {l : List ByteArray} (h : NM w mb n l) {s : ByteArray} (hs : s.size ≤ 9223372036854775807) :
    (Instr.lookup 78 (.map (some mb)) (.string s) true).run Tryz.prog w = .ok (.tuple #[.agg #[], .bool (inN l s)]) w := by
  obtain ⟨D, hown, hD⟩ := h
  obtain ⟨v, ps, hrun, hv⟩ := hown.look_ok lawStr Tryz.underlying78 (zeroU w) unitElem_mk (key_str hs)
  obtain ⟨rfl, -⟩ := unitElem_inv hv
  rw [← hD s]
  exact hrun
theorem NM.store {w : World} {mb n : Nat} {l : List ByteArray} (h : NM w mb n l) (hn : n < 9223372036854775807) {s : ByteArray} (hs : s.size ≤ 9223372036854775807) :
    ∃ w', (Instr.mapUpdate 78 (.map (some mb)) (.string s) (.agg #[])).run Tryz.prog w = .ok () w' ∧ NM w' mb (n + 1) (l ++ [s]) ∧ Touch (fun b => b = mb) w w' := by
  obtain ⟨D, hown, hD⟩ := h
  obtain ⟨w', hrun, hown', ht⟩ := hown.store lawStr Tryz.underlying78 (by unfold maxLen; omega) (key_str hs) unitElem_mk
  have hmp := hown.isMap
  have hkl : WideAt.IsKeyLit (klS s) := lawStr.key (key_str hs)
  refine ⟨w', hrun, ⟨_, hown', fun x => ?_⟩, (Touch.refl _ _).grown ht.grown (fun b e => by cases e; exact .inl rfl)⟩
  unfold inN
  rw [List.any_append]
  cases he : eqG s x with
  | true =>
    have e := eqG_iff.1 he
    subst e
    rw [has_put_same hmp hkl _]
    simp [he]
  | false =>
    rw [has_put_other (klS_ne he), hD x]
    simp [he, inN]
theorem has13_any {mb n : Nat} {l : List ByteArray} {s : ByteArray} (w : World) (h : NM w mb n l) (hs : s.size ≤ 9223372036854775807) : Calls Tryz.prog 64 #[.map (some mb), .string s] w fun e w' => e = .returned (.bool (inN l s)) ∧ Touch NoB w w' := by
  have hrun := h.look hs
  clear h
  go_enter Tryz.func64, Tryz.ntmps64
  go_wp2
  go_ret
  exact ⟨rfl, (Touch.refl _ _).alloc _⟩
theorem add13_any {mb n : Nat} {l : List ByteArray} {s : ByteArray} (w : World) (h : NM w mb n l) (hn : n < 9223372036854775807) (hs : s.size ≤ 9223372036854775807) : Calls Tryz.prog 44 #[.map (some mb), .string s] w fun e w' => e = .returned (.bool (!inN l s)) ∧ NM w' mb (n + 1) (addNm l s) ∧ Touch (fun b => b = mb) w w' := by
  have HH := Lib.hid (fun w (h : NM w mb n l) => has13_any (s := s) w h hs)
  have HN := Lib.hid h
  clear h
  obtain ⟨q, hq⟩ : ∃ q, inN l s = q := ⟨_, rfl⟩
  have HQ := Lib.hid hq
  go_enter Tryz.func44, Tryz.ntmps44
  go_wp2_with fail
  refine (HH.out _ HN.out).mono ?_
  rintro r w2 ⟨rfl, hT⟩
  rw [hq]
  have HT := Lib.hid hT
  clear hT hq
  cases q
  · have h2 := HN.out.touch HT.out (fun f => f)
    obtain ⟨w9, hrun, hst, ht⟩ := h2.store hn hs
    have HS := Lib.hid (And.intro hst ht)
    clear h2 hst ht
    go_wp2
    go_ret
    exact ⟨by rw [HQ.out]; rfl, by unfold addNm; rw [HQ.out]; exact HS.out.1, (HT.out.mono (fun b f => f.elim)).same HS.out.2⟩
  · go_wp2
    go_ret
    exact ⟨by rw [HQ.out]; rfl, by unfold addNm; rw [HQ.out]; exact (HN.out.touch HT.out (fun f => f)).more (Nat.le_succ _), HT.out.mono (fun b f => f.elim)⟩
end Go.Proofs.YtnphaaahdlkmhaaGreat
end
/-
  Package check, a domain's operand, cond and var. Conditions: those that each theorem names.
-/
section
namespace Go.Proofs.YtnphaaahdlkmhaaGreat
open Go.ChangeShapes Go.WideShapes Go.ChangeAt Go.RowKit Go.Maps
set_option maxRecDepth 100000
set_option maxHeartbeats 4000000

def rangeB (n : Int) : Bool := decide (-100 ≤ n) && decide (n ≤ 100)
/-- What errUnless returns. -/
def euE (b : Bool) (x : Int) : Int := if b = true then 0 else x
theorem rng_any (n : Int) (w : World) : Calls Tryz.prog 84 #[.int .i64 n] w fun e w' => e = .returned (.bool (rangeB n)) ∧ w = w' := inrange_any n w
theorem eu_any (b : Bool) (x : Int) (w : World) : Calls Tryz.prog 49 #[.bool b, .int .i64 x] w fun e w' => e = .returned (.int .i64 (euE b x)) ∧ w = w' := errunless_any b x w
/-- A condition or a make: 5 where there is no such var, 1 where the number is out of range. -/
def opE (vs : List ByteArray) (s : ByteArray) (n : Int) : Int := if inN vs s = true then euE (rangeB n) 1 else 5
def elV (kb vb ab : Nat) : Value := .agg #[.map (some kb), .map (some vb), .map (some ab)]
theorem operand_any {kb vb ab m : Nat} {vs : List ByteArray} {s : ByteArray} (n : Int) (w : World) (h : NM w vb m vs) (hs : s.size ≤ 9223372036854775807) :
    Calls Tryz.prog 88 #[elV kb vb ab, .string s, .int .i64 n] w fun e w' => e = .returned (.int .i64 (opE vs s n)) ∧ Touch NoB w w' := by
  have HH := Lib.hid (has13_any (s := s) (l := vs) (n := m) (mb := vb))
  have HN := Lib.hid h
  have HR := Lib.hid (fun n w => rng_any n w)
  have HE := Lib.hid (fun b x w => eu_any b x w)
  clear h
  obtain ⟨q, hq⟩ : ∃ q, inN vs s = q := ⟨_, rfl⟩
  have HQ := Lib.hid hq
  unfold elV
  go_enter Tryz.func88, Tryz.ntmps88
  go_wp2_with fail
  refine (HH.out _ (HN.out.touch (F := NoB) (by repeat (first | with_reducible exact Touch.refl NoB _ | with_reducible refine Touch.drew ?_ | with_reducible refine Touch.alloc ?_ _)) (fun f => f)) hs).mono ?_
  rintro r w2 ⟨rfl, hT⟩
  rw [hq]
  have HT := Lib.hid (Touch.same (F := NoB) (a := w) (by repeat (first | with_reducible exact Touch.refl NoB _ | with_reducible refine Touch.drew ?_ | with_reducible refine Touch.alloc ?_ _)) hT)
  clear hT hq
  cases q
  · go_wp2
    go_ret
    exact ⟨by unfold opE; rw [HQ.out]; rfl, HT.out⟩
  · go_wp2_with (first | (go_at_call 84; refine (HR.out _ _).mono ?_; rintro r w2 ⟨rfl, rfl⟩) | (go_at_call 49; refine (HE.out _ _ _).mono ?_; rintro r w2 ⟨rfl, rfl⟩))
    go_ret
    exact ⟨by unfold opE; rw [HQ.out]; rfl, HT.out.same (by repeat (first | with_reducible exact Touch.refl NoB _ | with_reducible refine Touch.drew ?_ | with_reducible refine Touch.alloc ?_ _))⟩
end Go.Proofs.YtnphaaahdlkmhaaGreat
end
/-
  Package check, a domain's cond and var. Conditions: those that each theorem names.
-/
section
namespace Go.Proofs.YtnphaaahdlkmhaaGreat
open Go.ChangeShapes Go.WideShapes Go.ChangeAt Go.RowKit Go.Maps
set_option maxRecDepth 100000
set_option maxHeartbeats 4000000

def cond13V (s : ByteArray) (o n : Int) : Value := .agg #[.string s, .int .i64 o, .int .i64 n]
theorem ccond_any {kb vb ab m : Nat} {vs : List ByteArray} {s : ByteArray} (o n : Int) (w : World) (h : NM w vb m vs) (hs : s.size ≤ 9223372036854775807) :
    Calls Tryz.prog 70 #[elV kb vb ab, cond13V s o n] w fun e w' => e = .returned (.int .i64 (opE vs s n)) ∧ Touch NoB w w' := by
  have HO := Lib.hid (fun w (h : NM w vb m vs) => operand_any (kb := kb) (ab := ab) n w h hs)
  have HN := Lib.hid h
  clear h
  unfold elV at HO ⊢
  unfold cond13V
  go_enter Tryz.func70, Tryz.ntmps70
  go_wp2_with fail
  refine (HO.out _ (HN.out.touch (F := NoB) (by repeat (first | with_reducible exact Touch.refl NoB _ | with_reducible refine Touch.drew ?_ | with_reducible refine Touch.alloc ?_ _)) (fun f => f))).mono ?_
  rintro r w2 ⟨rfl, hT⟩
  have HT := Lib.hid (Touch.same (F := NoB) (a := w) (by repeat (first | with_reducible exact Touch.refl NoB _ | with_reducible refine Touch.drew ?_ | with_reducible refine Touch.alloc ?_ _)) hT)
  clear hT
  go_wp2
  go_ret
  exact ⟨rfl, HT.out⟩
/-- A var: 6 where its name is there already, 1 where its bounds are wrong, 5 where there is no such key, 7 where the key isn't of ints. -/
def varE (ks : List KyG) (vs : List ByteArray) (s : ByteArray) (lo hi : Int) : Int :=
  if inN vs s = true then 6 else if hi < lo then 1 else if rangeB lo = false then 1 else if rangeB hi = false then 1 else match kdG ks s with | none => 5 | some k => euE (decide (k = 0)) 7
def var13V (s : ByteArray) (lo hi : Int) : Value := .agg #[.string s, .int .i64 lo, .int .i64 hi]
theorem cvar_any {kb vb ab m mk : Nat} {ks : List KyG} {vs : List ByteArray} {s : ByteArray} (lo hi : Int) (w : World) (hk : KM w kb mk ks) (h : NM w vb m vs) (hne : kb ≠ vb) (hm : m < 9223372036854775807) (hs : s.size ≤ 9223372036854775807) :
    Calls Tryz.prog 66 #[elV kb vb ab, var13V s lo hi] w fun e w' => e = .returned (.int .i64 (varE ks vs s lo hi)) ∧ NM w' vb (m + 1) (addNm vs s) ∧ Touch (fun b => b = vb) w w' := by
  have HA := Lib.hid (fun w (h : NM w vb m vs) => add13_any (s := s) w h hm hs)
  have HN := Lib.hid (And.intro h hk)
  have HE := Lib.hid (fun b x w => eu_any b x w)
  clear h hk
  obtain ⟨r1, hr1⟩ : ∃ r1, rangeB lo = r1 := ⟨_, rfl⟩
  obtain ⟨r2, hr2⟩ : ∃ r2, rangeB hi = r2 := ⟨_, rfl⟩
  have HL := Lib.hid (fun w => hr1 ▸ rng_any lo w)
  have HH := Lib.hid (fun w => hr2 ▸ rng_any hi w)
  have HV : Hid (varE ks vs s lo hi = if inN vs s = true then 6 else if hi < lo then 1 else if r1 = false then 1 else if r2 = false then 1 else match kdG ks s with | none => 5 | some k => euE (decide (k = 0)) 7) := Lib.hid (by rw [← hr1, ← hr2]; rfl)
  obtain ⟨rv, hrv⟩ : ∃ rv, varE ks vs s lo hi = rv := ⟨_, rfl⟩
  rw [hrv] at HV ⊢
  clear hr1 hr2 hrv
  obtain ⟨q, hq⟩ : ∃ q, inN vs s = q := ⟨_, rfl⟩
  rw [hq] at HV
  unfold elV var13V
  go_enter Tryz.func66, Tryz.ntmps66
  go_wp2_with fail
  refine (HA.out _ (HN.out.1.touch (F := NoB) (by repeat (first | with_reducible exact Touch.refl NoB _ | with_reducible refine Touch.drew ?_ | with_reducible refine Touch.alloc ?_ _)) (fun f => f))).mono ?_
  rintro r w2 ⟨rfl, hN2, hT⟩
  rw [hq]
  have hvb := HN.out.1.lt
  have hb0 := (hT.block w.heap.size (by simp only [World.size_alloc]; omega) (by omega)).trans ((((Touch.refl NoB _).alloc _).block w.heap.size (by simp only [World.size_alloc]; omega) (fun f => f)).trans (alloc_blk w #[.map (some kb), .map (some vb), .map (some ab)] 110 rfl))
  have hb1 := (hT.block (w.heap.size + 1) (by simp only [World.size_alloc]; omega) (by omega)).trans (alloc_blk _ #[.string s, .int .i64 lo, .int .i64 hi] 92 (by simp only [World.size_alloc]))
  have a0 := cell_blk hb0 0
  have a1 := cell_blk hb0 1
  have a2 := cell_blk hb0 2
  have a3 := blk_lt hb0
  have b0 := cell_blk hb1 0
  have b1 := cell_blk hb1 1
  have b2 := cell_blk hb1 2
  have b3 := blk_lt hb1
  have t1 : Touch (fun b => b = vb) w ((w.alloc (.cells #[.map (some kb), .map (some vb), .map (some ab)] 110)).alloc (.cells #[.string s, .int .i64 lo, .int .i64 hi] 92)) := by repeat (first | with_reducible exact Touch.refl _ _ | with_reducible refine Touch.drew ?_ | with_reducible refine Touch.alloc ?_ _)
  have hk2 := (HN.out.2.touch (t1.same hT) (by omega))
  have HT := Lib.hid (And.intro hN2 (t1.same hT))
  clear hN2 hT t1 hb0 hb1 hq
  cases q
  · by_cases hl : hi < lo
    · have HX := Lib.hid hl
      go_wp2_with fail
      go_ret
      exact ⟨by rw [HV.out, if_neg (by decide), if_pos HX.out]; rfl, HT.out⟩
    · have HX := Lib.hid hl
      cases r1
      · go_wp2_with (first | (go_at_call 84; refine (HL.out _).mono ?_; rintro r w3 ⟨rfl, rfl⟩))
        go_ret
        exact ⟨by rw [HV.out, if_neg (by decide), if_neg (Int.not_lt.2 HX.out)]; rfl, HT.out⟩
      · cases r2
        · go_wp2_with (first | (go_at_call 84; first | (refine (HL.out _).mono ?_; rintro r w3 ⟨rfl, rfl⟩) | (refine (HH.out _).mono ?_; rintro r w3 ⟨rfl, rfl⟩)))
          go_ret
          exact ⟨by rw [HV.out, if_neg (by decide), if_neg (Int.not_lt.2 HX.out)]; rfl, HT.out⟩
        · obtain ⟨c, hrun, hc⟩ := hk2.look hs
          clear hk2
          cases hf : kdG ks s with
          | none =>
            rw [hf] at hrun HV
            clear hf hc
            go_wp2_with (first | (go_at_call 84; first | (refine (HL.out _).mono ?_; rintro r w3 ⟨rfl, rfl⟩) | (refine (HH.out _).mono ?_; rintro r w3 ⟨rfl, rfl⟩)))
            go_ret
            exact ⟨by rw [HV.out, if_neg (by decide), if_neg (Int.not_lt.2 HX.out)]; rfl, HT.out⟩
          | some k =>
            have hck := hc k hf
            subst hck
            rw [hf] at hrun HV
            clear hf hc
            go_wp2_with (first | (go_at_call 84; first | (refine (HL.out _).mono ?_; rintro r w3 ⟨rfl, rfl⟩) | (refine (HH.out _).mono ?_; rintro r w3 ⟨rfl, rfl⟩)) | (go_at_call 49; refine (HE.out _ _ _).mono ?_; rintro r w3 ⟨rfl, rfl⟩))
            go_ret
            exact ⟨by rw [HV.out, if_neg (by decide), if_neg (Int.not_lt.2 HX.out)]; rfl, HT.out⟩
  · go_wp2
    go_ret
    exact ⟨by rw [HV.out]; rfl, HT.out⟩
end Go.Proofs.YtnphaaahdlkmhaaGreat
end
/-
  A parser of expressions over lists of tokens, told by plain recursion: expressions of at most two Kids, their depth, what may stand where. No program is named here; no condition beyond those that each theorem names.
-/
section
namespace Go.Proofs.YtnphaaahdlkmhaaGreat

/-- Expressions that have at most two Kids. -/
inductive Ex where
  | leaf (k n : Int) (s : Bs)
  | one (k : Int) (x : Ex)
  | two (k : Int) (x y : Ex)
def Ex.depth : Ex → Nat
  | .leaf _ _ _ => 1
  | .one _ x => x.depth + 1
  | .two _ x y => max x.depth y.depth + 1
def Ex.same : Ex → Ex → Bool
  | .leaf k n s, .leaf k' n' s' => decide (k = k') && decide (n = n') && decide (s = s')
  | .one k x, .one k' x' => decide (k = k') && x.same x'
  | .two k x y, .two k' x' y' => decide (k = k') && x.same x' && y.same y'
  | _, _ => false
/-- What stands at a place: an expression and the place behind it, or an error and its place. -/
inductive Rs where
  | ok (x : Ex) (k : Nat)
  | er (e k : Nat)
/-- Does this word or sign stand at place k? -/
def sg (ts : List Tk) (k : Nat) (s : Bs) : Bool := match ts[k]? with
  | none => false
  | some t => (t.kd == 2 || t.kd == 4) && t.tx == s
/-- The operator of a level that stands at place k. -/
def opk (ts : List Tk) (lv k : Nat) : Option Int := match lv with
  | 0 => if sg ts k [111, 114] = true then some 13 else none
  | 1 => if sg ts k [97, 110, 100] = true then some 12 else none
  | 2 => if sg ts k [61, 61] = true then some 10 else if sg ts k [60] = true then some 11 else none
  | 3 => if sg ts k [43] = true then some 6 else if sg ts k [45] = true then some 7 else none
  | _ => if sg ts k [42] = true then some 8 else if sg ts k [47] = true then some 9 else none
/-- The word of one operand that stands at place k. -/
def prek (ts : List Tk) (k : Nat) : Option Int :=
  if sg ts k [110, 111, 116] = true then some 14 else if sg ts k [114, 101] = true then some 16 else if sg ts k [105, 109] = true then some 17 else if sg ts k [116, 117, 114, 110] = true then some 18 else none
def numAt (ts : List Tk) (k : Nat) : Option Nat := match ts[k]? with
  | none => none
  | some t => if t.kd = 3 then some t.n else none
def nameAt (ts : List Tk) (k : Nat) : Option Bs := match ts[k]? with
  | none => none
  | some t => if t.kd = 1 then some t.tx else none
/-- An expression formed at place k. -/
def mk (x : Ex) (k : Nat) : Rs := if 40 < x.depth then .er 4 k else .ok x k
def loopL (ts : List Tk) (lv : Nat) (sub : Nat → Rs) : Nat → Ex → Nat → Rs
  | 0, x, k => .ok x k
  | f + 1, x, k => match opk ts lv k with
    | none => .ok x k
    | some kd => match sub (k + 1) with
      | .er e j => .er e j
      | .ok y j => match mk (.two kd x y) j with
        | .er e i => .er e i
        | .ok z i => if lv = 2 then .ok z i else loopL ts lv sub f z i
/-- j levels, the strongest j of them, over singles. -/
def binL (ts : List Tk) (u : Nat → Rs) : Nat → Nat → Rs
  | 0, k => u k
  | j + 1, k => match binL ts u j k with
    | .er e i => .er e i
    | .ok x i => loopL ts (4 - j) (binL ts u j) (ts.length - i) x i
def pairL (ts : List Tk) (E : Nat → Rs) (kd : Int) (x : Ex) (j : Nat) : Rs :=
  if sg ts j [44] = true then match E (j + 1) with
    | .er e i => .er e i
    | .ok y i => if sg ts i [41] = true then mk (.two kd x y) (i + 1) else .er 2 i
  else .er 2 j
def primL (ts : List Tk) (E : Nat → Rs) (k : Nat) : Rs :=
  match numAt ts k with
  | some n => .ok (.leaf 0 n []) (k + 1)
  | none => match nameAt ts k with
    | some s => .ok (.leaf 2 0 s) (k + 1)
    | none =>
      if sg ts k [39] = true then match nameAt ts (k + 1) with
        | some s => .ok (.leaf 3 0 s) (k + 2)
        | none => .er 2 (k + 1)
      else if sg ts k [116, 114, 117, 101] = true then .ok (.leaf 1 1 []) (k + 1)
      else if sg ts k [102, 97, 108, 115, 101] = true then .ok (.leaf 1 0 []) (k + 1)
      else if sg ts k [115, 101, 108, 102] = true then .ok (.leaf 4 0 []) (k + 1)
      else if sg ts k [116, 105, 109, 101] = true then .ok (.leaf 5 0 []) (k + 1)
      else if sg ts k [40] = true then match E (k + 1) with
        | .er e i => .er e i
        | .ok x i => if sg ts i [41] = true then .ok x (i + 1) else pairL ts E 15 x i
      else if sg ts k [102, 97, 114] = true then
        if sg ts (k + 1) [40] = true then match E (k + 2) with
          | .er e i => .er e i
          | .ok x i => pairL ts E 19 x i
        else .er 2 (k + 1)
      else .er 2 k
/-- A single with m levels of nesting left. -/
def unaL (ts : List Tk) : Nat → Nat → Rs
  | 0, k => .er 4 k
  | m + 1, k => match prek ts k with
    | some kd => match unaL ts m (k + 1) with
      | .er e i => .er e i
      | .ok x i => mk (.one kd x) i
    | none => if sg ts k [45] = true then match numAt ts (k + 1) with
        | some n => .ok (.leaf 0 (-(n : Int)) []) (k + 2)
        | none => .er 2 (k + 1)
      else primL ts (binL ts (unaL ts m) 5) k
/-- An expression from place k on. -/
def parL (ts : List Tk) (k : Nat) : Rs := if k < ts.length then binL ts (unaL ts 40) 5 k else .er 2 ts.length

/-! ### places go on, and stay within the tokens -/
def Rs.fwd (n k : Nat) : Rs → Prop
  | .ok _ j => k < j ∧ j ≤ n
  | .er e j => k ≤ j ∧ j ≤ n ∧ (e = 2 ∨ e = 4)
theorem sg_lt {ts : List Tk} {k : Nat} {s : Bs} (h : sg ts k s = true) : k < ts.length := by
  unfold sg at h
  split at h
  · cases h
  · rename_i t ht; exact (List.getElem?_eq_some_iff.1 ht).1
theorem opk_lt {ts : List Tk} {lv k : Nat} {c : Int} (h : opk ts lv k = some c) : k < ts.length := by
  unfold opk at h
  split at h <;> repeat' split at h
  all_goals first | (cases h; done) | (rename_i h0; exact sg_lt h0) | skip
theorem prek_lt {ts : List Tk} {k : Nat} {c : Int} (h : prek ts k = some c) : k < ts.length := by
  unfold prek at h
  repeat' split at h
  all_goals first | (cases h; done) | (rename_i h0; exact sg_lt h0) | skip
theorem num_lt {ts : List Tk} {k n : Nat} (h : numAt ts k = some n) : k < ts.length := by
  unfold numAt at h
  split at h
  · cases h
  · rename_i t ht; exact (List.getElem?_eq_some_iff.1 ht).1
theorem nam_lt {ts : List Tk} {k : Nat} {s : Bs} (h : nameAt ts k = some s) : k < ts.length := by
  unfold nameAt at h
  split at h
  · cases h
  · rename_i t ht; exact (List.getElem?_eq_some_iff.1 ht).1
theorem mk_fwd {n k : Nat} {x : Ex} {j : Nat} (h1 : k < j) (h2 : j ≤ n) : (mk x j).fwd n k := by
  unfold mk
  split
  · exact ⟨by omega, h2, .inr rfl⟩
  · exact ⟨h1, h2⟩
theorem loop_fwd {ts : List Tk} {lv : Nat} {sub : Nat → Rs} (hs : ∀ k, k ≤ ts.length → (sub k).fwd ts.length k) : ∀ (f : Nat) (x : Ex) (k k0 : Nat), k0 < k → k ≤ ts.length → (loopL ts lv sub f x k).fwd ts.length k0
  | 0, x, k, k0, h0, h1 => ⟨h0, h1⟩
  | f + 1, x, k, k0, h0, h1 => by
    unfold loopL
    cases ho : opk ts lv k with
    | none => exact ⟨h0, h1⟩
    | some kd =>
      have hlt := opk_lt ho
      have h2 := hs (k + 1) (by omega)
      simp only
      cases hr : sub (k + 1) with
      | er e j => rw [hr] at h2; exact ⟨by have := h2.1; omega, h2.2⟩
      | ok y j =>
        rw [hr] at h2
        simp only
        have h3 := mk_fwd (n := ts.length) (k := k0) (x := .two kd x y) (j := j) (by have := h2.1; omega) h2.2
        cases hm : mk (.two kd x y) j with
        | er e i => rw [hm] at h3; exact h3
        | ok z i =>
          rw [hm] at h3
          simp only
          split
          · exact h3
          · exact loop_fwd hs f z i k0 h3.1 h3.2
theorem bin_fwd {ts : List Tk} {u : Nat → Rs} (hu : ∀ k, k ≤ ts.length → (u k).fwd ts.length k) : ∀ (j k : Nat), k ≤ ts.length → (binL ts u j k).fwd ts.length k
  | 0, k, h => hu k h
  | j + 1, k, h => by
    unfold binL
    have ih := bin_fwd hu j
    have h2 := ih k h
    cases hr : binL ts u j k with
    | er e i => rw [hr] at h2; exact h2
    | ok x i => rw [hr] at h2; exact loop_fwd ih _ x i k h2.1 h2.2
theorem pair_fwd {ts : List Tk} {E : Nat → Rs} (hE : ∀ k, k ≤ ts.length → (E k).fwd ts.length k) (kd : Int) (x : Ex) (j k0 : Nat) (h0 : k0 < j) (h1 : j ≤ ts.length) : (pairL ts E kd x j).fwd ts.length k0 := by
  unfold pairL
  split
  · rename_i hc
    have hlt := sg_lt hc
    have h2 := hE (j + 1) (by omega)
    cases hr : E (j + 1) with
    | er e i => rw [hr] at h2; exact ⟨by have := h2.1; omega, h2.2⟩
    | ok y i =>
      rw [hr] at h2
      simp only
      split
      · rename_i hd
        have := sg_lt hd
        exact mk_fwd (by have := h2.1; omega) (by omega)
      · exact ⟨by have := h2.1; omega, h2.2, .inl rfl⟩
  · exact ⟨by omega, h1, .inl rfl⟩
theorem prim_fwd {ts : List Tk} {E : Nat → Rs} (hE : ∀ k, k ≤ ts.length → (E k).fwd ts.length k) (k : Nat) (h : k ≤ ts.length) : (primL ts E k).fwd ts.length k := by
  unfold primL
  cases hn : numAt ts k with
  | some n => have := num_lt hn; exact ⟨by omega, by omega⟩
  | none =>
    simp only
    cases hs : nameAt ts k with
    | some s => have := nam_lt hs; exact ⟨by omega, by omega⟩
    | none =>
      simp only
      split
      · rename_i h0
        have := sg_lt h0
        cases hb : nameAt ts (k + 1) with
        | some s => have := nam_lt hb; exact ⟨by omega, by omega⟩
        | none => exact ⟨by omega, by omega, .inl rfl⟩
      · split
        · rename_i h0; have := sg_lt h0; exact ⟨by omega, by omega⟩
        · split
          · rename_i h0; have := sg_lt h0; exact ⟨by omega, by omega⟩
          · split
            · rename_i h0; have := sg_lt h0; exact ⟨by omega, by omega⟩
            · split
              · rename_i h0; have := sg_lt h0; exact ⟨by omega, by omega⟩
              · split
                · rename_i h0
                  have := sg_lt h0
                  have h2 := hE (k + 1) (by omega)
                  cases hr : E (k + 1) with
                  | er e i => rw [hr] at h2; exact ⟨by have := h2.1; omega, h2.2⟩
                  | ok x i =>
                    rw [hr] at h2
                    simp only
                    split
                    · rename_i hc; have := sg_lt hc; exact ⟨by have := h2.1; omega, by omega⟩
                    · exact pair_fwd hE 15 x i k (by have := h2.1; omega) h2.2
                · split
                  · rename_i h0
                    have := sg_lt h0
                    split
                    · rename_i h1
                      have := sg_lt h1
                      have h2 := hE (k + 2) (by omega)
                      cases hr : E (k + 2) with
                      | er e i => rw [hr] at h2; exact ⟨by have := h2.1; omega, h2.2⟩
                      | ok x i =>
                        rw [hr] at h2
                        exact pair_fwd hE 19 x i k (by have := h2.1; omega) h2.2
                    · exact ⟨by omega, by omega, .inl rfl⟩
                  · exact ⟨Nat.le_refl _, h, .inl rfl⟩
theorem una_fwd {ts : List Tk} : ∀ (m k : Nat), k ≤ ts.length → (unaL ts m k).fwd ts.length k
  | 0, k, h => ⟨Nat.le_refl _, h, .inr rfl⟩
  | m + 1, k, h => by
    have ih := una_fwd (ts := ts) m
    unfold unaL
    cases hp : prek ts k with
    | some kd =>
      have hlt := prek_lt hp
      have h2 := ih (k + 1) (by omega)
      simp only
      cases hr : unaL ts m (k + 1) with
      | er e i => rw [hr] at h2; exact ⟨by have := h2.1; omega, h2.2⟩
      | ok x i => rw [hr] at h2; exact mk_fwd (by have := h2.1; omega) h2.2
    | none =>
      simp only
      split
      · rename_i h0
        have := sg_lt h0
        cases hb : numAt ts (k + 1) with
        | some s => have := num_lt hb; exact ⟨by omega, by omega⟩
        | none => exact ⟨by omega, by omega, .inl rfl⟩
      · exact prim_fwd (bin_fwd ih 5) k h
theorem ful_fwd (ts : List Tk) (m j k : Nat) (h : k ≤ ts.length) : (binL ts (unaL ts m) j k).fwd ts.length k := bin_fwd (una_fwd m) j k h
end Go.Proofs.YtnphaaahdlkmhaaGreat
end
