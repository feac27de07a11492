/-
  Lists of keys: the place of a name, the document's own FindKey; package check's kindsOf. Conditions: those that each theorem names.
-/
import Derived.Test.YtblcmgahgpnjmaaDa
import Derived.Test.YtblcmgahgpnjmaaLa
import Derived.Maps.OwnSet
import Derived.Carry
namespace Go.Proofs.Ytblcmgahgpnjmaa
open Go.ChangeShapes Go.WideShapes Go.ChangeAt Go.RowKit Go.Deep Go.Maps
set_option maxRecDepth 100000
set_option maxHeartbeats 4000000

theorem ret_i64 {a b : Int} (h : a = b) : Ending.returned (.int .i64 a) = .returned (.int .i64 b) := by rw [h]
/-- A key: its name, its kind, is it shared? -/
structure KyG where
  nm : ByteArray
  kd : Int
  sh : Bool
/-- Are two strings one? -/
def eqG (a b : ByteArray) : Bool := a.data.toList == b.data.toList
theorem eqG_list (a b : ByteArray) : (a.toList == b.toList) = eqG a b := by unfold eqG; rw [ByteArray.toList_eq, ByteArray.toList_eq]
/-- The place of the first key of a name. -/
def findG : List KyG → ByteArray → Option Nat
  | [], _ => none
  | k :: l, s => if eqG k.nm s = true then some 0 else (findG l s).map (· + 1)
def posG : Option Nat → Int
  | none => -1
  | some i => i
theorem findG_none {s : ByteArray} : ∀ {l : List KyG}, (∀ (j : Nat) (k : KyG), l[j]? = some k → eqG k.nm s = false) → findG l s = none
  | [], _ => rfl
  | k :: l, h => by
    have h0 := h 0 k rfl
    have h1 := findG_none (l := l) (fun j x hx => h (j + 1) x (by simpa using hx))
    unfold findG
    rw [if_neg (by simp [h0]), h1]
    rfl
theorem findG_some {s : ByteArray} : ∀ {l : List KyG} {i : Nat} {k : KyG}, l[i]? = some k → eqG k.nm s = true → (∀ (j : Nat) (x : KyG), j < i → l[j]? = some x → eqG x.nm s = false) → findG l s = some i
  | [], i, k, hk, _, _ => by simp at hk
  | x :: l, 0, k, hk, he, _ => by
    simp at hk; subst hk
    unfold findG
    rw [if_pos he]
  | x :: l, i + 1, k, hk, he, hn => by
    have h0 := hn 0 x (by omega) rfl
    have h1 := findG_some (l := l) (i := i) (by simpa using hk) he (fun j y hj hy => hn (j + 1) y (by omega) (by simpa using hy))
    unfold findG
    rw [if_neg (by simp [h0]), h1]
    rfl
theorem findG_lt {s : ByteArray} : ∀ {l : List KyG} {i : Nat}, findG l s = some i → i < l.length
  | [], i, h => by simp [findG] at h
  | k :: l, i, h => by
    unfold findG at h
    split at h
    · simp at h; subst h; simp
    · cases h1 : findG l s with
      | none => rw [h1] at h; simp at h
      | some j =>
        rw [h1] at h
        simp at h
        have := findG_lt h1
        simp only [List.length_cons]
        omega

/-- A list of keys lies at A, in no block of F; each name is of a string's length. -/
def KAtG (w : World) (F : Nat → Prop) (A : Option Addr) (l : List KyG) : Prop :=
  ∀ (j : Nat) (k : KyG), l[j]? = some k → k.nm.size ≤ 9223372036854775807 ∧ ∃ b off, A = some ⟨b, off, none⟩ ∧ b < w.heap.size ∧ ¬ F b ∧ w.cell? ⟨b, off + j * 3, none⟩ = some (.string k.nm) ∧ w.cell? ⟨b, off + j * 3 + 1, none⟩ = some (.int .i64 k.kd) ∧ w.cell? ⟨b, off + j * 3 + 2, none⟩ = some (.bool k.sh)
theorem KAtG.touch {w w' : World} {F : Nat → Prop} {A : Option Addr} {l : List KyG} (h : KAtG w F A l) (t : Touch F w w') : KAtG w' F A l := by
  intro j k hj
  obtain ⟨hs, b, off, rfl, hb, hf, h1, h2, h3⟩ := h j k hj
  exact ⟨hs, b, off, rfl, Nat.lt_of_lt_of_le hb t.size, hf, (t.cell (p := ⟨b, off + j * 3, none⟩) hb hf).trans h1, (t.cell (p := ⟨b, off + j * 3 + 1, none⟩) hb hf).trans h2, (t.cell (p := ⟨b, off + j * 3 + 2, none⟩) hb hf).trans h3⟩
theorem KAtG.more {w : World} {F G : Nat → Prop} {A : Option Addr} {l : List KyG} (h : KAtG w F A l) (d : ∀ b, G b → F b) : KAtG w G A l := by
  intro j k hj
  obtain ⟨hs, b, off, e, hb, hf, h1, h2, h3⟩ := h j k hj
  exact ⟨hs, b, off, e, hb, fun x => hf (d b x), h1, h2, h3⟩
theorem KAtG.take {w : World} {F : Nat → Prop} {A : Option Addr} {l : List KyG} (h : KAtG w F A l) (n : Nat) : KAtG w F A (l.take n) := by
  intro j k hj
  rw [List.getElem?_take] at hj
  split at hj
  · exact h j k hj
  · cases hj

def FkRelG (w : World) (l : List KyG) (s : ByteArray) (v5 : Value) (wr : World) : Prop := ∃ i : Nat, i ≤ l.length ∧ v5 = .int .i64 i ∧ (∀ (j : Nat) (k : KyG), j < i → l[j]? = some k → eqG k.nm s = false) ∧ wr = w

theorem findkey_g (A : Option Addr) (n cap : Nat) (l : List KyG) (s : ByteArray) (F : Nat → Prop) (w : World) (hn : l.length = n) (hn2 : n ≤ 1000000) (h : KAtG w F A l) :
    Calls Try.prog 23 #[.slice A n cap, .string s] w fun e w' => e = .returned (.int .i64 (posG (findG l s))) ∧ w = w' := by
  have HK := Lib.hid h
  have HN := Lib.hid hn
  clear h hn
  go_enter Try.func23, Try.ntmps23
  go_wp2
  go_loopw [5] (fun v5 wr => FkRelG w l s v5 wr) (fun v5 _ => n - (intOf v5).toNat)
  case atStart => exact ⟨0, Nat.zero_le _, rfl, fun j k hj => by omega, rfl⟩
  case round =>
    obtain ⟨i, hi, rfl, hno, rfl⟩ := hrel
    have HNo := Lib.hid hno
    clear hno
    by_cases hlt : i < n
    · obtain ⟨k, hk⟩ : ∃ k, l[i]? = some k := ⟨l[i]'(by have := HN.out; omega), List.getElem?_eq_getElem _⟩
      obtain ⟨hsz, b, off, rfl, hb, -, c0, -, -⟩ := HK.out i k hk
      obtain ⟨q, hq⟩ : ∃ q, eqG k.nm s = q := ⟨_, rfl⟩
      have hqq : (k.nm.toList == s.toList) = q := (eqG_list _ _).trans hq
      have HQ := Lib.hid hq
      have Hk := Lib.hid hk
      clear hq hk
      cases q
      · go_wp2
        go_roundw
        case rel => exact ⟨i + 1, by have := HN.out; omega, by go_num, fun j x hj hx => by
          by_cases e : j = i
          · subst e; rw [Hk.out] at hx; injection hx with hx; subst hx; exact HQ.out
          · exact HNo.out j x (by omega) hx, rfl⟩
        case measure => simp [intOf]; omega
      · go_wp2
        go_ret
        exact ⟨ret_i64 (by rw [findG_some Hk.out HQ.out HNo.out]; rfl), rfl⟩
    · have hin : i = n := by have := HN.out; omega
      subst hin
      go_wp2
      go_ret
      exact ⟨ret_i64 (by rw [findG_none (fun j k hk => HNo.out j k (by have := (List.getElem?_eq_some_iff.1 hk).1; have := HN.out; omega) hk)]; rfl), rfl⟩
theorem cellsGBool : Try.prog.cellsOf 4 = 1 := by kernel_rfl
theorem cellsGKey : Try.prog.cellsOf 29 = 3 := by kernel_rfl

section
variable {H : Type} {enc : TypeId × Value → H} {w : World} {base : Nat} {held : Bool} {fuel : Nat}
theorem key_openG {cs : List Value} {y : DataW H × List MemPlace} (h : DataW.trod enc Try.prog w base (fun _ => true) held fuel 29 cs = some y) : ∃ k : KyG, cs[0]? = some (.string k.nm) ∧ cs[1]? = some (.int .i64 k.kd) ∧ cs[2]? = some (.bool k.sh) ∧ k.nm.size ≤ 9223372036854775807 := by
  obtain ⟨xs, n, _, _, hl, hxl, hf⟩ := DataW.trod_struct Try.underlying29 h
  simp at hxl
  have h0 : DataW.trod enc Try.prog w base (fun _ => true) held n 9 ((cs.drop 0).take (Try.prog.cellsOf 9)) = xs[0]? := hf 0 _ rfl
  have h1 : DataW.trod enc Try.prog w base (fun _ => true) held n 3 ((cs.drop 1).take (Try.prog.cellsOf 3)) = xs[1]? := hf 1 _ rfl
  have h2 : DataW.trod enc Try.prog w base (fun _ => true) held n 4 ((cs.drop 2).take (Try.prog.cellsOf 4)) = xs[2]? := hf 2 _ rfl
  rw [List.getElem?_eq_getElem (by omega), cellsGString] at h0
  rw [List.getElem?_eq_getElem (by omega), cellsGInt] at h1
  rw [List.getElem?_eq_getElem (by omega), cellsGBool] at h2
  obtain ⟨s, hs, _, hss⟩ := DataW.trod_string Try.underlying9 h0
  obtain ⟨m, hm, _, _⟩ := DataW.trod_int Try.underlying3 h1
  obtain ⟨b, hb, _⟩ := DataW.trod_bool Try.underlying4 h2
  have g0 := congrArg (fun l => l[0]?) hs
  have g1 := congrArg (fun l => l[0]?) hm
  have g2 := congrArg (fun l => l[0]?) hb
  simp [List.getElem?_drop] at g0 g1 g2
  unfold maxLen at hss
  exact ⟨⟨s, m, b⟩, g0, g1, g2, by simpa using hss⟩
theorem open_keysG {vs : List Value} {x : DataW H × List MemPlace} (h : DataW.trod enc Try.prog w base (fun _ => true) held fuel 25 vs = some x) :
    vs = [.slice none 0 0] ∨ ∃ (ad : Addr) (len cap : Nat) (l : List KyG), vs = [.slice (some ad) len cap] ∧ l.length = len ∧ len ≤ cap ∧ cap ≤ 9223372036854775807 ∧ KAtG w NoB (some ad) l := by
  rcases open_slice Try.underlying25 h with ⟨hcs, _⟩ | ⟨ad, len, cap, m, n, D, Pl, hcs, _, hl, hm, hmm, _, hx⟩
  · exact .inl hcs
  · simp only [if_true] at hmm
    subst hmm
    unfold maxLen at hm
    have hspot : 0 < len → ad.spot = none := by
      intro h0
      obtain ⟨cs0, hc0, ht0⟩ := hx 0 (by omega)
      obtain ⟨_, d0, _⟩ := key_openG ht0
      obtain ⟨_, _, hat0⟩ := World.cells?_some hc0
      rw [cellsGKey] at hat0
      simpa [Addr.add] using World.cell?_spot ((hat0 0 (by omega)).trans d0)
    have each : ∀ i, i < len → ∃ k : KyG, k.nm.size ≤ 9223372036854775807 ∧ w.cell? ⟨ad.block, ad.off + i * 3, none⟩ = some (.string k.nm) ∧ w.cell? ⟨ad.block, ad.off + i * 3 + 1, none⟩ = some (.int .i64 k.kd) ∧ w.cell? ⟨ad.block, ad.off + i * 3 + 2, none⟩ = some (.bool k.sh) := by
      intro i hi
      obtain ⟨cs, hc, ht⟩ := hx i (by omega)
      obtain ⟨k, d0, d1, d2, hs⟩ := key_openG ht
      obtain ⟨_, _, hat⟩ := World.cells?_some hc
      rw [cellsGKey] at hat
      have e0 := (hat 0 (by omega)).trans d0
      have e1 := (hat 1 (by omega)).trans d1
      have e2 := (hat 2 (by omega)).trans d2
      have hsp := hspot (by omega)
      obtain ⟨b, off, spot⟩ := ad
      simp only at hsp
      subst hsp
      simp only [add_plain] at e0 e1 e2
      exact ⟨k, hs, by simpa using e0, e1, e2⟩
    refine .inr ⟨ad, len, _, (List.range len).map (fun i => if h : i < len then (each i h).choose else ⟨⟨#[]⟩, 0, false⟩), hcs, by simp, hl, by omega, ?_⟩
    intro j k hj
    have hjl : j < len := by
      have := (List.getElem?_eq_some_iff.1 hj).1
      simpa using this
    rw [List.getElem?_map, List.getElem?_range hjl] at hj
    simp only [Option.map_some, hjl, dif_pos] at hj
    injection hj with hj
    have hs := (each j hjl).choose_spec
    rw [hj] at hs
    have hsp := hspot (by omega)
    obtain ⟨b, off, spot⟩ := ad
    simp only at hsp
    subst hsp
    exact ⟨hs.1, b, off, rfl, World.block_lt_of_cell? w _ hs.2.1, fun e => e, hs.2.1, hs.2.2.1, hs.2.2.2⟩
end


/-- The kind of the first key of a name. -/
def kdG : List KyG → ByteArray → Option Int
  | [], _ => none
  | k :: r, s => if eqG k.nm s = true then some k.kd else kdG r s
theorem kdG_find : ∀ (l : List KyG) (s : ByteArray), kdG l s = (findG l s).bind fun i => (l[i]?).map (·.kd)
  | [], s => rfl
  | k :: r, s => by
    unfold kdG findG
    split
    · rfl
    · rw [kdG_find r s]
      cases findG r s <;> rfl
theorem kdG_snoc : ∀ (l : List KyG) (k : KyG) (s : ByteArray), kdG (l ++ [k]) s = match kdG l s with | some x => some x | none => if eqG k.nm s = true then some k.kd else none
  | [], k, s => rfl
  | x :: r, k, s => by
    show (if eqG x.nm s = true then some x.kd else kdG (r ++ [k]) s) = _
    rw [kdG_snoc r k s, show kdG (x :: r) s = if eqG x.nm s = true then some x.kd else kdG r s from rfl]
    split <;> rfl
theorem eqG_iff {a b : ByteArray} : eqG a b = true ↔ a = b := by
  unfold eqG
  constructor
  · intro h
    have h1 : a.data.toList = b.data.toList := by simpa using h
    cases a; cases b
    congr
    exact Array.toList_inj.1 h1
  · rintro rfl; simp
/-- The key of a name in a map. -/
def klS (s : ByteArray) : Lit := .string s.data.toList
theorem klS_ne {a b : ByteArray} (h : eqG a b = false) : klS b ≠ klS a := by
  intro e
  unfold klS at e
  injection e with e
  have : eqG a b = true := by unfold eqG; rw [e]; simp
  rw [h] at this; cases this
theorem key_str {s : ByteArray} (h : s.size ≤ 9223372036854775807) : keyOf Try.prog 9 (.string s) = some (klS s) := WideMaps.keyOf_string_mk Try.underlying9 (by unfold maxLen; omega)
theorem lawStr : Keyed Try.prog 9 := string_keyed Try.underlying9
theorem zeroG (w : World) : (zeroValue 3).run Try.prog w = .ok (.int .i64 0) w := by kernel_rfl
def zdG : DataW Unit := .lit (.int .i64 0)
theorem zdG_int : plainElem (H := Unit) Try.prog 3 (.int .i64 0) = some (zdG, []) := plainElem_int Try.underlying3 (by decide)
/-- The map at block mb tells the kinds of the keys l. -/
def KM (w : World) (mb n : Nat) (l : List KyG) : Prop := ∃ D : DataW Unit, w.ownsMap Try.prog 9 (plainElem Try.prog 3) mb n D ∧ ∀ s : ByteArray, Maps.has D (klS s) = (kdG l s).isSome ∧ ∀ k, kdG l s = some k → D.atKey (klS s) zdG = .lit (.int .i64 k)
theorem KM.touch {w w' : World} {mb n : Nat} {l : List KyG} {F : Nat → Prop} (h : KM w mb n l) (t : Touch F w w') (hf : ¬ F mb) : KM w' mb n l := by
  obtain ⟨D, ⟨es, clock, hb, r⟩, r2⟩ := h
  exact ⟨D, ⟨es, clock, (t.block mb (blk_lt hb) hf).trans hb, r⟩, r2⟩
theorem KM.made (w : World) : KM (w.alloc (.map #[] 0)) w.heap.size 0 [] := ⟨.map [], World.ownsMap_made _ _ _ _, fun s => ⟨rfl, fun k h => by cases h⟩⟩
theorem KM.lt {w : World} {mb n : Nat} {l : List KyG} (h : KM w mb n l) : mb < w.heap.size := by obtain ⟨D, h, _⟩ := h; exact h.lt
/-- A look-up. -/
theorem KM.look {w : World} {mb n : Nat} {l : List KyG} (h : KM w mb n l) {s : ByteArray} (hs : s.size ≤ 9223372036854775807) :
    ∃ c : Int, (Instr.lookup 44 (.map (some mb)) (.string s) true).run Try.prog w = .ok (.tuple #[.int .i64 c, .bool (kdG l s).isSome]) w ∧ ∀ k, kdG l s = some k → c = k := by
  obtain ⟨D, hown, hD⟩ := h
  obtain ⟨v, ps, hrun, hv⟩ := hown.look_ok lawStr Try.underlying44 (zeroG w) zdG_int (key_str hs)
  obtain ⟨c, rfl, hc, -⟩ := plainElem_int_inv Try.underlying3 hv
  refine ⟨c, by rw [← (hD s).1]; exact hrun, fun k hk => ?_⟩
  have h1 := congrArg Prod.fst hc
  rw [(hD s).2 k hk] at h1
  simp at h1
  exact h1.symm
/-- A store of a name that is not there. -/
theorem KM.store {w : World} {mb n : Nat} {l : List KyG} (h : KM w mb n l) (hn : n < 9223372036854775807) {k : KyG} (hs : k.nm.size ≤ 9223372036854775807) (hk : W64 k.kd) (hno : kdG l k.nm = none) :
    ∃ w', (Instr.mapUpdate 44 (.map (some mb)) (.string k.nm) (.int .i64 k.kd)).run Try.prog w = .ok () w' ∧ KM w' mb (n + 1) (l ++ [k]) ∧ Touch (fun b => b = mb) w w' := by
  obtain ⟨D, hown, hD⟩ := h
  obtain ⟨w', hrun, hown', ht⟩ := hown.store lawStr Try.underlying44 (by unfold maxLen; omega) (key_str hs) (plainElem_int Try.underlying3 (w64_wf hk))
  have hmp := hown.isMap
  have hkl : WideAt.IsKeyLit (klS k.nm) := lawStr.key (key_str hs)
  refine ⟨w', hrun, ⟨_, hown', fun s => ?_⟩, (Touch.refl _ _).grown ht.grown (fun b e => by cases e; exact .inl rfl)⟩
  rw [kdG_snoc]
  cases he : eqG k.nm s with
  | true =>
    have e := eqG_iff.1 he
    subst e
    rw [hno]
    exact ⟨has_put_same hmp hkl _, fun x hx => by simp at hx; subst hx; exact atKey_put_same hmp hkl _ _⟩
  | false =>
    rw [has_put_other (klS_ne he), atKey_put_other (klS_ne he), (hD s).1]
    cases hx : kdG l s with
    | none => exact ⟨rfl, fun x hx => by simp at hx⟩
    | some y => exact ⟨rfl, fun x h2 => by simp at h2; subst h2; exact (hD s).2 _ hx⟩
theorem KM.same {w : World} {mb n m : Nat} {l l' : List KyG} (h : KM w mb n l) (hm : n ≤ m) (he : ∀ s, kdG l' s = kdG l s) : KM w mb m l' := by
  obtain ⟨D, hown, hD⟩ := h
  exact ⟨D, hown.mono hm, fun s => by rw [he s]; exact hD s⟩
end Go.Proofs.Ytblcmgahgpnjmaa
