/-
  Package check: a make of an act; first over a list of makes. Conditions: those that each theorem names.
-/
import Derived.Test.YtbikpbmknneabaaGreatZs6
section
namespace Go.Proofs.YtbikpbmknneabaaGreat
open Go.ChangeShapes Go.WideShapes Go.ChangeAt Go.RowKit Go.Maps
set_option maxRecDepth 100000
set_option maxHeartbeats 4000000

theorem cmake_any {kb vb ab eb m : Nat} {vs : List ByteArray} {s : ByteArray} (o : Bool) (n : Int) (w : World) (h : NM w vb m vs) (hE : w.heap[eb]? = some (.cells #[.map (some kb), .map (some vb), .map (some ab)] 110 (0, 0))) (hs : s.size ≤ 9223372036854775807) :
    Calls Tryz.prog 87 #[.agg #[.string s, .bool o, .int .i64 n], .pointer (some ⟨eb, 0, none⟩)] w fun e w' => e = .returned (.int .i64 (opE vs s n)) ∧ Touch NoB w w' := by
  have HO := Lib.hid (fun w (h : NM w vb m vs) => operand_any (kb := kb) (ab := ab) n w h hs)
  have HN := Lib.hid h
  have a0 := cell_blk hE 0
  have a1 := cell_blk hE 1
  have a2 := cell_blk hE 2
  have a3 := blk_lt hE
  clear h hE
  unfold elV at HO
  go_enter Tryz.func87, Tryz.ntmps87
  go_wp2_with fail
  refine (HO.out _ (HN.out.touch (F := NoB) (by repeat (first | with_reducible exact Touch.refl NoB _ | with_reducible refine Touch.drew ?_ | with_reducible refine Touch.alloc ?_ _)) (fun f => f))).mono ?_
  rintro r w2 ⟨rfl, hT⟩
  have HT := Lib.hid (Touch.same (F := NoB) (a := w) (by repeat (first | with_reducible exact Touch.refl NoB _ | with_reducible refine Touch.drew ?_ | with_reducible refine Touch.alloc ?_ _)) hT)
  clear hT
  go_wp2
  go_ret
  exact ⟨rfl, HT.out⟩
def FmRel (f : Mk → Int) (l : List Mk) (w : World) (v : Value) (wr : World) : Prop := ∃ i : Nat, i ≤ l.length ∧ v = .int .i64 i ∧ (∀ (j : Nat) (c : Mk), j < i → l[j]? = some c → f c = 0) ∧ Touch NoB w wr
theorem first_make {kb vb ab eb m : Nat} {vs : List ByteArray} {Q : Nat → Prop} (l : List Mk) (v : Value) (w : World) (hS : SlAt w Q v l.length (mkC l)) (h : NM w vb m vs) (hE : w.heap[eb]? = some (.cells #[.map (some kb), .map (some vb), .map (some ab)] 110 (0, 0))) (hf : ∀ c ∈ l, (bs c.nm).size ≤ 9223372036854775807) (hl : l.length ≤ 1000000) :
    Calls Tryz.prog 86 #[v, .func (.func 87) #[] #[.pointer (some ⟨eb, 0, none⟩)]] w fun e w' => e = .returned (.int .i64 (firstE (l.map fun c => opE vs (bs c.nm) c.n))) ∧ Touch NoB w w' := by
  obtain ⟨A, cap, rfl, hx⟩ := hS
  have HX := Lib.hid (And.intro hx (And.intro h (And.intro hf hE)))
  have HC := Lib.hid (fun w (s : ByteArray) (o : Bool) (n : Int) (h : NM w vb m vs) hE (hs : s.size ≤ 9223372036854775807) => cmake_any (kb := kb) (ab := ab) (eb := eb) o n w h hE hs)
  have e0 : ∀ (args : Array Value) (w : World), (callFunc 87 args).run Tryz.prog w = .ok (.enter 87 args) w := enters_of Tryz.func87 (by kernel_rfl) rfl
  clear hx h hf hE
  obtain ⟨n, hn⟩ : ∃ n, l.length = n := ⟨_, rfl⟩
  have HN := Lib.hid hn
  rw [hn]
  rw [hn] at hl
  clear hn
  go_enter Tryz.func86, Tryz.ntmps86
  go_wp2
  go_loopw [10] (fun v10 wr => FmRel (fun c => opE vs (bs c.nm) c.n) l w v10 wr) (fun v10 _ => n - (intOf v10).toNat)
  case atStart => exact ⟨0, Nat.zero_le _, rfl, fun j c hj => by omega, Touch.refl _ _⟩
  case round =>
    obtain ⟨i, hi, rfl, hno, hT⟩ := hrel
    by_cases hlt : i < n
    · obtain ⟨c, hc⟩ : ∃ c, l[i]? = some c := ⟨l[i]'(by have := HN.out; omega), List.getElem?_eq_getElem _⟩
      obtain ⟨g0, g1, g2⟩ := mkC_at l i c hc
      obtain ⟨b, rfl, -, hb, c0⟩ := HX.out.1 _ _ g0
      obtain ⟨b', hb', -, -, c1⟩ := HX.out.1 _ _ g1
      injection hb' with hb'
      injection hb' with hb'
      subst hb'
      obtain ⟨b', hb', -, -, c2⟩ := HX.out.1 _ _ g2
      injection hb' with hb'
      injection hb' with hb'
      subst hb'
      have d0 := (hT.cell (p := ⟨b, i * 3, none⟩) hb (fun f => f)).trans c0
      have d1 := (hT.cell (p := ⟨b, i * 3 + 1, none⟩) hb (fun f => f)).trans c1
      have d2 := (hT.cell (p := ⟨b, i * 3 + 2, none⟩) hb (fun f => f)).trans c2
      have d3 := Nat.lt_of_lt_of_le hb hT.size
      have hsz := HX.out.2.2.1 c (List.mem_of_getElem? hc)
      obtain ⟨r, hr⟩ : ∃ r, opE vs (bs c.nm) c.n = r := ⟨_, rfl⟩
      have HR := Lib.hid (And.intro hr (And.intro hc (And.intro hno hT)))
      have hm := HX.out.2.1.touch hT (fun f => f)
      have HM := Lib.hid (And.intro hm ((hT.block _ (blk_lt HX.out.2.2.2) (fun f => f)).trans HX.out.2.2.2))
      have HC2 := Lib.hid (fun w (h : NM w vb m vs) hE => hr ▸ HC.out w (bs c.nm) c.add c.n h hE hsz)
      clear hm hr hc hno hT c0 c1 c2 g0 g1 g2 hsz
      obtain ⟨nm, o, x⟩ := c
      simp only at d0 d1 d2
      by_cases hr0 : r = 0
      · subst hr0
        go_wp2_with (go_at_fn 87; refine (HC2.out _ (HM.out.1.touch (F := NoB) (by repeat (first | with_reducible exact Touch.refl NoB _ | with_reducible refine Touch.drew ?_ | with_reducible refine Touch.alloc ?_ _)) (fun f => f)) ((Touch.block (F := NoB) (by repeat (first | with_reducible exact Touch.refl NoB _ | with_reducible refine Touch.drew ?_ | with_reducible refine Touch.alloc ?_ _)) _ (blk_lt HM.out.2) (fun f => f)).trans HM.out.2)).mono ?_; rintro r w2 ⟨rfl, hT2⟩; have HT2 := Lib.hid (Touch.same (F := NoB) (a := wr) (by repeat (first | with_reducible exact Touch.refl NoB _ | with_reducible refine Touch.drew ?_ | with_reducible refine Touch.alloc ?_ _)) hT2); clear hT2)
        go_roundw
        case rel => exact ⟨i + 1, by have := HN.out; omega, by go_num, fun j y hj hy => by
          by_cases e : j = i
          · subst e; rw [HR.out.2.1] at hy; injection hy with hy; subst hy; exact HR.out.1
          · exact HR.out.2.2.1 j y (by omega) hy, HR.out.2.2.2.same HT2.out⟩
        case measure => simp [intOf]; omega
      · go_wp2_with (go_at_fn 87; refine (HC2.out _ (HM.out.1.touch (F := NoB) (by repeat (first | with_reducible exact Touch.refl NoB _ | with_reducible refine Touch.drew ?_ | with_reducible refine Touch.alloc ?_ _)) (fun f => f)) ((Touch.block (F := NoB) (by repeat (first | with_reducible exact Touch.refl NoB _ | with_reducible refine Touch.drew ?_ | with_reducible refine Touch.alloc ?_ _)) _ (blk_lt HM.out.2) (fun f => f)).trans HM.out.2)).mono ?_; rintro r w2 ⟨rfl, hT2⟩; have HT2 := Lib.hid (Touch.same (F := NoB) (a := wr) (by repeat (first | with_reducible exact Touch.refl NoB _ | with_reducible refine Touch.drew ?_ | with_reducible refine Touch.alloc ?_ _)) hT2); clear hT2)
        go_ret
        exact ⟨by rw [firstE_at HR.out.2.1 (by rw [HR.out.1]; exact hr0) HR.out.2.2.1, HR.out.1]; rfl, HR.out.2.2.2.same HT2.out⟩
    · have hin : i = n := by have := HN.out; omega
      subst hin
      have HR := Lib.hid (And.intro hno hT)
      clear hno hT
      go_wp2
      go_ret
      exact ⟨by rw [firstE_zero (fun j c hc => HR.out.1 j c (by have := (List.getElem?_eq_some_iff.1 hc).1; have := HN.out; omega) hc)]; rfl, HR.out.2⟩
end Go.Proofs.YtbikpbmknneabaaGreat
end
/-
  Package check's first over a domain's vars. Conditions: those that each theorem names.
-/
section
namespace Go.Proofs.YtbikpbmknneabaaGreat
open Go.ChangeShapes Go.WideShapes Go.ChangeAt Go.RowKit Go.Maps
set_option maxRecDepth 100000
set_option maxHeartbeats 4000000

/-- The vars' first error; and the names that have been seen by then. -/
def varsE (ks : List KyG) : List ByteArray → List Va → Int × List ByteArray
  | vs, [] => (0, vs)
  | vs, v :: l => if varE ks vs (bs v.nm) v.lo v.hi = 0 then varsE ks (addNm vs (bs v.nm)) l else (varE ks vs (bs v.nm) v.lo v.hi, addNm vs (bs v.nm))
theorem drop13_at {α : Type} : ∀ {l : List α} {i : Nat} {c : α}, l[i]? = some c → l.drop i = c :: l.drop (i + 1)
  | [], i, c, h => by simp at h
  | x :: l, 0, c, h => by simp at h; subst h; rfl
  | x :: l, i + 1, c, h => by show l.drop i = c :: l.drop (i + 1); exact drop13_at (by simpa using h)
def FvRel (ks : List KyG) (vs : List ByteArray) (vb m : Nat) (l : List Va) (w : World) (v : Value) (wr : World) : Prop := ∃ (i : Nat) (us : List ByteArray), i ≤ l.length ∧ v = .int .i64 i ∧ varsE ks vs l = varsE ks us (l.drop i) ∧ NM wr vb (m + i) us ∧ Touch (fun b => b = vb) w wr
theorem first_var {kb vb ab m mk : Nat} {ks : List KyG} {vs : List ByteArray} {Q : Nat → Prop} (l : List Va) (v : Value) (w : World) (hS : SlAt w Q v l.length (vaC l)) (hQ : ∀ b, Q b → b ≠ vb) (hk : KM w kb mk ks) (h : NM w vb m vs) (hne : kb ≠ vb) (hf : ∀ c ∈ l, (bs c.nm).size ≤ 9223372036854775807) (hl : l.length ≤ 1000000) (hm : m ≤ 1000000) :
    Calls Tryz.prog 65 #[v, .func (.func 66) #[elV kb vb ab] #[]] w fun e w' => e = .returned (.int .i64 (varsE ks vs l).1) ∧ (∃ m', m' ≤ m + l.length ∧ NM w' vb m' (varsE ks vs l).2) ∧ Touch (fun b => b = vb) w w' := by
  obtain ⟨A, cap, rfl, hx⟩ := hS
  have HX := Lib.hid (And.intro hx (And.intro hk (And.intro hf hQ)))
  have HH := Lib.hid h
  have HC := Lib.hid (fun w m us (s : ByteArray) (lo hi : Int) (hk : KM w kb mk ks) (h : NM w vb m us) (hm : m < 9223372036854775807) (hs : s.size ≤ 9223372036854775807) => cvar_any (ab := ab) lo hi w hk h hne hm hs)
  have e0 : ∀ (args : Array Value) (w : World), (callFunc 66 args).run Tryz.prog w = .ok (.enter 66 args) w := enters_of Tryz.func66 (by kernel_rfl) rfl
  clear hx hk h hf hQ
  obtain ⟨n, hn⟩ : ∃ n, l.length = n := ⟨_, rfl⟩
  have HN := Lib.hid hn
  rw [hn]
  rw [hn] at hl
  clear hn
  unfold var13V at HC
  obtain ⟨el, hel⟩ : ∃ el, elV kb vb ab = el := ⟨_, rfl⟩
  rw [hel] at HC ⊢
  clear hel
  go_enter Tryz.func65, Tryz.ntmps65
  go_wp2
  go_loopw [10] (fun v10 wr => FvRel ks vs vb m l w v10 wr) (fun v10 _ => n - (intOf v10).toNat)
  case atStart => exact ⟨0, vs, Nat.zero_le _, rfl, rfl, HH.out, Touch.refl _ _⟩
  case round =>
    obtain ⟨i, us, hi, rfl, hE, hN, hT⟩ := hrel
    by_cases hlt : i < n
    · obtain ⟨c, hc⟩ : ∃ c, l[i]? = some c := ⟨l[i]'(by have := HN.out; omega), List.getElem?_eq_getElem _⟩
      obtain ⟨g0, g1, g2⟩ := vaC_at l i c hc
      obtain ⟨b, rfl, hQ, hb, c0⟩ := HX.out.1 _ _ g0
      obtain ⟨b', hb', -, -, c1⟩ := HX.out.1 _ _ g1
      injection hb' with hb'
      injection hb' with hb'
      subst hb'
      obtain ⟨b', hb', -, -, c2⟩ := HX.out.1 _ _ g2
      injection hb' with hb'
      injection hb' with hb'
      subst hb'
      have hbv := HX.out.2.2.2 b hQ
      have d0 := (hT.cell (p := ⟨b, i * 3, none⟩) hb hbv).trans c0
      have d1 := (hT.cell (p := ⟨b, i * 3 + 1, none⟩) hb hbv).trans c1
      have d2 := (hT.cell (p := ⟨b, i * 3 + 2, none⟩) hb hbv).trans c2
      have d3 := Nat.lt_of_lt_of_le hb hT.size
      have hsz := HX.out.2.2.1 c (List.mem_of_getElem? hc)
      obtain ⟨r, hr⟩ : ∃ r, varE ks us (bs c.nm) c.lo c.hi = r := ⟨_, rfl⟩
      have hE2 : varsE ks vs l = if r = 0 then varsE ks (addNm us (bs c.nm)) (l.drop (i + 1)) else (r, addNm us (bs c.nm)) := by rw [hE, drop13_at hc, ← hr]; rfl
      have HR := Lib.hid (And.intro hE2 hT)
      have HM := Lib.hid (And.intro (HX.out.2.1.touch hT hne) hN)
      have HC2 := Lib.hid (fun w (hk : KM w kb mk ks) (h : NM w vb (m + i) us) => hr ▸ HC.out w (m + i) us (bs c.nm) c.lo c.hi hk h (by omega) hsz)
      clear hr hc hE hE2 hN hT c0 c1 c2 g0 g1 g2 hsz hQ
      obtain ⟨nm, lo, hh⟩ := c
      simp only at d0 d1 d2
      by_cases hr0 : r = 0
      · subst hr0
        go_wp2_with (go_at_fn 66; refine (HC2.out _ (HM.out.1.touch (F := NoB) (by repeat (first | with_reducible exact Touch.refl NoB _ | with_reducible refine Touch.drew ?_ | with_reducible refine Touch.alloc ?_ _)) (fun f => f)) (HM.out.2.touch (F := NoB) (by repeat (first | with_reducible exact Touch.refl NoB _ | with_reducible refine Touch.drew ?_ | with_reducible refine Touch.alloc ?_ _)) (fun f => f))).mono ?_; rintro r w2 ⟨rfl, hN2, hT2⟩; have HT2 := Lib.hid (And.intro hN2 (Touch.same (F := fun b => b = vb) (a := wr) (by repeat (first | with_reducible exact Touch.refl _ _ | with_reducible refine Touch.drew ?_ | with_reducible refine Touch.alloc ?_ _)) hT2)); clear hN2 hT2)
        go_roundw
        case rel => exact ⟨i + 1, _, by have := HN.out; omega, by go_num, HR.out.1.trans (if_pos trivial), HT2.out.1, HR.out.2.same HT2.out.2⟩
        case measure => simp [intOf]; omega
      · go_wp2_with (go_at_fn 66; refine (HC2.out _ (HM.out.1.touch (F := NoB) (by repeat (first | with_reducible exact Touch.refl NoB _ | with_reducible refine Touch.drew ?_ | with_reducible refine Touch.alloc ?_ _)) (fun f => f)) (HM.out.2.touch (F := NoB) (by repeat (first | with_reducible exact Touch.refl NoB _ | with_reducible refine Touch.drew ?_ | with_reducible refine Touch.alloc ?_ _)) (fun f => f))).mono ?_; rintro r w2 ⟨rfl, hN2, hT2⟩; have HT2 := Lib.hid (And.intro hN2 (Touch.same (F := fun b => b = vb) (a := wr) (by repeat (first | with_reducible exact Touch.refl _ _ | with_reducible refine Touch.drew ?_ | with_reducible refine Touch.alloc ?_ _)) hT2)); clear hN2 hT2)
        go_ret
        have hz := HR.out.1.trans (if_neg hr0)
        exact ⟨by rw [hz]; rfl, ⟨m + i + 1, by have := HN.out; omega, by rw [hz]; exact HT2.out.1⟩, HR.out.2.same HT2.out.2⟩
    · have hin : i = n := by have := HN.out; omega
      subst hin
      have hz : varsE ks vs l = (0, us) := by rw [hE, List.drop_of_length_le (by have := HN.out; omega)]; rfl
      have HR := Lib.hid (And.intro hz (And.intro hN hT))
      clear hE hz hN hT
      go_wp2
      go_ret
      exact ⟨by rw [HR.out.1]; rfl, ⟨_, Nat.le_refl _, by rw [HR.out.1]; exact HR.out.2.1⟩, HR.out.2.2⟩
end Go.Proofs.YtbikpbmknneabaaGreat
end
/-
  Package check's act. Conditions: those that each theorem names.
-/
section
namespace Go.Proofs.YtbikpbmknneabaaGreat
open Go.ChangeShapes Go.WideShapes Go.ChangeAt Go.RowKit Go.Maps
set_option maxRecDepth 100000
set_option maxHeartbeats 4000000

def needE (vs : List ByteArray) (a : Ac) : Int := firstE (a.need.map fun c => opE vs (bs c.nm) c.n)
def makeE (vs : List ByteArray) (a : Ac) : Int := firstE (a.make.map fun c => opE vs (bs c.nm) c.n)
/-- An act with no more needs and makes than may be. -/
def actE (vs us : List ByteArray) (a : Ac) : Int :=
  if inN us (bs a.nm) = true then 6 else if (decide (1 ≤ (a.cost : Int)) && decide ((a.cost : Int) ≤ 1000)) = false then 1 else if needE vs a = 0 then makeE vs a else needE vs a
def acFit (a : Ac) : Prop := (bs a.nm).size ≤ 9223372036854775807 ∧ a.need.length ≤ 8 ∧ a.make.length ≤ 8 ∧ (∀ c ∈ a.need, (bs c.nm).size ≤ 9223372036854775807) ∧ ∀ c ∈ a.make, (bs c.nm).size ≤ 9223372036854775807
theorem cact_any {kb vb ab m k : Nat} {vs us : List ByteArray} {Q : Nat → Prop} (a : Ac) (v1 v2 : Value) (w : World) (h1 : SlAt w Q v1 a.need.length (cnC a.need)) (h2 : SlAt w Q v2 a.make.length (mkC a.make)) (hQ : ∀ b, Q b → b ≠ ab) (hv : NM w vb m vs) (ha : NM w ab k us) (hne : vb ≠ ab) (hf : acFit a) (hk : k ≤ 1000000) :
    Calls Tryz.prog 68 #[elV kb vb ab, .agg #[.string (bs a.nm), .int .i64 (a.cost : Int), v1, v2]] w fun e w' => e = .returned (.int .i64 (actE vs us a)) ∧ NM w' ab (k + 1) (addNm us (bs a.nm)) ∧ Touch (fun b => b = ab) w w' := by
  have HF := Lib.hid hf
  have hvl := hv.lt
  have hal := ha.lt
  have HS := Lib.hid (And.intro h1 (And.intro h2 (And.intro hQ (And.intro hv ha))))
  have HA := Lib.hid (fun w (h : NM w ab k us) => add13_any (s := bs a.nm) w h (by omega) hf.1)
  obtain ⟨A1, c1, rfl, -⟩ := h1
  obtain ⟨A2, c2, rfl, -⟩ := h2
  clear hf hv ha hQ
  obtain ⟨n1, hn1⟩ : ∃ n1, needE vs a = n1 := ⟨_, rfl⟩
  obtain ⟨n2, hn2⟩ : ∃ n2, makeE vs a = n2 := ⟨_, rfl⟩
  obtain ⟨r1, hr1⟩ : ∃ r1, (decide (1 ≤ (a.cost : Int)) && decide ((a.cost : Int) ≤ 1000)) = r1 := ⟨_, rfl⟩
  obtain ⟨q, hq⟩ : ∃ q, inN us (bs a.nm) = q := ⟨_, rfl⟩
  have HV : Hid (actE vs us a = if q = true then 6 else if r1 = false then 1 else if n1 = 0 then n2 else n1) := Lib.hid (by rw [← hn1, ← hn2, ← hr1, ← hq]; rfl)
  have HW := Lib.hid (fun w => hr1 ▸ within13_any (a.cost : Int) 1 1000 w)
  have HE1 : Hid (firstE (a.need.map fun c => opE vs (bs c.nm) c.n) = n1) := Lib.hid hn1
  have HE2 : Hid (firstE (a.make.map fun c => opE vs (bs c.nm) c.n) = n2) := Lib.hid hn2
  have l1 := HF.out.2.1
  have l2 := HF.out.2.2.1
  obtain ⟨N1, hN1⟩ : ∃ N1, a.need.length = N1 := ⟨_, rfl⟩
  obtain ⟨N2, hN2⟩ : ∃ N2, a.make.length = N2 := ⟨_, rfl⟩
  have HN := Lib.hid (And.intro hN1 hN2)
  rw [hN1] at HS l1 ⊢
  rw [hN2] at HS l2 ⊢
  obtain ⟨rv, hrv⟩ : ∃ rv, actE vs us a = rv := ⟨_, rfl⟩
  rw [hrv] at HV ⊢
  clear hrv hN1 hN2 hn1 hn2 hr1
  unfold elV
  go_enter Tryz.func68, Tryz.ntmps68
  go_wp2_with fail
  refine (HA.out _ (HS.out.2.2.2.2.touch (F := NoB) (by repeat (first | with_reducible exact Touch.refl NoB _ | with_reducible refine Touch.drew ?_ | with_reducible refine Touch.alloc ?_ _)) (fun f => f))).mono ?_
  rintro r w2 ⟨rfl, hNM, hT⟩
  rw [hq]
  have hb0 := (hT.block w.heap.size (by simp only [World.size_alloc]; omega) (by omega)).trans ((((Touch.refl NoB _).alloc _).block w.heap.size (by simp only [World.size_alloc]; omega) (fun f => f)).trans (alloc_blk w #[.map (some kb), .map (some vb), .map (some ab)] 110 rfl))
  have hb1 := (hT.block (w.heap.size + 1) (by simp only [World.size_alloc]; omega) (by omega)).trans (alloc_blk _ #[.string (bs a.nm), .int .i64 (a.cost : Int), .slice A1 N1 c1, .slice A2 N2 c2] 95 (by simp only [World.size_alloc]))
  have a0 := cell_blk hb0 0
  have a1 := cell_blk hb0 1
  have a2 := cell_blk hb0 2
  have a3 := blk_lt hb0
  have b0 := cell_blk hb1 0
  have b1 := cell_blk hb1 1
  have b2 := cell_blk hb1 2
  have b4 := cell_blk hb1 3
  have b3 := blk_lt hb1
  have HB := Lib.hid b4
  have HL := Lib.hid b3
  have t1 : Touch (fun b => b = ab) w ((w.alloc (.cells #[.map (some kb), .map (some vb), .map (some ab)] 110)).alloc (.cells #[.string (bs a.nm), .int .i64 (a.cost : Int), .slice A1 N1 c1, .slice A2 N2 c2] 95)) := by repeat (first | with_reducible exact Touch.refl _ _ | with_reducible refine Touch.drew ?_ | with_reducible refine Touch.alloc ?_ _)
  have HT := Lib.hid (And.intro hNM (t1.same hT))
  have hv2 := HS.out.2.2.2.1.touch (t1.same hT) hne
  have s1 := HS.out.1.touch (t1.same hT) HS.out.2.2.1
  have s2 := HS.out.2.1.touch (t1.same hT) HS.out.2.2.1
  have HFC := Lib.hid (fun w3 (t : Touch NoB w2 w3) => HE1.out ▸ first_cond (kb := kb) (ab := ab) a.need (.slice A1 N1 c1) w3 (by rw [HN.out.1]; exact s1.touch t (fun _ _ f => f)) (hv2.touch t (fun f => f)) HF.out.2.2.2.1 (by have := HF.out.2.1; omega))
  have HFM := Lib.hid (fun w3 (t : Touch NoB w2 w3) => HE2.out ▸ first_make (kb := kb) (ab := ab) (eb := w.heap.size) a.make (.slice A2 N2 c2) w3 (by rw [HN.out.2]; exact s2.touch t (fun _ _ f => f)) (hv2.touch t (fun f => f)) ((t.block _ (blk_lt hb0) (fun f => f)).trans hb0) HF.out.2.2.2.2 (by have := HF.out.2.2.1; omega))
  unfold elV at HFC
  clear hNM hT t1 hb0 hb1 hq s1 s2 hv2 HE1 HE2
  cases q
  · cases r1
    · go_wp2_with (first | (go_at_call 85; refine (HW.out _).mono ?_; rintro r w3 ⟨rfl, rfl⟩))
      go_ret
      exact ⟨by rw [HV.out]; rfl, HT.out⟩
    · by_cases h0 : n1 = 0
      · subst h0
        go_wp2_with (first | (go_at_call 85; refine (HW.out _).mono ?_; rintro r w3 ⟨rfl, rfl⟩) | (go_at_call 69; refine (HFC.out _ (by repeat (first | with_reducible exact Touch.refl NoB _ | with_reducible refine Touch.drew ?_ | with_reducible refine Touch.alloc ?_ _))).mono ?_; rintro r w3 ⟨rfl, hT3⟩; have HT3 := Lib.hid (Touch.same (F := NoB) (a := w2) (by repeat (first | with_reducible exact Touch.refl NoB _ | with_reducible refine Touch.drew ?_ | with_reducible refine Touch.alloc ?_ _)) hT3); clear hT3; have k0 := (HT3.out.cell (p := ⟨w.heap.size + 1, 3, none⟩) HL.out (fun f => f)).trans HB.out; have k1 := Nat.lt_of_lt_of_le HL.out HT3.out.size) | (go_at_call 86; refine (HFM.out _ (by repeat (first | with_reducible exact HT3.out | with_reducible exact Touch.refl NoB _ | with_reducible refine Touch.drew ?_ | with_reducible refine Touch.alloc ?_ _))).mono ?_; rintro r w4 ⟨rfl, hT4⟩; have HT4 := Lib.hid (Touch.same (F := NoB) (a := w2) (by repeat (first | with_reducible exact HT3.out | with_reducible exact Touch.refl NoB _ | with_reducible refine Touch.drew ?_ | with_reducible refine Touch.alloc ?_ _)) hT4); clear hT4))
        go_ret
        exact ⟨by rw [HV.out]; rfl, HT.out.1.touch HT4.out (fun f => f), HT.out.2.same (HT4.out.mono (fun b f => f.elim))⟩
      · go_wp2_with (first | (go_at_call 85; refine (HW.out _).mono ?_; rintro r w3 ⟨rfl, rfl⟩) | (go_at_call 69; refine (HFC.out _ (by repeat (first | with_reducible exact Touch.refl NoB _ | with_reducible refine Touch.drew ?_ | with_reducible refine Touch.alloc ?_ _))).mono ?_; rintro r w3 ⟨rfl, hT3⟩; have HT3 := Lib.hid (Touch.same (F := NoB) (a := w2) (by repeat (first | with_reducible exact Touch.refl NoB _ | with_reducible refine Touch.drew ?_ | with_reducible refine Touch.alloc ?_ _)) hT3); clear hT3; have k0 := (HT3.out.cell (p := ⟨w.heap.size + 1, 3, none⟩) HL.out (fun f => f)).trans HB.out; have k1 := Nat.lt_of_lt_of_le HL.out HT3.out.size) | (go_at_call 86; refine (HFM.out _ (by repeat (first | with_reducible exact HT3.out | with_reducible exact Touch.refl NoB _ | with_reducible refine Touch.drew ?_ | with_reducible refine Touch.alloc ?_ _))).mono ?_; rintro r w4 ⟨rfl, hT4⟩; have HT4 := Lib.hid (Touch.same (F := NoB) (a := w2) (by repeat (first | with_reducible exact HT3.out | with_reducible exact Touch.refl NoB _ | with_reducible refine Touch.drew ?_ | with_reducible refine Touch.alloc ?_ _)) hT4); clear hT4))
        go_ret
        exact ⟨by rw [HV.out, if_neg (by decide), if_neg (by decide), if_neg h0]; rfl, HT.out.1.touch HT3.out (fun f => f), HT.out.2.same (HT3.out.mono (fun b f => f.elim))⟩
  · go_wp2
    go_ret
    exact ⟨by rw [HV.out]; rfl, HT.out⟩
end Go.Proofs.YtbikpbmknneabaaGreat
end
/-
  Package check's first over a domain's acts. Conditions: those that each theorem names.
-/
section
namespace Go.Proofs.YtbikpbmknneabaaGreat
open Go.ChangeShapes Go.WideShapes Go.ChangeAt Go.RowKit Go.Maps
set_option maxRecDepth 100000
set_option maxHeartbeats 4000000

/-- The acts' first error; and the names that have been seen by then. -/
def actsE (vs : List ByteArray) : List ByteArray → List Ac → Int × List ByteArray
  | us, [] => (0, us)
  | us, a :: l => if actE vs us a = 0 then actsE vs (addNm us (bs a.nm)) l else (actE vs us a, addNm us (bs a.nm))
def FaRel (vs us : List ByteArray) (ab m : Nat) (l : List Ac) (w : World) (v : Value) (wr : World) : Prop := ∃ (i : Nat) (xs : List ByteArray), i ≤ l.length ∧ v = .int .i64 i ∧ actsE vs us l = actsE vs xs (l.drop i) ∧ NM wr ab (m + i) xs ∧ Touch (fun b => b = ab) w wr
theorem first_act {kb vb ab m k : Nat} {vs us : List ByteArray} {Q : Nat → Prop} (l : List Ac) (v : Value) (ys : List Value) (w : World) (hS : SlAt w Q v l.length ys) (hL : LsAt (AcAt w Q) l ys) (hQ : ∀ b, Q b → b ≠ ab) (hv : NM w vb k vs) (h : NM w ab m us) (hne : vb ≠ ab) (hf : ∀ a ∈ l, acFit a) (hl : l.length ≤ 1000) (hm : m ≤ 1000) :
    Calls Tryz.prog 67 #[v, .func (.func 68) #[elV kb vb ab] #[]] w fun e w' => e = .returned (.int .i64 (actsE vs us l).1) ∧ (∃ m', m' ≤ m + l.length ∧ NM w' ab m' (actsE vs us l).2) ∧ Touch (fun b => b = ab) w w' := by
  obtain ⟨A, cap, rfl, hx⟩ := hS
  have HX := Lib.hid (And.intro hx (And.intro hL (And.intro hf (And.intro hQ hv))))
  have HH := Lib.hid h
  have e0 : ∀ (args : Array Value) (w : World), (callFunc 68 args).run Tryz.prog w = .ok (.enter 68 args) w := enters_of Tryz.func68 (by kernel_rfl) rfl
  clear hx hL h hf hQ hv
  obtain ⟨n, hn⟩ : ∃ n, l.length = n := ⟨_, rfl⟩
  have HN := Lib.hid hn
  rw [hn]
  rw [hn] at hl
  clear hn
  obtain ⟨el, hel⟩ : ∃ el, elV kb vb ab = el := ⟨_, rfl⟩
  have HEL := Lib.hid hel
  rw [hel]
  clear hel
  go_enter Tryz.func67, Tryz.ntmps67
  go_wp2
  go_loopw [10] (fun v10 wr => FaRel vs us ab m l w v10 wr) (fun v10 _ => n - (intOf v10).toNat)
  case atStart => exact ⟨0, us, Nat.zero_le _, rfl, rfl, HH.out, Touch.refl _ _⟩
  case round =>
    obtain ⟨i, xs, hi, rfl, hE, hN, hT⟩ := hrel
    by_cases hlt : i < n
    · obtain ⟨c, hc⟩ : ∃ c, l[i]? = some c := ⟨l[i]'(by have := HN.out; omega), List.getElem?_eq_getElem _⟩
      obtain ⟨zs, ⟨v1, v2, rfl, s1, s2⟩, hz⟩ := HX.out.2.1.at_ (s := 4) (fun a ys h => h.len) i c hc
      have s1' := s1
      have s2' := s2
      obtain ⟨A1, k1, rfl, -⟩ := s1'
      obtain ⟨A2, k2, rfl, -⟩ := s2'
      obtain ⟨b, rfl, hQ, hb, c0⟩ := HX.out.1 _ _ ((hz 0 (by omega)).trans rfl)
      obtain ⟨b', hb', -, -, c1⟩ := HX.out.1 _ _ ((hz 1 (by omega)).trans rfl)
      injection hb' with hb'
      injection hb' with hb'
      subst hb'
      obtain ⟨b', hb', -, -, c2⟩ := HX.out.1 _ _ ((hz 2 (by omega)).trans rfl)
      injection hb' with hb'
      injection hb' with hb'
      subst hb'
      obtain ⟨b', hb', -, -, c3⟩ := HX.out.1 _ _ ((hz 3 (by omega)).trans rfl)
      injection hb' with hb'
      injection hb' with hb'
      subst hb'
      have hQQ := HX.out.2.2.2.1
      have hbv := hQQ b hQ
      have d0 := (hT.cell (p := ⟨b, i * 4, none⟩) hb hbv).trans c0
      have d1 := (hT.cell (p := ⟨b, i * 4 + 1, none⟩) hb hbv).trans c1
      have d2 := (hT.cell (p := ⟨b, i * 4 + 2, none⟩) hb hbv).trans c2
      have d4 := (hT.cell (p := ⟨b, i * 4 + 3, none⟩) hb hbv).trans c3
      have d3 := Nat.lt_of_lt_of_le hb hT.size
      have hfc := HX.out.2.2.1 c (List.mem_of_getElem? hc)
      obtain ⟨r, hr⟩ : ∃ r, actE vs xs c = r := ⟨_, rfl⟩
      have hE2 : actsE vs us l = if r = 0 then actsE vs (addNm xs (bs c.nm)) (l.drop (i + 1)) else (r, addNm xs (bs c.nm)) := by rw [hE, drop13_at hc, ← hr]; rfl
      have HR := Lib.hid (And.intro hE2 hT)
      have hv2 := HX.out.2.2.2.2.touch hT hne
      have t1 := s1.touch hT hQQ
      have t2 := s2.touch hT hQQ
      have HC2 := Lib.hid (fun w3 (t : Touch NoB wr w3) => hr ▸ HEL.out ▸ cact_any (kb := kb) c _ _ w3 (t1.touch t (fun _ _ f => f)) (t2.touch t (fun _ _ f => f)) hQQ (hv2.touch t (fun f => f)) (hN.touch t (fun f => f)) hne hfc (by omega))
      clear hr hc hE hE2 hN hT c0 c1 c2 c3 hz s1 s2 t1 t2 hv2 hfc hQ hQQ
      by_cases hr0 : r = 0
      · subst hr0
        go_wp2_with (go_at_fn 68; refine (HC2.out _ (by repeat (first | with_reducible exact Touch.refl NoB _ | with_reducible refine Touch.drew ?_ | with_reducible refine Touch.alloc ?_ _))).mono ?_; rintro r w2 ⟨rfl, hN2, hT2⟩; have HT2 := Lib.hid (And.intro hN2 (Touch.same (F := fun b => b = ab) (a := wr) (by repeat (first | with_reducible exact Touch.refl _ _ | with_reducible refine Touch.drew ?_ | with_reducible refine Touch.alloc ?_ _)) hT2)); clear hN2 hT2)
        go_roundw
        case rel => exact ⟨i + 1, _, by have := HN.out; omega, by go_num, HR.out.1.trans (if_pos trivial), HT2.out.1, HR.out.2.same HT2.out.2⟩
        case measure => simp [intOf]; omega
      · go_wp2_with (go_at_fn 68; refine (HC2.out _ (by repeat (first | with_reducible exact Touch.refl NoB _ | with_reducible refine Touch.drew ?_ | with_reducible refine Touch.alloc ?_ _))).mono ?_; rintro r w2 ⟨rfl, hN2, hT2⟩; have HT2 := Lib.hid (And.intro hN2 (Touch.same (F := fun b => b = ab) (a := wr) (by repeat (first | with_reducible exact Touch.refl _ _ | with_reducible refine Touch.drew ?_ | with_reducible refine Touch.alloc ?_ _)) hT2)); clear hN2 hT2)
        go_ret
        have hz := HR.out.1.trans (if_neg hr0)
        exact ⟨by rw [hz]; rfl, ⟨m + i + 1, by have := HN.out; omega, by rw [hz]; exact HT2.out.1⟩, HR.out.2.same HT2.out.2⟩
    · have hin : i = n := by have := HN.out; omega
      subst hin
      have hz : actsE vs us l = (0, xs) := by rw [hE, List.drop_of_length_le (by have := HN.out; omega)]; rfl
      have HR := Lib.hid (And.intro hz (And.intro hN hT))
      clear hE hz hN hT
      go_wp2
      go_ret
      exact ⟨by rw [HR.out.1]; rfl, ⟨_, Nat.le_refl _, by rw [HR.out.1]; exact HR.out.2.1⟩, HR.out.2.2⟩
end Go.Proofs.YtbikpbmknneabaaGreat
end
