/-
  Package check's act. Conditions: those that each theorem names.
-/
import Derived.Test.YtnphaaahdlkmhaaGreatZs11
import Derived.Test.YtnphaaahdlkmhaaGreatZs8
section
namespace Go.Proofs.YtnphaaahdlkmhaaGreat
open Go.ChangeShapes Go.WideShapes Go.ChangeAt Go.RowKit Go.Maps
set_option maxRecDepth 100000
set_option maxHeartbeats 4000000

def needE (vs : List ByteArray) (a : Ac) : Int := firstE (a.need.map fun c => opE vs (bs c.nm) c.n)
def makeE (vs : List ByteArray) (a : Ac) : Int := firstE (a.make.map fun c => opE vs (bs c.nm) c.n)
/-- An act with no more needs and makes than may be. -/
def actE (vs us : List ByteArray) (a : Ac) : Int :=
  if inN us (bs a.nm) = true then 6 else if (decide (1 ≤ (a.cost : Int)) && decide ((a.cost : Int) ≤ 1000)) = false then 1 else if needE vs a = 0 then makeE vs a else needE vs a
def acFit (a : Ac) : Prop := (bs a.nm).size ≤ 9223372036854775807 ∧ a.need.length ≤ 8 ∧ a.make.length ≤ 8 ∧ (∀ c ∈ a.need, (bs c.nm).size ≤ 9223372036854775807) ∧ ∀ c ∈ a.make, (bs c.nm).size ≤ 9223372036854775807
theorem cact_any {kb vb ab m k : Nat} {vs us : List ByteArray} {Q : Nat → Prop} (a : Ac) (v1 v2 : Value) (w : World) (h1 : SlAt w Q v1 a.need.length (cnC a.need)) (h2 : SlAt w Q v2 a.make.length (mkC a.make)) (hQ : ∀ b, Q b → b ≠ ab) (hv : NM w vb m vs) (ha : NM w ab k us) (hne : vb ≠ ab) (hf : acFit a) (hk : k ≤ 1000000) :
    Calls Tryz.prog 68 #[elV kb vb ab, .agg #[.string (bs a.nm), .int .i64 (a.cost : Int), v1, v2]] w fun e w' => e = .returned (.int .i64 (actE vs us a)) ∧ NM w' ab (k + 1) (addNm us (bs a.nm)) ∧ Touch (fun b => b = ab) w w' := by
  have HF := Lib.hid hf
  have hvl := hv.lt
  have hal := ha.lt
  have HS := Lib.hid (And.intro h1 (And.intro h2 (And.intro hQ (And.intro hv ha))))
  have HA := Lib.hid (fun w (h : NM w ab k us) => add13_any (s := bs a.nm) w h (by omega) hf.1)
  obtain ⟨A1, c1, rfl, -⟩ := h1
  obtain ⟨A2, c2, rfl, -⟩ := h2
  clear hf hv ha hQ
  obtain ⟨n1, hn1⟩ : ∃ n1, needE vs a = n1 := ⟨_, rfl⟩
  obtain ⟨n2, hn2⟩ : ∃ n2, makeE vs a = n2 := ⟨_, rfl⟩
  obtain ⟨r1, hr1⟩ : ∃ r1, (decide (1 ≤ (a.cost : Int)) && decide ((a.cost : Int) ≤ 1000)) = r1 := ⟨_, rfl⟩
  obtain ⟨q, hq⟩ : ∃ q, inN us (bs a.nm) = q := ⟨_, rfl⟩
  have HV : Hid (actE vs us a = if q = true then 6 else if r1 = false then 1 else if n1 = 0 then n2 else n1) := Lib.hid (by rw [← hn1, ← hn2, ← hr1, ← hq]; rfl)
  have HW := Lib.hid (fun w => hr1 ▸ within13_any (a.cost : Int) 1 1000 w)
  have HE1 : Hid (firstE (a.need.map fun c => opE vs (bs c.nm) c.n) = n1) := Lib.hid hn1
  have HE2 : Hid (firstE (a.make.map fun c => opE vs (bs c.nm) c.n) = n2) := Lib.hid hn2
  have l1 := HF.out.2.1
  have l2 := HF.out.2.2.1
  obtain ⟨N1, hN1⟩ : ∃ N1, a.need.length = N1 := ⟨_, rfl⟩
  obtain ⟨N2, hN2⟩ : ∃ N2, a.make.length = N2 := ⟨_, rfl⟩
  have HN := Lib.hid (And.intro hN1 hN2)
  rw [hN1] at HS l1 ⊢
  rw [hN2] at HS l2 ⊢
  obtain ⟨rv, hrv⟩ : ∃ rv, actE vs us a = rv := ⟨_, rfl⟩
  rw [hrv] at HV ⊢
  clear hrv hN1 hN2 hn1 hn2 hr1
  unfold elV
  go_enter Tryz.func68, Tryz.ntmps68
  go_wp2_with fail
  refine (HA.out _ (HS.out.2.2.2.2.touch (F := NoB) (by repeat (first | with_reducible exact Touch.refl NoB _ | with_reducible refine Touch.drew ?_ | with_reducible refine Touch.alloc ?_ _)) (fun f => f))).mono ?_
  rintro r w2 ⟨rfl, hNM, hT⟩
  rw [hq]
  have hb0 := (hT.block w.heap.size (by simp only [World.size_alloc]; omega) (by omega)).trans ((((Touch.refl NoB _).alloc _).block w.heap.size (by simp only [World.size_alloc]; omega) (fun f => f)).trans (alloc_blk w #[.map (some kb), .map (some vb), .map (some ab)] 110 rfl))
  have hb1 := (hT.block (w.heap.size + 1) (by simp only [World.size_alloc]; omega) (by omega)).trans (alloc_blk _ #[.string (bs a.nm), .int .i64 (a.cost : Int), .slice A1 N1 c1, .slice A2 N2 c2] 95 (by simp only [World.size_alloc]))
  have a0 := cell_blk hb0 0
  have a1 := cell_blk hb0 1
  have a2 := cell_blk hb0 2
  have a3 := blk_lt hb0
  have b0 := cell_blk hb1 0
  have b1 := cell_blk hb1 1
  have b2 := cell_blk hb1 2
  have b4 := cell_blk hb1 3
  have b3 := blk_lt hb1
  have HB := Lib.hid b4
  have HL := Lib.hid b3
  have t1 : Touch (fun b => b = ab) w ((w.alloc (.cells #[.map (some kb), .map (some vb), .map (some ab)] 110)).alloc (.cells #[.string (bs a.nm), .int .i64 (a.cost : Int), .slice A1 N1 c1, .slice A2 N2 c2] 95)) := by repeat (first | with_reducible exact Touch.refl _ _ | with_reducible refine Touch.drew ?_ | with_reducible refine Touch.alloc ?_ _)
  have HT := Lib.hid (And.intro hNM (t1.same hT))
  have hv2 := HS.out.2.2.2.1.touch (t1.same hT) hne
  have s1 := HS.out.1.touch (t1.same hT) HS.out.2.2.1
  have s2 := HS.out.2.1.touch (t1.same hT) HS.out.2.2.1
  have HFC := Lib.hid (fun w3 (t : Touch NoB w2 w3) => HE1.out ▸ first_cond (kb := kb) (ab := ab) a.need (.slice A1 N1 c1) w3 (by rw [HN.out.1]; exact s1.touch t (fun _ _ f => f)) (hv2.touch t (fun f => f)) HF.out.2.2.2.1 (by have := HF.out.2.1; omega))
  have HFM := Lib.hid (fun w3 (t : Touch NoB w2 w3) => HE2.out ▸ first_make (kb := kb) (ab := ab) (eb := w.heap.size) a.make (.slice A2 N2 c2) w3 (by rw [HN.out.2]; exact s2.touch t (fun _ _ f => f)) (hv2.touch t (fun f => f)) ((t.block _ (blk_lt hb0) (fun f => f)).trans hb0) HF.out.2.2.2.2 (by have := HF.out.2.2.1; omega))
  unfold elV at HFC
  clear hNM hT t1 hb0 hb1 hq s1 s2 hv2 HE1 HE2
  cases q
  · cases r1
    · go_wp2_with (first | (go_at_call 85; refine (HW.out _).mono ?_; rintro r w3 ⟨rfl, rfl⟩))
      go_ret
      exact ⟨by rw [HV.out]; rfl, HT.out⟩
    · by_cases h0 : n1 = 0
      · subst h0
        go_wp2_with (first | (go_at_call 85; refine (HW.out _).mono ?_; rintro r w3 ⟨rfl, rfl⟩) | (go_at_call 69; refine (HFC.out _ (by repeat (first | with_reducible exact Touch.refl NoB _ | with_reducible refine Touch.drew ?_ | with_reducible refine Touch.alloc ?_ _))).mono ?_; rintro r w3 ⟨rfl, hT3⟩; have HT3 := Lib.hid (Touch.same (F := NoB) (a := w2) (by repeat (first | with_reducible exact Touch.refl NoB _ | with_reducible refine Touch.drew ?_ | with_reducible refine Touch.alloc ?_ _)) hT3); clear hT3; have k0 := (HT3.out.cell (p := ⟨w.heap.size + 1, 3, none⟩) HL.out (fun f => f)).trans HB.out; have k1 := Nat.lt_of_lt_of_le HL.out HT3.out.size) | (go_at_call 86; refine (HFM.out _ (by repeat (first | with_reducible exact HT3.out | with_reducible exact Touch.refl NoB _ | with_reducible refine Touch.drew ?_ | with_reducible refine Touch.alloc ?_ _))).mono ?_; rintro r w4 ⟨rfl, hT4⟩; have HT4 := Lib.hid (Touch.same (F := NoB) (a := w2) (by repeat (first | with_reducible exact HT3.out | with_reducible exact Touch.refl NoB _ | with_reducible refine Touch.drew ?_ | with_reducible refine Touch.alloc ?_ _)) hT4); clear hT4))
        go_ret
        exact ⟨by rw [HV.out]; rfl, HT.out.1.touch HT4.out (fun f => f), HT.out.2.same (HT4.out.mono (fun b f => f.elim))⟩
      · go_wp2_with (first | (go_at_call 85; refine (HW.out _).mono ?_; rintro r w3 ⟨rfl, rfl⟩) | (go_at_call 69; refine (HFC.out _ (by repeat (first | with_reducible exact Touch.refl NoB _ | with_reducible refine Touch.drew ?_ | with_reducible refine Touch.alloc ?_ _))).mono ?_; rintro r w3 ⟨rfl, hT3⟩; have HT3 := Lib.hid (Touch.same (F := NoB) (a := w2) (by repeat (first | with_reducible exact Touch.refl NoB _ | with_reducible refine Touch.drew ?_ | with_reducible refine Touch.alloc ?_ _)) hT3); clear hT3; have k0 := (HT3.out.cell (p := ⟨w.heap.size + 1, 3, none⟩) HL.out (fun f => f)).trans HB.out; have k1 := Nat.lt_of_lt_of_le HL.out HT3.out.size) | (go_at_call 86; refine (HFM.out _ (by repeat (first | with_reducible exact HT3.out | with_reducible exact Touch.refl NoB _ | with_reducible refine Touch.drew ?_ | with_reducible refine Touch.alloc ?_ _))).mono ?_; rintro r w4 ⟨rfl, hT4⟩; have HT4 := Lib.hid (Touch.same (F := NoB) (a := w2) (by repeat (first | with_reducible exact HT3.out | with_reducible exact Touch.refl NoB _ | with_reducible refine Touch.drew ?_ | with_reducible refine Touch.alloc ?_ _)) hT4); clear hT4))
        go_ret
        exact ⟨by rw [HV.out, if_neg (by decide), if_neg (by decide), if_neg h0]; rfl, HT.out.1.touch HT3.out (fun f => f), HT.out.2.same (HT3.out.mono (fun b f => f.elim))⟩
  · go_wp2
    go_ret
    exact ⟨by rw [HV.out]; rfl, HT.out⟩
end Go.Proofs.YtnphaaahdlkmhaaGreat
end
/-
  Package check's first over a domain's acts. Conditions: those that each theorem names.
-/
section
namespace Go.Proofs.YtnphaaahdlkmhaaGreat
open Go.ChangeShapes Go.WideShapes Go.ChangeAt Go.RowKit Go.Maps
set_option maxRecDepth 100000
set_option maxHeartbeats 4000000

/-- The acts' first error; and the names that have been seen by then. -/
def actsE (vs : List ByteArray) : List ByteArray → List Ac → Int × List ByteArray
  | us, [] => (0, us)
  | us, a :: l => if actE vs us a = 0 then actsE vs (addNm us (bs a.nm)) l else (actE vs us a, addNm us (bs a.nm))
def FaRel (vs us : List ByteArray) (ab m : Nat) (l : List Ac) (w : World) (v : Value) (wr : World) : Prop := ∃ (i : Nat) (xs : List ByteArray), i ≤ l.length ∧ v = .int .i64 i ∧ actsE vs us l = actsE vs xs (l.drop i) ∧ NM wr ab (m + i) xs ∧ Touch (fun b => b = ab) w wr
theorem first_act {kb vb ab m k : Nat} {vs us : List ByteArray} {Q : Nat → Prop} (l : List Ac) (v : Value) (ys : List Value) (w : World) (hS : SlAt w Q v l.length ys) (hL : LsAt (AcAt w Q) l ys) (hQ : ∀ b, Q b → b ≠ ab) (hv : NM w vb k vs) (h : NM w ab m us) (hne : vb ≠ ab) (hf : ∀ a ∈ l, acFit a) (hl : l.length ≤ 1000) (hm : m ≤ 1000) :
    Calls Tryz.prog 67 #[v, .func (.func 68) #[elV kb vb ab] #[]] w fun e w' => e = .returned (.int .i64 (actsE vs us l).1) ∧ (∃ m', m' ≤ m + l.length ∧ NM w' ab m' (actsE vs us l).2) ∧ Touch (fun b => b = ab) w w' := by
  obtain ⟨A, cap, rfl, hx⟩ := hS
  have HX := Lib.hid (And.intro hx (And.intro hL (And.intro hf (And.intro hQ hv))))
  have HH := Lib.hid h
  have e0 : ∀ (args : Array Value) (w : World), (callFunc 68 args).run Tryz.prog w = .ok (.enter 68 args) w := enters_of Tryz.func68 (by kernel_rfl) rfl
  clear hx hL h hf hQ hv
  obtain ⟨n, hn⟩ : ∃ n, l.length = n := ⟨_, rfl⟩
  have HN := Lib.hid hn
  rw [hn]
  rw [hn] at hl
  clear hn
  obtain ⟨el, hel⟩ : ∃ el, elV kb vb ab = el := ⟨_, rfl⟩
  have HEL := Lib.hid hel
  rw [hel]
  clear hel
  go_enter Tryz.func67, Tryz.ntmps67
  go_wp2
  go_loopw [10] (fun v10 wr => FaRel vs us ab m l w v10 wr) (fun v10 _ => n - (intOf v10).toNat)
  case atStart => exact ⟨0, us, Nat.zero_le _, rfl, rfl, HH.out, Touch.refl _ _⟩
  case round =>
    obtain ⟨i, xs, hi, rfl, hE, hN, hT⟩ := hrel
    by_cases hlt : i < n
    · obtain ⟨c, hc⟩ : ∃ c, l[i]? = some c := ⟨l[i]'(by have := HN.out; omega), List.getElem?_eq_getElem _⟩
      obtain ⟨zs, ⟨v1, v2, rfl, s1, s2⟩, hz⟩ := HX.out.2.1.at_ (s := 4) (fun a ys h => h.len) i c hc
      have s1' := s1
      have s2' := s2
      obtain ⟨A1, k1, rfl, -⟩ := s1'
      obtain ⟨A2, k2, rfl, -⟩ := s2'
      obtain ⟨b, rfl, hQ, hb, c0⟩ := HX.out.1 _ _ ((hz 0 (by omega)).trans rfl)
      obtain ⟨b', hb', -, -, c1⟩ := HX.out.1 _ _ ((hz 1 (by omega)).trans rfl)
      injection hb' with hb'
      injection hb' with hb'
      subst hb'
      obtain ⟨b', hb', -, -, c2⟩ := HX.out.1 _ _ ((hz 2 (by omega)).trans rfl)
      injection hb' with hb'
      injection hb' with hb'
      subst hb'
      obtain ⟨b', hb', -, -, c3⟩ := HX.out.1 _ _ ((hz 3 (by omega)).trans rfl)
      injection hb' with hb'
      injection hb' with hb'
      subst hb'
      have hQQ := HX.out.2.2.2.1
      have hbv := hQQ b hQ
      have d0 := (hT.cell (p := ⟨b, i * 4, none⟩) hb hbv).trans c0
      have d1 := (hT.cell (p := ⟨b, i * 4 + 1, none⟩) hb hbv).trans c1
      have d2 := (hT.cell (p := ⟨b, i * 4 + 2, none⟩) hb hbv).trans c2
      have d4 := (hT.cell (p := ⟨b, i * 4 + 3, none⟩) hb hbv).trans c3
      have d3 := Nat.lt_of_lt_of_le hb hT.size
      have hfc := HX.out.2.2.1 c (List.mem_of_getElem? hc)
      obtain ⟨r, hr⟩ : ∃ r, actE vs xs c = r := ⟨_, rfl⟩
      have hE2 : actsE vs us l = if r = 0 then actsE vs (addNm xs (bs c.nm)) (l.drop (i + 1)) else (r, addNm xs (bs c.nm)) := by rw [hE, drop13_at hc, ← hr]; rfl
      have HR := Lib.hid (And.intro hE2 hT)
      have hv2 := HX.out.2.2.2.2.touch hT hne
      have t1 := s1.touch hT hQQ
      have t2 := s2.touch hT hQQ
      have HC2 := Lib.hid (fun w3 (t : Touch NoB wr w3) => hr ▸ HEL.out ▸ cact_any (kb := kb) c _ _ w3 (t1.touch t (fun _ _ f => f)) (t2.touch t (fun _ _ f => f)) hQQ (hv2.touch t (fun f => f)) (hN.touch t (fun f => f)) hne hfc (by omega))
      clear hr hc hE hE2 hN hT c0 c1 c2 c3 hz s1 s2 t1 t2 hv2 hfc hQ hQQ
      by_cases hr0 : r = 0
      · subst hr0
        go_wp2_with (go_at_fn 68; refine (HC2.out _ (by repeat (first | with_reducible exact Touch.refl NoB _ | with_reducible refine Touch.drew ?_ | with_reducible refine Touch.alloc ?_ _))).mono ?_; rintro r w2 ⟨rfl, hN2, hT2⟩; have HT2 := Lib.hid (And.intro hN2 (Touch.same (F := fun b => b = ab) (a := wr) (by repeat (first | with_reducible exact Touch.refl _ _ | with_reducible refine Touch.drew ?_ | with_reducible refine Touch.alloc ?_ _)) hT2)); clear hN2 hT2)
        go_roundw
        case rel => exact ⟨i + 1, _, by have := HN.out; omega, by go_num, HR.out.1.trans (if_pos trivial), HT2.out.1, HR.out.2.same HT2.out.2⟩
        case measure => simp [intOf]; omega
      · go_wp2_with (go_at_fn 68; refine (HC2.out _ (by repeat (first | with_reducible exact Touch.refl NoB _ | with_reducible refine Touch.drew ?_ | with_reducible refine Touch.alloc ?_ _))).mono ?_; rintro r w2 ⟨rfl, hN2, hT2⟩; have HT2 := Lib.hid (And.intro hN2 (Touch.same (F := fun b => b = ab) (a := wr) (by repeat (first | with_reducible exact Touch.refl _ _ | with_reducible refine Touch.drew ?_ | with_reducible refine Touch.alloc ?_ _)) hT2)); clear hN2 hT2)
        go_ret
        have hz := HR.out.1.trans (if_neg hr0)
        exact ⟨by rw [hz]; rfl, ⟨m + i + 1, by have := HN.out; omega, by rw [hz]; exact HT2.out.1⟩, HR.out.2.same HT2.out.2⟩
    · have hin : i = n := by have := HN.out; omega
      subst hin
      have hz : actsE vs us l = (0, xs) := by rw [hE, List.drop_of_length_le (by have := HN.out; omega)]; rfl
      have HR := Lib.hid (And.intro hz (And.intro hN hT))
      clear hE hz hN hT
      go_wp2
      go_ret
      exact ⟨by rw [HR.out.1]; rfl, ⟨_, Nat.le_refl _, by rw [HR.out.1]; exact HR.out.2.1⟩, HR.out.2.2⟩
end Go.Proofs.YtnphaaahdlkmhaaGreat
end
/-
  Package check's checks of a domain itself. Conditions: those that each theorem names.
-/
section
namespace Go.Proofs.YtnphaaahdlkmhaaGreat
open Go.ChangeShapes Go.WideShapes Go.ChangeAt Go.RowKit Go.Maps
set_option maxRecDepth 100000
set_option maxHeartbeats 4000000

def goalE (vs : List ByteArray) (d : Dm) : Int := firstE (d.goal.map fun c => opE vs (bs c.nm) c.n)
/-- The first error of a domain that has no more of anything than may be. -/
def domE (ks : List KyG) (d : Dm) : Int :=
  if (varsE ks [] d.vars).1 = 0 then (if (actsE (varsE ks [] d.vars).2 [] d.acts).1 = 0 then goalE (varsE ks [] d.vars).2 d else (actsE (varsE ks [] d.vars).2 [] d.acts).1) else (varsE ks [] d.vars).1
def dmFit (d : Dm) : Prop := d.vars.length ≤ 8 ∧ d.acts.length ≤ 20 ∧ d.goal.length ≤ 8 ∧ (∀ c ∈ d.vars, (bs c.nm).size ≤ 9223372036854775807) ∧ (∀ a ∈ d.acts, acFit a) ∧ ∀ c ∈ d.goal, (bs c.nm).size ≤ 9223372036854775807
theorem cdom_any {kb vb ab mk : Nat} {ks : List KyG} {Q : Nat → Prop} (d : Dm) (nm : ByteArray) (v1 v2 v3 : Value) (ys : List Value) (w : World) (h1 : SlAt w Q v1 d.vars.length (vaC d.vars)) (h2 : SlAt w Q v2 d.acts.length ys) (h2' : LsAt (AcAt w Q) d.acts ys) (h3 : SlAt w Q v3 d.goal.length (cnC d.goal)) (hQ : ∀ b, Q b → b ≠ vb ∧ b ≠ ab)
    (hk : KM w kb mk ks) (hv : NM w vb 0 []) (ha : NM w ab 0 []) (n1 : kb ≠ vb) (n3 : vb ≠ ab) (hf : dmFit d) :
    Calls Tryz.prog 45 #[elV kb vb ab, .agg #[.string nm, v1, v2, v3]] w fun e w' => e = .returned (.int .i64 (domE ks d)) ∧ Touch (fun b => b = vb ∨ b = ab) w w' := by
  have HF := Lib.hid hf
  have hkl := hk.lt
  have hvl := hv.lt
  have hal := ha.lt
  have HS := Lib.hid (And.intro h1 (And.intro h2 (And.intro h2' (And.intro h3 (And.intro hQ (And.intro hk (And.intro hv ha)))))))
  obtain ⟨A1, c1, rfl, -⟩ := h1
  obtain ⟨A2, c2, rfl, -⟩ := h2
  obtain ⟨A3, c3, rfl, -⟩ := h3
  clear h2' hf hk hv ha hQ
  have l1 := HF.out.1
  have l2 := HF.out.2.1
  have l3 := HF.out.2.2.1
  have HFV := Lib.hid (fun w3 (t : Touch NoB w w3) => first_var (ab := ab) d.vars (.slice A1 d.vars.length c1) w3 (HS.out.1.touch t (fun _ _ f => f)) (fun b h => (HS.out.2.2.2.2.1 b h).1) (HS.out.2.2.2.2.2.1.touch t (fun f => f)) (HS.out.2.2.2.2.2.2.1.touch t (fun f => f)) n1 HF.out.2.2.2.1 (by omega) (by omega))
  obtain ⟨V, hV⟩ : ∃ V, varsE ks [] d.vars = V := ⟨_, rfl⟩
  have HV : Hid (domE ks d = if V.1 = 0 then (if (actsE V.2 [] d.acts).1 = 0 then goalE V.2 d else (actsE V.2 [] d.acts).1) else V.1) := Lib.hid (by rw [← hV]; rfl)
  rw [hV] at HFV
  obtain ⟨rv, hrv⟩ : ∃ rv, domE ks d = rv := ⟨_, rfl⟩
  rw [hrv] at HV ⊢
  clear hrv hV
  obtain ⟨N1, hN1⟩ : ∃ N1, d.vars.length = N1 := ⟨_, rfl⟩
  obtain ⟨N2, hN2⟩ : ∃ N2, d.acts.length = N2 := ⟨_, rfl⟩
  obtain ⟨N3, hN3⟩ : ∃ N3, d.goal.length = N3 := ⟨_, rfl⟩
  have HN := Lib.hid (And.intro hN1 (And.intro hN2 hN3))
  rw [hN1] at HFV l1 ⊢
  rw [hN2] at l2 ⊢
  rw [hN3] at l3 ⊢
  clear hN1 hN2 hN3
  obtain ⟨v, us⟩ := V
  simp only at HFV HV
  unfold elV at HFV ⊢
  go_enter Tryz.func45, Tryz.ntmps45
  go_wp2_with fail
  refine (HFV.out _ (by repeat (first | with_reducible exact Touch.refl NoB _ | with_reducible refine Touch.drew ?_ | with_reducible refine Touch.alloc ?_ _))).mono ?_
  rintro r w2 ⟨rfl, ⟨m2, hm2, hN2⟩, hT⟩
  have hb0 := (hT.block w.heap.size (by simp only [World.size_alloc]; omega) (by omega)).trans ((((Touch.refl NoB _).alloc _).block w.heap.size (by simp only [World.size_alloc]; omega) (fun f => f)).trans (alloc_blk w #[.map (some kb), .map (some vb), .map (some ab)] 110 rfl))
  have hb1 := (hT.block (w.heap.size + 1) (by simp only [World.size_alloc]; omega) (by omega)).trans (alloc_blk _ #[.string nm, .slice A1 N1 c1, .slice A2 N2 c2, .slice A3 N3 c3] 71 (by simp only [World.size_alloc]))
  have a0 := cell_blk hb0 0
  have a1 := cell_blk hb0 1
  have a2 := cell_blk hb0 2
  have a3 := blk_lt hb0
  have b1 := cell_blk hb1 2
  have b2 := cell_blk hb1 3
  have b3 := blk_lt hb1
  have HB := Lib.hid (And.intro hb0 hb1)
  have t1 : Touch (fun b => b = vb) w ((w.alloc (.cells #[.map (some kb), .map (some vb), .map (some ab)] 110)).alloc (.cells #[.string nm, .slice A1 N1 c1, .slice A2 N2 c2, .slice A3 N3 c3] 71)) := by repeat (first | with_reducible exact Touch.refl _ _ | with_reducible refine Touch.drew ?_ | with_reducible refine Touch.alloc ?_ _)
  have HT := Lib.hid (t1.same hT)
  have HN2 := Lib.hid hN2
  have hq1 : ∀ b, Q b → ¬ b = vb := fun b h => (HS.out.2.2.2.2.1 b h).1
  have s2 := HS.out.2.1.touch (t1.same hT) hq1
  have s2' := HS.out.2.2.1.mono (fun a ys h => h.touch (t1.same hT) hq1)
  have s3 := HS.out.2.2.2.1.touch (t1.same hT) hq1
  have sa := HS.out.2.2.2.2.2.2.2.touch (t1.same hT) (Ne.symm n3)
  have HS3 := Lib.hid s3
  have HFA := Lib.hid (fun w3 (t : Touch NoB w2 w3) => first_act (kb := kb) (vb := vb) (vs := us) d.acts (.slice A2 d.acts.length c2) ys w3 (s2.touch t (fun _ _ f => f)) (s2'.mono (fun a ys h => h.touch t (fun _ _ f => f))) (fun b h => (HS.out.2.2.2.2.1 b h).2) (HN2.out.touch t (fun f => f)) (sa.touch t (fun f => f)) n3 HF.out.2.2.2.2.1 (by have := HF.out.2.1; omega) (by omega))
  obtain ⟨V, hV⟩ : ∃ V, actsE us [] d.acts = V := ⟨_, rfl⟩
  rw [hV] at HV HFA
  obtain ⟨x, xs⟩ := V
  simp only at HV HFA
  rw [HN.out.2.1] at HFA
  unfold elV at HFA
  clear hT t1 hb0 hb1 s2 s2' s3 sa hN2 hV hq1
  by_cases h0 : v = 0
  · subst h0
    go_wp2_with fail
    refine (HFA.out _ (by repeat (first | with_reducible exact Touch.refl NoB _ | with_reducible refine Touch.drew ?_ | with_reducible refine Touch.alloc ?_ _))).mono ?_
    rintro r w4 ⟨rfl, -, hT4'⟩
    have hT4 := Touch.same (F := fun b => b = ab) (a := w2) (by repeat (first | with_reducible exact Touch.refl _ _ | with_reducible refine Touch.drew ?_ | with_reducible refine Touch.alloc ?_ _)) hT4'
    have k2 := (hT4.cell (p := ⟨w.heap.size + 1, 3, none⟩) b3 (by show ¬ w.heap.size + 1 = ab; omega)).trans b2
    have k0 := (hT4.cell (p := ⟨w.heap.size, 0, none⟩) a3 (by show ¬ w.heap.size = ab; omega)).trans a0
    have k1 := (hT4.cell (p := ⟨w.heap.size, 1, none⟩) a3 (by show ¬ w.heap.size = ab; omega)).trans a1
    have k3 := (hT4.cell (p := ⟨w.heap.size, 2, none⟩) a3 (by show ¬ w.heap.size = ab; omega)).trans a2
    have k4 := Nat.lt_of_lt_of_le a3 hT4.size
    have k5 := Nat.lt_of_lt_of_le b3 hT4.size
    have HT4 := Lib.hid ((HT.out.mono (fun b h => Or.inl h) : Touch (fun b => b = vb ∨ b = ab) w w2).same (hT4.mono (fun b h => Or.inr h)))
    have s3 := HS3.out.touch hT4 (fun b h => (HS.out.2.2.2.2.1 b h).2)
    have sv := HN2.out.touch hT4 n3
    have HFC := Lib.hid (fun w3 (t : Touch NoB w4 w3) => first_cond (kb := kb) (ab := ab) d.goal (.slice A3 d.goal.length c3) w3 (s3.touch t (fun _ _ f => f)) (sv.touch t (fun f => f)) HF.out.2.2.2.2.2 (by have := HF.out.2.2.1; omega))
    obtain ⟨g, hg⟩ : ∃ g, goalE us d = g := ⟨_, rfl⟩
    have hg' : firstE (d.goal.map fun c => opE us (bs c.nm) c.n) = g := hg
    rw [hg', HN.out.2.2] at HFC
    rw [hg] at HV
    unfold elV at HFC
    clear hT4 hT4' s3 sv hg hg' a0 a1 a2 b1 b2
    by_cases h1 : x = 0
    · subst h1
      go_wp2_with (first | (go_at_call 69; refine (HFC.out _ (by repeat (first | with_reducible exact Touch.refl NoB _ | with_reducible refine Touch.drew ?_ | with_reducible refine Touch.alloc ?_ _))).mono ?_; rintro r w5 ⟨rfl, hT5⟩; have HT5 := Lib.hid (Touch.same (F := NoB) (a := w4) (by repeat (first | with_reducible exact Touch.refl NoB _ | with_reducible refine Touch.drew ?_ | with_reducible refine Touch.alloc ?_ _)) hT5); clear hT5))
      go_ret
      exact ⟨by rw [HV.out]; rfl, HT4.out.same (HT5.out.mono (fun b f => f.elim))⟩
    · go_wp2_with fail
      go_ret
      exact ⟨by rw [HV.out, if_pos trivial, if_neg h1]; rfl, HT4.out⟩
  · go_wp2_with fail
    go_ret
    exact ⟨by rw [HV.out, if_neg h0]; rfl, HT.out.mono (fun b h => Or.inl h)⟩
end Go.Proofs.YtnphaaahdlkmhaaGreat
end
/-
  Package check's checkDomains. Conditions: those that each theorem names.
-/
section
namespace Go.Proofs.YtnphaaahdlkmhaaGreat
open Go.ChangeShapes Go.WideShapes Go.ChangeAt Go.RowKit Go.Maps
set_option maxRecDepth 100000
set_option maxHeartbeats 4000000

/-- The first error in the domains, with the domain's name; and the names that have been seen by then. -/
def domsE (ks : List KyG) : List ByteArray → List Dm → (ByteArray × Int) × List ByteArray
  | us, [] => ((⟨#[]⟩, 0), us)
  | us, d :: l => if inN us (bs d.nm) = true then ((bs d.nm, 6), us) else if domE ks d = 0 then domsE ks (addNm us (bs d.nm)) l else ((bs d.nm, domE ks d), addNm us (bs d.nm))
/-- The checker's block. -/
def CkB (w : World) (cb kb rb db : Nat) (k : Int) : Prop := w.heap[cb]? = some (.cells #[.map (some kb), .map (some rb), .map (some db), .int .i64 k] 80 (0, 0))
def FdRel (ks : List KyG) (db m : Nat) (l : List Dm) (w : World) (v : Value) (wr : World) : Prop := ∃ (i : Nat) (xs : List ByteArray), i ≤ l.length ∧ v = .int .i64 i ∧ domsE ks [] l = domsE ks xs (l.drop i) ∧ NM wr db (m + i) xs ∧ Touch (fun b => b = db) w wr
theorem cdoms_any {cb kb rb db mk : Nat} {k : Int} {ks : List KyG} {Q : Nat → Prop} (l : List Dm) (v1 v2 v3 : Value) (ys : List Value) (w : World) (hc : CkB w cb kb rb db k) (h3 : SlAt w Q v3 l.length ys) (h3' : LsAt (DmAt w Q) l ys) (hQ : ∀ b, Q b → b < w.heap.size ∧ b ≠ db) (hk : KM w kb mk ks) (hd : NM w db 0 []) (n1 : kb ≠ db) (n2 : cb ≠ db) (hl : l.length ≤ 100) (hf : ∀ d ∈ l, (bs d.nm).size ≤ 9223372036854775807 ∧ dmFit d) :
    Calls Tryz.prog 25 #[.pointer (some ⟨cb, 0, none⟩), .agg #[v1, v2, v3]] w fun e w' => e = .returned (.tuple #[.string (domsE ks [] l).1.1, .int .i64 (domsE ks [] l).1.2]) ∧ (∃ m', NM w' db m' (domsE ks [] l).2) ∧ Touch (fun b => b = db) w w' := by
  have hmm := @run_makeMap Tryz.prog
  obtain ⟨A, cap, rfl, hx⟩ := h3
  have c0 := cell_blk hc 0
  have c1 := cell_blk hc 1
  have c2 := cell_blk hc 2
  have c3 := blk_lt hc
  obtain ⟨n, hn⟩ : ∃ n, l.length = n := ⟨_, rfl⟩
  have HN := Lib.hid hn
  rw [hn] at hl ⊢
  clear hn
  have HX := Lib.hid (And.intro hx (And.intro h3' (And.intro hQ (And.intro hk (And.intro hd (And.intro hf hc))))))
  clear hx h3' hQ hk hd hf hc
  go_enter Tryz.func25, Tryz.ntmps25
  go_wp2
  go_loopw [17] (fun v17 wr => FdRel ks db 0 l w v17 wr) (fun v17 _ => n - (intOf v17).toNat)
  case atStart => exact ⟨0, [], Nat.zero_le _, rfl, rfl, HX.out.2.2.2.2.1.touch ((Touch.refl NoB _).alloc _) (fun f => f), (Touch.refl _ _).alloc _⟩
  case round =>
    obtain ⟨i, xs, hi, rfl, hE, hN, hT⟩ := hrel
    have hcw := (hT.block cb (blk_lt HX.out.2.2.2.2.2.2) n2).trans HX.out.2.2.2.2.2.2
    have d0 := cell_blk hcw 0
    have d2 := cell_blk hcw 2
    have d3 := blk_lt hcw
    clear c0 c1 c2 c3
    by_cases hlt : i < n
    · obtain ⟨c, hc⟩ : ∃ c, l[i]? = some c := ⟨l[i]'(by have := HN.out; omega), List.getElem?_eq_getElem _⟩
      obtain ⟨zs, ⟨u1, u2, u3, ws, rfl, s1, s2, s2', s3⟩, hz⟩ := HX.out.2.1.at_ (s := 4) (fun a ys h => by obtain ⟨_, _, _, _, rfl, -⟩ := h; rfl) i c hc
      have HSS := Lib.hid (And.intro s1 (And.intro s2 (And.intro s2' s3)))
      obtain ⟨A1, k1, rfl, -⟩ := s1
      obtain ⟨A2, k2, rfl, -⟩ := s2
      obtain ⟨A3, k3, rfl, -⟩ := s3
      obtain ⟨b, rfl, hQb, hb, e0⟩ := HX.out.1 _ _ ((hz 0 (by omega)).trans rfl)
      obtain ⟨b', hb', -, -, e1⟩ := HX.out.1 _ _ ((hz 1 (by omega)).trans rfl)
      injection hb' with hb'
      injection hb' with hb'
      subst hb'
      obtain ⟨b', hb', -, -, e2⟩ := HX.out.1 _ _ ((hz 2 (by omega)).trans rfl)
      injection hb' with hb'
      injection hb' with hb'
      subst hb'
      obtain ⟨b', hb', -, -, e3⟩ := HX.out.1 _ _ ((hz 3 (by omega)).trans rfl)
      injection hb' with hb'
      injection hb' with hb'
      subst hb'
      have hbv := (HX.out.2.2.1 b hQb).2
      have f0 := (hT.cell (p := ⟨b, i * 4, none⟩) hb hbv).trans e0
      have f1 := (hT.cell (p := ⟨b, i * 4 + 1, none⟩) hb hbv).trans e1
      have f2 := (hT.cell (p := ⟨b, i * 4 + 2, none⟩) hb hbv).trans e2
      have f4 := (hT.cell (p := ⟨b, i * 4 + 3, none⟩) hb hbv).trans e3
      have f3 := Nat.lt_of_lt_of_le hb hT.size
      have hfc := HX.out.2.2.2.2.2.1 c (List.mem_of_getElem? hc)
      obtain ⟨q, hq⟩ : ∃ q, inN xs (bs c.nm) = q := ⟨_, rfl⟩
      have HQ := Lib.hid hq
      have HA := Lib.hid (fun w3 (t : Touch NoB wr w3) => hq ▸ add13_any (s := bs c.nm) w3 (hN.touch t (fun f => f)) (by omega) hfc.1)
      have hdb := hN.lt
      have HR := Lib.hid (And.intro hE (And.intro hT (And.intro hc (And.intro hfc hcw))))
      clear hE hN hT hc hfc e0 e1 e2 e3 hz s2' hcw
      clear hq
      cases q
      · go_wp2_with fail
        go_region_law? (first | (go_simp; go_at_call 44; refine (HA.out _ (by repeat (first | with_reducible exact Touch.refl NoB _ | with_reducible refine Touch.drew ?_ | with_reducible refine Touch.alloc ?_ _))).mono ?_; rintro r w3 ⟨rfl, hN3, hT3⟩; have t3 := Touch.same (F := fun b => b = db) (a := wr) (by repeat (first | with_reducible exact Touch.refl _ _ | with_reducible refine Touch.drew ?_ | with_reducible refine Touch.alloc ?_ _)) hT3; have g0 := hT3.block wr.heap.size (by simp only [World.size_alloc, World.size_drew]; omega) (by omega); have HT3 := Lib.hid (And.intro hN3 t3); clear hN3 hT3))
        all_goals
          have hdw := g0.trans (alloc_blk wr #[.string (bs c.nm), .slice A1 c.vars.length k1, .slice A2 c.acts.length k2, .slice A3 c.goal.length k3] 71 rfl)
          have hc3 := (t3.block cb (blk_lt HR.out.2.2.2.2) n2).trans HR.out.2.2.2.2
          have m0 := cell_blk hdw 0
          have m1 := cell_blk hdw 1
          have m2 := cell_blk hdw 2
          have m3 := cell_blk hdw 3
          have m4 := blk_lt hdw
          have o0 := cell_blk hc3 0
          have o1 := blk_lt hc3
          have T : Touch NoB w3 (((w3.alloc (.map #[] 0)).alloc (.map #[] 0)).alloc (.cells #[.map (some kb), .map (some w3.heap.size), .map (some (w3.heap.size + 1))] 110)) := by repeat (first | with_reducible exact Touch.refl NoB _ | with_reducible refine Touch.drew ?_ | with_reducible refine Touch.alloc ?_ _)
          have p0 := (T.cell (p := ⟨wr.heap.size, 0, none⟩) m4 (fun f => f)).trans m0
          have p1 := (T.cell (p := ⟨wr.heap.size, 1, none⟩) m4 (fun f => f)).trans m1
          have p2 := (T.cell (p := ⟨wr.heap.size, 2, none⟩) m4 (fun f => f)).trans m2
          have p3 := (T.cell (p := ⟨wr.heap.size, 3, none⟩) m4 (fun f => f)).trans m3
          simp only [List.getElem?_toArray, List.getElem?_cons_succ, List.getElem?_cons_zero] at p0 p1 p2 p3
          clear g0 t3 hdw hc3 f0 f1 f2 f4 d0 d2 T
          go_wp2_with fail
        all_goals
          have hwr := HR.out.2.1.size
          have hw3 := HT3.out.2.size
          have T9 : Touch NoB w3 (((w3.alloc (.map #[] 0)).alloc (.map #[] 0)).alloc (.cells #[.map (some kb), .map (some w3.heap.size), .map (some (w3.heap.size + 1))] 110)) := by repeat (first | with_reducible exact Touch.refl NoB _ | with_reducible refine Touch.drew ?_ | with_reducible refine Touch.alloc ?_ _)
          have TA := (HR.out.2.1.same HT3.out.2).same (T9.mono (fun b f => f.elim))
          have hq0 : ∀ b, Q b → ¬ b = db := fun b h => (HX.out.2.2.1 b h).2
          have na := (NM.made w3).touch ((((Touch.refl NoB _).alloc (.map #[] 0)).alloc (.cells #[.map (some kb), .map (some w3.heap.size), .map (some (w3.heap.size + 1))] 110))) (fun f => f)
          have nb := (NM.made (w3.alloc (.map #[] 0))).touch ((Touch.refl NoB _).alloc (.cells #[.map (some kb), .map (some w3.heap.size), .map (some (w3.heap.size + 1))] 110)) (fun f => f)
          rw [World.size_alloc] at nb
          have hkl := HX.out.2.2.2.1.lt
          refine (cdom_any (vb := w3.heap.size) (ab := w3.heap.size + 1) c (bs c.nm) _ _ _ ws _ (HSS.out.1.touch TA hq0) (HSS.out.2.1.touch TA hq0) (HSS.out.2.2.1.mono (fun a ys h => h.touch TA hq0)) (HSS.out.2.2.2.touch TA hq0) (fun b h => by have := (HX.out.2.2.1 b h).1; omega) (HX.out.2.2.2.1.touch TA n1) na nb (by omega) (by omega) HR.out.2.2.2.1.2).mono ?_
          rintro r w4 ⟨rfl, hT4⟩
          have TB := TA.trans hT4 (fun x h => .inr (by rcases h with rfl | rfl <;> omega))
          have q0 := (hT4.cell (p := ⟨wr.heap.size, 0, none⟩) (Nat.lt_of_lt_of_le m4 T9.size) (by rintro (h | h) <;> (simp only at h; omega))).trans p0
          have q4 := Nat.lt_of_lt_of_le (Nat.lt_of_lt_of_le m4 T9.size) hT4.size
          have hN4 := (HT3.out.1.touch T9 (fun f => f)).touch hT4 (by rintro (h | h) <;> omega)
          obtain ⟨de, hde⟩ : ∃ de, domE ks c = de := ⟨_, rfl⟩
          have hE2 : domsE ks [] l = if de = 0 then domsE ks (addNm xs (bs c.nm)) (l.drop (i + 1)) else ((bs c.nm, de), addNm xs (bs c.nm)) := by
            rw [HR.out.1, drop13_at HR.out.2.2.1, ← hde]
            show (if inN xs (bs c.nm) = true then _ else _) = _
            rw [if_neg (by rw [HQ.out]; decide)]
          have HZ := Lib.hid (And.intro hE2 (And.intro hN4 TB))
          rw [hde]
          clear hT4 TA TB T9 na nb hE2 hN4 hde m0 m1 m2 m3 p0 p1 p2 p3 o0 hq0
          by_cases h0 : de = 0
          · subst h0
            go_wp2_with fail
            go_roundw
            case rel => exact ⟨i + 1, _, by have := HN.out; omega, by go_num, HZ.out.1.trans (if_pos trivial), HZ.out.2.1, HZ.out.2.2⟩
            case measure => simp [intOf]; omega
          · go_wp2_with fail
            go_ret2
            have hz := HZ.out.1.trans (if_neg h0)
            exact ⟨by rw [hz]; rfl, ⟨_, by rw [hz]; exact HZ.out.2.1⟩, HZ.out.2.2⟩
      · go_wp2_with fail
        go_region_law? (first | (go_simp; go_at_call 44; refine (HA.out _ (by repeat (first | with_reducible exact Touch.refl NoB _ | with_reducible refine Touch.drew ?_ | with_reducible refine Touch.alloc ?_ _))).mono ?_; rintro r w3 ⟨rfl, hN3, hT3⟩; have t3 := Touch.same (F := fun b => b = db) (a := wr) (by repeat (first | with_reducible exact Touch.refl _ _ | with_reducible refine Touch.drew ?_ | with_reducible refine Touch.alloc ?_ _)) hT3; have g0 := hT3.block wr.heap.size (by simp only [World.size_alloc, World.size_drew]; omega) (by omega); have HT3 := Lib.hid (And.intro hN3 t3); clear hN3 hT3))
        all_goals
          have hdw := g0.trans (alloc_blk wr #[.string (bs c.nm), .slice A1 c.vars.length k1, .slice A2 c.acts.length k2, .slice A3 c.goal.length k3] 71 rfl)
          have m0 := cell_blk hdw 0
          have m4 := blk_lt hdw
          have hz : domsE ks [] l = ((bs c.nm, 6), xs) := by
            rw [HR.out.1, drop13_at HR.out.2.2.1]
            show (if inN xs (bs c.nm) = true then _ else _) = _
            rw [if_pos HQ.out]
          have hN3 : NM w3 db (0 + i + 1) xs := by have := HT3.out.1; unfold addNm at this; rw [if_pos HQ.out] at this; exact this
          have HZ := Lib.hid (And.intro hz (And.intro hN3 (HR.out.2.1.same HT3.out.2)))
          clear hz hN3 hdw g0 t3 f0 f1 f2 f4 d0 d2
          go_wp2_with fail
          go_ret2
          exact ⟨by rw [HZ.out.1]; rfl, ⟨_, by rw [HZ.out.1]; exact HZ.out.2.1⟩, HZ.out.2.2⟩
    · have hin : i = n := by have := HN.out; omega
      subst hin
      have hz : domsE ks [] l = ((⟨#[]⟩, 0), xs) := by rw [hE, List.drop_of_length_le (by have := HN.out; omega)]; rfl
      have HR := Lib.hid (And.intro hz (And.intro hN hT))
      clear hE hz hN hT
      go_wp2
      go_ret2
      exact ⟨by rw [HR.out.1]; rfl, ⟨_, by rw [HR.out.1]; exact HR.out.2.1⟩, HR.out.2.2⟩
end Go.Proofs.YtnphaaahdlkmhaaGreat
end
/-
  Package syntax's MayHave, of a node that is well formed. Conditions: those that each theorem names.
-/
section
namespace Go.Proofs.YtnphaaahdlkmhaaGreat
open Go.ChangeShapes Go.WideShapes Go.ChangeAt Go.RowKit Go.Maps
set_option maxRecDepth 100000
set_option maxHeartbeats 4000000

theorem mayhave_ok (kd nk nw : Nat) (w : World) (hk : kd ≤ 15) (h1 : mostL kd = 0 ∨ 1 ≤ nk) (h2 : nk ≤ mostL kd) (hw : nw = if kd = 11 then nk else 0) :
    Calls Tryz.prog 71 #[.int .i64 kd, .int .i64 nk, .int .i64 nw] w fun e w' => e = .returned (.bool true) ∧ Touch NoB w w' := by
  have HM := Lib.hid (fun w => mostkids_any kd hk w)
  obtain ⟨m, hm⟩ : ∃ m, mostL kd = m := ⟨_, rfl⟩
  rw [hm] at HM h1 h2
  have hm16 : m ≤ 16 := by subst hm; unfold mostL; split <;> (try split) <;> omega
  clear hm
  by_cases h11 : kd = 11
  · subst h11
    rw [if_pos rfl] at hw
    subst hw
    go_enter Tryz.func71, Tryz.ntmps71
    go_wp2_with (go_at_call 89; refine (HM.out _).mono ?_; rintro r w2 ⟨rfl, rfl⟩)
    all_goals
      go_ret
      exact ⟨rfl, Touch.refl NoB _⟩
  · rw [if_neg h11] at hw
    subst hw
    go_enter Tryz.func71, Tryz.ntmps71
    go_wp2_with (go_at_call 89; refine (HM.out _).mono ?_; rintro r w2 ⟨rfl, rfl⟩)
    all_goals
      go_ret
      exact ⟨rfl, Touch.refl NoB _⟩
end Go.Proofs.YtnphaaahdlkmhaaGreat
end
