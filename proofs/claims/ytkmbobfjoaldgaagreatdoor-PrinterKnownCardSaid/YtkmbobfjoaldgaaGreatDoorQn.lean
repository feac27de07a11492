/-
  What package expr's unary does with a parser in memory. Conditions: names and numbers among the tokens are such; what it calls does as the model says.
-/
import Derived.Test.YtkmbobfjoaldgaaGreatDoorQl
import Derived.Deep.RegionLaw
namespace Go.Proofs.YtkmbobfjoaldgaaGreatDoor
open Go.ChangeShapes Go.WideShapes Go.ChangeAt Go.RowKit
set_option maxRecDepth 100000
set_option maxHeartbeats 4000000

def NumsOk (ts : List Tk) : Prop := (∀ (k m : Nat), numAt ts k = some m → m ≤ 9223372036854775807) ∧ ∀ t ∈ ts, t.tx.length ≤ 100000
/-- What is assumed of unary at nesting d, of primary at nesting d. -/
def UnaOk (gp g n cp B : Nat) (ts : List Tk) (d D : Nat) (U : Nat → Rs) : Prop := ∀ (W : World) (k e : Nat), PS W gp g n cp ts k e → LV W B →
  Calls Tryz.prog 172 #[.pointer (some ⟨gp, 0, none⟩), .int .i64 (d : Int)] W (XP W NoB gp g n cp ts (U k) k e D)
def PriOk (gp g n cp B : Nat) (ts : List Tk) (d D : Nat) (U : Nat → Rs) : Prop := ∀ (W : World) (k e : Nat), PS W gp g n cp ts k e → LV W B →
  Calls Tryz.prog 179 #[.pointer (some ⟨gp, 0, none⟩), .int .i64 (d : Int)] W (XP W NoB gp g n cp ts (U k) k e D)

theorem una_deep {gp g n cp B D : Nat} {ts : List Tk} (hD : 1 ≤ D) : UnaOk gp g n cp B ts 41 D (unaL ts 0) := by
  intro w k e h hv
  clear hv
  obtain ⟨W0, hW0⟩ : ∃ W, w.alloc (.cells #[.int .i64 0, .int .i64 0, .string ⟨#[]⟩, .slice none 0 0] 44) = W := ⟨_, rfl⟩
  have hT0 : Touch NoB w W0 := by rw [← hW0]; exact (Touch.refl _ _).alloc _
  have hb4 : XB W0 w.heap.size 0 0 ⟨#[]⟩ none 0 0 := by rw [← hW0]; exact XB.new w _ _ _ _ _ _ rfl
  have hgp := blk_lt h.blk
  have hgl := h.tl.lt
  have HF : Hid (Calls Tryz.prog 44 #[.pointer (some ⟨gp, 0, none⟩), .int .i64 4] W0 fun x w' => x = .returned (.tuple #[]) ∧ PS w' gp g n cp ts k (if e = 0 then 4 else e) ∧ Touch (AtB gp) W0 w') := Lib.hid (fail_any (h.touch hT0) 4)
  have HO : Hid (Out (unaL ts 0 k) k e (.leaf 0 0 []) k (if e = 0 then 4 else e)) := Lib.hid (by
    unfold Out unaL
    by_cases he : e = 0
    · rw [if_pos he, if_pos he]; exact ⟨rfl, rfl, by decide⟩
    · rw [if_neg he, if_neg he]; exact ⟨rfl, rfl⟩)
  obtain ⟨e9, he9⟩ : ∃ e9, (if e = 0 then 4 else e) = e9 := ⟨_, rfl⟩
  rw [he9] at HF HO
  have HB4 := Lib.hid hb4
  have HT0 := Lib.hid hT0
  clear h hb4 hT0 he9
  go_enter Tryz.func172, Tryz.ntmps172
  go_wp2_with fail
  refine HF.out.mono ?_
  rintro r V ⟨rfl, hp, hT⟩
  have HQ := Lib.hid (And.intro hp hT)
  clear hp hT
  have hb4 := HB4.out.go HQ.out.2 (by omega)
  obtain ⟨z0, z1, z2, z3, z4⟩ := hb4.cells
  obtain ⟨f0, f1, f2, f3⟩ := hb4.free
  clear hb4
  go_wp2
  have hTE := touch4 (F := AtB gp) ((Touch.anyB (F := AtB gp) HT0.out).same HQ.out.2) (.inr (Nat.le_refl w.heap.size)) (.int .i64 0) (.int .i64 0) (.string ⟨#[]⟩) (.slice none 0 0)
  have hTX := touch4 (F := fun b => b = w.heap.size) (Touch.refl _ V) (.inl rfl) (.int .i64 0) (.int .i64 0) (.string ⟨#[]⟩) (.slice none 0 0)
  exact bodyPost_ret (v := .agg #[.int .i64 0, .int .i64 0, .string ⟨#[]⟩, .slice none 0 0]) (by simp [results, Tryz.results172, go_sem, z0, z1, z2, z3]) rfl ⟨hTE, .leaf 0 0 [], k, e9, _, _, _, _, _, _, rfl, ⟨rfl, rfl, rfl, rfl, rfl, rfl⟩, HQ.out.1.touchX hTX hgp hgl, HO.out, by simp only [Ex.depth]; omega⟩

theorem out_pre {ts : List Tk} {m k k2 e2 : Nat} {y : Ex} {kd : Int} (hp : firstK ts k 0 [14, 16, 17, 18] = some kd) (ho : Out (unaL ts m (k + 1)) (k + 1) 0 y k2 e2) :
    Out (unaL ts (m + 1) k) k 0 (.one kd y) k2 (if e2 = 0 ∧ 40 < (Ex.one kd y).depth then 4 else e2) := by
  unfold unaL
  rw [prek_first, hp]
  unfold Out at ho ⊢
  rw [if_pos rfl] at ho ⊢
  simp only
  cases hu : unaL ts m (k + 1) with
  | er e i =>
    rw [hu] at ho
    obtain ⟨rfl, rfl, h0⟩ := ho
    rw [if_neg (fun z => h0 z.1)]
    exact ⟨rfl, rfl, h0⟩
  | ok x i =>
    rw [hu] at ho
    obtain ⟨rfl, rfl, rfl⟩ := ho
    simp only [mk]
    by_cases h40 : 40 < (Ex.one kd y).depth
    · rw [if_pos h40, if_pos ⟨trivial, h40⟩]; refine ⟨?_, ?_, ?_⟩ <;> first | trivial | decide
    · rw [if_neg h40, if_neg (fun z => h40 z.2)]; refine ⟨?_, ?_, ?_⟩ <;> trivial
theorem out_neg {ts : List Tk} {m k : Nat} (hp : firstK ts k 0 [14, 16, 17, 18] = none) (hy : acc (nxt ts k 0) [45] = true) :
    (∀ q, numAt ts (k + 1) = some q → Out (unaL ts (m + 1) k) k 0 (.leaf 0 (-(q : Int)) []) (k + 1 + 1) 0) ∧ (numAt ts (k + 1) = none → Out (unaL ts (m + 1) k) k 0 (.leaf 0 0 []) (k + 1) 2) := by
  unfold unaL
  rw [prek_first, hp]
  rw [acc_ok] at hy
  simp only [hy, if_true]
  unfold Out
  constructor
  · intro q hq
    rw [if_pos rfl, hq]
    exact ⟨rfl, rfl, rfl⟩
  · intro hq
    rw [if_pos rfl, hq]
    exact ⟨rfl, rfl, by decide⟩
theorem out_pri {ts : List Tk} {m k e k2 e2 : Nat} {y : Ex} (hp : firstK ts k e [14, 16, 17, 18] = none) (hy : acc (nxt ts k e) [45] = false) (ho : Out (primL ts (binL ts (unaL ts m) 5) k) k e y k2 e2) : Out (unaL ts (m + 1) k) k e y k2 e2 := by
  by_cases he : e = 0
  · subst he
    unfold unaL
    rw [prek_first, hp]
    rw [acc_ok] at hy
    simp only [hy, Bool.false_eq_true, if_false]
    exact ho
  · unfold Out at ho ⊢
    rw [if_neg he] at ho ⊢
    exact ho

def unOps : List Int := [14, 16, 17, 18]
def UnRel (ts : List Tk) (k e : Nat) (W : World) (v14 : Value) (wr : World) : Prop := ∃ i : Nat, i ≤ 4 ∧ v14 = .int .i64 i ∧ (∀ (j : Nat) (q : Int), j < i → unOps[j]? = some q → acc (nxt ts k e) (wordB q) = false) ∧ Touch NoB W wr
theorem una_step {gp g n cp B d d1 m D D2 D3 : Nat} {ts : List Tk} (HU : UnaOk gp g n cp B ts d1 D (unaL ts m)) (HR : PriOk gp g n cp B ts d D2 (primL ts (binL ts (unaL ts m) 5))) (hd1 : d1 = d + 1) (hds : d ≤ 40) (hD : D + 1 ≤ D3) (hD2 : D2 ≤ D3) (hD3 : D3 ≤ 10000) (hB : B ≤ gp) (hnk : NumsOk ts) :
    UnaOk gp g n cp B ts d D3 (unaL ts (m + 1)) := by
  intro w k e h hv
  have hwr : IntKind.i64.wrap ((d : Int) + 1) = (d1 : Int) := by rw [show (d : Int) + 1 = (d1 : Int) from by omega]; exact IntWalk.i64_in _ (by omega)
  have hgt : decide ((40 : Int) < (d : Int)) = false := by simp; omega
  obtain ⟨W0, hW0⟩ : ∃ W, w.alloc (.cells #[.int .i64 0, .int .i64 0, .string ⟨#[]⟩, .slice none 0 0] 44) = W := ⟨_, rfl⟩
  have hT0 : Touch NoB w W0 := by rw [← hW0]; exact (Touch.refl _ _).alloc _
  have hs0 : W0.heap.size = w.heap.size + 1 := by rw [← hW0]; simp only [World.size_alloc]
  obtain ⟨W1, hW1⟩ : ∃ W, W0.alloc (.cells #[.int .i64 14, .int .i64 16, .int .i64 17, .int .i64 18] 3) = W := ⟨_, rfl⟩
  have hT01 : Touch NoB W0 W1 := by rw [← hW1]; exact (Touch.refl _ _).alloc _
  have hs1 : W1.heap.size = w.heap.size + 2 := by rw [← hW1]; simp only [World.size_alloc]; omega
  have hT1 : Touch NoB w W1 := hT0.same hT01
  have hb4 : XB W1 w.heap.size 0 0 ⟨#[]⟩ none 0 0 := by rw [← hW1, ← hW0]; exact (XB.new w _ _ _ _ _ _ rfl).old _
  have hops : W1.heap[W0.heap.size]? = some (.cells #[.int .i64 14, .int .i64 16, .int .i64 17, .int .i64 18] 3 (0, 0)) := by rw [← hW1]; exact alloc_blk _ _ _ rfl
  have hocell : ∀ (i : Nat) (q : Int), unOps[i]? = some q → W1.cell? ⟨w.heap.size + 1, i, none⟩ = some (.int .i64 q) := by
    intro i q hi
    rw [hs0] at hops
    have hl := (List.getElem?_eq_some_iff.1 hi).1
    have : i = 0 ∨ i = 1 ∨ i = 2 ∨ i = 3 := by simp [unOps] at hl; omega
    rcases this with rfl | rfl | rfl | rfl <;> simp [unOps] at hi <;> subst hi <;> exact cell_blk hops _
  have hgp := blk_lt h.blk
  have hgl := h.tl.lt
  have HP := Lib.hid (h.touch hT1)
  have HV := Lib.hid (hv.touch0 hT1)
  have HB4 := Lib.hid hb4
  have HT1 := Lib.hid hT1
  have HOC := Lib.hid hocell
  have HH := Lib.hid (And.intro HU (And.intro HR (And.intro hB (And.intro hnk (And.intro hD (And.intro hD2 hD3))))))
  clear h hv hT0 hT01 hb4 hT1 hops hocell HU HR hnk hd1 hds hD hD2 hD3 hB
  go_enter Tryz.func172, Tryz.ntmps172
  go_wp2
  go_loopw [16] (fun v16 wr => UnRel ts k e W1 v16 wr) (fun v16 _ => 4 - (intOf v16).toNat)
  case atStart => exact ⟨0, by omega, rfl, fun j q hj => by omega, Touch.refl _ _⟩
  case round =>
    obtain ⟨i, hi, rfl, hno, hTr⟩ := hrel
    by_cases hlt : i < 4
    · obtain ⟨kd, hkd⟩ : ∃ kd, unOps[i]? = some kd := ⟨unOps[i]'(by simp [unOps]; exact hlt), List.getElem?_eq_getElem _⟩
      have hcell : wr.cell? ⟨w.heap.size + 1, i, none⟩ = some (.int .i64 kd) := (hTr.cell (p := ⟨w.heap.size + 1, i, none⟩) (by simp only; omega) (fun x => x)).trans (HOC.out i kd hkd)
      have hkr : 4 ≤ kd ∧ kd ≤ 19 := by
        have : ∀ q ∈ unOps, 4 ≤ q ∧ q ≤ 19 := by decide
        exact this kd (List.mem_of_getElem? hkd)
      have HW := Lib.hid (fun w => word_kd kd hkr w)
      have HPr := Lib.hid (HP.out.touch hTr)
      have HNo := Lib.hid (And.intro hno (And.intro hkd hTr))
      have hwrs : w.heap.size + 2 ≤ wr.heap.size := by have := hTr.size; omega
      clear hno hkd hTr hkr
      cases ha : acc (nxt ts k e) (wordB kd)
      · have HA := Lib.hid (fun (W : World) (t : Touch NoB wr W) => accept_no (HPr.out.touch t) ha)
        have HX := Lib.hid ha
        clear ha
        go_wp2_with fail
        go_region_law
          (first
            | (go_simp; go_at_call 165
               refine (HW.out _).mono ?_
               rintro x w1 ⟨rfl, rfl⟩)
            | (go_simp; go_at_call 80
               refine (HA.out _ (Touch.refl _ _).drew).mono ?_
               rintro x w2 ⟨rfl, h1, h2⟩
               have HT := Lib.hid (HNo.out.2.2.same ((Touch.refl _ wr).drew.same h2))
               clear h1 h2))
        all_goals
          go_wp2
          go_roundw
          case rel =>
            refine ⟨i + 1, by omega, by go_num, fun j q hj hq => ?_, HT.out⟩
            by_cases ej : j = i
            · subst ej
              have := HNo.out.2.1.symm.trans hq
              injection this with this
              subst this
              exact HX.out
            · exact HNo.out.1 j q (by omega) hq
          case measure => simp [intOf]; omega
      · obtain rfl := acc_zero ha
        have HA := Lib.hid (fun (W : World) (t : Touch NoB wr W) => accept_yes (HPr.out.touch t) ha)
        have HX := Lib.hid (show firstK ts k 0 [14, 16, 17, 18] = some kd from first_at HNo.out.2.1 HNo.out.1 ha)
        clear ha
        go_wp2_with fail
        go_region_law
          (first
            | (go_simp; go_at_call 165
               refine (HW.out _).mono ?_
               rintro x w1 ⟨rfl, rfl⟩)
            | (go_simp; go_at_call 80
               refine (HA.out _ (Touch.refl _ _).drew).mono ?_
               rintro x V ⟨rfl, hp, hT0⟩
               have hT := (Touch.refl (AtB gp) wr).drew.same hT0
               clear hT0))
        all_goals
          have hTV : Touch (AtB gp) W1 V := (Touch.anyB HNo.out.2.2).same hT
          have HC := Lib.hid (HH.out.1 V (k + 1) 0 hp (HV.out.touchP hTV HH.out.2.2.1))
          have HTV := Lib.hid hTV
          have hVs : w.heap.size < V.heap.size := by have := hTV.size; omega
          clear hp hT hTV
          go_wp2_with fail
          refine HC.out.mono ?_
          rintro r w2 ⟨hT2, y, k2, e2, a2, b2, s2, A2, m2, c2, rfl, hy2, hp2, ho2, hyd⟩
          have hs2 := hT2.size
          obtain ⟨W2, hW2⟩ : ∃ W, w2.alloc (.cells #[.int .i64 a2, .int .i64 b2, .string s2, .slice A2 m2 c2] 44) = W := ⟨_, rfl⟩
          have hTA : Touch NoB w2 W2 := by rw [← hW2]; exact (Touch.refl _ _).alloc _
          have het : ET W2 (fun b => NoB b ∨ V.heap.size ≤ b) (.one kd y) kd 0 ⟨#[]⟩ (some ⟨w2.heap.size, 0, none⟩) 1 1 := by rw [← hW2]; exact hy2.mk1 kd rfl (.inr hs2)
          have hdd : (Ex.one kd y).depth ≤ D + 1 := by simp only [Ex.depth]; omega
          have hp2' := hp2.touch hTA
          have HF := Lib.hid (form_any hp2' het (by have := HH.out.2.2.2.2; omega))
          have HO2 := Lib.hid (And.intro (out_pre HX.out ho2) hdd)
          have HT2 := Lib.hid (And.intro (show Touch (AtB gp) W1 W2 from HTV.out.same (hT2.same (Touch.anyB hTA))) (And.intro het (hp2'.nox (fun b => NoB b ∨ V.heap.size ≤ b))))
          clear hT2 hy2 hp2 hp2' ho2 hyd hTA het hdd HC
          go_wp2_with fail
          refine HF.out.mono ?_
          rintro r w4 ⟨rfl, hp4, hT4⟩
          obtain ⟨e4, he4⟩ : ∃ e4, (if e2 = 0 ∧ 40 < (Ex.one kd y).depth then 4 else e2) = e4 := ⟨_, rfl⟩
          rw [he4] at hp4 HO2
          have HQ := Lib.hid (And.intro hp4 (HT2.out.1.same hT4))
          have HZ := Lib.hid (HT2.out.2.1.touch hT4 HT2.out.2.2)
          clear he4 hp4 hT4
          have hb4 := HB4.out.go HQ.out.2 (by omega)
          obtain ⟨z0, z1, z2, z3, z4⟩ := hb4.cells
          obtain ⟨f0, f1, f2, f3⟩ := hb4.free
          clear hb4
          go_wp2
          have hTE := touch4 (F := AtB gp) ((Touch.anyB (F := AtB gp) HT1.out).same HQ.out.2) (.inr (Nat.le_refl w.heap.size)) (.int .i64 kd) (.int .i64 0) (.string ⟨#[]⟩) (.slice (some ⟨w2.heap.size, 0, none⟩) 1 1)
          have hTX := touch4 (F := fun b => b = w.heap.size) (Touch.refl _ w4) (.inl rfl) (.int .i64 kd) (.int .i64 0) (.string ⟨#[]⟩) (.slice (some ⟨w2.heap.size, 0, none⟩) 1 1)
          exact bodyPost_ret (v := .agg #[.int .i64 kd, .int .i64 0, .string ⟨#[]⟩, .slice (some ⟨w2.heap.size, 0, none⟩) 1 1]) (by simp [results, Tryz.results172, go_sem, z0, z1, z2, z3]) rfl ⟨hTE, .one kd y, k2, e4, _, _, _, _, _, _, rfl, (HZ.out.aside hTX (by intro q; rcases q with q | q; exact q.elim; omega)).via (fun b h1 _ => by rcases h1 with h1 | h1; exact h1.elim; exact .inr (by omega)), HQ.out.1.touchX hTX hgp hgl, HO2.out.1, by have := HO2.out.2; have := HH.out.2.2.2.2; omega⟩
    · obtain rfl : i = 4 := by omega
      have HX : Hid (firstK ts k e [14, 16, 17, 18] = none) := Lib.hid (first_none (fun j q hj hq => hno j q (by simpa using hj) hq))
      have HPr := Lib.hid (HP.out.touch hTr)
      have HTr := Lib.hid hTr
      have hwrs : w.heap.size + 2 ≤ wr.heap.size := by have := hTr.size; omega
      clear hno hTr
      cases ha : acc (nxt ts k e) [45]
      · have HA : Hid (Calls Tryz.prog 80 #[.pointer (some ⟨gp, 0, none⟩), .string ⟨#[45]⟩] wr fun x w' => x = .returned (.bool false) ∧ PS w' gp g n cp ts k e ∧ Touch NoB wr w') := Lib.hid (accept_no (s := [45]) HPr.out ha)
        have HAF := Lib.hid ha
        clear ha
        go_wp2_with fail
        refine HA.out.mono ?_
        rintro r V ⟨rfl, hp, hT⟩
        have hTV : Touch NoB W1 V := HTr.out.same hT
        have HC := Lib.hid (HH.out.2.1 V k e hp (HV.out.touch0 hTV))
        have hVs : w.heap.size < V.heap.size := by have := hTV.size; omega
        have HTV := Lib.hid hTV
        clear hp hT hTV
        go_wp2_with fail
        refine HC.out.mono ?_
        rintro r w4 ⟨hT4, z, k3, e3, a3, b3, s3, A3, m3, c3, rfl, hz, hp4, ho4, hzd⟩
        have HQ := Lib.hid (And.intro hp4 ((Touch.anyB HTV.out).same hT4))
        have HZ := Lib.hid (And.intro hz (And.intro (out_pri HX.out HAF.out ho4) hzd))
        clear hp4 hT4 hz ho4 hzd
        have hb4 := HB4.out.go HQ.out.2 (by omega)
        obtain ⟨z0, z1, z2, z3, z4⟩ := hb4.cells
        obtain ⟨f0, f1, f2, f3⟩ := hb4.free
        clear hb4
        go_wp2
        have hTE := touch4 (F := AtB gp) ((Touch.anyB (F := AtB gp) HT1.out).same HQ.out.2) (.inr (Nat.le_refl w.heap.size)) (.int .i64 a3) (.int .i64 b3) (.string s3) (.slice A3 m3 c3)
        have hTX := touch4 (F := fun b => b = w.heap.size) (Touch.refl _ w4) (.inl rfl) (.int .i64 a3) (.int .i64 b3) (.string s3) (.slice A3 m3 c3)
        exact bodyPost_ret (v := .agg #[.int .i64 a3, .int .i64 b3, .string s3, .slice A3 m3 c3]) (by simp [results, Tryz.results172, go_sem, z0, z1, z2, z3]) rfl ⟨hTE, z, k3, e3, _, _, _, _, _, _, rfl, (HZ.out.1.aside hTX (by intro q; rcases q with q | q; exact q.elim; omega)).via (fun b h1 _ => by rcases h1 with h1 | h1; exact h1.elim; exact .inr (by omega)), HQ.out.1.touchX hTX hgp hgl, HZ.out.2.1, by have := HZ.out.2.2; have := HH.out.2.2.2.2; omega⟩
      · obtain rfl := acc_zero ha
        have HA : Hid (Calls Tryz.prog 80 #[.pointer (some ⟨gp, 0, none⟩), .string ⟨#[45]⟩] wr fun x w' => x = .returned (.bool true) ∧ PS w' gp g n cp ts (k + 1) 0 ∧ Touch (AtB gp) wr w') := Lib.hid (accept_yes (s := [45]) HPr.out ha)
        have HOn := Lib.hid (out_neg (m := m) HX.out ha)
        clear ha
        go_wp2_with fail
        refine HA.out.mono ?_
        rintro r V ⟨rfl, hp, hT⟩
        have HTV := Lib.hid (And.intro ((Touch.anyB (F := AtB gp) HTr.out).same hT) hp)
        clear hp hT
        cases hnm : numAt ts (k + 1) with
        | some q =>
          have hq := HH.out.2.2.2.1.1 (k + 1) q hnm
          have HNM := Lib.hid (number_yes HTV.out.2 hnm)
          have HO := Lib.hid (HOn.out.1 q hnm)
          have hng : IntKind.i64.wrap (-(q : Int)) = -(q : Int) := IntWalk.i64_in _ (by omega)
          clear hnm
          go_wp2_with fail
          refine HNM.out.mono ?_
          rintro r V2 ⟨rfl, hp, hT⟩
          have HQ := Lib.hid (And.intro hp (HTV.out.1.same hT))
          clear hp hT
          have hb4 := HB4.out.go HQ.out.2 (by omega)
          obtain ⟨z0, z1, z2, z3, z4⟩ := hb4.cells
          obtain ⟨f0, f1, f2, f3⟩ := hb4.free
          clear hb4
          obtain ⟨nq, hnq⟩ : ∃ nq, -(q : Int) = nq := ⟨_, rfl⟩
          rw [hnq] at hng HO
          go_wp2
          have hTE := touch4 (F := AtB gp) ((Touch.anyB (F := AtB gp) HT1.out).same HQ.out.2) (.inr (Nat.le_refl w.heap.size)) (.int .i64 0) (.int .i64 nq) (.string ⟨#[]⟩) (.slice none 0 0)
          have hTX := touch4 (F := fun b => b = w.heap.size) (Touch.refl _ V2) (.inl rfl) (.int .i64 0) (.int .i64 nq) (.string ⟨#[]⟩) (.slice none 0 0)
          exact bodyPost_ret (v := .agg #[.int .i64 0, .int .i64 nq, .string ⟨#[]⟩, .slice none 0 0]) (by simp [results, Tryz.results172, go_sem, z0, z1, z2, z3]) rfl ⟨hTE, .leaf 0 nq [], k + 1 + 1, 0, _, _, _, _, _, _, rfl, ⟨rfl, rfl, rfl, rfl, rfl, rfl⟩, HQ.out.1.touchX hTX hgp hgl, HO.out, by simp only [Ex.depth]; have := HH.out.2.2.2.2; omega⟩
        | none =>
          have HNM := Lib.hid (number_no HTV.out.2 hnm)
          have HO := Lib.hid (HOn.out.2 hnm)
          clear hnm
          go_wp2_with fail
          refine HNM.out.mono ?_
          rintro r V2 ⟨rfl, hp, hT⟩
          have HQ := Lib.hid (And.intro hp (HTV.out.1.same hT))
          clear hp hT
          have hb4 := HB4.out.go HQ.out.2 (by omega)
          obtain ⟨z0, z1, z2, z3, z4⟩ := hb4.cells
          obtain ⟨f0, f1, f2, f3⟩ := hb4.free
          clear hb4
          go_wp2
          have hTE := touch4 (F := AtB gp) ((Touch.anyB (F := AtB gp) HT1.out).same HQ.out.2) (.inr (Nat.le_refl w.heap.size)) (.int .i64 0) (.int .i64 0) (.string ⟨#[]⟩) (.slice none 0 0)
          have hTX := touch4 (F := fun b => b = w.heap.size) (Touch.refl _ V2) (.inl rfl) (.int .i64 0) (.int .i64 0) (.string ⟨#[]⟩) (.slice none 0 0)
          exact bodyPost_ret (v := .agg #[.int .i64 0, .int .i64 0, .string ⟨#[]⟩, .slice none 0 0]) (by simp [results, Tryz.results172, go_sem, z0, z1, z2, z3]) rfl ⟨hTE, .leaf 0 0 [], k + 1, 2, _, _, _, _, _, _, rfl, ⟨rfl, rfl, rfl, rfl, rfl, rfl⟩, HQ.out.1.touchX hTX hgp hgl, HO.out, by simp only [Ex.depth]; have := HH.out.2.2.2.2; omega⟩
end Go.Proofs.YtkmbobfjoaldgaaGreatDoor
