/-
  What package check's valid, kind and Kind return of an expression of any shape. Conditions: those that each theorem names.
-/
import Derived.Test.YtblcmgahgpnjmaaCe
import Derived.Test.YtblcmgahgpnjmaaDf
import Derived.Deep.AppendLies
namespace Go.Proofs.Ytblcmgahgpnjmaa
open Go.ChangeShapes Go.WideShapes Go.ChangeAt Go.RowKit Go.Maps
set_option maxRecDepth 100000
set_option maxHeartbeats 4000000

/-- The kinds of the first i Kids stand in the row v6. -/
def VdRel (g : GE → Int × Int) (l : List GE) (m B : Nat) (w : World) (v6 v18 : Value) (wr : World) : Prop := ∃ (i : Nat) (vs : List Int), i ≤ m ∧ v18 = .int .i64 i ∧ kidsG g (l.take i) = .ok vs ∧ vs.length = i ∧ wr.ownsRow B 3 1 v6 i (icG vs) ∧ Touch NoB w wr
theorem valid_any {ks : List KyG} {mb nk : Nat} : ∀ (f : Nat), f ≤ 40 → ∀ (x : GE), rightG f x = true → ∀ (w : World) (d : Nat) {a b : Int} {s : ByteArray} {A : Option Addr} {m c : Nat}, GAt w d x a b s A m → m ≤ c → KM w mb nk ks →
    Calls Try.prog 21 #[.map (some mb), .agg #[.int .i64 a, .int .i64 b, .string s, .slice A m c]] w fun e w' => e = .returned (.tuple #[.int .i64 (kindG ks f x).1, .int .i64 (kindG ks f x).2]) ∧ Touch NoB w w'
  | 0, _, x, hr, _, _, _, _, _, _, _, _, _, _, _ => by simp [rightG] at hr
  | f + 1, hf, x, _, w, 0, a, b, s, A, m, c, hx, _, _ => hx.elim
  | f + 1, hf, .mk k n t l, hr, w, d + 1, a, b, s, A, m, c, hx, hc, hM => by
    have ih := Lib.hid (fun (y : GE) (hy0 : rightG f y = true) (w : World) (a b : Int) (s : ByteArray) (A : Option Addr) (m c : Nat) (hy : GAt w d y a b s A m) (hm : m ≤ c) (hM : KM w mb nk ks) => valid_any f (by omega) y hy0 w d hy hm hM)
    have HX := Lib.hid hx
    have HM := Lib.hid hM
    obtain ⟨rfl, rfl, rfl, hl, -, -, hs, hm, -⟩ := hx
    unfold rightG at hr
    rw [hl, Bool.and_eq_true, List.all_eq_true] at hr
    obtain ⟨hr1, hr2⟩ := hr
    obtain ⟨hkm, hal⟩ := alone_yes hr1
    have hm2 : m ≤ 2 := by unfold kidsI at hkm; split at hkm <;> (try split at hkm) <;> omega
    have hrng : 0 ≤ a ∧ a ≤ 19 := by omega
    obtain ⟨i0, hi, hz0, hz1, hz2⟩ := info_i64'
    obtain ⟨R, hR⟩ : ∃ R, kindG ks (f + 1) (.mk a b s l) = R := ⟨_, rfl⟩
    rw [hR]
    unfold kindG at hR
    obtain ⟨g, hg⟩ : ∃ g, kindG ks f = g := ⟨_, rfl⟩
    rw [hg] at ih hR
    have HRR := Lib.hid hR
    have HL := Lib.hid (And.intro hl (And.intro hc (And.intro hr2 (And.intro hkm (And.intro hrng hs)))))
    clear hf hg hl hm hr1 hr2 hal hkm hM hs hR
    go_enter Try.func21, Try.ntmps21
    go_wp2
    go_loopw [6, 18] (fun v6 v18 wr => VdRel g l m (w.heap.size + 1) (gbw w a b s A m c) v6 v18 wr) (fun _ v18 _ => m - (intOf v18).toNat)
    case atStart => exact ⟨0, [], Nat.zero_le _, rfl, rfl, rfl, World.ownsRow_nil _ _ _ _, Touch.refl _ _⟩
    case round =>
      obtain ⟨i, vs, hi6, rfl, hks, hvl, hrow, hTr0⟩ := hrel
      obtain ⟨p0, p1, p2, p3, p4⟩ := ((gbw_blk w a b s A m c).touch hTr0).cells
      have hTr := (gbw_touch w a b s A m c).same hTr0
      have HT0 := Lib.hid hTr0
      have hsz : w.heap.size + 1 ≤ wr.heap.size := by have := hTr0.size; unfold gbw at this; rw [World.size_alloc] at this; exact this
      obtain ⟨Ao, co, rfl, hco1, hco2⟩ := row_any hrow
      clear hTr0
      by_cases hlt : i < m
      · obtain ⟨y, hy⟩ : ∃ y, l[i]? = some y := ⟨l[i]'(by rw [HL.out.1]; exact hlt), List.getElem?_eq_getElem _⟩
        obtain ⟨gk, o, a1, b1, s1, A1, m1, c1, rfl, -, q0, q1, q2, q3, hm1, ket⟩ := HX.out.kid hTr hy
        have hry := HL.out.2.2.1 y (List.mem_of_getElem? hy)
        have HR := Lib.hid (fun W (hW : Touch NoB wr W) => ih.out y hry W a1 b1 s1 A1 m1 c1 (ket.touch hW) hm1 (HM.out.touch (hTr.same hW) (fun f => f)))
        have HN := Lib.hid (And.intro hks (And.intro hy hvl))
        have HO := Lib.hid hrow
        have HT := Lib.hid hTr
        clear hTr ket hks hy hry hrow hvl
        obtain ⟨v, hv⟩ : ∃ v, (g y).1 = v := ⟨_, rfl⟩
        obtain ⟨e, he⟩ : ∃ e, (g y).2 = e := ⟨_, rfl⟩
        rw [hv, he] at HR
        have HV := Lib.hid (And.intro hv he)
        clear hv he
        by_cases he0 : e = 0
        · have hne : (e != 0) = false := by simpa using he0
          have HE := Lib.hid he0
          clear he0
          go_wp2_with fail
          refine (HR.out _ ((Touch.refl _ _).alloc _)).mono ?_
          rintro r w2 ⟨rfl, hT2⟩
          have hT3 : Touch NoB wr w2 := ((Touch.refl _ _).alloc _).same hT2
          have HO2 := Lib.hid (row_touch HO.out hT3 (fun k hk f => f))
          have hsz2 := hT3.size
          have HT2 := Lib.hid (HT0.out.same hT3)
          clear hT2 hT3
          go_wp2_with (at_builtin; refine wpList_append_own_at _ rfl (.tmp 31) (.tmp 33) 85 rfl (w.heap.size + 1) 3 i0 _ 1 8 Try.underlying85 hi hz0 hz1 hz2 rfl (by decide) _ i (icG vs) rfl ?o1 ⟨w2.heap.size, 0, none⟩ 1 1 [.int .i64 v] rfl rfl ?c1 ?c2 ?c3 ?c4 ?c5 ?go)
          case o1 => exact HO2.out.alloc _
          case c1 => exact cell_one_new _ _ _
          case c2 => intro u hu; simp at hu; subst hu; rfl
          case c3 => unfold maxLen; omega
          case c4 => omega
          case c5 => first | omega | (rw [World.size_alloc]; omega) | (simp; omega)
          case go =>
          intro v3 w3 hown3 hgrow _ _
          have HT3 := Lib.hid ((HT2.out.alloc _).grown hgrow (fun k e => .inr (by have := (HO2.out.lt k e).1; unfold gbw; rw [World.size_alloc]; omega)))
          have HO3 := Lib.hid hown3
          clear hown3 hgrow
          go_wp2
          go_roundw
          case rel =>
            refine ⟨i + 1, vs ++ [v], by omega, by go_num, ?_, by simp [HN.out.2.2], ?_, HT3.out⟩
            · rw [← HV.out.1]
              exact kidsG_step HN.out.2.1 HN.out.1 (HV.out.2.trans HE.out)
            · rw [icG_snoc]; exact HO3.out
          case measure => simp [intOf]; omega
        · have hne : (e != 0) = true := by simpa using he0
          have HE : Hid (kidsG g l = .error e) := Lib.hid (by
            have := kidsG_bad HN.out.2.1 HN.out.1 (fun h => he0 (HV.out.2.symm.trans h))
            rw [this, HV.out.2])
          clear he0
          go_wp2_with fail
          refine (HR.out _ ((Touch.refl _ _).alloc _)).mono ?_
          rintro r w2 ⟨rfl, hT2⟩
          have HT2 := Lib.hid (HT.out.same (((Touch.refl _ _).alloc _).same hT2))
          clear hT2
          go_wp2
          go_ret2
          have e9 : R = (0, e) := by have h := HRR.out; rw [HE.out] at h; exact h.symm
          exact ⟨by simp [e9], HT2.out⟩
      · obtain rfl : i = m := by omega
        have hks' : kidsG g l = .ok vs := by rw [← hks, List.take_of_length_le (by have := HL.out.1; omega)]
        have HT := Lib.hid hTr
        have hR2 : R = headG ks a s vs := by have h := HRR.out; rw [hks'] at h; exact h.symm
        unfold headG at hR2
        by_cases h2 : a = 2
        · have e2 : (a == 2) = true := by simpa using h2
          rw [if_pos h2] at hR2
          obtain ⟨z, hrun, hz⟩ := (HM.out.touch hTr (fun f => f)).look HL.out.2.2.2.2.2
          clear hTr hks hks' hrow h2
          cases hf : kdG ks s with
          | none =>
            rw [hf] at hrun hR2
            have HR2 := Lib.hid hR2
            clear hf hz hR2
            go_wp2
            go_ret2
            exact ⟨by simp [HR2.out], HT.out⟩
          | some v =>
            rw [hf] at hrun hR2
            have e : z = v := hz v hf
            subst e
            have HR2 := Lib.hid hR2
            clear hf hz hR2
            go_wp2
            go_ret2
            exact ⟨by simp [HR2.out], HT.out⟩
        · have e2 : (a == 2) = false := by simpa using h2
          rw [if_neg h2] at hR2
          have HRS := Lib.hid (res_any HL.out.2.2.2.2.1 h2 Ao i co vs wr hvl (by omega) HL.out.2.2.2.1 (ksat_row hrow hvl))
          cases hq : resG a vs with
          | none =>
            rw [hq] at HRS hR2
            have HR2 := Lib.hid hR2
            clear hTr hks hks' hrow h2 hvl hq hR2
            go_wp2_with fail
            refine HRS.out.mono ?_
            rintro r w2 ⟨v, rfl, -, hT2⟩
            have HT2 := Lib.hid (HT.out.same hT2)
            clear hT2
            go_wp2
            go_ret2
            exact ⟨by simp [HR2.out], HT2.out⟩
          | some q =>
            rw [hq] at HRS hR2
            have HR2 := Lib.hid hR2
            clear hTr hks hks' hrow h2 hvl hq hR2
            go_wp2_with fail
            refine HRS.out.mono ?_
            rintro r w2 ⟨v, rfl, hv, hT2⟩
            have HT2 := Lib.hid (HT.out.same hT2)
            obtain rfl : q = v := hv q rfl
            clear hT2 hv
            go_wp2
            go_ret2
            exact ⟨by simp [HR2.out], HT2.out⟩
end Go.Proofs.Ytblcmgahgpnjmaa
