/-
  LexBlanks: what stands between tokens does not count, but for where they stand. Conditions: the library's own variable can be read.
-/
import Derived.Test.YtmgmmbeldhleoaaDoorLw
namespace Go.Proofs.YtmgmmbeldhleoaaDoor
open Go.ChangeShapes Go.WideShapes Go.ChangeAt Go.RowKit
set_option maxRecDepth 100000
set_option maxHeartbeats 4000000

/-- An append whose outcome is known, as one step of a region. -/
theorem step_appended {P : Program} {ops : Array Oper} {o : Oper} {a : Act} {w w1 : World} {K : Act → World → Prop} {Q : Exit → Act → World → Prop} {E : Prop} {T U : TypeId} {d s : Operand} {x y r : Value} (hop : o.op = .call { callee := .builtin .append, args := #[d, s], argTypes := #[T, U] })
    (hrun : (Builtin.append_ #[T, U] o.type #[x, y]).run P w = .ok r w1) (hgd : o.guard = none) (hx : a.eval d = x) (hy : a.eval s = y) (hK : K (a.put o.dst r) w1) : if Region.wanted o (yielded ops a.tmps) = true then Oper.wp P o a w K Q else E := by
  have h1 : Region.wanted o (yielded ops a.tmps) = true := by simp [Region.wanted, hgd]
  rw [if_pos h1]
  unfold Oper.wp
  simp [execOp, hop, resolve, invoke, builtin, hx, hy, hrun, Result.andThen]
  exact hK
def blO : Obj := .cells #[.string ⟨#[32]⟩, .string ⟨#[9]⟩, .string ⟨#[10]⟩, .string ⟨#[32, 47, 47, 32, 120, 10]⟩, .string ⟨#[13, 10, 32, 9]⟩] 9 (0, 0)
theorem blanks_out (A : Option Addr) (n cap : Nat) (k : Int) (w : World) (h : 1000 < n ∨ k < 0 ∨ 5 ≤ k) (hev : EV w) : Calls Tryd.prog 5 #[.slice A n cap, .int .i64 k] w fun e w' => e = .returned (.bool true) ∧ Touch NoB w w' := by
  have HA := Lib.hid (alive_any w hev)
  have hcase : 1000 < n ∨ (¬ 1000 < n ∧ k < 0) ∨ (¬ 1000 < n ∧ ¬ k < 0 ∧ 5 ≤ k) := by omega
  clear hev h
  rcases hcase with h1 | ⟨h1, h2⟩ | ⟨h1, h2, h3⟩
  all_goals
    go_enter Tryd.func5, Tryd.ntmps5
    go_wp2_with fail
    refine HA.out.mono ?_
    rintro e w1 ⟨rfl, hT1⟩
    have HT := Lib.hid hT1
    clear hT1
    go_wp2
    go_ret
    exact ⟨rfl, HT.out.alloc _⟩
theorem blanks_bad (A : Option Addr) (n cap p k : Nat) (b : Bs) (w : World) (hn : b.length = n) (h : ¬ 1000 < n) (hk : k < 5) (hcap : n ≤ cap) (hc63 : cap ≤ 9223372036854775807) (hb : BAt w A b) (hx : lexL b = .bad p) (hev : EV w) : Calls Tryd.prog 5 #[.slice A n cap, .int .i64 k] w fun e w' => e = .returned (.bool true) ∧ Touch NoB w w' := by
  have HA := Lib.hid (alive_any w hev)
  have HN := Lib.hid (fun n w => num_any n w)
  have HTK := Lib.hid (fun w1 (hT : Touch NoB w w1) => toks_bad (w := w1) hx hn (by omega) hcap hc63 (hb.touch hT) (hev.touch hT))
  have h2 : ¬ (k : Int) < 0 := by omega
  have h3 : ¬ (5 : Int) ≤ (k : Int) := by omega
  clear hev hx hb hn
  go_enter Tryd.func5, Tryd.ntmps5
  go_wp2_with fail
  refine HA.out.mono ?_
  rintro e w1 ⟨rfl, hT1⟩
  have HT := Lib.hid (hT1.alloc blO)
  clear hT1
  go_wp2_with fail
  refine (HTK.out _ HT.out).mono ?_
  rintro e w2 ⟨rfl, hT2⟩
  have HT2 := Lib.hid (HT.out.same hT2)
  clear hT2
  go_wp2_with (first | (go_at_call 13; refine (HN.out _ _).mono ?_; rintro e w' ⟨rfl, rfl⟩))
  go_ret
  exact ⟨rfl, HT2.out⟩
theorem blanks_good (A : Option Addr) (n cap k : Nat) (b s : Bs) (ts : List Tk) (w : World) (hn : b.length = n) (h : ¬ 1000 < n) (hk : blT[k]? = some s) (hcap : n ≤ cap) (hnone : A = none → cap = 0) (hc63 : cap ≤ 9223372036854775807) (hb : BAt w A b) (hx : lexL b = .good ts) (hev : EV w) : Calls Tryd.prog 5 #[.slice A n cap, .int .i64 k] w fun e w' => e = .returned (.bool true) ∧ Touch NoB w w' := by
  have HA := Lib.hid (alive_any w hev)
  have HN := Lib.hid (fun n w => num_any n w)
  have HE := Lib.hid hev
  obtain ⟨hbl, hsl⟩ := bl_blank k s hk
  have hk5 : k < 5 := (List.getElem?_eq_some_iff.1 hk).1
  obtain ⟨m, hm⟩ : ∃ m, ts.length = m := ⟨_, rfl⟩
  have HTK := Lib.hid (fun w1 (hT : Touch NoB w w1) => toks_good (w := w1) (m := m) hx hm rfl hn (by omega) hcap hc63 (hb.touch hT) (hev.touch hT))
  have hmx : m ≤ n + 1 := by have := pl_count b 0 ts (lex_places hx); omega
  obtain ⟨us, hux, huw⟩ := blanks_lex hbl hx
  have hul : us.length = m := by have := congrArg List.length huw; simpa [hm] using this
  have hcl : (catL s b 0 ts).length ≤ 8000 := by
    have h1 := cat_max s b 0 0 ts (lex_places hx) (Nat.le_refl _)
    rw [hm, hn] at h1
    have h2 : m * s.length ≤ 1001 * 6 := Nat.mul_le_mul (by omega) hsl
    omega
  have HX := Lib.hid hx
  have HB := Lib.hid hb
  have HNN := Lib.hid hn
  have HMM := Lib.hid hm
  have HNO := Lib.hid hnone
  have HU := Lib.hid (And.intro hux (And.intro huw hul))
  have HCL := Lib.hid hcl
  have HBK := Lib.hid hk
  have h2 : ¬ (k : Int) < 0 := by omega
  have h3 : ¬ (5 : Int) ≤ (k : Int) := by omega
  clear hev hx hb hn hm hnone hux huw hul hcl hbl hk
  go_enter Tryd.func5, Tryd.ntmps5
  go_wp2_with fail
  refine HA.out.mono ?_
  rintro e w1 ⟨rfl, hT1⟩
  have HT := Lib.hid (hT1.alloc blO)
  have hN := heap_alloc_new w1 blO
  have hcs : (w1.alloc blO).cell? ⟨w1.heap.size, k, none⟩ = some (.string (bs s)) := by
    unfold blO at hN
    unfold blO
    rw [cell_of_row _ _ _ _ _ _ hN]
    have hk := HBK.out
    have hc : k = 0 ∨ k = 1 ∨ k = 2 ∨ k = 3 ∨ k = 4 := by omega
    rcases hc with rfl | rfl | rfl | rfl | rfl <;> (obtain rfl := Option.some.inj hk; rfl)
  have HCS := Lib.hid hcs
  clear hT1 hN hcs
  go_wp2_with fail
  refine (HTK.out _ HT.out).mono ?_
  rintro e w3 ⟨g, cp, rfl, hL, hT3⟩
  have hT3' := hT3
  have HT3 := Lib.hid (HT.out.same hT3)
  have HL := Lib.hid hL
  obtain ⟨N, hN⟩ : ∃ N, w1.heap.size = N := ⟨_, rfl⟩
  have hN3 : N < w3.heap.size := by have := hT3.size; simp at this; omega
  have HC3 : Hid (w3.cell? ⟨N, k, none⟩ = some (.string (bs s))) := Lib.hid (by
    rw [← hN]
    exact (hT3.cell (p := ⟨w1.heap.size, k, none⟩) (by simp) (fun x => x)).trans HCS.out)
  rw [hN]
  have hg3 := hL.lt
  clear hT3 hT3' hL HCS hN
  go_wp2_with (first | (go_at_call 13; refine (HN.out _ _).mono ?_; rintro e w' ⟨rfl, rfl⟩))
  go_loopw [10, 11, 12] (fun v10 v11 v12 wr => BlRel s b ts w3 v10 v11 v12 wr) (fun _ _ v12 _ => m - (intOf v12).toNat)
  case atStart => exact ⟨0, [], Nat.zero_le _, rfl, rfl, BR.nil _ _, rfl, Touch.refl _ _⟩
  case round =>
    obtain ⟨i, cc, hi, rfl, rfl, hBR, hcat, hTr⟩ := hrel
    rw [HMM.out] at hi
    by_cases hlt : i < m
    · obtain ⟨t, ht⟩ : ∃ t, ts[i]? = some t := ⟨ts[i]'(by rw [HMM.out]; exact hlt), List.getElem?_eq_getElem _⟩
      obtain ⟨-, q2, -, -, -, -, -⟩ := place_at HX.out ht
      obtain ⟨f1, f2⟩ := fr_le HX.out ht
      rw [HNN.out] at q2
      obtain ⟨-, -, k2, -⟩ := (HL.out.touch hTr).at_ i t ht
      have hstep := cat_step s b ts (frI ts i) i t ht
      have hcc := HCL.out
      rw [hcat, hstep, List.length_append, List.length_append, List.length_append] at hcc
      obtain ⟨vb, hvb, happ⟩ := app_win HB.out HNN.out hcap HNO.out f1 q2
      have hTd : Touch NoB w wr.drew := (HT3.out.same hTr).drew
      obtain ⟨v1, w5, hrun1, hB1, hgr1⟩ := happ wr.drew hTd w3.heap.size _ cc hTr.size (by omega) hBR
      have hT1 : Touch NoB w3 w5 := hTr.drew.grown hgr1 (fun b e => .inr (hBR.lt b e).1)
      have hl1 : (cc ++ cut b (frI ts i) t.pl).length = cc.length + (cut b (frI ts i) t.pl).length := List.length_append
      obtain ⟨v2, w6, hrun2, hB2, hgr2⟩ := app_str (s := s) hT1.size (by omega) hB1
      have hT2 : Touch NoB w3 w6 := hT1.grown hgr2 (fun b e => .inr (World.ownsRow.lt hB1 b e).1)
      have HRel : Hid (frI ts (i + 1) = t.pl ∧ BR w6 w3.heap.size v2 (cc ++ cut b (frI ts i) t.pl ++ s) ∧ catL s b 0 ts = (cc ++ cut b (frI ts i) t.pl ++ s) ++ catL s b t.pl (ts.drop (i + 1)) ∧ Touch NoB w3 w6) := Lib.hid ⟨f2, hB2, by rw [hcat, hstep]; simp only [List.append_assoc], hT2⟩
      have kd : wr.drew.cell? ⟨g, i * 4 + 2, none⟩ = some (.int .i64 t.pl) := k2
      have k5 : w5.cell? ⟨g, i * 4 + 2, none⟩ = some (.int .i64 t.pl) := ((HL.out.touch hT1).at_ i t ht).2.2.1
      have k6 : w6.cell? ⟨g, i * 4 + 2, none⟩ = some (.int .i64 t.pl) := ((HL.out.touch hT2).at_ i t ht).2.2.1
      have c4 : wr.drew.cell? ⟨N, k, none⟩ = some (.string (bs s)) := (hTr.cell (p := ⟨N, k, none⟩) hN3 (fun x => x)).trans HC3.out
      have c5 : w5.cell? ⟨N, k, none⟩ = some (.string (bs s)) := (hT1.cell (p := ⟨N, k, none⟩) hN3 (fun x => x)).trans HC3.out
      have hsl4 := hvb wr.drew
      have hsl5 := hvb w5
      have HR1 := Lib.hid hrun1
      have HR2 := Lib.hid hrun2
      obtain ⟨pl, hpl⟩ : ∃ pl, t.pl = pl := ⟨_, rfl⟩
      obtain ⟨fr, hfr⟩ : ∃ fr, frI ts i = fr := ⟨_, rfl⟩
      obtain ⟨st, hst⟩ : ∃ st, bs s = st := ⟨_, rfl⟩
      simp only [hpl] at k2 kd k5 k6 q2 f1 HRel hsl4 hsl5
      simp only [hfr] at f1 hsl4 hsl5 ⊢
      simp only [hst] at c4 c5 HR2
      have n1 : ¬ pl < fr := by omega
      have n2 : ¬ n < pl := by omega
      clear hBR hcat hTr ht f2 hstep hcc hvb happ hTd hrun1 hrun2 hB1 hB2 hgr1 hgr2 hT1 hT2 hl1 hpl hfr hst
      go_wp2
      go_region_law (first
        | (refine step_appended (T := 22) (U := 22) (d := .tmp 69) (s := .tmp 77) rfl HR1.out rfl (by simp [Act.eval]) (by simp [Act.eval]) ?_)
        | (refine step_appended (T := 22) (U := 9) (d := .tmp 78) (s := .tmp 82) rfl HR2.out rfl (by simp [Act.eval]) (by simp [Act.eval]) ?_))
      all_goals
        go_wp2
        go_roundw
        case rel =>
          obtain ⟨r1, r2, r3, r4⟩ := HRel.out
          exact ⟨i + 1, _, by rw [HMM.out]; omega, by go_num, by rw [r1], r2, by rw [r1]; exact r3, r4⟩
        case measure => simp [intOf]; omega
    · obtain rfl : i = m := by omega
      have hcc : catL s b 0 ts = cc := by rw [hcat, List.drop_eq_nil_of_le (by rw [HMM.out]; exact Nat.le_refl _)]; simp [catL]
      obtain ⟨A2, cap2, rfl, g1, g2, hB2⟩ := hBR.bat
      have hcl := HCL.out
      rw [hcc] at hcl
      have HTK2 := Lib.hid (toks_good (w := wr) (m := i) (z := (cc.length : Int)) (by rw [← hcc]; exact HU.out.1) HU.out.2.2 rfl rfl (by omega) g1 g2 hB2 (HE.out.touch (HT3.out.same hTr)))
      have HTr := Lib.hid hTr
      obtain ⟨cl, hcl2⟩ : ∃ cl, cc.length = cl := ⟨_, rfl⟩
      rw [hcl2] at HTK2 g1 ⊢
      obtain ⟨fr, hfr⟩ : ∃ fr, frI ts i = fr := ⟨_, rfl⟩
      rw [hfr]
      clear hBR hcat hTr hcc hB2 hcl2 hcl hfr
      go_wp2_with fail
      refine HTK2.out.mono ?_
      rintro e w5 ⟨g5, cp5, rfl, hL5, hT5⟩
      have HL5 := Lib.hid hL5
      have HT5 := Lib.hid (And.intro (HTr.out.same hT5) (HT3.out.same (HTr.out.same hT5)))
      clear hL5 hT5
      go_wp2_with (first | (go_at_call 13; refine (HN.out _ _).mono ?_; rintro e w' ⟨rfl, rfl⟩))
      go_loopw [16] (fun v16 wr => BkRel i w5 v16 wr) (fun v16 _ => i - (intOf v16).toNat)
      case atStart => exact ⟨0, Nat.zero_le _, rfl, Touch.refl _ _⟩
      case round =>
        obtain ⟨j, hj, rfl, hTr2⟩ := hrel
        by_cases hlt2 : j < i
        · obtain ⟨t, ht⟩ : ∃ t, ts[j]? = some t := ⟨ts[j]'(by rw [HMM.out]; exact hlt2), List.getElem?_eq_getElem _⟩
          obtain ⟨u, hu⟩ : ∃ u, us[j]? = some u := ⟨us[j]'(by rw [HU.out.2.2]; exact hlt2), List.getElem?_eq_getElem _⟩
          have hw := congrArg (·[j]?) HU.out.2.1
          simp only [List.getElem?_map, ht, hu, Option.map_some, Option.some.injEq, Tk.what, Prod.mk.injEq] at hw
          obtain ⟨w1', w2', w3'⟩ := hw
          have hLt := HL.out.touch ((HT5.out.1).same hTr2)
          obtain ⟨a0, a1, -, a3⟩ := hLt.at_ j t ht
          obtain ⟨b0, b1, -, b3⟩ := (HL5.out.touch hTr2).at_ j u hu
          rw [w1'] at b0
          rw [w2'] at b1
          rw [w3'] at b3
          have hlg := hLt.lt
          have hlg5 := (HL5.out.touch hTr2).lt
          obtain ⟨sx, hsx⟩ : ∃ sx, bs t.tx = sx := ⟨_, rfl⟩
          rw [hsx] at a3 b3
          obtain ⟨kd, hkd⟩ : ∃ kd, t.kd = kd := ⟨_, rfl⟩
          rw [hkd] at a0 b0
          obtain ⟨nn, hnn⟩ : ∃ nn, t.n = nn := ⟨_, rfl⟩
          rw [hnn] at a1 b1
          have e0 : wr.drew.cell? ⟨g, j * 4, none⟩ = some (.int .i64 kd) := a0
          have e1 : wr.drew.cell? ⟨g, j * 4 + 1, none⟩ = some (.int .i64 nn) := a1
          have e3 : wr.drew.cell? ⟨g, j * 4 + 3, none⟩ = some (.string sx) := a3
          have d0 : wr.drew.cell? ⟨g5, j * 4, none⟩ = some (.int .i64 kd) := b0
          have d1 : wr.drew.cell? ⟨g5, j * 4 + 1, none⟩ = some (.int .i64 nn) := b1
          have d3 : wr.drew.cell? ⟨g5, j * 4 + 3, none⟩ = some (.string sx) := b3
          have d6 : (sx.toList != sx.toList) = false := by simp
          have d7 : ((kd : Int) != (kd : Int)) = false := by simp
          have d8 : ((nn : Int) != (nn : Int)) = false := by simp
          have HTy := Lib.hid hTr2
          clear a0 a1 a3 b0 b1 b3 hTr2 hLt ht hu hsx hkd hnn w1' w2' w3'
          go_wp2
          go_region
          go_wp2
          go_roundw
          case rel => exact ⟨j + 1, by omega, by go_num, HTy.out.drew⟩
          case measure => simp [intOf]; omega
        · obtain rfl : j = i := by omega
          have HTz := Lib.hid (HT5.out.2.same hTr2)
          clear hTr2
          go_wp2
          go_ret
          exact ⟨rfl, HTz.out⟩
theorem blanks_any (A : Option Addr) (n cap : Nat) (k : Int) (b : Bs) (w : World) (hn : b.length = n) (hcap : n ≤ cap) (hnone : A = none → cap = 0) (hc63 : cap ≤ 9223372036854775807) (hb : BAt w A b) (hev : EV w) : Calls Tryd.prog 5 #[.slice A n cap, .int .i64 k] w fun e w' => e = .returned (.bool true) ∧ Touch NoB w w' := by
  by_cases h : 1000 < n ∨ k < 0 ∨ 5 ≤ k
  · exact blanks_out A n cap k w h hev
  · obtain ⟨q, rfl⟩ : ∃ q : Nat, k = (q : Int) := ⟨k.toNat, by omega⟩
    have hq : q < 5 := by omega
    cases hx : lexL b with
    | good ts =>
      obtain ⟨s, hs⟩ : ∃ s, blT[q]? = some s := ⟨blT[q]'hq, List.getElem?_eq_getElem _⟩
      exact blanks_good A n cap q b s ts w hn (by omega) hs hcap hnone hc63 hb hx hev
    | bad p => exact blanks_bad A n cap p q b w hn (by omega) hq hcap hc63 hb hx hev
end Go.Proofs.YtmgmmbeldhleoaaDoor
