/-
  What move returns, and what it leaves in memory.
-/
import Derived.Test.YticekldgjlihmaaEl
import Derived.Laws.AppendOwnNone
import Derived.Deep.RegionLaw
namespace Go.Proofs.Yticekldgjlihmaa
open Go.ChangeShapes Go.WideShapes Go.ChangeAt Go.RowKit Go.Maps
set_option maxRecDepth 100000
set_option maxHeartbeats 1000000

/-- An append whose outcome is known, as one step of a region. -/
theorem step_appended {P : Program} {ops : Array Oper} {o : Oper} {a : Act} {w w1 : World} {K : Act → World → Prop} {Q : Exit → Act → World → Prop} {E : Prop} {T : TypeId} {d s : Operand} {x y r : Value} (hop : o.op = .call { callee := .builtin .append, args := #[d, s], argTypes := #[T, T] })
    (hrun : (Builtin.append_ #[T, T] o.type #[x, y]).run P w = .ok r w1) (hgd : o.guard = none) (hx : a.eval d = x) (hy : a.eval s = y) (hK : K (a.put o.dst r) w1) : if Region.wanted o (yielded ops a.tmps) = true then Oper.wp P o a w K Q else E := by
  have h1 : Region.wanted o (yielded ops a.tmps) = true := by simp [Region.wanted, hgd]
  rw [if_pos h1]
  unfold Oper.wp
  simp [execOp, hop, resolve, invoke, builtin, hx, hy, hrun, Result.andThen]
  exact hK

/-- The cells that a slice holds besides, as an append takes them. -/
def MoreAt (w : World) (φ : Nat → Int) (vm : Value) (more : List (Int × Int)) : Prop :=
  (vm = .slice none 0 0 ∧ more = []) ∨ ∃ mb c v, vm = .slice (some ⟨mb, 0, none⟩) 1 1 ∧ more = [(c, v)] ∧ w.heap[mb]? = some (.cells #[.int .i64 c, .int .i64 v] 32 (0, 0)) ∧ φ mb = 0
theorem MoreAt.touch {w w' : World} {φ φ' : Nat → Int} {vm : Value} {more : List (Int × Int)} (h : MoreAt w φ vm more) (t : Touch (fun b => φ b ≠ 0) w w') (hφ : ∀ b, b < w.heap.size → φ' b ≠ 0 → φ b ≠ 0) : MoreAt w' φ' vm more := by
  rcases h with h | ⟨mb, c, v, h1, h2, h3, h4⟩
  · exact .inl h
  · exact .inr ⟨mb, c, v, h1, h2, (t.block mb (blk_lt h3) (fun e => e h4)).trans h3, Classical.byContradiction fun e => hφ mb (blk_lt h3) e h4⟩
theorem more_app {w : World} {φ : Nat → Int} {vm : Value} {more : List (Int × Int)} (h : MoreAt w φ vm more) {B : Nat} {v : Value} {l : List (Int × Int)} (hr : w.ownsRow B 32 2 v l.length (idc l)) (hl : l.length ≤ 1000) (hB : B ≤ w.heap.size) :
    ∃ v' w', (Builtin.append_ #[33, 33] 33 #[v, vm]).run Try.prog w = .ok v' w' ∧ w'.ownsRow B 32 2 v' (l ++ more).length (idc (l ++ more)) ∧ w.grownBy w' v.ownBlock ∧ (v'.ownBlock = v.ownBlock ∨ v'.ownBlock = some w.heap.size) := by
  obtain ⟨i0, hi, hz0, hz1, hz2⟩ := info_parts info_cell
  rcases h with ⟨rfl, rfl⟩ | ⟨mb, c, x, rfl, rfl, h3, _⟩
  · refine ⟨v, w, ?_, by rw [List.append_nil]; exact hr, ⟨rfl, rfl, rfl, Nat.le_refl _, fun _ _ _ => rfl⟩, .inl rfl⟩
    exact run_append_owned_none (P := Try.prog) (w := w) B 33 33 32 i0 2 Try.underlying33 hi v l.length (idc l) hr
  · have hn : ∀ (j : Nat) (u : Value), [Value.int .i64 c, Value.int .i64 x][j]? = some u → w.cell? ((⟨mb, 0, none⟩ : Addr).add j) = some u := World.news_of_block (cs := #[.int .i64 c, .int .i64 x]) h3
    obtain ⟨v', w', hrun, h1, h2, _, h4⟩ := run_append_own_at (P := Try.prog) w B 33 33 32 i0 _ 2 16 Try.underlying33 hi hz0 hz1 hz2 rfl (by decide) v l.length (idc l) hr ⟨mb, 0, none⟩ 1 1 [.int .i64 c, .int .i64 x] rfl hn (fun u hu => by simp at hu; rcases hu with rfl | rfl <;> rfl) (by unfold maxLen; omega) (by omega) hB
    refine ⟨v', w', hrun, ?_, h2, h4⟩
    rw [List.length_append, idc_snoc]
    exact h1

theorem cells_row' {w : World} {F : Nat → Prop} {B : Nat} {A : Option Addr} {n cap : Nat} {cl : List (Int × Int)} (h : w.ownsRow B 32 2 (.slice A n cap) n (idc cl)) (hF : ∀ b, (Value.slice A n cap).ownBlock = some b → ¬ F b) : CellsAt w F A cl := by
  intro j c v hj
  have hl := h.1
  rw [idc_length] at hl
  have hjl := (List.getElem?_eq_some_iff.1 hj).1
  obtain ⟨g, cp, hv, _, _, hob⟩ := row_form h (by omega)
  injection hv with h1 h2 h3
  subst h1 h3
  refine ⟨g, 0, rfl, row_lt h hob, hF g hob, ?_, ?_⟩
  · rw [Nat.zero_add, h.cellAt (j * 2) (by omega), idc_at0, hj]; rfl
  · rw [Nat.zero_add, h.cellAt (j * 2 + 1) (by omega), idc_at1, hj]; rfl

section
variable {w : World} {φ : Nat → Int} {g : Nat} {room tables : Int} {ps : List (Int × Bool)} {ds : List Int} {ts : List Ar} {H : DataW Unit} {nh : Nat} {va : Value} {bh : Nat}

def MovePost (w : World) (φ : Nat → Int) (g : Nat) (room tables : Int) (ps : List (Int × Bool)) (ds : List Int) (ts : List Ar) (j k : Nat) (r : Ar) (bh : Nat) (m i x : Int) (more : List (Int × Int)) (cnt : Nat) (e : Ending) (w' : World) : Prop :=
  ∃ φ' ts' H' nh' va' D' n', e = .returned (.int .i64 0) ∧ SG w' φ' g room tables ps ds ts' H' nh' va' bh ∧ TInv (cnt + 2) ts' H' nh' ∧ EntT (leftT ts j k r D' n') m (i, x) (outI r.b.m r.b.cf k 16 ++ more) ts' ∧ Touch (fun b => φ b ≠ 0) w w' ∧ ∀ b, φ' b ≠ 0 → φ b ≠ 0 ∨ w.heap.size ≤ b

theorem move_full (h : SG w φ g room tables ps ds ts H nh va bh) (m : Int) (v1 vm : Value) (hl : ts.length ≤ 1000000) (hv : ∃ i x : Int, v1 = .agg #[.int .i64 i, .int .i64 x]) (hs : ∃ a n c, vm = .slice a n c) (hf : (hasL (am ts) m || decide ((ts.length : Int) < tables)) = false) :
    Calls Try.prog 41 #[.pointer (some ⟨g, 0, none⟩), v1, .int .u16 m, vm] w fun e w' => e = .returned (.int .i64 10) ∧ Touch NoB w w' := by
  obtain ⟨i, x, rfl⟩ := hv
  obtain ⟨a, n, c, rfl⟩ := hs
  have TW : Touch NoB w (w.alloc (.cells #[.int .i64 i, .int .i64 x] 30)) := (Touch.refl NoB w).alloc _
  have HR := Lib.hid ((h.quiet TW).hasRoom m hl)
  rw [hf] at HR
  have HT := Lib.hid TW
  clear h hf TW
  go_enter Try.func41, Try.ntmps41
  go_wp2_with fail
  refine HR.out.mono ?_
  rintro e w1 ⟨rfl, hT1⟩
  have HT1 := Lib.hid (HT.out.same hT1)
  clear hT1
  go_wp2
  go_ret
  exact ⟨rfl, HT1.out⟩

theorem left_am {j k : Nat} {r : Ar} (hr : ts[j]? = some r) (D' : DataW Unit) (n' : Nat) : am (leftT ts j k r D' n') = am ts := am_set hr rfl rfl

theorem move_ok {cnt : Nat} (h : SG w φ g room tables ps ds ts H nh va bh) (I : TInv cnt ts H nh) {j k : Nat} {r : Ar} (hr : ts[j]? = some r) {i x : Int} (hk : r.b.ids[k]? = some (i, x)) (m : Int) (vm : Value) (more : List (Int × Int)) (hm : 0 ≤ m ∧ m < 65536) (hc : cnt ≤ 900) (hl : ts.length ≤ 1000) (hM : MoreAt w φ vm more) (hf : (hasL (am ts) m || decide ((ts.length : Int) < tables)) = true) :
    Calls Try.prog 41 #[.pointer (some ⟨g, 0, none⟩), .agg #[.int .i64 i, .int .i64 x], .int .u16 m, vm] w (MovePost w φ g room tables ps ds ts j k r bh m i x more cnt) := by
  have hp := row_mem hk
  obtain ⟨hi, hx⟩ := I.key ⟨j, r, hr, hp⟩
  have TW : Touch NoB w (w.alloc (.cells #[.int .i64 i, .int .i64 x] 30)) := (Touch.refl NoB w).alloc _
  have HR := Lib.hid ((h.quiet TW).hasRoom m (by omega))
  rw [hf] at HR
  have hq0 : φ w.heap.size = 0 := Classical.byContradiction fun e => by have := h.wf _ e; omega
  have hqb : (w.alloc (.cells #[.int .i64 i, .int .i64 x] 30)).heap[w.heap.size]? = some (.cells #[.int .i64 i, .int .i64 x] 30 (0, 0)) := alloc_blk w _ _ rfl
  have HL : Hid (∀ W : World, Touch NoB w W → Calls Try.prog 33 #[.pointer (some ⟨g, 0, none⟩), .agg #[.int .i64 i, .int .i64 x]] W (LeavePost W φ g room tables ps ds ts bh j k r cnt)) := fun W hW => leave_any (h.quiet hW) I hr hk (by omega)
  have hout := outI_length r.b.m r.b.cf k 16
  -- behind leave: the append, and what enter then does
  have HN : Hid (∀ (W w2 : World) (v : Value), Touch NoB w W → W.heap[w.heap.size]? = some (.cells #[.int .i64 i, .int .i64 x] 30 (0, 0)) → LeavePost W φ g room tables ps ds ts bh j k r cnt (.returned v) w2 → ∃ A3 N3 c3 w3, (Builtin.append_ #[33, 33] 33 #[v, vm]).run Try.prog w2 = .ok (.slice A3 N3 c3) w3 ∧
      w2.heap[w.heap.size]? = some (.cells #[.int .i64 i, .int .i64 x] 30 (0, 0)) ∧ w3.heap[w.heap.size]? = some (.cells #[.int .i64 i, .int .i64 x] 30 (0, 0)) ∧
      Calls Try.prog 27 #[.pointer (some ⟨g, 0, none⟩), .agg #[.int .i64 i, .int .i64 x], .int .u16 m, .slice A3 N3 c3] w3 fun e w4 => e = .returned (.tuple #[]) ∧ w4.heap[w.heap.size]? = some (.cells #[.int .i64 i, .int .i64 x] 30 (0, 0)) ∧ MovePost w φ g room tables ps ds ts j k r bh m i x more cnt (.returned (.int .i64 0)) w4) := by
    rintro W w2 v hW hqW ⟨φ2, H2, nh2, va2, D2, n2, A2, N2, c2, e, h2, I2, hN2, hrow, hlab, hT2, hg2⟩
    injection e with e
    subst e hN2
    have hWs := hW.size
    have hs2 := hT2.size
    have hqs := blk_lt hqW
    have hq2 : w2.heap[w.heap.size]? = some (.cells #[.int .i64 i, .int .i64 x] 30 (0, 0)) := (hT2.block _ hqs (fun e => e hq0)).trans hqW
    have hg2w : ∀ b, φ2 b ≠ 0 → b < W.heap.size → φ b ≠ 0 := fun b hb hbl => (hg2 b hb).elim (fun x => x) (fun x => by omega)
    have hM2 : MoreAt w2 φ2 vm more := (hM.touch (φ' := φ) (hW.mono (fun _ e => e.elim)) (fun b _ x => x)).touch hT2 (fun b hb hx => hg2w b hx hb)
    obtain ⟨v3, w3, hrun, hrow3, hgr3, hat3⟩ := more_app hM2 hrow (by omega) (by omega)
    obtain ⟨A3, c3, rfl, _, _⟩ := row_any hrow3
    have hT3 : Touch (fun b => (Value.slice A2 (outI r.b.m r.b.cf k 16).length c2).ownBlock = some b) w2 w3 := (Touch.refl _ w2).grown hgr3 (fun _ e => .inl e)
    have h3 := h2.keep hT3 (fun b hb e => hb (hlab b e))
    have hs3 := hT3.size
    have hqn : (Value.slice A2 (outI r.b.m r.b.cf k 16).length c2).ownBlock ≠ some w.heap.size := fun e => by have := (hrow.lt _ e).1; omega
    have hq3 : w3.heap[w.heap.size]? = some (.cells #[.int .i64 i, .int .i64 x] 30 (0, 0)) := (hT3.block _ (blk_lt hq2) hqn).trans hq2
    refine ⟨A3, _, c3, w3, hrun, hq2, hq3, ?_⟩
    have hno : ¬ InT (leftT ts j k r D2 n2) (i, x) := fun e => ((left_in I hr hk rfl (i, x)).1 e).2 rfl
    have hl3 : (outI r.b.m r.b.cf k 16 ++ more).length ≤ 1000 := by
      rw [List.length_append]
      rcases hM with ⟨_, e⟩ | ⟨_, _, _, _, e, _⟩ <;> rw [e] <;> simp <;> omega
    have hC3 : CellsAt w3 (fun b => φ2 b ≠ 0) A3 (outI r.b.m r.b.cf k 16 ++ more) := cells_row' hrow3 (fun b hb e => by
      rcases hat3 with x | x
      · rw [x] at hb; exact e (hlab b hb)
      · rw [x] at hb
        injection hb with hb
        have := h2.wf b e
        omega)
    refine (enter_any h3 I2 m i x A3 _ c3 _ hm hi hx hno (by omega) (by unfold leftT; rw [List.length_set]; exact hl) rfl hl3 hC3).mono ?_
    rintro e w4 ⟨φ4, t4, H4, nh4, va4, rfl, h4, I4, hE4, hT4, hg4⟩
    have hq2φ : φ2 w.heap.size = 0 := Classical.byContradiction fun e => hg2w _ e hqs hq0
    have hT24 : Touch (fun b => φ b ≠ 0) w w4 := by
      have t2 : Touch (fun b => φ b ≠ 0) w w2 := (hW.mono (fun _ e => e.elim)).same hT2
      have t3 : Touch (fun b => φ b ≠ 0) w w3 := t2.trans hT3 (fun b e => .inr (by have := (hrow.lt b e).1; omega))
      exact t3.trans hT4 (fun b e => by
        rcases hg2 b e with y | y
        · exact .inl y
        · right; omega)
    refine ⟨rfl, (hT4.block _ (blk_lt hq3) (fun e => e hq2φ)).trans hq3, φ4, t4, H4, nh4, va4, D2, n2, rfl, h4, I4, hE4, hT24, fun b hb => ?_⟩
    rcases hg4 b hb with y | y
    · rcases hg2 b y with z | z
      · exact .inl z
      · right; omega
    · right; omega
  have HT := Lib.hid TW
  have HQ := Lib.hid hqb
  obtain ⟨am, nm, cm, rfl⟩ : ∃ a n c, vm = .slice a n c := by
    rcases hM with ⟨e, _⟩ | ⟨_, _, _, e, _⟩ <;> exact ⟨_, _, _, e⟩
  clear h I hr hk hp hM hf TW hq0 hqb hout
  go_enter Try.func41, Try.ntmps41
  go_wp2_with fail
  refine HR.out.mono ?_
  rintro e w1 ⟨rfl, hT1⟩
  have hq1 := (hT1.block _ (by simp) (fun e => e)).trans HQ.out
  have k2 : w1.cell? ⟨w.heap.size, 0, none⟩ = some (.int .i64 i) := cell_blk hq1 0
  have k3 : w1.cell? ⟨w.heap.size, 1, none⟩ = some (.int .i64 x) := cell_blk hq1 1
  have l1 := blk_lt hq1
  have HT1 := Lib.hid (HT.out.same hT1)
  have HQ1 := Lib.hid hq1
  clear hT1 hq1
  go_wp2_with fail
  go_region_law
    (first | (go_simp; go_at_call 33
              refine (HL.out _ (HT1.out.drew)).mono ?_
              rintro e w2 hL2
              obtain ⟨-, -, -, -, -, -, A2, N2, c2, he, -⟩ := id hL2
              subst he
              obtain ⟨A3, N3, c3, w3, hrun, hq2, hq3, hE3⟩ := HN.out w1.drew w2 _ HT1.out.drew HQ1.out hL2
              have k22 : w2.cell? ⟨w.heap.size, 0, none⟩ = some (.int .i64 i) := cell_blk hq2 0
              have k23 : w2.cell? ⟨w.heap.size, 1, none⟩ = some (.int .i64 x) := cell_blk hq2 1
              have l2 := blk_lt hq2
              have k32 : w3.cell? ⟨w.heap.size, 0, none⟩ = some (.int .i64 i) := cell_blk hq3 0
              have k33 : w3.cell? ⟨w.heap.size, 1, none⟩ = some (.int .i64 x) := cell_blk hq3 1
              have l3 := blk_lt hq3
              have HRun := Lib.hid hrun
              have HE3 := Lib.hid hE3
              clear hL2 hrun hq2 hq3 hE3)
           | (refine step_appended (T := 33) (d := .tmp 18) (s := .tmp 19) rfl HRun.out rfl (by simp [Act.eval]) (by simp [Act.eval]) ?_)
           | (go_simp; go_at_call 27
              refine HE3.out.mono ?_
              rintro e w4 ⟨rfl, hq4, hP⟩
              have l4 := blk_lt hq4
              have HP := Lib.hid hP
              clear hq4 hP))
  all_goals
    go_wp2
    go_ret
    exact HP.out
end
end Go.Proofs.Yticekldgjlihmaa
