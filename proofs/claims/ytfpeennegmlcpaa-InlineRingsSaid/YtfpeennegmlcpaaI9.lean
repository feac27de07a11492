/-
  Package inline's follow over bare nodes. Conditions: those that each theorem names.
-/
import Derived.Test.YtfpeennegmlcpaaI8
import Derived.Deep.LoopGhost
import Derived.Deep.RegionHeld3
import Derived.StillTailTactics
import Derived.Lib.AppendZeros
namespace Go.Proofs.Ytfpeennegmlcpaa
open Go.ChangeShapes Go.WideShapes Go.ChangeAt Go.RowKit
set_option maxRecDepth 100000
set_option maxHeartbeats 2000000
attribute [local go_sem ↓] loadN_of storeN_of

theorem nat0 : ((0 : Nat) : Int) = 0 := rfl
theorem comb_nil (R : Except Nat (BN × List Nat × List Bool)) : comb [] R = R := by rcases R with e | ⟨n, l, o⟩ <;> rfl
theorem folM_use {ts : List TrP} {f k at_ : Nat} {o : List Bool} {s : ByteArray} {ks : List BN} {t : TrP} (h10 : k = 10) (hf : kdN (nmsT ts) s = some at_) (hb : o[at_]? = some false) (ht : ts[at_]? = some t) (l : List Nat) : comb l (folM ts (f + 1) o (.mk k s ks)) = comb (l ++ [at_]) (folM ts f (o.set at_ true) t.2) := by
  simp only [folM, BN.kd, BN.nm, if_pos h10, hf, hb, ht]
  rw [if_neg (by simp)]
  rcases folM ts f (o.set at_ true) t.2 with er | ⟨n', l', o'⟩
  · rfl
  · simp [comb]
theorem ndC_one {k : Nat} {s : ByteArray} {u : Value} (h : u.oneCell' = true) : ∀ v ∈ ndC k s u, v.oneCell' = true := by
  intro v hv
  simp only [ndC, List.mem_cons, List.not_mem_nil, or_false] at hv
  rcases hv with rfl | rfl | rfl | rfl | rfl | rfl | rfl | rfl | rfl | rfl <;> first | rfl | exact h
/-- A node's box, and the box of the result, behind which nothing has been written yet. -/
def BxAt (W : World) (bx : Nat) (k : Nat) (s : ByteArray) (u : Value) : Prop := ∃ us, W.heap[bx]? = some (.cells us 30 (0, 0)) ∧ us.size = 10 ∧ W.rangeAt bx 0 (ndC k s u)
theorem BxAt.keep {W W' : World} {bx k : Nat} {s : ByteArray} {u : Value} {F : Nat → Prop} (h : BxAt W bx k s u) (t : Touch F W W') (hF : ¬ F bx) : BxAt W' bx k s u := by
  obtain ⟨us, h1, h2, h3⟩ := h
  exact ⟨us, (t.block bx (blk_lt h1) hF).trans h1, h2, fun j v hj => (t.cell (p := ⟨bx, 0 + j, none⟩) (blk_lt h1) hF).trans (h3 j v hj)⟩
theorem BxAt.new {W : World} {k : Nat} {s : ByteArray} {u : Value} {bx : Nat} (h : W.heap[bx]? = some (.cells (ndC k s u).toArray 30 (0, 0))) : BxAt W bx k s u := by
  refine ⟨_, h, rfl, fun j v hj => ?_⟩
  rw [Nat.zero_add, cell_blk h j, List.getElem?_toArray]
  exact hj
theorem BxAt.load {W : World} {bx k : Nat} {s : ByteArray} {u : Value} (h : BxAt W bx k s u) : (LoadN (.pointer (some ⟨bx, 0, none⟩))).run Try.prog W = .ok (ndV (.mk k s []) u) W := run_LoadN W bx 0 (ndC k s u) rfl h.choose_spec.2.2
theorem BxAt.store {W : World} {bx k : Nat} {s : ByteArray} {u : Value} (h : BxAt W bx k s u) (n : BN) {u' : Value} (h1 : u'.oneCell' = true) : ∃ W', (StoreN (.pointer (some ⟨bx, 0, none⟩)) (ndV n u')).run Try.prog W = .ok () W' ∧ BxAt W' bx n.kd n.nm u' ∧ Touch (fun b => b = bx) W W' := by
  obtain ⟨us, a1, a2, -⟩ := h
  obtain ⟨W', us', b1, b2, b3, b4, b5⟩ := run_StoreN W bx (ndC n.kd n.nm u') rfl (ndC_one h1) a1 a2
  exact ⟨W', b1, ⟨us', b3, b4, b2⟩, b5⟩
theorem BxAt.lt {W : World} {bx k : Nat} {s : ByteArray} {u : Value} (h : BxAt W bx k s u) : bx < W.heap.size := by obtain ⟨us, a1, -⟩ := h; exact blk_lt a1
theorem BxAt.cell0 {W : World} {bx k : Nat} {s : ByteArray} {u : Value} (h : BxAt W bx k s u) : W.cell? ⟨bx, 0, none⟩ = some (.int .i64 (k : Int)) ∧ W.cell? ⟨bx, 3, none⟩ = some (.string s) ∧ W.cell? ⟨bx, 8, none⟩ = some u := by
  obtain ⟨us, -, -, a3⟩ := h
  exact ⟨by simpa using a3 0 _ rfl, by simpa using a3 3 _ rfl, by simpa using a3 8 _ rfl⟩
theorem BxAt.cells {W : World} {bx k : Nat} {s : ByteArray} {u : Value} (h : BxAt W bx k s u) : W.cell? ⟨bx, 0, none⟩ = some (.int .i64 (k : Int)) ∧ W.cell? ⟨bx, 1, none⟩ = some (.int .i64 0) ∧ W.cell? ⟨bx, 2, none⟩ = some (.int .i64 0) ∧ W.cell? ⟨bx, 3, none⟩ = some (.string s) ∧ W.cell? ⟨bx, 4, none⟩ = some (.int .i64 0) ∧ W.cell? ⟨bx, 5, none⟩ = some (.int .i64 0) ∧ W.cell? ⟨bx, 6, none⟩ = some (.string ⟨#[]⟩) ∧ W.cell? ⟨bx, 7, none⟩ = some (.slice none 0 0) ∧ W.cell? ⟨bx, 8, none⟩ = some u ∧ W.cell? ⟨bx, 9, none⟩ = some (.slice none 0 0) := by
  obtain ⟨us, -, -, a3⟩ := h
  exact ⟨by simpa using a3 0 _ rfl, by simpa using a3 1 _ rfl, by simpa using a3 2 _ rfl, by simpa using a3 3 _ rfl, by simpa using a3 4 _ rfl, by simpa using a3 5 _ rfl, by simpa using a3 6 _ rfl, by simpa using a3 7 _ rfl, by simpa using a3 8 _ rfl, by simpa using a3 9 _ rfl⟩
theorem info_intN : ∃ i0, Try.prog.info? 3 = some i0 ∧ i0.zero = some (.int .i64 0) ∧ i0.size = 1 ∧ i0.bytes = 8 := by
  have h : (Try.prog.info? 3).map (fun i => (i.zero, i.size, i.bytes)) = some (some (.int .i64 0), 1, 8) := by kernel_rfl
  cases hi : Try.prog.info? 3 with
  | none => rw [hi] at h; cases h
  | some i0 =>
    rw [hi] at h
    simp only [Option.map_some, Option.some.injEq, Prod.mk.injEq] at h
    exact ⟨i0, rfl, h.1, h.2.1, h.2.2⟩
section
variable (w : World) (B eb ob mb tb D : Nat) (ts : List TrP) (c x : Nat) (R : Except Nat (BN × List Nat × List Bool))
def FoRel (k : Nat) (v : Value) (wr : World) : Prop :=
  ∃ (n0 : BN) (o : List Bool) (l : List Nat) (u : Value), R = comb l (folM ts k o n0) ∧ shutN o < k ∧ l.length ≤ 2000 - k ∧ k ≤ 1001 ∧ n0.ok ∧ KL wr (fun b => b < B) D n0.ks u ∧ BxAt wr w.heap.size n0.kd n0.nm u ∧ BxAt wr (w.heap.size + 1) 0 ⟨#[]⟩ (.slice none 0 0) ∧ EX wr B eb ob mb tb D ts o c x ∧
    wr.ownsRow w.heap.size 3 1 v l.length (intsN l) ∧ Touch (fun b => b = ob) w wr
end
theorem follow_any {w : World} {B eb ob mb tb D c x : Nat} {ts : List TrP} {o : List Bool} (h : EX w B eb ob mb tb D ts o c x) {n : BN} (hn : n.ok) {u : Value} (hu : KL w (fun b => b < B) D n.ks u) :
    Calls Try.prog 76 #[.pointer (some ⟨eb, 0, none⟩), ndV n u] w (FoPost w B eb ob mb tb D ts c x (folM ts (ts.length + 1) o n)) := by
  obtain ⟨R, hR⟩ : ∃ R, folM ts (ts.length + 1) o n = R := ⟨_, rfl⟩
  have hts : ts.length ≤ 1000 := by obtain ⟨-, -, -, -, ⟨_, _, -, -, h4, -⟩, -⟩ := h; exact h4
  rw [hR]
  have HL := Lib.hid h.lts
  have HE := Lib.hid (And.intro h (And.intro hn (And.intro hu hR)))
  clear h hn hu hR
  go_enter Try.func76, Try.ntmps76
  unfold ndV
  go_wp2
  go_loopg [7] (ts.length + 1) (fun k v7 wr => FoRel w B eb ob mb tb D ts c x R k v7 wr)
  case atStart =>
    obtain ⟨h, hn, hu, hR⟩ := HE.out
    have t2 : ∀ a b, Touch NoB w ((w.alloc a).alloc b) := fun a b => ((Touch.refl NoB w).alloc a).alloc b
    refine ⟨n, o, [], u, by rw [comb_nil]; exact hR.symm, ?_, by simp, by omega, hn, hu.via (t2 _ _) (fun b hb => ⟨fun f => f, hb⟩), ?_, ?_, h.keep (t2 _ _), ⟨rfl, .inl ⟨rfl, rfl⟩⟩, (t2 _ _).mono (fun _ f => f.elim)⟩
    · have := shutN_le o; have := h.2.2.1; omega
    · exact (BxAt.new (k := n.kd) (s := n.nm) (u := u) (mk_blk w _ _ rfl)).keep ((Touch.refl NoB _).alloc _) (fun f => f)
    · exact BxAt.new (k := 0) (s := ⟨#[]⟩) (u := .slice none 0 0) (mk_blk (w.alloc _) _ _ (by simp))
  case round =>
    obtain ⟨n0, o0, l, u0, hR, hk, hl, hk2, hok, hkl, hbx, hrx, hex, hrow, hT⟩ := hrel
    obtain ⟨f, rfl⟩ : ∃ f, gk = f + 1 := ⟨gk - 1, by omega⟩
    obtain ⟨k0, s0, ks0⟩ := n0
    simp only [BN.kd, BN.nm, BN.ks] at hbx hkl
    obtain ⟨j0, j3, -⟩ := hbx.cell0
    have hbl := hbx.lt
    by_cases hu10 : k0 = 10
    · have hq : ((k0 : Int) == 10) = true := by simp; omega
      obtain ⟨W1, hW1⟩ : ∃ W1, wr.drew = W1 := ⟨_, rfl⟩
      have t1 : Touch NoB wr W1 := hW1 ▸ (Touch.refl NoB wr).drew
      have hex1 := hex.keep t1
      have hs0 : s0.size ≤ 9223372036854775807 := hok.2
      obtain ⟨cc, hrun, hcc⟩ := hex1.2.2.2.1.look hs0
      obtain ⟨tc, heb⟩ := hex.1
      have e0 : wr.cell? ⟨eb, 0, none⟩ = some (.slice (some ⟨tb, 0, none⟩) ts.length tc) := cell_blk heb 0
      have e1 : wr.cell? ⟨eb, 1, none⟩ = some (.map (some mb)) := cell_blk heb 1
      have e2 : wr.cell? ⟨eb, 2, none⟩ = some (.slice (some ⟨ob, 0, none⟩) ts.length ts.length) := cell_blk heb 2
      have hebl := blk_lt heb
      rw [← hW1] at hrun
      cases hf : kdN (nmsT ts) s0 with
      | none =>
        rw [hf] at hrun
        have hR2 : R = .error 5 := by rw [hR]; unfold folM; simp only [show (BN.mk k0 s0 ks0).kd = k0 from rfl, show (BN.mk k0 s0 ks0).nm = s0 from rfl]; rw [if_pos hu10, hf]; simp [comb]
        obtain ⟨W2, hst, hrx2, t2⟩ := (hrx.keep t1 (fun f => f)).store (.mk 0 ⟨#[]⟩ []) (u' := .slice none 0 0) rfl
        obtain ⟨c0, c1, c2, c3, c4, c5, c6, c7, c8, c9⟩ := hrx2.cells
        rw [← hW1] at hst
        unfold ndV at hst
        simp only [BN.kd, BN.nm, nat0] at hst c0 c3
        have HF := Lib.hid (And.intro hR2 (And.intro hT (And.intro t1 t2)))
        clear hR hR2 hok hkl hbx hrx hex hrow hT t1 t2 hrx2 hk hl hk2 hu10 hex1 hW1 heb hf hcc
        go_wp2_with fail
        go_still (by kernel_rfl)
        go_wp2
        refine bodyPost_ret (v := .tuple #[ndV (.mk 0 ⟨#[]⟩ []) (.slice none 0 0), .slice none 0 0, .int .i64 5]) (by simp [results, Try.results76, go_sem, c0, c1, c2, c3, c4, c5, c6, c7, c8, c9, ndV, BN.kd, BN.nm]) rfl ?_
        obtain ⟨f1, f2, f3, f4⟩ := HF.out
        refine ⟨(f2.trans f3 (fun _ f => f.elim)).trans f4 (fun b hb => .inr (by omega)), fun er he => ?_, fun n' l' o' he => (by rw [f1] at he; cases he)⟩
        rw [f1] at he
        injection he with he
        subst he
        rfl
      | some at_ =>
        rw [hf] at hrun
        have hc := hcc at_ hf
        simp only [Option.isSome_some] at hrun
        subst hc
        obtain ⟨t, ht, htn⟩ := kdN_get hf
        have hat := (List.getElem?_eq_some_iff.1 ht).1
        have hat2 : (at_ : Int) < (ts.length : Int) := by omega
        obtain ⟨b0, hb0⟩ : ∃ b0, o0[at_]? = some b0 := ⟨_, List.getElem?_eq_getElem (by have := hex.2.2.1; omega)⟩
        have eo : wr.cell? ⟨ob, at_, none⟩ = some (.bool b0) := (cell_blk hex.2.1 at_).trans (by simp [hb0])
        have fo := free_blk hex.2.1 at_
        have hobl := blk_lt hex.2.1
        cases b0 with
        | true =>
          have hR2 : R = .error 8 := by rw [hR]; unfold folM; simp only [show (BN.mk k0 s0 ks0).kd = k0 from rfl, show (BN.mk k0 s0 ks0).nm = s0 from rfl]; rw [if_pos hu10, hf]; simp only [hb0, if_true]; rfl
          obtain ⟨W2, hst, hrx2, t2⟩ := (hrx.keep t1 (fun f => f)).store (.mk 0 ⟨#[]⟩ []) (u' := .slice none 0 0) rfl
          obtain ⟨c0, c1, c2, c3, c4, c5, c6, c7, c8, c9⟩ := hrx2.cells
          rw [← hW1] at hst
          unfold ndV at hst
          simp only [BN.kd, BN.nm, nat0] at hst c0 c3
          have HF := Lib.hid (And.intro hR2 (And.intro hT (And.intro t1 t2)))
          clear hR hR2 hok hkl hbx hrx hex hrow hT t1 t2 hrx2 hk hl hk2 hu10 hex1 hW1 heb hf hcc hb0 ht
          go_wp2_with fail
          go_still (by kernel_rfl)
          go_wp2
          refine bodyPost_ret (v := .tuple #[ndV (.mk 0 ⟨#[]⟩ []) (.slice none 0 0), .slice none 0 0, .int .i64 8]) (by simp [results, Try.results76, go_sem, c0, c1, c2, c3, c4, c5, c6, c7, c8, c9, ndV, BN.kd, BN.nm]) rfl ?_
          obtain ⟨f1, f2, f3, f4⟩ := HF.out
          refine ⟨(f2.trans f3 (fun _ f => f.elim)).trans f4 (fun b hb => .inr (by omega)), fun er he => ?_, fun n' l' o' he => (by rw [f1] at he; cases he)⟩
          rw [f1] at he
          injection he with he
          subst he
          rfl
        | false =>
          have hf1 := hex1.flip at_ true
          obtain ⟨W2, hW2⟩ : ∃ W2, W1.setCell ⟨ob, at_, none⟩ (.bool true) = W2 := ⟨_, rfl⟩
          rw [hW2] at hf1
          have hbx2 := (hbx.keep t1 (fun f => f)).keep hf1.2 (by have := HL.out; omega)
          have hrx2 := (hrx.keep t1 (fun f => f)).keep hf1.2 (by have := HL.out; omega)
          have hrow2 := row_touch (row_touch hrow t1 (fun _ _ f => f)) hf1.2 (fun b hb e => by subst e; exact row_ne hrow hex.2.1 (by decide) hb)
          have hT2 := (hT.trans t1 (fun _ f => f.elim)).same hf1.2
          have hu1 : ¬ u7.ownBlock = some w.heap.size := row_ne hrow2 hbx2.choose_spec.1 (by decide)
          have hu2 : ¬ u7.ownBlock = some (w.heap.size + 1) := row_ne hrow2 hrx2.choose_spec.1 (by decide)
          have hu3 : ∀ b, u7.ownBlock = some b → w.heap.size ≤ b := fun b hb => (hrow2.lt b hb).1
          have HS := Lib.hid (And.intro hR (And.intro hk (And.intro hf (And.intro hb0 (And.intro hf1.1 (And.intro hbx2 (And.intro hrx2 (And.intro hrow2 (And.intro hT2 (And.intro hu1 (And.intro hu2 hu3)))))))))))
          have HQ := Lib.hid (And.intro hu10 (And.intro ht (And.intro hl hk2)))
          have HW2 := Lib.hid hW2
          have HW1 := Lib.hid hW1
          have eo1 : W1.cell? ⟨ob, at_, none⟩ = some (.bool false) := (t1.cell (p := ⟨ob, at_, none⟩) hobl (fun f => f)).trans eo
          have fo1 : W1.frozen? ⟨ob, at_, none⟩ = false := (t1.frozen (p := ⟨ob, at_, none⟩) hobl (fun f => f)).trans fo
          have hobl1 := Nat.lt_of_lt_of_le hobl t1.size
          have e21 : W1.cell? ⟨eb, 2, none⟩ = some (.slice (some ⟨ob, 0, none⟩) ts.length ts.length) := (t1.cell (p := ⟨eb, 2, none⟩) hebl (fun f => f)).trans e2
          have hebl1 := Nat.lt_of_lt_of_le hebl t1.size
          obtain ⟨m, hm⟩ : ∃ m, l.length = m := ⟨_, rfl⟩
          have HM := Lib.hid hm
          have hm2 : m ≤ 2000 := by omega
          obtain ⟨A7, c7, hv7, -, -⟩ := row_any hrow
          have f2 := hf1.1.1
          obtain ⟨tc2, f2⟩ := f2
          have d0 : W2.cell? ⟨eb, 0, none⟩ = some (.slice (some ⟨tb, 0, none⟩) ts.length tc2) := cell_blk f2 0
          have d0l := blk_lt f2
          clear hR hok hkl hbx hrx hex hrow hT t1 hk hl hk2 hu10 hex1 hW1 heb hf hcc hb0 ht hf1 hbx2 hrx2 hrow2 hT2 hu1 hu2 hu3 hW2 hm f2 hv7
          go_wp2_with fail
          go_still (by kernel_rfl)
          change Exit.then _ _ _ _ wr.drew
          rw [HW1.out]
          obtain ⟨i0, hi, hz0, hz1, hz2⟩ := info_intN
          clear eo fo hobl hebl
          have HSZ := Lib.hid (show W2.heap.size = W1.heap.size by rw [← HW2.out]; simp [World.setCell])
          go_wp2_with (at_builtin; rw [HW2.out]; refine wpList_append_lies _ rfl (.tmp 40) (.tmp 42) 62 rfl w.heap.size 3 i0 (.int .i64 0) 1 8 Try.underlying62 hi hz0 hz1 hz2 rfl (by decide) u7 m (intsN l) rfl ?c0 ⟨W1.heap.size, 0, none⟩ 1 1 [.int .i64 (at_ : Int)] rfl rfl ?c1 ?c2 (by decide) ?c3 ?c4 ?c5 (W1.heap.size + 1) ?c6 ?go)
          case c0 =>
            have := HS.out.2.2.2.2.2.2.2.1
            rw [HM.out] at this
            exact row_touch this ((Touch.refl NoB W2).alloc _) (fun _ _ f => f)
          case c1 => exact World.news_of_block (cs := #[.int .i64 (at_ : Int)]) (mk_blk W2 _ _ HSZ.out)
          case c2 => intro u hu; simp only [List.mem_cons, List.not_mem_nil, or_false] at hu; subst hu; rfl
          case c3 => unfold maxLen; omega
          case c4 => omega
          case c5 => have := HS.out.2.2.2.2.2.2.2.2.1.size; simp only [World.size_alloc]; omega
          case c6 => simp only [World.size_alloc]; rw [HSZ.out]
          case go =>
            intro g7 c7' w' hown hgrow hat' hlt'
            obtain ⟨q1, q2, q3, q4, q5, q6, q7, q8, q9, q10, q11, q12⟩ := HS.out
            have t3 : Touch (fun b => u7.ownBlock = some b) W2 w' := ((Touch.refl _ _).alloc _).grown hgrow (fun k e => .inl e)
            have hlt := HL.out
            have hbx3 := q6.keep t3 q10
            have hrx3 := q7.keep t3 q11
            have hex3 := q5.keepF t3 (fun b hb => by have := q12 b hb; omega)
            have hT3 := q9.trans t3 (fun b hb => .inr (q12 b hb))
            obtain ⟨curT, TT, a1, a2, a3, a4⟩ := hex3.2.2.2.2.1
            obtain ⟨b1, b2, ut, b3, b4⟩ := a4 at_ t HQ.out.2.1
            obtain ⟨tn, tk, tsn, tks⟩ := t
            have hload := run_LoadN w' tb (at_ * 11 + 1) (ndC tk tsn ut) rfl (fun j x hx => (cell_blk a1 (at_ * 11 + 1 + j)).trans (by rw [show at_ * 11 + 1 + j = at_ * 11 + (1 + j) by omega]; exact b3 (1 + j) x (by rw [Nat.add_comm]; exact hx)))
            obtain ⟨W5, hst, hbx5, t5⟩ := hbx3.store (.mk tk tsn []) (form_one b4)
            have hrx5 := hrx3.keep t5 (by omega)
            have hex5 := hex3.keepF t5 (fun b hb => by subst hb; omega)
            have hkl5 := b4.via t5 (fun b hb => ⟨fun e => by subst e; exact absurd hb (by omega), hb⟩)
            have hrow5 := row_touch hown t5 (fun b hb e => by
              subst e
              simp only [Value.ownBlock, Option.some.injEq] at hb
              rcases hat' with h | h
              · rw [hb] at h; exact q10 h
              · have := q9.size; have := HSZ.out; omega)
            obtain ⟨tc3, f3⟩ := hex3.1
            have g0 : w'.cell? ⟨eb, 0, none⟩ = some (.slice (some ⟨tb, 0, none⟩) ts.length tc3) := cell_blk f3 0
            unfold ndV at hst
            simp only [ndC, BN.kd, BN.nm] at hload hst
            have hR5 : R = comb (l ++ [at_]) (folM ts f (o0.set at_ true) (.mk tk tsn tks)) := by
              rw [q1]
              exact folM_use HQ.out.1 q3 q4 HQ.out.2.1 l
            have hgsz := blk_lt f3
            have HF := Lib.hid (And.intro hR5 (And.intro (by have := shutN_set q4; omega : shutN (o0.set at_ true) < f) (And.intro b1 (And.intro hkl5 (And.intro hbx5 (And.intro hrx5 (And.intro hex5 (And.intro hrow5 (hT3.trans t5 (fun b hb => .inr (by subst hb; exact Nat.le_refl _)))))))))))
            clear hown hgrow hat' hlt' q1 q2 q3 q4 q5 q6 q7 q8 q9 q10 q11 q12 t3 hbx3 hrx3 hex3 hT3 a1 a2 a3 a4 b1 b2 b3 b4 hbx5 t5 hrx5 hex5 hkl5 hrow5 f3 hR5
            go_wp2
            go_roundg f
            case measure => omega
            case rel =>
              obtain ⟨z1, z2, z3, z4, z5, z6, z7, z8, z9⟩ := HF.out
              refine ⟨.mk tk tsn tks, _, l ++ [at_], ut, z1, z2, ?_, by have := HQ.out.2.2.2; omega, z3, z4, z5, z6, z7, ?_, z9⟩
              · have h1 := HQ.out.2.2.1; have h2 := HQ.out.2.2.2; simp; omega
              · rw [show (l ++ [at_]).length = m + 1 by simp [HM.out], show intsN (l ++ [at_]) = intsN l ++ [.int .i64 (at_ : Int)] by simp [intsN]]
                exact z8
    · have hq : ((k0 : Int) == 10) = false := by simp; omega
      have hR2 : R = .ok (.mk k0 s0 ks0, l, o0) := by rw [hR]; unfold folM; simp only [show (BN.mk k0 s0 ks0).kd = k0 from rfl]; rw [if_neg hu10]; simp [comb]
      have hload := hbx.load
      obtain ⟨W2, hst, hrx2, t2⟩ := hrx.store (.mk k0 s0 []) (form_one hkl)
      obtain ⟨c0, c1, c2, c3, c4, c5, c6, c7, c8, c9⟩ := hrx2.cells
      have hlt := hrx.lt
      have HX := Lib.hid hrx

      have HF := Lib.hid (And.intro hR2 (And.intro hok (And.intro hkl (And.intro hex (And.intro hrow (And.intro hT (And.intro t2 hu10)))))))
      clear hR hR2 hok hkl hbx hrx hex hrow hT t2 hrx2 hk hl hk2 hu10
      unfold ndV at hload hst
      simp only [BN.kd, BN.nm] at hload hst c0 c3
      go_wp2
      refine bodyPost_ret (v := .tuple #[ndV (.mk k0 s0 []) u0, u7, .int .i64 0]) (by simp [results, Try.results76, go_sem, c0, c1, c2, c3, c4, c5, c6, c7, c8, c9, ndV, BN.kd, BN.nm]) rfl ?_
      obtain ⟨e1, e2, e3, e4, e5, e6, e7, e8⟩ := HF.out
      have hb := HL.out
      refine ⟨e6.trans e7 (fun b hb => .inr (by omega)), fun er he => (by rw [e1] at he; cases he), fun n' l' o' he => ?_⟩
      rw [e1] at he
      injection he with he
      injection he with g1 g2
      injection g2 with g2 g3
      subst g1 g2 g3
      have hrn : ∀ b, u7.ownBlock = some b → ¬ b = w.heap.size + 1 := fun b hb e => by subst e; exact row_ne e5 HX.out.choose_spec.1 (by decide) hb
      exact ⟨e2, e8, u0, u7, rfl, e3.via e7 (fun b hb => ⟨fun e => by have := e4.2.2.2.2.2.1; omega, hb⟩), row_touch e5 e7 (fun b hb e => hrn b hb e), e4.keepF e7 (fun b hb' => by subst hb'; omega)⟩
end Go.Proofs.Ytfpeennegmlcpaa
