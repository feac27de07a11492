/-
  table of the document's own Store: the table of a mask, found or made.
-/
import Derived.Test.YticekldgjlihmaaGa
import Derived.Deep.RegionLaw
namespace Go.Proofs.Yticekldgjlihmaa
open Go.ChangeShapes Go.WideShapes Go.ChangeAt Go.RowKit Go.Maps
set_option maxRecDepth 100000
set_option maxHeartbeats 1000000

section
variable {w w' : World} {φ : Nat → Int} {g gi : Nat} {room most : Int} {ps : List (Int × Bool)} {ds : List Int} {ts : List RTb} {vl : Value}
def TabRel (w : World) (p : Nat) (v5 : Value) (wr : World) : Prop := ∃ k : Nat, k ≤ p ∧ v5 = .int .i64 k ∧ w = wr

theorem rm_some {ts : List RTb} {j : Nat} {x : Nat × Int} (h : (rm ts)[j]? = some x) : ∃ t, ts[j]? = some t ∧ x = (t.g, t.m) := by
  rw [rm_get] at h
  rcases hr : ts[j]? with _ | t
  · rw [hr] at h; simp at h
  · rw [hr] at h; simp at h; exact ⟨t, rfl, h.symm⟩

theorem rs_table_old (h : RSG w φ g gi room most ps ds ts vl) (m : Int) (hh : hasL (rm ts) m = true) {t : RTb} (ht : ts[posL (rm ts) m]? = some t) :
    Calls Try.prog 31 #[.pointer (some ⟨g, 0, none⟩), .int .u16 m] w fun e w' => e = .returned (.pointer (some ⟨t.g, 0, none⟩)) ∧ w = w' := by
  have htm : t.m = m := by
    obtain ⟨a, ha⟩ := hasL_true hh
    rw [rm_get, ht] at ha
    simp at ha
    exact ha.2
  have hsp := (asc_split h.asc m).1
  obtain ⟨p, hp⟩ : ∃ p, posL (rm ts) m = p := ⟨_, rfl⟩
  rw [hp] at hsp ht
  obtain ⟨L, hL⟩ : ∃ L, ts.length = L := ⟨_, rfl⟩
  have hpL : p < L := by rw [← hL]; exact (List.getElem?_eq_some_iff.1 ht).1
  obtain ⟨q, cap, hv, cq, hqs⟩ := h.at ht
  rw [hL] at hv
  subst hv
  obtain ⟨A', cap', hv, h1, h2⟩ := row_any h.row
  rw [hL] at hv h1
  injection hv with hA _ e
  subst hA e
  unfold maxLen at h2
  have c2 := h.c2
  have hg := h.lt
  obtain ⟨ct, htl, _⟩ := (h.tab p t ht).mask
  rw [htm] at ct
  obtain ⟨gt, hgt⟩ : ∃ G, t.g = G := ⟨_, rfl⟩
  rw [hgt] at ct cq htl
  rw [hgt]
  have H := Lib.hid h
  have HL := Lib.hid hL
  have HSP := Lib.hid hsp
  clear h hh ht htm hp hL hsp hgt
  go_enter Try.func31, Try.ntmps31
  go_wp2
  go_loopw [5] (fun v5 wr => TabRel w p v5 wr) (fun v5 _ => L - (intOf v5).toNat)
  case atStart => exact ⟨0, Nat.zero_le _, rfl, rfl⟩
  case round =>
    obtain ⟨k, hk, rfl, rfl⟩ := hrel
    have hkL : (k : Int) < (L : Int) := by omega
    by_cases hlt : k < p
    · obtain ⟨s, hs⟩ : ∃ s, ts[k]? = some s := ⟨_, List.getElem?_eq_getElem (by rw [HL.out]; omega)⟩
      obtain ⟨q', cap', hv, cs, _⟩ := H.out.at hs
      rw [HL.out] at hv
      injection hv with hv1 hv2 hv3
      injection hv1 with hv1
      injection hv1 with hv1
      subst hv1
      clear hv2 hv3
      obtain ⟨cm, hsl, _⟩ := (H.out.tab k s hs).mask
      have hlm : s.m < m := HSP.out k (s.g, s.m) hlt (by rw [rm_get, hs]; rfl)
      obtain ⟨gs, hgs⟩ : ∃ G, s.g = G := ⟨_, rfl⟩
      obtain ⟨ms, hms⟩ : ∃ M, s.m = M := ⟨_, rfl⟩
      rw [hgs] at cs cm hsl
      rw [hms] at cm hlm
      clear hs hgs hms ct cq
      go_wp2
      go_roundw
      case rel => exact ⟨k + 1, by omega, by go_num, rfl⟩
      case measure => simp [intOf]; omega
    · obtain rfl : k = p := by omega
      have d1 : ¬ m < m := by omega
      have d2 : (m == m) = true := by simp
      go_wp2
      go_ret
      exact ⟨rfl, rfl⟩
/-- 'append' to a row of the call's own, as one step of a region. -/
theorem step_append_own {P : Program} {ops : Array Oper} {o : Oper} {a : Act} {w : World} {K : Act → World → Prop} {Q : Exit → Act → World → Prop} {E : Prop} (hgd : o.guard = none) (s x : Operand) (t : TypeId)
    (ho : o.op = .call { callee := .builtin .append, args := #[s, x], argTypes := #[t, t] })
    (base : Nat) (e : TypeId) (i : TypeInfo) (z : Value) (size bytes : Nat) (ht : P.underlying t = some (.slice e)) (hi : P.info? e = some i) (hz : i.zero = some z)
    (hsize : i.size = size) (hby : i.bytes = bytes) (hzs : z.cells.size = size) (hsz : 0 < size)
    (v : Value) (n : Nat) (xs : List Value) (hs : a.eval s = v) (hown : w.ownsRow base e size v n xs)
    (ad : Addr) (m c : Nat) (news : List Value) (hx : a.eval x = .slice (some ad) m c) (hl : news.length = m * size) (hnews : ∀ j u, news[j]? = some u → w.cell? (ad.add j) = some u) (h1 : ∀ u ∈ news, u.oneCell' = true)
    (h63 : n + m ≤ maxLen) (hbytes : (n + m) * bytes ≤ 140737488355328) (hbase : base ≤ w.heap.size)
    (h : ∀ v' w', w'.ownsRow base e size v' (n + m) (xs ++ news) → w.grownBy w' v.ownBlock → K (a.put o.dst v') w') :
    if Region.wanted o (yielded ops a.tmps) = true then Oper.wp P o a w K Q else E := by
  have hw : Region.wanted o (yielded ops a.tmps) = true := by simp [Region.wanted, hgd]
  rw [if_pos hw]
  obtain ⟨v', w', hr, h2, h3, _, _⟩ := run_append_own_at (P := P) w base t o.type e i z size bytes ht hi hz hsize hby hzs hsz v n xs hown ad m c news hl hnews h1 h63 hbytes hbase
  unfold Oper.wp execOp
  simp only [ho, resolve, invoke, builtin, Sem.run_bind, Sem.run_pure, Result.andThen_ok, List.map_toArray, List.map_cons, List.map_nil, hs, hx, hr]
  exact h v' w' h2 h3
/-- 'append(v, nil...)'. -/
theorem step_append_nil {P : Program} {ops : Array Oper} {o : Oper} {a : Act} {w : World} {K : Act → World → Prop} {Q : Exit → Act → World → Prop} {E : Prop} (hgd : o.guard = none) (s x : Operand) (t : TypeId) {v : Value}
    (ho : o.op = .call { callee := .builtin .append, args := #[s, x], argTypes := #[t, t] }) (hs : a.eval s = v) (hx : a.eval x = .slice none 0 0) (hr : (Builtin.append_ #[t, t] o.type #[v, .slice none 0 0]).run P w = .ok v w) (h : K (a.put o.dst v) w) :
    if Region.wanted o (yielded ops a.tmps) = true then Oper.wp P o a w K Q else E := by
  have hw : Region.wanted o (yielded ops a.tmps) = true := by simp [Region.wanted, hgd]
  rw [if_pos hw]
  unfold Oper.wp execOp
  simp only [ho, resolve, invoke, builtin, Sem.run_bind, Sem.run_pure, Result.andThen_ok, List.map_toArray, List.map_cons, List.map_nil, hs, hx, hr]
  exact h
/-- 'append(v, nil...)' to a row of the call's own. -/
theorem step_append_none {P : Program} {ops : Array Oper} {o : Oper} {a : Act} {w : World} {K : Act → World → Prop} {Q : Exit → Act → World → Prop} {E : Prop} (hgd : o.guard = none) (s x : Operand) (t : TypeId) {v : Value}
    (ho : o.op = .call { callee := .builtin .append, args := #[s, x], argTypes := #[t, t] }) (base : Nat) (e : TypeId) (i : TypeInfo) (size : Nat) (ht : P.underlying t = some (.slice e)) (hi : P.info? e = some i) (n : Nat) (xs : List Value)
    (hs : a.eval s = v) (hx : a.eval x = .slice none 0 0) (hown : w.ownsRow base e size v n xs) (h : K (a.put o.dst v) w) :
    if Region.wanted o (yielded ops a.tmps) = true then Oper.wp P o a w K Q else E :=
  step_append_nil hgd s x t ho hs hx (run_append_owned_none (P := P) w base t o.type e i size ht hi v n xs hown) h
theorem info_tab : (Try.prog.info? 78).map (fun i => (i.zero, i.size, i.bytes)) = some (some (.pointer none), 1, 8) := by kernel_rfl
theorem news_one {b : Nat} {x : Value} (h : w.cell? ⟨b, 0, none⟩ = some x) : ∀ (j : Nat) (u : Value), [x][j]? = some u → w.cell? ((⟨b, 0, none⟩ : Addr).add j) = some u := by
  intro j u hj
  cases j with
  | zero => simp at hj; subst hj; exact h
  | succ j => simp at hj
theorem row_first {q n cap p B : Nat} {e : TypeId} {xs : List Value} (h : w.ownsRow B e 1 (.slice (some ⟨q, 0, none⟩) n cap) n xs) (hp : p ≤ n) : ∀ (j : Nat) (u : Value), (xs.take p)[j]? = some u → w.cell? ((⟨q, 0, none⟩ : Addr).add j) = some u := by
  intro j u hj
  rw [List.getElem?_take] at hj
  split at hj
  · rename_i hlt
    rw [Addr.add_lit, Nat.zero_add, h.cellAt j (by omega)]
    exact hj
  · cases hj
theorem row_behind {q n cap p B : Nat} {e : TypeId} {xs : List Value} (h : w.ownsRow B e 1 (.slice (some ⟨q, 0, none⟩) n cap) n xs) : ∀ (j : Nat) (u : Value), (xs.drop p)[j]? = some u → w.cell? ((⟨q, p, none⟩ : Addr).add j) = some u := by
  intro j u hj
  rw [List.getElem?_drop] at hj
  have hl := h.1
  have := (List.getElem?_eq_some_iff.1 hj).1
  rw [Addr.add_lit, h.cellAt (p + j) (by omega)]
  exact hj

theorem row_low {B : Nat} {e : TypeId} {size n : Nat} {v : Value} {xs : List Value} (h : w.ownsRow B e size v n xs) : w.ownsRow 0 e size v n xs := by
  refine ⟨h.1, ?_⟩
  rcases h.2 with h0 | ⟨g, cap, cur, r1, _, r⟩
  · exact .inl h0
  · exact .inr ⟨g, cap, cur, r1, Nat.zero_le _, r⟩
theorem row_as {B : Nat} {e : TypeId} {size n n' : Nat} {v : Value} {xs xs' : List Value} (h : w.ownsRow B e size v n xs) (hn : n' = n) (hx : xs' = xs) : w.ownsRow B e size v n' xs' := by rw [hn, hx]; exact h
/-- A row that was made since w1. -/
def Fresh (w1 wc : World) (v : Value) (n : Nat) (xs : List Value) : Prop := wc.ownsRow w1.heap.size 78 1 v n xs ∧ Touch NoB w1 wc
theorem Fresh.t {w1 wc : World} {v : Value} {n : Nat} {xs : List Value} (h : Fresh w1 wc v n xs) : Touch NoB w1 wc := h.2
theorem Fresh.more {w1 wc wd : World} {v : Value} {n : Nat} {xs : List Value} (h : Fresh w1 wc v n xs) (t : Touch NoB wc wd) : Fresh w1 wd v n xs := ⟨row_touch h.1 t (fun _ _ e => e), h.2.same t⟩
theorem Fresh.app {w1 wc w' : World} {v v' : Value} {n m : Nat} {xs ys : List Value} (h : Fresh w1 wc v n xs) (ho : w'.ownsRow w1.heap.size 78 1 v' m ys) (hg : wc.grownBy w' v.ownBlock) : Fresh w1 w' v' m ys :=
  ⟨ho, h.2.grown hg (fun k e => .inr (h.1.lt k e).1)⟩
theorem Fresh.nil (w1 : World) {wc : World} (t : Touch NoB w1 wc) : Fresh w1 wc (.slice none 0 0) 0 [] := ⟨World.ownsRow_nil _ _ _ _, t⟩

/-- The label of the new table's block, and of the blocks of the new row. -/
def newR (φ : Nat → Int) (s e : Nat) (m : Int) : Nat → Int := fun b => if b < s then φ b else if b = s then 4 + m else if b < e then 3 else 0

theorem RSG.tabled (h : RSG w φ g gi room most ps ds ts vl) {m : Int} (hm : 0 ≤ m ∧ m < 65536) (hh : hasL (rm ts) m = false) {w1 wx : World} (hRT : RT w1 (fun b => b = w.heap.size) w.heap.size m []) (hT : Touch NoB w w1) (hs : w.heap.size < w1.heap.size) {v : Value} (hF : Fresh w1 wx v (ts.length + 1) ((pvc (rm ts)).take (posL (rm ts) m) ++ [.pointer (some ⟨w.heap.size, 0, none⟩)] ++ (pvc (rm ts)).drop (posL (rm ts) m))) :
    RSG (wx.setCell ⟨g, 2, none⟩ v) (newR φ w.heap.size wx.heap.size m) g gi room most ps ds (insT ts (posL (rm ts) m) ⟨w.heap.size, m, []⟩) v ∧ (∀ b, newR φ w.heap.size wx.heap.size m b ≠ 0 → φ b ≠ 0 ∨ w.heap.size ≤ b) ∧ Touch (fun b => φ b = 1) w (wx.setCell ⟨g, 2, none⟩ v) := by
  have hTx : Touch NoB w wx := hT.same hF.2
  have hTt : Touch (fun b => φ b = 1) w (wx.setCell ⟨g, 2, none⟩ v) := (hTx.mono (fun _ e => e.elim)).setCell (p := ⟨g, 2, none⟩) (.inl h.l1) v
  have hTg : Touch (fun b => b = g) wx (wx.setCell ⟨g, 2, none⟩ v) := (Touch.refl (fun b => b = g) wx).setCell (p := ⟨g, 2, none⟩) (.inl rfl) v
  have hx := h.quiet hTx
  have hold : ∀ b, φ b ≠ 0 → newR φ w.heap.size wx.heap.size m b = φ b := fun b hb => by unfold newR; rw [if_pos (h.wf b hb)]
  have hg1 := h.l1
  have hple := posL_le (rm ts) m
  rw [rm_length] at hple
  have hsz := hTx.size
  refine ⟨⟨?_, ?_, ?_, ?_, ?_, ?_, ?_, ?_, ?_⟩, fun b hb => ?_, hTt⟩
  · have := set_blk hx.blk 2 v
    simpa using this
  · rw [hold g (by omega)]; exact h.l1
  · exact (hx.own.keep hTg (fun b (h1 : φ b = 2) (h2 : b = g) => by rw [h2] at h1; omega)).more (fun b (hb : φ b = 2) => (hold b (by omega)).trans hb)
  · have hr := hF.1
    refine row_as (row_touch (row_low hr) hTg (fun k hk (e : k = g) => by have := (hr.lt k hk).1; have := h.lt; omega)) ?_ ?_
    · rw [insT_length _ _ _ hple]
    · unfold rm insT pvc
      simp
  · intro k hk
    have h1 := hF.1.lt k hk
    unfold newR
    rw [if_neg (by omega), if_neg (by omega), if_pos h1.2]
  · intro j t ht
    rcases insT_some hple ht with ⟨rfl, rfl⟩ | ⟨_, hj⟩ | ⟨_, hj⟩
    · exact ((hRT.keep hF.2 (fun _ _ e => e)).keep hTg (fun b (h1 : b = w.heap.size) (h2 : b = g) => by have := h.lt; omega)).more (fun b (hb : b = w.heap.size) => by unfold newR; rw [if_neg (by omega), if_pos hb])
    all_goals
      have hm2 := h.m0 _ t hj
      exact ((hx.tab _ t hj).keep hTg (fun b (h1 : φ b = 4 + t.m) (h2 : b = g) => by rw [h2] at h1; omega)).more (fun b (hb : φ b = 4 + t.m) => (hold b (by omega)).trans hb)
  · intro j t ht
    rcases insT_some hple ht with ⟨rfl, rfl⟩ | ⟨_, hj⟩ | ⟨_, hj⟩
    · exact hm
    · exact h.m0 _ t hj
    · exact h.m0 _ t hj
  · intro b hb
    unfold newR at hb
    rw [show (wx.setCell ⟨g, 2, none⟩ v).heap.size = wx.heap.size from by simp [World.setCell]]
    have hs2 := hF.2.size
    split at hb
    · omega
    · split at hb
      · omega
      · split at hb
        · omega
        · exact absurd rfl hb
  · have := asc_ins h.asc hh w.heap.size
    unfold rm insT at this ⊢
    simpa using this
  · unfold newR at hb
    by_cases hlt : b < w.heap.size
    · rw [if_pos hlt] at hb; exact .inl hb
    · exact .inr (by omega)

set_option maxHeartbeats 20000000 in
/-- A new table. -/
theorem rs_table_new (h : RSG w φ g gi room most ps ds ts vl) (m : Int) (hm : 0 ≤ m ∧ m < 65536) (hh : hasL (rm ts) m = false) (hmo : (ts.length : Int) < most) (hl : ts.length ≤ 1000) :
    Calls Try.prog 31 #[.pointer (some ⟨g, 0, none⟩), .int .u16 m] w fun e w' => ∃ φ' vl', e = .returned (.pointer (some ⟨w.heap.size, 0, none⟩)) ∧ RSG w' φ' g gi room most ps ds (insT ts (posL (rm ts) m) ⟨w.heap.size, m, []⟩) vl' ∧ (∀ b, φ' b ≠ 0 → φ b ≠ 0 ∨ w.heap.size ≤ b) ∧ Touch (fun b => φ b = 1) w w' := by
  obtain ⟨i0, hi, hz0, hz1, hz2⟩ := info_parts info_tab
  have hsp := asc_split h.asc m
  obtain ⟨p, hp⟩ : ∃ p, posL (rm ts) m = p := ⟨_, rfl⟩
  obtain ⟨L, hL⟩ : ∃ L, ts.length = L := ⟨_, rfl⟩
  have hpL : p ≤ L := by rw [← hp, ← hL, ← rm_length]; exact posL_le _ _
  have hne : ∀ t, ts[p]? = some t → t.m ≠ m := fun t ht => hasL_false hh (x := (t.g, t.m)) (by rw [hp, rm_get, ht]; rfl)
  have HTD := Lib.hid (fun (w1 wx : World) (v : Value) a b c d => h.tabled hm hh (w1 := w1) (wx := wx) (v := v) a b c d)
  rw [hp, hL] at HTD
  rw [hp]
  rw [hp] at hsp
  obtain ⟨A, cap, rfl, hq1, hq2⟩ := row_any h.row
  unfold maxLen at hq2
  rw [hL] at hq1 hmo hl
  have c1 := h.c1
  have c2 := h.c2
  rw [hL] at c2
  have hg := h.lt
  have hrow := h.row
  rw [hL] at hrow
  have H := Lib.hid h
  have HL := Lib.hid hL
  have HSP := Lib.hid hsp
  have HNE := Lib.hid hne
  have HR := Lib.hid hrow
  clear h hh hp hL hsp hne hrow
  go_enter Try.func31, Try.ntmps31
  go_wp2
  go_loopw [5] (fun v5 wr => TabRel w p v5 wr) (fun v5 _ => L - (intOf v5).toNat)
  case atStart => exact ⟨0, Nat.zero_le _, rfl, rfl⟩
  case round =>
    obtain ⟨k, hk, rfl, rfl⟩ := hrel
    by_cases hlt : k < p
    · have hkL : (k : Int) < (L : Int) := by omega
      obtain ⟨s, hs⟩ : ∃ s, ts[k]? = some s := ⟨_, List.getElem?_eq_getElem (by rw [HL.out]; omega)⟩
      obtain ⟨q', cap', hv, cs, _⟩ := H.out.at hs
      rw [HL.out] at hv
      injection hv with hv1 hv2 hv3
      subst hv1
      clear hv2 hv3
      obtain ⟨cm, hsl, _⟩ := (H.out.tab k s hs).mask
      have hlm : s.m < m := HSP.out.1 k (s.g, s.m) hlt (by rw [rm_get, hs]; rfl)
      obtain ⟨gs, hgs⟩ : ∃ G, s.g = G := ⟨_, rfl⟩
      obtain ⟨ms, hms⟩ : ∃ M, s.m = M := ⟨_, rfl⟩
      rw [hgs] at cs cm hsl
      rw [hms] at cm hlm
      clear hs hgs hms
      go_wp2
      go_roundw
      case rel => exact ⟨k + 1, by omega, by go_num, rfl⟩
      case measure => simp [intOf]; omega
    · obtain rfl : k = p := by omega
      by_cases hkL : k < L
      · obtain ⟨s, hs⟩ : ∃ s, ts[k]? = some s := ⟨_, List.getElem?_eq_getElem (by rw [HL.out]; omega)⟩
        obtain ⟨q, cap', hv, cs, _⟩ := H.out.at hs
        rw [HL.out] at hv
        injection hv with hv1 hv2 hv3
        subst hv1
        clear hv2 hv3
        obtain ⟨cm, hsl, _⟩ := (H.out.tab k s hs).mask
        have hlm : ¬ s.m < m := by
          have := HSP.out.2 k (s.g, s.m) (Nat.le_refl _) (by rw [rm_get, hs]; rfl)
          simp at this
          omega
        have hem : (s.m == m) = false := by simpa using HNE.out s hs
        obtain ⟨gs, hgs⟩ : ∃ G, s.g = G := ⟨_, rfl⟩
        obtain ⟨ms, hms⟩ : ∃ M, s.m = M := ⟨_, rfl⟩
        rw [hgs] at cs cm hsl
        rw [hms] at cm hlm hem
        have hkL2 : (k : Int) < (L : Int) := by omega
        have hge : ¬ (most ≤ (L : Int)) := by omega
        clear hs hgs hms
        have hcl := HR.out
        have z1 : (0 : Int) ≤ (k : Int) := by omega
        have z2 : (k : Int) ≤ (cap : Int) := by omega
        have z3 : ¬ (cap = k) := by omega
        have z4 : (k : Int) ≤ (L : Int) := by omega
        have z5 : k ≤ cap := by omega
        have z6 : k ≤ L := by omega
        clear hcl
        go_wp2
        go_region
        all_goals
          go_wp2_with fail
          refine (rtnew_any m _).mono ?_
          rintro e w1 ⟨rfl, hRT, hT1⟩
          have hs1 : w.heap.size < w1.heap.size := by obtain ⟨_, hb, _⟩ := hRT; exact blk_lt hb
          have hT1w : Touch NoB w w1 := Touch.same (by repeat (first | with_reducible exact Touch.refl _ _ | with_reducible refine Touch.drew ?_)) hT1
          have hc1 := (Touch.cell hT1w (p := ⟨g, 2, none⟩) hg (fun e => e)).trans c2
          have hg1 : g < w1.heap.size := by omega
          have hfz1 : w1.frozen? ⟨g, 2, none⟩ = false := (Touch.frozen hT1w (p := ⟨g, 2, none⟩) hg (fun e => e)).trans (free_blk H.out.blk 2)
          have HT1 := Lib.hid hT1w
          have HRT := Lib.hid (show RT w1 (fun b => b = w.heap.size) w.heap.size m [] from hRT)
          clear hT1 hT1w hRT c2
          go_wp2
          go_region_law
            (first | (refine step_append_own rfl (.const (.slice none 0 0)) (.tmp 76) 67 rfl w1.heap.size 78 i0 _ 1 8 Try.underlying67 hi hz0 hz1 hz2 rfl (by decide) (.slice none 0 0) 0 [] rfl (World.ownsRow_nil _ _ _ _) ⟨q, 0, none⟩ k _ ((pvc (rm ts)).take k) rfl (by rw [List.length_take, pvc_length, rm_length, HL.out]; omega) (row_first (row_touch HR.out (Touch.same HT1.out (by repeat (first | with_reducible exact Touch.refl _ _ | with_reducible refine Touch.alloc ?_ _ | with_reducible refine Touch.drewN ?_ _ | with_reducible refine Touch.drew ?_))) (fun _ _ e => e)) (by omega)) (fun u hu => pvc_one _ u (List.mem_of_mem_take hu)) (by unfold maxLen; omega) (by omega) (Touch.size (F := NoB) (by repeat (first | with_reducible exact HF.out.t | with_reducible exact Touch.refl _ _ | with_reducible refine Touch.alloc ?_ _ | with_reducible refine Touch.drewN ?_ _ | with_reducible refine Touch.drew ?_))) ?_; intro v1 wx hown hgrow; (try have hlit : wx.cell? ⟨w1.heap.size, 0, none⟩ = some (.pointer (some ⟨w.heap.size, 0, none⟩)) := (Touch.cell (Touch.grown (Touch.refl NoB _) hgrow (fun k e => by simp [Value.ownBlock] at e)) (p := ⟨w1.heap.size, 0, none⟩) (by simp) (fun e => e)).trans (cell_blk (alloc_blk w1.drew #[(.pointer (some ⟨w.heap.size, 0, none⟩))] 78 rfl) 0)); rw [Nat.zero_add, List.nil_append] at hown; obtain ⟨A1, cp1, rfl, _, _⟩ := row_any hown; have hf : Fresh w1 wx _ k ((pvc (rm ts)).take k) := (Fresh.nil w1 (by repeat (first | with_reducible exact Touch.refl _ _ | with_reducible refine Touch.alloc ?_ _ | with_reducible refine Touch.drewN ?_ _ | with_reducible refine Touch.drew ?_))).app hown hgrow; have hkc : wx.cell? ⟨g, 2, none⟩ = some (.slice (some ⟨q, 0, none⟩) L cap) := (Touch.cell hf.t hg1 (fun e => e)).trans hc1; have hgx : g < wx.heap.size := Nat.lt_of_lt_of_le hg1 (Touch.size hf.t); have hfz : wx.frozen? ⟨g, 2, none⟩ = false := (Touch.frozen hf.t hg1 (fun e => e)).trans hfz1; (try clear HF); have HF := Lib.hid hf; clear hown hgrow hf)
                   | (refine step_append_own rfl (.tmp 77) (.tmp 79) 67 rfl w1.heap.size 78 i0 _ 1 8 Try.underlying67 hi hz0 hz1 hz2 rfl (by decide) _ k ((pvc (rm ts)).take k) rfl (Fresh.more HF.out (by repeat (first | with_reducible exact Touch.refl _ _ | with_reducible refine Touch.alloc ?_ _ | with_reducible refine Touch.drewN ?_ _ | with_reducible refine Touch.drew ?_))).1 ⟨_, 0, none⟩ 1 1 [(.pointer (some ⟨w.heap.size, 0, none⟩))] rfl rfl (by first | exact World.news_of_block (cs := #[(.pointer (some ⟨w.heap.size, 0, none⟩))]) (alloc_blk _ _ _ rfl) | exact news_one hlit) (fun u hu => by simp at hu; subst hu; rfl) (by unfold maxLen; omega) (by omega) (Touch.size (F := NoB) (by repeat (first | with_reducible exact HF.out.t | with_reducible exact Touch.refl _ _ | with_reducible refine Touch.alloc ?_ _ | with_reducible refine Touch.drewN ?_ _ | with_reducible refine Touch.drew ?_))) ?_; intro v2 wx hown hgrow; obtain ⟨A2, cp2, rfl, _, _⟩ := row_any hown; have hf : Fresh w1 wx _ (k + 1) (((pvc (rm ts)).take k) ++ [(.pointer (some ⟨w.heap.size, 0, none⟩))]) := (Fresh.more HF.out (by repeat (first | with_reducible exact Touch.refl _ _ | with_reducible refine Touch.alloc ?_ _ | with_reducible refine Touch.drewN ?_ _ | with_reducible refine Touch.drew ?_))).app hown hgrow; have hkc : wx.cell? ⟨g, 2, none⟩ = some (.slice (some ⟨q, 0, none⟩) L cap) := (Touch.cell hf.t hg1 (fun e => e)).trans hc1; have hgx : g < wx.heap.size := Nat.lt_of_lt_of_le hg1 (Touch.size hf.t); have hfz : wx.frozen? ⟨g, 2, none⟩ = false := (Touch.frozen hf.t hg1 (fun e => e)).trans hfz1; (try clear HF); have HF := Lib.hid hf; clear hown hgrow hf)
                   | (refine step_append_own rfl (.tmp 80) (.tmp 86) 67 rfl w1.heap.size 78 i0 _ 1 8 Try.underlying67 hi hz0 hz1 hz2 rfl (by decide) _ (k + 1) (((pvc (rm ts)).take k) ++ [(.pointer (some ⟨w.heap.size, 0, none⟩))]) rfl (Fresh.more HF.out (by repeat (first | with_reducible exact Touch.refl _ _ | with_reducible refine Touch.alloc ?_ _ | with_reducible refine Touch.drewN ?_ _ | with_reducible refine Touch.drew ?_))).1 ⟨q, k, none⟩ (L - k) _ ((pvc (rm ts)).drop k) rfl (by rw [List.length_drop, pvc_length, rm_length, HL.out]; omega) (row_behind (row_touch HR.out (Touch.same HT1.out (by repeat (first | with_reducible exact HF.out.t | with_reducible exact Touch.refl _ _ | with_reducible refine Touch.alloc ?_ _ | with_reducible refine Touch.drewN ?_ _ | with_reducible refine Touch.drew ?_))) (fun _ _ e => e))) (fun u hu => pvc_one _ u (List.mem_of_mem_drop hu)) (by unfold maxLen; omega) (by omega) (Touch.size (F := NoB) (by repeat (first | with_reducible exact HF.out.t | with_reducible exact Touch.refl _ _ | with_reducible refine Touch.alloc ?_ _ | with_reducible refine Touch.drewN ?_ _ | with_reducible refine Touch.drew ?_))) ?_; intro v3 wx hown hgrow; obtain ⟨A3, cp3, rfl, _, _⟩ := row_any hown; have hf : Fresh w1 wx _ ((k + 1) + (L - k)) ((((pvc (rm ts)).take k) ++ [(.pointer (some ⟨w.heap.size, 0, none⟩))]) ++ (pvc (rm ts)).drop k) := (Fresh.more HF.out (by repeat (first | with_reducible exact Touch.refl _ _ | with_reducible refine Touch.alloc ?_ _ | with_reducible refine Touch.drewN ?_ _ | with_reducible refine Touch.drew ?_))).app hown hgrow; have hkc : wx.cell? ⟨g, 2, none⟩ = some (.slice (some ⟨q, 0, none⟩) L cap) := (Touch.cell hf.t hg1 (fun e => e)).trans hc1; have hgx : g < wx.heap.size := Nat.lt_of_lt_of_le hg1 (Touch.size hf.t); have hfz : wx.frozen? ⟨g, 2, none⟩ = false := (Touch.frozen hf.t hg1 (fun e => e)).trans hfz1; (try clear HF); have HF := Lib.hid hf; clear hown hgrow hf))
          all_goals
            go_wp2
            go_ret
            obtain ⟨h1, h2, h3⟩ := HTD.out w1 wx _ HRT.out HT1.out hs1 (by have hf := HF.out; exact ⟨row_as hf.1 (by omega) (by simp), hf.2⟩)
            exact ⟨_, _, rfl, h1, h2, h3⟩
      · obtain rfl : k = L := by omega
        have hge : ¬ (most ≤ (k : Int)) := by omega
        have z4 : k ≤ cap := by omega
        have hforms : (A = none ∧ k = 0 ∧ cap = 0) ∨ ∃ q, A = some ⟨q, 0, none⟩ := by
          rcases HR.out.2 with ⟨e, e0⟩ | ⟨q, cp, cur, e, _⟩
          · injection e with e1 e2 e3
            exact .inl ⟨e1, e0, e3⟩
          · injection e with e1 e2 e3
            exact .inr ⟨q, e1⟩
        rcases hforms with ⟨rfl, rfl, rfl⟩ | ⟨q, rfl⟩
        · have hge0 : ¬ (most ≤ 0) := by simpa using hge
          go_wp2
          go_region
          all_goals
            go_wp2_with fail
            refine (rtnew_any m _).mono ?_
            rintro e w1 ⟨rfl, hRT, hT1⟩
            have hs1 : w.heap.size < w1.heap.size := by obtain ⟨_, hb, _⟩ := hRT; exact blk_lt hb
            have hT1w : Touch NoB w w1 := Touch.same (by repeat (first | with_reducible exact Touch.refl _ _ | with_reducible refine Touch.drew ?_)) hT1
            have hc1 := (Touch.cell hT1w (p := ⟨g, 2, none⟩) hg (fun e => e)).trans c2
            have hg1 : g < w1.heap.size := by omega
            have hfz1 : w1.frozen? ⟨g, 2, none⟩ = false := (Touch.frozen hT1w (p := ⟨g, 2, none⟩) hg (fun e => e)).trans (free_blk H.out.blk 2)
            have HT1 := Lib.hid hT1w
            have HRT := Lib.hid (show RT w1 (fun b => b = w.heap.size) w.heap.size m [] from hRT)
            clear hT1 hT1w hRT c2
            go_wp2
            go_region_law
              (first | (refine step_append_none rfl (.const (.slice none 0 0)) (.tmp 76) 67 rfl w1.heap.size 78 i0 1 Try.underlying67 hi 0 [] rfl rfl (World.ownsRow_nil _ _ _ _) ?_)
                     | (refine step_append_own rfl (.tmp 77) (.tmp 79) 67 rfl w1.heap.size 78 i0 _ 1 8 Try.underlying67 hi hz0 hz1 hz2 rfl (by decide) (.slice none 0 0) 0 [] rfl (World.ownsRow_nil _ _ _ _) ⟨_, 0, none⟩ 1 1 [(.pointer (some ⟨w.heap.size, 0, none⟩))] rfl rfl (by first | exact World.news_of_block (cs := #[(.pointer (some ⟨w.heap.size, 0, none⟩))]) (alloc_blk _ _ _ rfl) | exact news_one hlit) (fun u hu => by simp at hu; subst hu; rfl) (by unfold maxLen; omega) (by omega) (Touch.size (F := NoB) (by repeat (first | with_reducible exact Touch.refl _ _ | with_reducible refine Touch.alloc ?_ _ | with_reducible refine Touch.drewN ?_ _ | with_reducible refine Touch.drew ?_))) ?_; intro v2 wx hown hgrow; obtain ⟨A2, cp2, rfl, _, _⟩ := row_any hown; have hf : Fresh w1 wx _ (0 + 1) ([] ++ [(.pointer (some ⟨w.heap.size, 0, none⟩))]) := (Fresh.nil w1 (by repeat (first | with_reducible exact Touch.refl _ _ | with_reducible refine Touch.alloc ?_ _ | with_reducible refine Touch.drewN ?_ _ | with_reducible refine Touch.drew ?_))).app hown hgrow; have hkc : wx.cell? ⟨g, 2, none⟩ = some (.slice none 0 0) := (Touch.cell hf.t hg1 (fun e => e)).trans hc1; have hgx : g < wx.heap.size := Nat.lt_of_lt_of_le hg1 (Touch.size hf.t); have hfz : wx.frozen? ⟨g, 2, none⟩ = false := (Touch.frozen hf.t hg1 (fun e => e)).trans hfz1; (try clear HF); have HF := Lib.hid hf; clear hown hgrow hf)
                     | (first | (refine step_append_own rfl (.tmp 80) (.tmp 86) 67 rfl w1.heap.size 78 i0 _ 1 8 Try.underlying67 hi hz0 hz1 hz2 rfl (by decide) _ (0 + 1) ([] ++ [(.pointer (some ⟨w.heap.size, 0, none⟩))]) rfl (Fresh.more HF.out (by repeat (first | with_reducible exact Touch.refl _ _ | with_reducible refine Touch.alloc ?_ _ | with_reducible refine Touch.drewN ?_ _ | with_reducible refine Touch.drew ?_))).1 _ 0 _ [] rfl rfl (fun j u hj => by simp at hj) (fun u hu => by simp at hu) (by unfold maxLen; omega) (by omega) (Touch.size (F := NoB) (by repeat (first | with_reducible exact HF.out.t | with_reducible exact Touch.refl _ _ | with_reducible refine Touch.alloc ?_ _ | with_reducible refine Touch.drewN ?_ _ | with_reducible refine Touch.drew ?_))) ?_; intro v3 wx hown hgrow; obtain ⟨A3, cp3, rfl, _, _⟩ := row_any hown; have hf : Fresh w1 wx _ ((0 + 1) + 0) (([] ++ [(.pointer (some ⟨w.heap.size, 0, none⟩))]) ++ []) := (Fresh.more HF.out (by repeat (first | with_reducible exact Touch.refl _ _ | with_reducible refine Touch.alloc ?_ _ | with_reducible refine Touch.drewN ?_ _ | with_reducible refine Touch.drew ?_))).app hown hgrow; have hkc : wx.cell? ⟨g, 2, none⟩ = some (.slice none 0 0) := (Touch.cell hf.t hg1 (fun e => e)).trans hc1; have hgx : g < wx.heap.size := Nat.lt_of_lt_of_le hg1 (Touch.size hf.t); have hfz : wx.frozen? ⟨g, 2, none⟩ = false := (Touch.frozen hf.t hg1 (fun e => e)).trans hfz1; (try clear HF); have HF := Lib.hid hf; clear hown hgrow hf) | (refine step_append_none rfl (.tmp 80) (.tmp 86) 67 rfl w1.heap.size 78 i0 1 Try.underlying67 hi (0 + 1) ([] ++ [(.pointer (some ⟨w.heap.size, 0, none⟩))]) rfl rfl (Fresh.more HF.out (by repeat (first | with_reducible exact Touch.refl _ _ | with_reducible refine Touch.alloc ?_ _ | with_reducible refine Touch.drewN ?_ _ | with_reducible refine Touch.drew ?_))).1 ?_; have hf := Fresh.more HF.out (by repeat (first | with_reducible exact Touch.refl _ _ | with_reducible refine Touch.alloc ?_ _ | with_reducible refine Touch.drewN ?_ _ | with_reducible refine Touch.drew ?_)); clear HF; have HF := Lib.hid hf; clear hf)))
            all_goals
              go_wp2
              go_ret
              obtain ⟨h1, h2, h3⟩ := HTD.out w1 wx _ HRT.out HT1.out hs1 (by have hf := HF.out; exact ⟨row_as hf.1 (by omega) (by simp; exact List.eq_nil_of_length_eq_zero (by rw [pvc_length, rm_length, HL.out])), hf.2⟩)
              exact ⟨_, _, rfl, h1, h2, h3⟩
        · have z1 : (0 : Int) ≤ (k : Int) := by omega
          have z2 : (k : Int) ≤ (cap : Int) := by omega
          by_cases hcap : cap = k
          · obtain rfl : k = cap := hcap.symm
            go_wp2
            go_region
            all_goals
              go_wp2_with fail
              refine (rtnew_any m _).mono ?_
              rintro e w1 ⟨rfl, hRT, hT1⟩
              have hs1 : w.heap.size < w1.heap.size := by obtain ⟨_, hb, _⟩ := hRT; exact blk_lt hb
              have hT1w : Touch NoB w w1 := Touch.same (by repeat (first | with_reducible exact Touch.refl _ _ | with_reducible refine Touch.drew ?_)) hT1
              have hc1 := (Touch.cell hT1w (p := ⟨g, 2, none⟩) hg (fun e => e)).trans c2
              have hg1 : g < w1.heap.size := by omega
              have hfz1 : w1.frozen? ⟨g, 2, none⟩ = false := (Touch.frozen hT1w (p := ⟨g, 2, none⟩) hg (fun e => e)).trans (free_blk H.out.blk 2)
              have HT1 := Lib.hid hT1w
              have HRT := Lib.hid (show RT w1 (fun b => b = w.heap.size) w.heap.size m [] from hRT)
              clear hT1 hT1w hRT c2
              go_wp2
              go_region_law
                (first | (refine step_append_own rfl (.const (.slice none 0 0)) (.tmp 76) 67 rfl w1.heap.size 78 i0 _ 1 8 Try.underlying67 hi hz0 hz1 hz2 rfl (by decide) (.slice none 0 0) 0 [] rfl (World.ownsRow_nil _ _ _ _) ⟨q, 0, none⟩ k _ ((pvc (rm ts)).take k) rfl (by rw [List.length_take, pvc_length, rm_length, HL.out]; omega) (row_first (row_touch HR.out (Touch.same HT1.out (by repeat (first | with_reducible exact Touch.refl _ _ | with_reducible refine Touch.alloc ?_ _ | with_reducible refine Touch.drewN ?_ _ | with_reducible refine Touch.drew ?_))) (fun _ _ e => e)) (by omega)) (fun u hu => pvc_one _ u (List.mem_of_mem_take hu)) (by unfold maxLen; omega) (by omega) (Touch.size (F := NoB) (by repeat (first | with_reducible exact HF.out.t | with_reducible exact Touch.refl _ _ | with_reducible refine Touch.alloc ?_ _ | with_reducible refine Touch.drewN ?_ _ | with_reducible refine Touch.drew ?_))) ?_; intro v1 wx hown hgrow; (try have hlit : wx.cell? ⟨w1.heap.size, 0, none⟩ = some (.pointer (some ⟨w.heap.size, 0, none⟩)) := (Touch.cell (Touch.grown (Touch.refl NoB _) hgrow (fun k e => by simp [Value.ownBlock] at e)) (p := ⟨w1.heap.size, 0, none⟩) (by simp) (fun e => e)).trans (cell_blk (alloc_blk w1.drew #[(.pointer (some ⟨w.heap.size, 0, none⟩))] 78 rfl) 0)); rw [Nat.zero_add, List.nil_append] at hown; obtain ⟨A1, cp1, rfl, _, _⟩ := row_any hown; have hf : Fresh w1 wx _ k ((pvc (rm ts)).take k) := (Fresh.nil w1 (by repeat (first | with_reducible exact Touch.refl _ _ | with_reducible refine Touch.alloc ?_ _ | with_reducible refine Touch.drewN ?_ _ | with_reducible refine Touch.drew ?_))).app hown hgrow; have hkc : wx.cell? ⟨g, 2, none⟩ = some (.slice (some ⟨q, 0, none⟩) k k) := (Touch.cell hf.t hg1 (fun e => e)).trans hc1; have hgx : g < wx.heap.size := Nat.lt_of_lt_of_le hg1 (Touch.size hf.t); have hfz : wx.frozen? ⟨g, 2, none⟩ = false := (Touch.frozen hf.t hg1 (fun e => e)).trans hfz1; (try clear HF); have HF := Lib.hid hf; clear hown hgrow hf)
                       | (refine step_append_own rfl (.tmp 77) (.tmp 79) 67 rfl w1.heap.size 78 i0 _ 1 8 Try.underlying67 hi hz0 hz1 hz2 rfl (by decide) _ k ((pvc (rm ts)).take k) rfl (Fresh.more HF.out (by repeat (first | with_reducible exact Touch.refl _ _ | with_reducible refine Touch.alloc ?_ _ | with_reducible refine Touch.drewN ?_ _ | with_reducible refine Touch.drew ?_))).1 ⟨_, 0, none⟩ 1 1 [(.pointer (some ⟨w.heap.size, 0, none⟩))] rfl rfl (by first | exact World.news_of_block (cs := #[(.pointer (some ⟨w.heap.size, 0, none⟩))]) (alloc_blk _ _ _ rfl) | exact news_one hlit) (fun u hu => by simp at hu; subst hu; rfl) (by unfold maxLen; omega) (by omega) (Touch.size (F := NoB) (by repeat (first | with_reducible exact HF.out.t | with_reducible exact Touch.refl _ _ | with_reducible refine Touch.alloc ?_ _ | with_reducible refine Touch.drewN ?_ _ | with_reducible refine Touch.drew ?_))) ?_; intro v2 wx hown hgrow; obtain ⟨A2, cp2, rfl, _, _⟩ := row_any hown; have hf : Fresh w1 wx _ (k + 1) (((pvc (rm ts)).take k) ++ [(.pointer (some ⟨w.heap.size, 0, none⟩))]) := (Fresh.more HF.out (by repeat (first | with_reducible exact Touch.refl _ _ | with_reducible refine Touch.alloc ?_ _ | with_reducible refine Touch.drewN ?_ _ | with_reducible refine Touch.drew ?_))).app hown hgrow; have hkc : wx.cell? ⟨g, 2, none⟩ = some (.slice (some ⟨q, 0, none⟩) k k) := (Touch.cell hf.t hg1 (fun e => e)).trans hc1; have hgx : g < wx.heap.size := Nat.lt_of_lt_of_le hg1 (Touch.size hf.t); have hfz : wx.frozen? ⟨g, 2, none⟩ = false := (Touch.frozen hf.t hg1 (fun e => e)).trans hfz1; (try clear HF); have HF := Lib.hid hf; clear hown hgrow hf)
                       | (first | (refine step_append_own rfl (.tmp 80) (.tmp 86) 67 rfl w1.heap.size 78 i0 _ 1 8 Try.underlying67 hi hz0 hz1 hz2 rfl (by decide) _ (k + 1) (((pvc (rm ts)).take k) ++ [(.pointer (some ⟨w.heap.size, 0, none⟩))]) rfl (Fresh.more HF.out (by repeat (first | with_reducible exact Touch.refl _ _ | with_reducible refine Touch.alloc ?_ _ | with_reducible refine Touch.drewN ?_ _ | with_reducible refine Touch.drew ?_))).1 _ 0 _ [] rfl rfl (fun j u hj => by simp at hj) (fun u hu => by simp at hu) (by unfold maxLen; omega) (by omega) (Touch.size (F := NoB) (by repeat (first | with_reducible exact HF.out.t | with_reducible exact Touch.refl _ _ | with_reducible refine Touch.alloc ?_ _ | with_reducible refine Touch.drewN ?_ _ | with_reducible refine Touch.drew ?_))) ?_; intro v3 wx hown hgrow; obtain ⟨A3, cp3, rfl, _, _⟩ := row_any hown; have hf : Fresh w1 wx _ ((k + 1) + 0) ((((pvc (rm ts)).take k) ++ [(.pointer (some ⟨w.heap.size, 0, none⟩))]) ++ []) := (Fresh.more HF.out (by repeat (first | with_reducible exact Touch.refl _ _ | with_reducible refine Touch.alloc ?_ _ | with_reducible refine Touch.drewN ?_ _ | with_reducible refine Touch.drew ?_))).app hown hgrow; have hkc : wx.cell? ⟨g, 2, none⟩ = some (.slice (some ⟨q, 0, none⟩) k k) := (Touch.cell hf.t hg1 (fun e => e)).trans hc1; have hgx : g < wx.heap.size := Nat.lt_of_lt_of_le hg1 (Touch.size hf.t); have hfz : wx.frozen? ⟨g, 2, none⟩ = false := (Touch.frozen hf.t hg1 (fun e => e)).trans hfz1; (try clear HF); have HF := Lib.hid hf; clear hown hgrow hf) | (refine step_append_none rfl (.tmp 80) (.tmp 86) 67 rfl w1.heap.size 78 i0 1 Try.underlying67 hi (k + 1) (((pvc (rm ts)).take k) ++ [(.pointer (some ⟨w.heap.size, 0, none⟩))]) rfl rfl (Fresh.more HF.out (by repeat (first | with_reducible exact Touch.refl _ _ | with_reducible refine Touch.alloc ?_ _ | with_reducible refine Touch.drewN ?_ _ | with_reducible refine Touch.drew ?_))).1 ?_; have hf := Fresh.more HF.out (by repeat (first | with_reducible exact Touch.refl _ _ | with_reducible refine Touch.alloc ?_ _ | with_reducible refine Touch.drewN ?_ _ | with_reducible refine Touch.drew ?_)); clear HF; have HF := Lib.hid hf; clear hf)))
              all_goals
                go_wp2
                go_ret
                obtain ⟨h1, h2, h3⟩ := HTD.out w1 wx _ HRT.out HT1.out hs1 (by have hf := HF.out; exact ⟨row_as hf.1 (by omega) (by simp; rw [pvc_length, rm_length, HL.out]; omega), hf.2⟩)
                exact ⟨_, _, rfl, h1, h2, h3⟩
          · go_wp2
            go_region
            all_goals
              go_wp2_with fail
              refine (rtnew_any m _).mono ?_
              rintro e w1 ⟨rfl, hRT, hT1⟩
              have hs1 : w.heap.size < w1.heap.size := by obtain ⟨_, hb, _⟩ := hRT; exact blk_lt hb
              have hT1w : Touch NoB w w1 := Touch.same (by repeat (first | with_reducible exact Touch.refl _ _ | with_reducible refine Touch.drew ?_)) hT1
              have hc1 := (Touch.cell hT1w (p := ⟨g, 2, none⟩) hg (fun e => e)).trans c2
              have hg1 : g < w1.heap.size := by omega
              have hfz1 : w1.frozen? ⟨g, 2, none⟩ = false := (Touch.frozen hT1w (p := ⟨g, 2, none⟩) hg (fun e => e)).trans (free_blk H.out.blk 2)
              have HT1 := Lib.hid hT1w
              have HRT := Lib.hid (show RT w1 (fun b => b = w.heap.size) w.heap.size m [] from hRT)
              clear hT1 hT1w hRT c2
              go_wp2
              go_region_law
                (first | (refine step_append_own rfl (.const (.slice none 0 0)) (.tmp 76) 67 rfl w1.heap.size 78 i0 _ 1 8 Try.underlying67 hi hz0 hz1 hz2 rfl (by decide) (.slice none 0 0) 0 [] rfl (World.ownsRow_nil _ _ _ _) ⟨q, 0, none⟩ k _ ((pvc (rm ts)).take k) rfl (by rw [List.length_take, pvc_length, rm_length, HL.out]; omega) (row_first (row_touch HR.out (Touch.same HT1.out (by repeat (first | with_reducible exact Touch.refl _ _ | with_reducible refine Touch.alloc ?_ _ | with_reducible refine Touch.drewN ?_ _ | with_reducible refine Touch.drew ?_))) (fun _ _ e => e)) (by omega)) (fun u hu => pvc_one _ u (List.mem_of_mem_take hu)) (by unfold maxLen; omega) (by omega) (Touch.size (F := NoB) (by repeat (first | with_reducible exact HF.out.t | with_reducible exact Touch.refl _ _ | with_reducible refine Touch.alloc ?_ _ | with_reducible refine Touch.drewN ?_ _ | with_reducible refine Touch.drew ?_))) ?_; intro v1 wx hown hgrow; (try have hlit : wx.cell? ⟨w1.heap.size, 0, none⟩ = some (.pointer (some ⟨w.heap.size, 0, none⟩)) := (Touch.cell (Touch.grown (Touch.refl NoB _) hgrow (fun k e => by simp [Value.ownBlock] at e)) (p := ⟨w1.heap.size, 0, none⟩) (by simp) (fun e => e)).trans (cell_blk (alloc_blk w1.drew #[(.pointer (some ⟨w.heap.size, 0, none⟩))] 78 rfl) 0)); rw [Nat.zero_add, List.nil_append] at hown; obtain ⟨A1, cp1, rfl, _, _⟩ := row_any hown; have hf : Fresh w1 wx _ k ((pvc (rm ts)).take k) := (Fresh.nil w1 (by repeat (first | with_reducible exact Touch.refl _ _ | with_reducible refine Touch.alloc ?_ _ | with_reducible refine Touch.drewN ?_ _ | with_reducible refine Touch.drew ?_))).app hown hgrow; have hkc : wx.cell? ⟨g, 2, none⟩ = some (.slice (some ⟨q, 0, none⟩) k cap) := (Touch.cell hf.t hg1 (fun e => e)).trans hc1; have hgx : g < wx.heap.size := Nat.lt_of_lt_of_le hg1 (Touch.size hf.t); have hfz : wx.frozen? ⟨g, 2, none⟩ = false := (Touch.frozen hf.t hg1 (fun e => e)).trans hfz1; (try clear HF); have HF := Lib.hid hf; clear hown hgrow hf)
                       | (refine step_append_own rfl (.tmp 77) (.tmp 79) 67 rfl w1.heap.size 78 i0 _ 1 8 Try.underlying67 hi hz0 hz1 hz2 rfl (by decide) _ k ((pvc (rm ts)).take k) rfl (Fresh.more HF.out (by repeat (first | with_reducible exact Touch.refl _ _ | with_reducible refine Touch.alloc ?_ _ | with_reducible refine Touch.drewN ?_ _ | with_reducible refine Touch.drew ?_))).1 ⟨_, 0, none⟩ 1 1 [(.pointer (some ⟨w.heap.size, 0, none⟩))] rfl rfl (by first | exact World.news_of_block (cs := #[(.pointer (some ⟨w.heap.size, 0, none⟩))]) (alloc_blk _ _ _ rfl) | exact news_one hlit) (fun u hu => by simp at hu; subst hu; rfl) (by unfold maxLen; omega) (by omega) (Touch.size (F := NoB) (by repeat (first | with_reducible exact HF.out.t | with_reducible exact Touch.refl _ _ | with_reducible refine Touch.alloc ?_ _ | with_reducible refine Touch.drewN ?_ _ | with_reducible refine Touch.drew ?_))) ?_; intro v2 wx hown hgrow; obtain ⟨A2, cp2, rfl, _, _⟩ := row_any hown; have hf : Fresh w1 wx _ (k + 1) (((pvc (rm ts)).take k) ++ [(.pointer (some ⟨w.heap.size, 0, none⟩))]) := (Fresh.more HF.out (by repeat (first | with_reducible exact Touch.refl _ _ | with_reducible refine Touch.alloc ?_ _ | with_reducible refine Touch.drewN ?_ _ | with_reducible refine Touch.drew ?_))).app hown hgrow; have hkc : wx.cell? ⟨g, 2, none⟩ = some (.slice (some ⟨q, 0, none⟩) k cap) := (Touch.cell hf.t hg1 (fun e => e)).trans hc1; have hgx : g < wx.heap.size := Nat.lt_of_lt_of_le hg1 (Touch.size hf.t); have hfz : wx.frozen? ⟨g, 2, none⟩ = false := (Touch.frozen hf.t hg1 (fun e => e)).trans hfz1; (try clear HF); have HF := Lib.hid hf; clear hown hgrow hf)
                       | (first | (refine step_append_own rfl (.tmp 80) (.tmp 86) 67 rfl w1.heap.size 78 i0 _ 1 8 Try.underlying67 hi hz0 hz1 hz2 rfl (by decide) _ (k + 1) (((pvc (rm ts)).take k) ++ [(.pointer (some ⟨w.heap.size, 0, none⟩))]) rfl (Fresh.more HF.out (by repeat (first | with_reducible exact Touch.refl _ _ | with_reducible refine Touch.alloc ?_ _ | with_reducible refine Touch.drewN ?_ _ | with_reducible refine Touch.drew ?_))).1 _ 0 _ [] rfl rfl (fun j u hj => by simp at hj) (fun u hu => by simp at hu) (by unfold maxLen; omega) (by omega) (Touch.size (F := NoB) (by repeat (first | with_reducible exact HF.out.t | with_reducible exact Touch.refl _ _ | with_reducible refine Touch.alloc ?_ _ | with_reducible refine Touch.drewN ?_ _ | with_reducible refine Touch.drew ?_))) ?_; intro v3 wx hown hgrow; obtain ⟨A3, cp3, rfl, _, _⟩ := row_any hown; have hf : Fresh w1 wx _ ((k + 1) + 0) ((((pvc (rm ts)).take k) ++ [(.pointer (some ⟨w.heap.size, 0, none⟩))]) ++ []) := (Fresh.more HF.out (by repeat (first | with_reducible exact Touch.refl _ _ | with_reducible refine Touch.alloc ?_ _ | with_reducible refine Touch.drewN ?_ _ | with_reducible refine Touch.drew ?_))).app hown hgrow; have hkc : wx.cell? ⟨g, 2, none⟩ = some (.slice (some ⟨q, 0, none⟩) k cap) := (Touch.cell hf.t hg1 (fun e => e)).trans hc1; have hgx : g < wx.heap.size := Nat.lt_of_lt_of_le hg1 (Touch.size hf.t); have hfz : wx.frozen? ⟨g, 2, none⟩ = false := (Touch.frozen hf.t hg1 (fun e => e)).trans hfz1; (try clear HF); have HF := Lib.hid hf; clear hown hgrow hf) | (refine step_append_none rfl (.tmp 80) (.tmp 86) 67 rfl w1.heap.size 78 i0 1 Try.underlying67 hi (k + 1) (((pvc (rm ts)).take k) ++ [(.pointer (some ⟨w.heap.size, 0, none⟩))]) rfl rfl (Fresh.more HF.out (by repeat (first | with_reducible exact Touch.refl _ _ | with_reducible refine Touch.alloc ?_ _ | with_reducible refine Touch.drewN ?_ _ | with_reducible refine Touch.drew ?_))).1 ?_; have hf := Fresh.more HF.out (by repeat (first | with_reducible exact Touch.refl _ _ | with_reducible refine Touch.alloc ?_ _ | with_reducible refine Touch.drewN ?_ _ | with_reducible refine Touch.drew ?_)); clear HF; have HF := Lib.hid hf; clear hf)))
              all_goals
                go_wp2
                go_ret
                obtain ⟨h1, h2, h3⟩ := HTD.out w1 wx _ HRT.out HT1.out hs1 (by have hf := HF.out; exact ⟨row_as hf.1 (by omega) (by simp; rw [pvc_length, rm_length, HL.out]; omega), hf.2⟩)
                exact ⟨_, _, rfl, h1, h2, h3⟩
end
end Go.Proofs.Yticekldgjlihmaa
