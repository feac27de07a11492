/-
  What package tree's node does with a parser in memory: the nodes that wait for a kid lie in a stack. Conditions: the table of levels can be read; names and numbers among the tokens are such; an end's token lies at or behind the place.
-/
import Derived.Test.YtanecdpcenkoeaaDoorZa4
namespace Go.Proofs.YtanecdpcenkoeaaDoor
open Go.ChangeShapes Go.WideShapes Go.ChangeAt Go.RowKit
set_option maxRecDepth 100000
set_option maxHeartbeats 8000000

theorem info_node' : ∃ i0, Tryd.prog.info? 46 = some i0 ∧ i0.zero = some (.agg #[.int .i64 0, .int .i64 0, .int .i64 0, .string ⟨#[]⟩, .int .i64 0, .int .i64 0, .string ⟨#[]⟩, .slice none 0 0, .slice none 0 0, .slice none 0 0]) ∧ i0.size = 10 ∧ i0.bytes = 144 := by
  have h : (Tryd.prog.info? 46).map (fun i => (i.zero, i.size, i.bytes)) = some (some (.agg #[.int .i64 0, .int .i64 0, .int .i64 0, .string ⟨#[]⟩, .int .i64 0, .int .i64 0, .string ⟨#[]⟩, .slice none 0 0, .slice none 0 0, .slice none 0 0]), 10, 144) := by kernel_rfl
  cases hi : Tryd.prog.info? 46 with
  | none => rw [hi] at h; cases h
  | some i0 =>
    rw [hi] at h
    simp only [Option.map_some, Option.some.injEq, Prod.mk.injEq] at h
    exact ⟨i0, rfl, h.1, h.2.1, h.2.2⟩
/-- What a node's parser leaves. -/
def NodPost (w : World) (gp g n cp : Nat) (ts : List Tk) (nd : Nd) (st : St) (x : Ending) (w' : World) : Prop := ∃ (e0 e1 : Int) (e2 : ByteArray) (A : Option Addr) (m c : Nat) (kA : Option Addr) (km kc : Nat) (wA : Option Addr) (wm wc : Nat) (D : Nat),
  x = .returned (.agg #[.int .i64 (nd.kd : Int), .int .i64 (nd.a : Int), .int .i64 (nd.b : Int), .string (bs nd.nm), .int .i64 e0, .int .i64 e1, .string e2, .slice A m c, .slice kA km kc, .slice wA wm wc]) ∧ NT w' (fun b => w.heap.size ≤ b) D nd [.int .i64 (nd.kd : Int), .int .i64 (nd.a : Int), .int .i64 (nd.b : Int), .string (bs nd.nm), .int .i64 e0, .int .i64 e1, .string e2, .slice A m c, .slice kA km kc, .slice wA wm wc] ∧ PS2 59 w' gp g n cp ts st ∧ Touch (AtB gp) w w'
/-- The code from each label on. -/
noncomputable def nodC : Code := match Tryd.f71.body with
  | some (.seq _ (.scope c)) => c
  | _ => .skip
noncomputable def nodX (l : Nat) : Code := match findLabel nodC l with
  | some (.seq .skip c) => c
  | _ => .skip
theorem nodX0 : findLabel nodC 0 = some (.seq .skip (nodX 0)) := by kernel_rfl
theorem nodX1 : findLabel nodC 1 = some (.seq .skip (nodX 1)) := by kernel_rfl
theorem frame_node {a : Act} (h : a.tmps.toList.length = 71) (hd : a.defers = []) : a = ⟨([slot a 0, slot a 1, slot a 2, slot a 3, slot a 4, slot a 5, slot a 6, slot a 7, slot a 8, slot a 9, slot a 10, slot a 11, slot a 12, slot a 13, slot a 14, slot a 15, slot a 16, slot a 17, slot a 18, slot a 19, slot a 20, slot a 21, slot a 22, slot a 23, slot a 24, slot a 25, slot a 26, slot a 27, slot a 28, slot a 29, slot a 30, slot a 31, slot a 32, slot a 33, slot a 34, slot a 35, slot a 36, slot a 37, slot a 38, slot a 39, slot a 40, slot a 41, slot a 42, slot a 43, slot a 44, slot a 45, slot a 46, slot a 47, slot a 48, slot a 49, slot a 50, slot a 51, slot a 52, slot a 53, slot a 54, slot a 55, slot a 56, slot a 57, slot a 58, slot a 59, slot a 60, slot a 61, slot a 62, slot a 63, slot a 64, slot a 65, slot a 66, slot a 67, slot a 68, slot a 69, slot a 70] : List Value).toArray, []⟩ := by
  obtain ⟨t, d⟩ := a
  subst hd
  have h1 := list_slots t.toList
  rw [h] at h1
  congr 1
  apply Array.toList_inj.1
  rw [h1]
  rfl
/-- The frame. -/
structure NF (w : World) (gp q3 : Nat) (sv : Value) (a : Act) : Prop where
  len : a.tmps.toList.length = 71
  dfr : a.defers = []
  s0 : slot a 0 = .pointer (some ⟨gp, 0, none⟩)
  s2 : slot a 2 = .pointer (some ⟨w.heap.size, 0, none⟩)
  s3 : slot a 3 = sv
  s4 : slot a 4 = .pointer (some ⟨q3, 0, none⟩)
/-- Bounds: what is read so far and the fuel left. -/
structure NBd (f : Nat) (op : List Nd) : Prop where
  ln : op.length + f ≤ 700000
  kd : ∀ p ∈ op, p.kd ≤ 15
  sz : ∀ p ∈ op, p.ks.length + p.ws.length + f ≤ 700000
theorem NBd.down {f f' : Nat} {op : List Nd} (h : NBd f op) (hf : f' ≤ f) : NBd f' op := ⟨by have := h.ln; omega, h.kd, fun p hp => by have := h.sz p hp; omega⟩
/-- What holds at each label, with fuel f. -/
def NJ (w : World) (gp g n cp q3 L : Nat) (ts : List Tk) (R0 : Nd × St) (f : Nat) (l : Nat) (a : Act) (wr : World) : Prop :=
  (l = 0 ∧ ∃ φ op sv cs σ v0 v1 v2 v3 v4 v5 v6 v7 v8 v9, NF w gp q3 sv a ∧ NS w wr gp q3 φ op sv cs ∧ NB wr q3 v0 v1 v2 v3 v4 v5 v6 v7 v8 v9 ∧ PS2 59 wr gp g n cp ts σ ∧ nodR ts f op none σ = R0 ∧ FuB f L op.length σ ∧ σ.1 ≤ L ∧ NBd f op) ∨
  (l = 1 ∧ ∃ φ op sv cs σ nd e0 e1 e2 A m c kv wv D xs ys, NF w gp q3 sv a ∧ NC w wr gp q3 φ op sv cs nd e0 e1 e2 A m c kv wv D xs ys ∧ PS2 59 wr gp g n cp ts σ ∧ nodR ts f op (some nd) σ = R0 ∧ FuN f L op.length σ ∧ σ.1 ≤ L ∧ NBd f op ∧ nd.kd ≤ 15 ∧ nd.ks.length + nd.ws.length + f ≤ 700000)
/-- What the way out wants. -/
def OnRetN (w : World) (gp g n cp : Nat) (ts : List Tk) (R0 : Nd × St) (Q : Exit → Act → World → Prop) : Prop :=
  ∀ (a : Act) (W : World) (v0 v1 v2 v3 v4 v5 v6 v7 v8 v9 : Value), a.defers = [] → a.tmps[2]? = some (.pointer (some ⟨w.heap.size, 0, none⟩)) → NB W w.heap.size v0 v1 v2 v3 v4 v5 v6 v7 v8 v9 → NodPost w gp g n cp ts R0.1 R0.2 (.returned (.agg #[v0, v1, v2, v3, v4, v5, v6, v7, v8, v9])) W → Q .ret a W
theorem NC.fin {w wr : World} {gp q3 : Nat} {φ : Nat → Nat} {sv : Value} {cs : List Value} {n : Nd} {e0 e1 : Int} {e2 : ByteArray} {A : Option Addr} {m c : Nat} {kv wv : Value} {D : Nat} {xs ys : List Value} (h : NC w wr gp q3 φ [] sv cs n e0 e1 e2 A m c kv wv D xs ys) : NT wr (fun b => w.heap.size < b) (D + 1) n (onL n e0 e1 e2 A m c kv wv) := by
  have h1 := h.on.done (ψ := fun b => if φ b = 0 then 0 else 1) (fun b hb => if_neg (by omega))
  refine NT.via (fun b hb _ => ?_) _ _ _ h1
  have e : (if φ b = 0 then 0 else 1) = 1 := hb
  split at e
  · cases e
  · rename_i z; exact (h.ns.hφ b z).1
theorem nt_zero (w : World) (Q : Nat → Prop) : NT w Q 1 nd0 [.int .i64 0, .int .i64 0, .int .i64 0, .string ⟨#[]⟩, .int .i64 0, .int .i64 0, .string ⟨#[]⟩, .slice none 0 0, .slice none 0 0, .slice none 0 0] :=
  ⟨0, 0, ⟨#[]⟩, none, 0, 0, .slice none 0 0, .slice none 0 0, [], [], rfl, ⟨rfl, rfl, rfl, rfl, rfl, rfl⟩, ⟨none, 0, rfl, fun j x hj => by cases hj⟩, .nil, ⟨none, 0, rfl, fun j x hj => by cases hj⟩, .nil⟩
theorem node_ret {w : World} {gp g n cp : Nat} {ts : List Tk} {R0 : Nd × St} : OnRetN w gp g n cp ts R0 (bodyPost Tryd.prog Tryd.f71 (NodPost w gp g n cp ts R0.1 R0.2)) := by
  intro a W v0 v1 v2 v3 v4 v5 v6 v7 v8 v9 hd h2 hb hP
  obtain ⟨z0, z1, z2, z3, z4, z5, z6, z7, z8, z9, zl⟩ := hb.cells
  exact bodyPost_ret (v := .agg #[v0, v1, v2, v3, v4, v5, v6, v7, v8, v9]) (by simp [results, Tryd.results71, go_sem, h2, z0, z1, z2, z3, z4, z5, z6, z7, z8, z9]) hd hP
theorem node_behind {w wr : World} {gp g n cp q3 B L f M : Nat} {ts : List Tk} {R0 : Nd × St} {σ : St} {φ : Nat → Nat} {op : List Nd} {sv : Value} {cs : List Value} {nd : Nd} {e0 e1 : Int} {e2 : ByteArray} {A : Option Addr} {m c : Nat} {kv wv : Value} {D : Nat} {xs ys : List Value} {u1 u5 u6 u7 u8 u9 u10 u11 u12 u13 u14 u15 u16 u17 u18 u19 u20 u21 u22 u23 u24 u25 u26 u27 u28 u29 u30 u31 u32 u33 u34 u35 u36 u37 u38 u39 u40 u41 u42 u43 u44 u45 u46 u47 u48 u49 u50 u51 u52 u53 u54 u55 u56 u57 u58 u59 u60 u61 u62 u63 u64 u65 u66 u67 u68 u69 u70 : Value} (hok : NamesOk ts) (hnk : NumsOk ts) (hv : LV w B) (hB : B ≤ gp) (hE : EnT ts L) (hgp : gp < w.heap.size) (hgl : g < w.heap.size) (hq : w.heap.size < q3) (hM : f ≤ M)
    (hN : NC w wr gp q3 φ op sv cs nd e0 e1 e2 A m c kv wv D xs ys) (hp : PS2 59 wr gp g n cp ts σ) (md : nodR ts f op (some nd) σ = R0) (fu : FuN f L op.length σ) (hL : σ.1 ≤ L) (hbd : NBd f op) (hkd : nd.kd ≤ 15) (hsz : nd.ks.length + nd.ws.length + f ≤ 700000) :
    (nodX 1).wp Tryd.prog (hop (fun l a w' => ∃ n', n' < M ∧ NJ w gp g n cp q3 L ts R0 n' l a w') (bodyPost Tryd.prog Tryd.f71 (NodPost w gp g n cp ts R0.1 R0.2))) ⟨#[.pointer (some ⟨gp, 0, none⟩), u1, .pointer (some ⟨w.heap.size, 0, none⟩), sv, .pointer (some ⟨q3, 0, none⟩), u5, u6, u7, u8, u9, u10, u11, u12, u13, u14, u15, u16, u17, u18, u19, u20, u21, u22, u23, u24, u25, u26, u27, u28, u29, u30, u31, u32, u33, u34, u35, u36, u37, u38, u39, u40, u41, u42, u43, u44, u45, u46, u47, u48, u49, u50, u51, u52, u53, u54, u55, u56, u57, u58, u59, u60, u61, u62, u63, u64, u65, u66, u67, u68, u69, u70], []⟩ wr := by
  have hrd := nod_behind hE hL md fu
  obtain ⟨svA, svc, rfl, hsv1, hsv2⟩ := row_any hN.ns.rs
  unfold maxLen at hsv2
  have c2 : wr.cell? ⟨gp, 2, none⟩ = some (.int .i64 (σ.2 : Int)) := cell_blk hp.blk 2
  simp only [nodX, nodC, Tryd.f71, findLabel, Nat.reduceBEq, Bool.false_eq_true, if_true, if_false]
  have HN := Lib.hid hN
  have HP := Lib.hid hp
  have HQ := Lib.hid (node_ret (w := w) (gp := gp) (g := g) (n := n) (cp := cp) (ts := ts) (R0 := R0))
  have HBD := Lib.hid hbd
  have HSZ := Lib.hid (And.intro hkd hsz)
  by_cases he : σ.2 = 0
  · have hee : ((σ.2 : Int) != 0) = false := by simp [he]
    have HC := Lib.hid (another_all hok hnk hv hB hN hp hgp hgl hq hkd (by omega))
    have hr2 := hrd.2.1 he
    have hr3 := hrd.2.2.1 he
    have hr4 := hrd.2.2.2 he
    obtain ⟨bb, hbb⟩ : ∃ bb, anoV ts nd σ = bb := ⟨_, rfl⟩
    rw [hbb] at HC hr2 hr3 hr4
    obtain ⟨nd2, hnd2⟩ : ∃ z, anoN ts nd σ = z := ⟨_, rfl⟩
    obtain ⟨st, hst⟩ : ∃ z, anoS ts nd σ = z := ⟨_, rfl⟩
    have hnd3 : nd2.kd ≤ 15 ∧ nd2.ks.length = nd.ks.length ∧ nd2.ws.length ≤ nd.ws.length + 1 := by
      rw [← hnd2]
      unfold anoN
      repeat' split
      all_goals first
        | exact ⟨hkd, rfl, by omega⟩
        | exact ⟨by rw [Nd.wadd_kd]; exact hkd, by rw [Nd.wadd_ks], by rw [Nd.wadd_ws, List.length_append]; exact Nat.le_refl _⟩
    rw [hnd2, hst] at HC hr2 hr3 hr4
    have HR2 := Lib.hid hr2
    have HR3 := Lib.hid hr3
    have HR4 := Lib.hid hr4
    have HK := Lib.hid hnd3
    clear hrd hr2 hr3 hr4 hbb hnd2 hst hnd3 hN hp md fu hL hbd hok hnk hv hB hE hkd hsz
    go_wp2_with fail
    refine HC.out.mono ?_
    rintro x V ⟨rfl, ψ, wv', ys', hN2, hp2⟩
    have HN := Lib.hid hN2
    have HP := Lib.hid hp2
    clear hN2 hp2 c2
    obtain ⟨kA, kc, rfl, hk1, hk2⟩ := row_any HN.out.on.rk
    obtain ⟨wA, wc, rfl, hw1, hw2⟩ := row_any HN.out.on.rw_
    cases bb
    · by_cases hop : op = []
      · subst hop
        have hR := HR3.out rfl rfl
        obtain ⟨i0, i1, i2, i3, i4, i5, i6, i7, i8, i9, il⟩ := HN.out.nb.cells
        obtain ⟨z0, z1, z2, z3, z4, z5, z6, z7, z8, z9, zl⟩ := HN.out.ns.b2.cells
        obtain ⟨f0, f1, f2, f3, f4, f5, f6, f7, f8, f9⟩ := HN.out.ns.b2.free
        obtain ⟨Y, hY⟩ : ∃ Y, setL V w.heap.size 0 [.int .i64 (nd2.kd : Int), .int .i64 (nd2.a : Int), .int .i64 (nd2.b : Int), .string (bs nd2.nm), .int .i64 e0, .int .i64 e1, .string e2, .slice A m c, .slice kA nd2.ks.length kc, .slice wA nd2.ws.length wc] = Y := ⟨_, rfl⟩
        have tY : Touch (fun b => b = w.heap.size) V Y := by rw [← hY]; exact setL_touch _ _ _
        have bY : NB Y w.heap.size (.int .i64 (nd2.kd : Int)) (.int .i64 (nd2.a : Int)) (.int .i64 (nd2.b : Int)) (.string (bs nd2.nm)) (.int .i64 e0) (.int .i64 e1) (.string e2) (.slice A m c) (.slice kA nd2.ks.length kc) (.slice wA nd2.ws.length wc) := by rw [← hY]; exact HN.out.ns.b2.setL _ _ _ _ _ _ _ _ _ _
        have HG : Hid (NodPost w gp g n cp ts R0.1 R0.2 (.returned (.agg #[.int .i64 (nd2.kd : Int), .int .i64 (nd2.a : Int), .int .i64 (nd2.b : Int), .string (bs nd2.nm), .int .i64 e0, .int .i64 e1, .string e2, .slice A m c, .slice kA nd2.ks.length kc, .slice wA nd2.ws.length wc])) Y) := Lib.hid (by
          rw [hR]
          exact ⟨e0, e1, e2, A, m, c, kA, nd2.ks.length, kc, wA, nd2.ws.length, wc, _, rfl, NT.via (fun b hb _ => Nat.le_of_lt hb) _ _ _ (NT.touch tY (fun b hb e => by omega) _ _ _ HN.out.fin), HP.out.touchX tY hgp hgl, HN.out.ns.t.trans tY (fun b hb => .inr (by omega))⟩)
        have HBY := Lib.hid bY
        clear tY bY hR
        simp only [setL] at hY
        go_wp2
        exact HQ.out _ _ _ _ _ _ _ _ _ _ _ _ rfl rfl HBY.out HG.out
      · have hop1 : ((op.length : Int) == 0) = false := by
          have := List.length_pos_iff.2 hop
          simp; omega
        obtain ⟨p, r, rfl⟩ := List.exists_cons_of_ne_nil hop
        obtain ⟨f', hf', md', fu', hL'⟩ := HR4.out rfl p r rfl
        obtain ⟨cs0, lp, rfl, hst, hon⟩ := HN.out.ns.st
        obtain ⟨f0, f1, f2, A', m', c', kvp, wvp, D', xsp, ysp, rfl, hop3⟩ := hon
        obtain ⟨pA, pc, rfl, hpk1, hpk2⟩ := row_any hop3.rk
        obtain ⟨pW, pwc, rfl, hpw1, hpw2⟩ := row_any hop3.rw_
        obtain ⟨gs, svc', hsve, -, -, -⟩ := row_form HN.out.ns.rs (by simp)
        injection hsve with e1 e2' e3'
        subst e1 e3'
        have HHS := Lib.hid (And.intro hst hop3)
        have HMD := Lib.hid (And.intro md' (And.intro fu' hL'))
        clear md' fu' hL' hst hop3 hop
        simp only [List.length_cons] at *
        have hcl : cs0.length = r.length * 10 := HHS.out.1.len
        have hri : (r.length : Int) < (r.length : Int) + 1 := by omega
        have hki : (p.ks.length : Int) < (p.ks.length : Int) + 1 := by omega
        have hrc : r.length ≤ svc := by omega
        obtain ⟨i0, i1, i2, i3, i4, i5, i6, i7, i8, i9, il⟩ := HN.out.nb.cells
        go_wp2_with fail
        go_region_law? fail
        · skip
          obtain ⟨UF, hUF⟩ : ∃ U, (V.alloc (.cells #[.bool false] 4)).drew = U := ⟨_, rfl⟩
          have tUF : Touch NoB V UF := by rw [← hUF]; exact ((Touch.refl NoB V).alloc _).drew
          have HUF := Lib.hid (And.intro tUF (HN.out.go (Touch.anyB tUF) hgp hq))
          clear tUF
          have hN := HUF.out.2
          have tU := HUF.out.1
          have hop4 := HHS.out.2.touch tU (fun b hb => hb.elim)
          have hrs : UF.ownsRow w.heap.size 46 10 (.slice (some ⟨gs, 0, none⟩) (r.length + 1) svc) (r.length + 1) (cs0 ++ [.int .i64 (p.kd : Int), .int .i64 (p.a : Int), .int .i64 (p.b : Int), .string (bs p.nm), .int .i64 f0, .int .i64 f1, .string f2, .slice A' m' c', .slice pA p.ks.length pc, .slice pW p.ws.length pwc]) := hN.ns.rs
          obtain ⟨⟨t0, t1, t2, t3, t4, t5, t6, t7, t8, t9⟩, -⟩ := row_top10 hcl hrs
          obtain ⟨i0, i1, i2, i3, i4, i5, i6, i7, i8, i9, il⟩ := hN.nb.cells
          obtain ⟨i0', hi, hz0, hz1', hz2'⟩ := info_node'
          have hpsz := HBD.out.sz p (List.mem_cons_self ..)
          have HU := Lib.hid (And.intro tU (And.intro hop4 hN))
          have hUs := tU.size
          have hUw := hN.ns.t.size
          clear tU hop4 hrs hN
          have hcz : ((UF.alloc (.cells #[.int .i64 (nd2.kd : Int), .int .i64 (nd2.a : Int), .int .i64 (nd2.b : Int), .string (bs nd2.nm), .int .i64 e0, .int .i64 e1, .string e2, .slice A m c, .slice kA nd2.ks.length kc, .slice wA nd2.ws.length wc] 46)).drew).cell? ⟨gs, r.length * 10 + 8, none⟩ = some (.slice pA p.ks.length pc) := ((Touch.refl NoB UF).alloc _).drew.cell (p := ⟨gs, r.length * 10 + 8, none⟩) (by have := (HU.out.2.2.ns.rs.lt gs rfl).2; exact this) (fun z => z) |>.trans t8
          have hcd : UF.drew.cell? ⟨gs, r.length * 10 + 8, none⟩ = some (.slice pA p.ks.length pc) := t8
          have ⟨di0, di1, di2, di3, di4, di5, di6, di7, di8, di9⟩ : UF.drew.cell? ⟨q3, 0, none⟩ = some (.int .i64 (nd2.kd : Int)) ∧ UF.drew.cell? ⟨q3, 1, none⟩ = some (.int .i64 (nd2.a : Int)) ∧ UF.drew.cell? ⟨q3, 2, none⟩ = some (.int .i64 (nd2.b : Int)) ∧ UF.drew.cell? ⟨q3, 3, none⟩ = some (.string (bs nd2.nm)) ∧ UF.drew.cell? ⟨q3, 4, none⟩ = some (.int .i64 e0) ∧ UF.drew.cell? ⟨q3, 5, none⟩ = some (.int .i64 e1) ∧ UF.drew.cell? ⟨q3, 6, none⟩ = some (.string e2) ∧ UF.drew.cell? ⟨q3, 7, none⟩ = some (.slice A m c) ∧ UF.drew.cell? ⟨q3, 8, none⟩ = some (.slice kA nd2.ks.length kc) ∧ UF.drew.cell? ⟨q3, 9, none⟩ = some (.slice wA nd2.ws.length wc) := ⟨i0, i1, i2, i3, i4, i5, i6, i7, i8, i9⟩
          go_wp2_with fail
          go_region_law? (first
            | (refine step_append_lies _ rfl (.tmp 58) (.tmp 60) 44 rfl w.heap.size 46 i0' (.agg #[.int .i64 0, .int .i64 0, .int .i64 0, .string ⟨#[]⟩, .int .i64 0, .int .i64 0, .string ⟨#[]⟩, .slice none 0 0, .slice none 0 0, .slice none 0 0]) 10 144 Tryd.underlying44 hi hz0 hz1' hz2' rfl (by decide) (.slice pA p.ks.length pc) p.ks.length xsp (by simp [Act.eval]) (by exact (HU.out.2.1.rk.alloc _).drew) ⟨UF.heap.size, 0, none⟩ 1 1 [.int .i64 (nd2.kd : Int), .int .i64 (nd2.a : Int), .int .i64 (nd2.b : Int), .string (bs nd2.nm), .int .i64 e0, .int .i64 e1, .string e2, .slice A m c, .slice kA nd2.ks.length kc, .slice wA nd2.ws.length wc] (by simp [Act.eval]) rfl (by exact World.news_of_block (cs := #[.int .i64 (nd2.kd : Int), .int .i64 (nd2.a : Int), .int .i64 (nd2.b : Int), .string (bs nd2.nm), .int .i64 e0, .int .i64 e1, .string e2, .slice A m c, .slice kA nd2.ks.length kc, .slice wA nd2.ws.length wc]) (show (UF.alloc (.cells #[.int .i64 (nd2.kd : Int), .int .i64 (nd2.a : Int), .int .i64 (nd2.b : Int), .string (bs nd2.nm), .int .i64 e0, .int .i64 e1, .string e2, .slice A m c, .slice kA nd2.ks.length kc, .slice wA nd2.ws.length wc] 46)).drew.heap[UF.heap.size]? = _ from alloc_blk UF _ 46 rfl)) (by intro u hu; simp at hu; rcases hu with rfl | rfl | rfl | rfl | rfl | rfl | rfl | rfl | rfl | rfl <;> rfl) (by decide) (by unfold maxLen; omega) (by omega) (by simp only [World.size_alloc, World.size_drew]; omega) (UF.heap.size + 1) (by simp) ?_
               intro gk capk wx hown hgrow hat hlt
               have TR : Touch (fun b => (Value.slice pA p.ks.length pc).ownBlock = some b) UF wx := ((Touch.refl _ UF).alloc _).drew.grown hgrow (fun _ e => .inl e)
               obtain ⟨⟨w8, fz8⟩, k1, k2, k3, hat2, hmid⟩ := pop_mid HN.out HHS.out.1 HHS.out.2 HU.out.1 TR hown (hat.imp (fun e => e) (fun e => by omega))
               obtain ⟨U, hU⟩ : ∃ U, wx.setCell ⟨gs, r.length * 10 + 8, none⟩ (.slice (some ⟨gk, 0, none⟩) (p.ks.length + 1) capk) = U := ⟨_, rfl⟩
               have HX := Lib.hid (hmid U hU)
               have HK3 := Lib.hid (And.intro hat2 (And.intro k2 k3))
               clear hown hgrow hat TR hmid hat2))
          all_goals
            skip
            have hst17 := row_top10 hcl (show U.drew.ownsRow w.heap.size 46 10 (.slice (some ⟨gs, 0, none⟩) (r.length + 1) svc) (r.length + 1) (cs0 ++ [.int .i64 (p.kd : Int), .int .i64 (p.a : Int), .int .i64 (p.b : Int), .string (bs p.nm), .int .i64 f0, .int .i64 f1, .string f2, .slice A' m' c', .slice (some ⟨gk, 0, none⟩) (p.ks.length + 1) capk, .slice pW p.ws.length pwc]) from HX.out.2.1)
            obtain ⟨⟨s0, s1, s2, s3, s4, s5, s6, s7, s8, s9⟩, -⟩ := hst17
            have hnb17 : NB U.drew q3 (.int .i64 (nd2.kd : Int)) (.int .i64 (nd2.a : Int)) (.int .i64 (nd2.b : Int)) (.string (bs nd2.nm)) (.int .i64 e0) (.int .i64 e1) (.string e2) (.slice A m c) (.slice kA nd2.ks.length kc) (.slice wA nd2.ws.length wc) := HX.out.2.2.2
            obtain ⟨n0, n1, n2, n3, n4, n5, n6, n7, n8, n9, nl⟩ := hnb17.cells
            obtain ⟨y0, y1, y2, y3, y4, y5, y6, y7, y8, y9⟩ := hnb17.free
            have hnb18 : NB U q3 (.int .i64 (nd2.kd : Int)) (.int .i64 (nd2.a : Int)) (.int .i64 (nd2.b : Int)) (.string (bs nd2.nm)) (.int .i64 e0) (.int .i64 e1) (.string e2) (.slice A m c) (.slice kA nd2.ks.length kc) (.slice wA nd2.ws.length wc) := HX.out.2.2.2
            obtain ⟨o0, o1, o2, o3, o4, o5, o6, o7, o8, o9, ol⟩ := hnb18.cells
            obtain ⟨x0, x1, x2, x3, x4, x5, x6, x7, x8, x9⟩ := hnb18.free
            clear hnb18
            obtain ⟨⟨χ, E, hNC⟩, hPS⟩ := pop_fin HN.out HHS.out.1 HHS.out.2 HP.out hgp hgl hq HK3.out.1 HK3.out.2.1 HK3.out.2.2 HX.out.1 HX.out.2.1 HX.out.2.2.1 HX.out.2.2.2
            obtain ⟨Y0, hY⟩ : ∃ Y, setL U q3 0 [.int .i64 (p.kd : Int), .int .i64 (p.a : Int), .int .i64 (p.b : Int), .string (bs p.nm), .int .i64 f0, .int .i64 f1, .string f2, .slice A' m' c', .slice (some ⟨gk, 0, none⟩) (p.ks.length + 1) capk, .slice pW p.ws.length pwc] = Y := ⟨_, rfl⟩
            rw [hY] at hNC hPS
            have HY := Lib.hid (And.intro hNC hPS)
            clear hNC hPS hnb17
            simp only [setL] at hY
            go_wp2_with fail
            go_region_law? fail
            all_goals
              go_wp2
              go_step3
              refine ⟨f', by omega, .inr ⟨rfl, χ, r, .slice (some ⟨gs, 0, none⟩) r.length svc, cs0, st, p.add nd2, f0, f1, f2, A', m', c', .slice (some ⟨gk, 0, none⟩) (p.ks.length + 1) capk, .slice pW p.ws.length pwc, E, _, _, ⟨rfl, rfl, rfl, rfl, rfl, rfl⟩, HY.out.1, HY.out.2, HMD.out.1, HMD.out.2.1, HMD.out.2.2, ⟨?_, fun x hx => ?_, fun x hx => ?_⟩, ?_, ?_⟩⟩
              · have := HBD.out.ln; simp only [List.length_cons] at this; omega
              · exact HBD.out.kd x (List.mem_cons_of_mem _ hx)
              · have := HBD.out.sz x (List.mem_cons_of_mem _ hx); omega
              · rw [Nd.add_kd]; exact HBD.out.kd p (List.mem_cons_self ..)
              · have := HBD.out.sz p (List.mem_cons_self ..)
                rw [Nd.add_ks, Nd.add_ws, List.length_append, List.length_singleton]
                omega
        · skip
          obtain ⟨UT, hUT⟩ : ∃ U, (V.alloc (.cells #[.bool true] 4)).drew = U := ⟨_, rfl⟩
          have tUT : Touch NoB V UT := by rw [← hUT]; exact ((Touch.refl NoB V).alloc _).drew
          have HUT := Lib.hid (And.intro tUT (HN.out.go (Touch.anyB tUT) hgp hq))
          clear tUT
          have hN := HUT.out.2
          have tU := HUT.out.1
          have hop4 := HHS.out.2.touch tU (fun b hb => hb.elim)
          have hrs : UT.ownsRow w.heap.size 46 10 (.slice (some ⟨gs, 0, none⟩) (r.length + 1) svc) (r.length + 1) (cs0 ++ [.int .i64 (p.kd : Int), .int .i64 (p.a : Int), .int .i64 (p.b : Int), .string (bs p.nm), .int .i64 f0, .int .i64 f1, .string f2, .slice A' m' c', .slice pA p.ks.length pc, .slice pW p.ws.length pwc]) := hN.ns.rs
          obtain ⟨⟨t0, t1, t2, t3, t4, t5, t6, t7, t8, t9⟩, -⟩ := row_top10 hcl hrs
          obtain ⟨i0, i1, i2, i3, i4, i5, i6, i7, i8, i9, il⟩ := hN.nb.cells
          obtain ⟨i0', hi, hz0, hz1', hz2'⟩ := info_node'
          have hpsz := HBD.out.sz p (List.mem_cons_self ..)
          have HU := Lib.hid (And.intro tU (And.intro hop4 hN))
          have hUs := tU.size
          have hUw := hN.ns.t.size
          clear tU hop4 hrs hN
          go_wp2_with (at_builtin; refine wpList_append_lies _ rfl (.tmp 44) (.tmp 46) 44 rfl w.heap.size 46 i0' (.agg #[.int .i64 0, .int .i64 0, .int .i64 0, .string ⟨#[]⟩, .int .i64 0, .int .i64 0, .string ⟨#[]⟩, .slice none 0 0, .slice none 0 0, .slice none 0 0]) 10 144 Tryd.underlying44 hi hz0 hz1' hz2' rfl (by decide) (.slice pA p.ks.length pc) p.ks.length xsp rfl ?c0 ⟨UT.heap.size, 0, none⟩ 1 1 [.int .i64 0, .int .i64 0, .int .i64 0, .string ⟨#[]⟩, .int .i64 0, .int .i64 0, .string ⟨#[]⟩, .slice none 0 0, .slice none 0 0, .slice none 0 0] rfl rfl ?c1 ?c2 (by decide) ?c3 ?c4 ?c5 (UT.heap.size + 1) ?c6 ?go)
          case c0 => exact HU.out.2.1.rk.alloc _
          case c1 => exact World.news_of_block (cs := #[.int .i64 0, .int .i64 0, .int .i64 0, .string ⟨#[]⟩, .int .i64 0, .int .i64 0, .string ⟨#[]⟩, .slice none 0 0, .slice none 0 0, .slice none 0 0]) (alloc_blk UT _ 46 rfl)
          case c2 => intro u hu; simp at hu; rcases hu with rfl | rfl | rfl | rfl | rfl | rfl | rfl | rfl | rfl | rfl <;> rfl
          case c3 => unfold maxLen; omega
          case c4 => omega
          case c5 => simp only [World.size_alloc]; omega
          case c6 => simp only [World.size_alloc]
          case go =>
            intro gk capk wx hown hgrow hat hlt
            have TR : Touch (fun b => (Value.slice pA p.ks.length pc).ownBlock = some b) UT wx := ((Touch.refl _ UT).alloc _).grown hgrow (fun _ e => .inl e)
            obtain ⟨⟨w8, fz8⟩, k1, k2, k3, hat2, hmid⟩ := pop_mid HN.out HHS.out.1 HHS.out.2 HU.out.1 TR hown (hat.imp (fun e => e) (fun e => by omega))
            obtain ⟨U1, hU1⟩ : ∃ U, wx.setCell ⟨gs, r.length * 10 + 8, none⟩ (.slice (some ⟨gk, 0, none⟩) (p.ks.length + 1) capk) = U := ⟨_, rfl⟩
            obtain ⟨hk1', hs1', ht1', hb1'⟩ := hmid U1 hU1
            have hkl : xsp.length = p.ks.length * 10 := HU.out.2.1.rk.1
            obtain ⟨⟨g0, g1, g2, g3, g4, g5, g6, g7, g8, g9⟩, ⟨h0, h1, h2, h3, h4, h5, h6, h7, h8, h9⟩⟩ := row_top10 hkl hk1'
            obtain ⟨j0, j1, j2, j3, j4, j5, j6, j7, j8, j9, jl⟩ := hb1'.cells
            obtain ⟨U, hU⟩ : ∃ U, setL U1 gk (p.ks.length * 10) [.int .i64 (nd2.kd : Int), .int .i64 (nd2.a : Int), .int .i64 (nd2.b : Int), .string (bs nd2.nm), .int .i64 e0, .int .i64 e1, .string e2, .slice A m c, .slice kA nd2.ks.length kc, .slice wA nd2.ws.length wc] = U := ⟨_, rfl⟩
            have tL : Touch (fun b => b = gk) U1 U := by rw [← hU]; exact setL_touch _ _ _
            have hkU := row_setL [.int .i64 (nd2.kd : Int), .int .i64 (nd2.a : Int), .int .i64 (nd2.b : Int), .string (bs nd2.nm), .int .i64 e0, .int .i64 e1, .string e2, .slice A m c, .slice kA nd2.ks.length kc, .slice wA nd2.ws.length wc] [.int .i64 0, .int .i64 0, .int .i64 0, .string ⟨#[]⟩, .int .i64 0, .int .i64 0, .string ⟨#[]⟩, .slice none 0 0, .slice none 0 0, .slice none 0 0] xsp U1 rfl hk1'
            rw [hkl, hU] at hkU
            have HX := Lib.hid (And.intro hkU (And.intro (row_touch hs1' tL (fun k hk e => k1 (by
              have e1 : gs = k := by simpa [Value.ownBlock] using hk
              exact (e1.trans e).symm))) (And.intro (pop_tl ht1' tL hat2) (hb1'.touch tL (fun e => k2 e.symm)))))
            have HK3 := Lib.hid (And.intro hat2 (And.intro k2 k3))
            clear hown hgrow hat TR hmid hat2 hk1' hs1' ht1' hb1' tL hkU
            simp only [setL, Nat.add_assoc, Nat.reduceAdd] at hU
            go_wp2_with fail
            have hst17 := row_top10 hcl (show U.drew.ownsRow w.heap.size 46 10 (.slice (some ⟨gs, 0, none⟩) (r.length + 1) svc) (r.length + 1) (cs0 ++ [.int .i64 (p.kd : Int), .int .i64 (p.a : Int), .int .i64 (p.b : Int), .string (bs p.nm), .int .i64 f0, .int .i64 f1, .string f2, .slice A' m' c', .slice (some ⟨gk, 0, none⟩) (p.ks.length + 1) capk, .slice pW p.ws.length pwc]) from HX.out.2.1)
            obtain ⟨⟨s0, s1, s2, s3, s4, s5, s6, s7, s8, s9⟩, -⟩ := hst17
            have hnb17 : NB U.drew q3 (.int .i64 (nd2.kd : Int)) (.int .i64 (nd2.a : Int)) (.int .i64 (nd2.b : Int)) (.string (bs nd2.nm)) (.int .i64 e0) (.int .i64 e1) (.string e2) (.slice A m c) (.slice kA nd2.ks.length kc) (.slice wA nd2.ws.length wc) := HX.out.2.2.2
            obtain ⟨n0, n1, n2, n3, n4, n5, n6, n7, n8, n9, nl⟩ := hnb17.cells
            obtain ⟨y0, y1, y2, y3, y4, y5, y6, y7, y8, y9⟩ := hnb17.free
            have hnb18 : NB U q3 (.int .i64 (nd2.kd : Int)) (.int .i64 (nd2.a : Int)) (.int .i64 (nd2.b : Int)) (.string (bs nd2.nm)) (.int .i64 e0) (.int .i64 e1) (.string e2) (.slice A m c) (.slice kA nd2.ks.length kc) (.slice wA nd2.ws.length wc) := HX.out.2.2.2
            obtain ⟨o0, o1, o2, o3, o4, o5, o6, o7, o8, o9, ol⟩ := hnb18.cells
            obtain ⟨x0, x1, x2, x3, x4, x5, x6, x7, x8, x9⟩ := hnb18.free
            clear hnb18
            obtain ⟨⟨χ, E, hNC⟩, hPS⟩ := pop_fin HN.out HHS.out.1 HHS.out.2 HP.out hgp hgl hq HK3.out.1 HK3.out.2.1 HK3.out.2.2 HX.out.1 HX.out.2.1 HX.out.2.2.1 HX.out.2.2.2
            obtain ⟨Y0, hY⟩ : ∃ Y, setL U q3 0 [.int .i64 (p.kd : Int), .int .i64 (p.a : Int), .int .i64 (p.b : Int), .string (bs p.nm), .int .i64 f0, .int .i64 f1, .string f2, .slice A' m' c', .slice (some ⟨gk, 0, none⟩) (p.ks.length + 1) capk, .slice pW p.ws.length pwc] = Y := ⟨_, rfl⟩
            rw [hY] at hNC hPS
            have HY := Lib.hid (And.intro hNC hPS)
            clear hNC hPS hnb17
            simp only [setL] at hY
            go_wp2_with fail
            go_region_law? fail
            all_goals
              go_wp2
              go_step3
              refine ⟨f', by omega, .inr ⟨rfl, χ, r, .slice (some ⟨gs, 0, none⟩) r.length svc, cs0, st, p.add nd2, f0, f1, f2, A', m', c', .slice (some ⟨gk, 0, none⟩) (p.ks.length + 1) capk, .slice pW p.ws.length pwc, E, _, _, ⟨rfl, rfl, rfl, rfl, rfl, rfl⟩, HY.out.1, HY.out.2, HMD.out.1, HMD.out.2.1, HMD.out.2.2, ⟨?_, fun x hx => ?_, fun x hx => ?_⟩, ?_, ?_⟩⟩
              · have := HBD.out.ln; simp only [List.length_cons] at this; omega
              · exact HBD.out.kd x (List.mem_cons_of_mem _ hx)
              · have := HBD.out.sz x (List.mem_cons_of_mem _ hx); omega
              · rw [Nd.add_kd]; exact HBD.out.kd p (List.mem_cons_self ..)
              · have := HBD.out.sz p (List.mem_cons_self ..)
                rw [Nd.add_ks, Nd.add_ws, List.length_append, List.length_singleton]
                omega
    · obtain ⟨f', hf', md', fu', hL'⟩ := HR2.out rfl
      obtain ⟨i0, i1, i2, i3, i4, i5, i6, i7, i8, i9, il⟩ := HN.out.nb.cells
      obtain ⟨i0', hi, hz0, hz1', hz2'⟩ := info_node'
      go_wp2_with (at_builtin; refine wpList_append_lies _ rfl (.tmp 26) (.tmp 28) 44 rfl w.heap.size 46 i0' (.agg #[.int .i64 0, .int .i64 0, .int .i64 0, .string ⟨#[]⟩, .int .i64 0, .int .i64 0, .string ⟨#[]⟩, .slice none 0 0, .slice none 0 0, .slice none 0 0]) 10 144 Tryd.underlying44 hi hz0 hz1' hz2' rfl (by decide) (.slice svA op.length svc) op.length cs rfl ?c0 ⟨V.heap.size, 0, none⟩ 1 1 (onL nd2 e0 e1 e2 A m c (.slice kA nd2.ks.length kc) (.slice wA nd2.ws.length wc)) rfl rfl ?c1 ?c2 (by decide) ?c3 ?c4 ?c5 (V.heap.size + 1) ?c6 ?go)
      case c0 => exact HN.out.ns.rs.alloc _
      case c1 => exact World.news_of_block (cs := #[.int .i64 (nd2.kd : Int), .int .i64 (nd2.a : Int), .int .i64 (nd2.b : Int), .string (bs nd2.nm), .int .i64 e0, .int .i64 e1, .string e2, .slice A m c, .slice kA nd2.ks.length kc, .slice wA nd2.ws.length wc]) (alloc_blk V _ 46 rfl)
      case c2 => intro u hu; simp [onL] at hu; rcases hu with rfl | rfl | rfl | rfl | rfl | rfl | rfl | rfl | rfl | rfl <;> rfl
      case c3 => have := HBD.out.ln; unfold maxLen; omega
      case c4 => have := HBD.out.ln; omega
      case c5 => have := HN.out.ns.t.size; simp only [World.size_alloc]; omega
      case c6 => simp only [World.size_alloc]
      case go =>
        intro gs cap2 wx hown hgrow hat hlt
        have TR : Touch (fun k9 => (Value.slice svA op.length svc).ownBlock = some k9) V wx := ((Touch.refl _ V).alloc _).grown hgrow (fun _ e => .inl e)
        obtain ⟨⟨χ, hNS⟩, hnb⟩ := HN.out.push hq TR hown (hat.imp (fun e => e) (fun e => by omega))
        have HX := Lib.hid (And.intro hNS (And.intro hnb (HP.out.touchR TR (row_base HN.out.ns.rs) hgp hgl)))
        clear hown hgrow hat TR hNS hnb
        go_wp2
        go_step3
        refine ⟨f', by omega, .inl ⟨rfl, χ, nd2 :: op, _, _, st, _, _, _, _, _, _, _, _, _, _, ⟨rfl, rfl, rfl, rfl, rfl, rfl⟩, HX.out.1, HX.out.2.1, HX.out.2.2, md', fu', hL', ⟨?_, fun p hp => ?_, fun p hp => ?_⟩⟩⟩
        · have := HBD.out.ln; simp only [List.length_cons]; omega
        · rcases List.mem_cons.1 hp with rfl | hp
          · exact HK.out.1
          · exact HBD.out.kd p hp
        · rcases List.mem_cons.1 hp with rfl | hp
          · have h1 := HK.out; have h2 := HSZ.out.2; omega
          · have := HBD.out.sz p hp; omega
  · have hee : ((σ.2 : Int) != 0) = true := by simp; omega
    obtain ⟨z0, z1, z2, z3, z4, z5, z6, z7, z8, z9, zl⟩ := HN.out.ns.b2.cells
    obtain ⟨f0, f1, f2, f3, f4, f5, f6, f7, f8, f9⟩ := HN.out.ns.b2.free
    have hR := hrd.1 he
    obtain ⟨Y, hY⟩ : ∃ Y, setL wr w.heap.size 0 [.int .i64 0, .int .i64 0, .int .i64 0, .string ⟨#[]⟩, .int .i64 0, .int .i64 0, .string ⟨#[]⟩, .slice none 0 0, .slice none 0 0, .slice none 0 0] = Y := ⟨_, rfl⟩
    have tY : Touch (fun b => b = w.heap.size) wr Y := by rw [← hY]; exact setL_touch _ _ _
    have bY : NB Y w.heap.size (.int .i64 0) (.int .i64 0) (.int .i64 0) (.string ⟨#[]⟩) (.int .i64 0) (.int .i64 0) (.string ⟨#[]⟩) (.slice none 0 0) (.slice none 0 0) (.slice none 0 0) := by rw [← hY]; exact HN.out.ns.b2.setL _ _ _ _ _ _ _ _ _ _
    have HG : Hid (NodPost w gp g n cp ts R0.1 R0.2 (.returned (.agg #[.int .i64 0, .int .i64 0, .int .i64 0, .string ⟨#[]⟩, .int .i64 0, .int .i64 0, .string ⟨#[]⟩, .slice none 0 0, .slice none 0 0, .slice none 0 0])) Y) := Lib.hid (by
      rw [hR]
      exact ⟨0, 0, ⟨#[]⟩, none, 0, 0, none, 0, 0, none, 0, 0, 1, rfl, nt_zero _ _, HP.out.touchX tY hgp hgl, HN.out.ns.t.trans tY (fun b hb => .inr (by omega))⟩)
    have HBY := Lib.hid bY
    clear tY bY hR
    simp only [setL] at hY
    clear hrd hN hp md fu hL hbd hok hnk hv hB hE hkd hsz
    go_wp2
    exact HQ.out _ _ _ _ _ _ _ _ _ _ _ _ rfl rfl HBY.out HG.out
end Go.Proofs.YtanecdpcenkoeaaDoor
