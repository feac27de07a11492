/-
  What package tree's program does with a parser in memory. Conditions: the table of levels can be read; names and numbers among the tokens are such; an end's token lies behind the place.
-/
import Derived.Test.YtanecdpcenkoeaaDoorZa5
namespace Go.Proofs.YtanecdpcenkoeaaDoor
open Go.ChangeShapes Go.WideShapes Go.ChangeAt Go.RowKit
set_option maxRecDepth 100000
set_option maxHeartbeats 8000000

theorem tok_f0 (a b c d : Value) (W : World) : (Instr.field 62 (.agg #[a, b, c, d]) 0).run Tryd.prog W = .ok a W := by kernel_rfl
def PgPost (w : World) (gp g n cp : Nat) (ts : List Tk) (v : Pg) (st : St) (x : Ending) (w' : World) : Prop := ∃ v1 v2 v3, x = .returned (.agg #[v1, v2, v3]) ∧
  PgAt w' (fun k => w.heap.size ≤ k) v [v1, v2, v3] ∧ PS2 59 w' gp g n cp ts st ∧ Touch (AtB gp) w w'
structure PR (ts : List Tk) (R0 : (List Ky × List Tr × List Dm) × St) (n L f : Nat) (a : List Ky) (b : List Tr) (c : List Dm) (σ : St) : Prop where
  md : prgR ts f a b c σ = R0
  fu : Fu f n σ
  la : a.length ≤ 100
  lb : b.length ≤ 100
  lc : c.length ≤ 100
  hl : σ.1 ≤ L
/-- The way out of the loop. -/
theorem prg_out {w V : World} {gp g n cp q3 : Nat} {Q : Nat → Prop} {ts : List Tk} {a : List Ky} {b : List Tr} {c : List Dm} {vk vt vd : Value} {xt xd : List Value} {st : St} (h : PM w V gp q3 Q a b c vk vt vd xt xd) (hp : PS2 59 V gp g n cp ts st) (hgp : gp < w.heap.size) (hgl : g < w.heap.size) :
    ∀ (x0 x1 x2 : Value), let W := ((V.setCell ⟨w.heap.size, 0, none⟩ x0).setCell ⟨w.heap.size, 1, none⟩ x1).setCell ⟨w.heap.size, 2, none⟩ x2
      PgAt W (fun k => w.heap.size ≤ k) ⟨a, b, c⟩ [vk, vt, vd] ∧ PS2 59 W gp g n cp ts st ∧ Touch (AtB gp) w W := by
  intro x0 x1 x2
  have n1 := row_ne h.rk h.b2 (by decide)
  have n2 := row_ne h.rt h.b2 (by decide)
  have n3 := row_ne h.rd h.b2 (by decide)
  have tX := touch3 (F := fun k => k = w.heap.size) (Touch.refl _ V) (.inl rfl) x0 x1 x2
  have r1 := row_aside (row_aside (row_aside (i := 0) (x := x0) h.rk n1) n1 (i := 1) (x := x1)) n1 (i := 2) (x := x2)
  have r2 := row_aside (row_aside (row_aside (i := 0) (x := x0) h.rt n2) n2 (i := 1) (x := x1)) n2 (i := 2) (x := x2)
  have r3 := row_aside (row_aside (row_aside (i := 0) (x := x0) h.rd n3) n3 (i := 1) (x := x1)) n3 (i := 2) (x := x2)
  have q : ∀ k, Q k → ¬ (k = w.heap.size) := fun k hk e => by have := (h.hQ k hk).1; omega
  have v : ∀ k, Q k → k < (((V.setCell ⟨w.heap.size, 0, none⟩ x0).setCell ⟨w.heap.size, 1, none⟩ x1).setCell ⟨w.heap.size, 2, none⟩ x2).heap.size → w.heap.size ≤ k := fun k hk _ => Nat.le_of_lt (h.hQ k hk).1
  exact ⟨⟨_, _, _, xt, xd, rfl, slat_of r1, slat_of r2, h.lt.mono (fun x ys hx => (hx.touch tX q).via v), slat_of r3, h.ld.mono (fun x ys hx => (hx.touch tX q).via v)⟩, PSt.own (PSt.own (PSt.own hp hgp hgl) hgp hgl) hgp hgl, touch3 h.t (.inr (Nat.le_refl _)) x0 x1 x2⟩
theorem nodR_ge {ts : List Tk} {L : Nat} (hE : EnT ts L) : ∀ (f : Nat) (op : List Nd) (o : Option Nd) (σ : St), σ.1 ≤ L → σ.1 ≤ (nodR ts f op o σ).2.1
  | 0, _, _, _, h => by unfold nodR; exact Nat.le_refl _
  | f + 1, op, none, σ, h => by
    unfold nodR
    have hb : (begS op σ).1 = σ.1 := by unfold begS; split <;> rfl
    have h1 : (begS op σ).1 ≤ (headS ts (begS op σ)).1 := by
      have h5 := choS_ge ts nodeW (begS op σ)
      have h6 := headT_ge (kd := headK ts (begS op σ)) hE (s := choS ts nodeW (begS op σ)) (choS_L hE (by omega))
      have h7 : (headT ts (headK ts (begS op σ)) (choS ts nodeW (begS op σ))).2.1 ≤ (headS ts (begS op σ)).1 := headE_ge
      omega
    have h2 := headS_L hE (σ := begS op σ) (by omega)
    have h3 := nodR_ge hE f op (some (headN ts (begS op σ))) (headS ts (begS op σ)) h2
    omega
  | f + 1, op, some n, σ, h => by
    unfold nodR
    have hg := anoS_ge (n := n) hE h
    have hl := anoS_L hE (n := n) h
    split
    · exact Nat.le_refl _
    · split
      · exact Nat.le_trans hg (nodR_ge hE f _ _ _ hl)
      · split
        · exact hg
        · exact Nat.le_trans hg (nodR_ge hE f _ _ _ hl)
theorem treS_ge {ts : List Tk} {L : Nat} {σ : St} (hE : EnT ts L) (h : σ.1 ≤ L) : σ.1 ≤ (treS ts σ).1 := by
  have h1 := naS_ge ts σ
  have h2 := exS_ge ts [123] (naS ts σ)
  have h3 := nodR_ge hE (6 * ts.length + 100) [] none (exS ts [123] (naS ts σ)) (exS_L hE (naS_L hE h))
  have h4 := exS_ge ts [125] (nodG ts (exS ts [123] (naS ts σ))).2
  unfold treS
  unfold nodG at h4 ⊢
  omega
theorem dm_1 {w : World} {Q : Nat → Prop} {d : Dm} {x u1 u2 u3 : Value} (h : DmAt w Q d [x, u1, u2, u3]) : ∃ A m c, u1 = .slice A m c := by
  obtain ⟨v1, v2, v3, xs, e, ⟨A, c, rfl, -⟩, -⟩ := h
  simp only [List.cons.injEq] at e
  exact ⟨A, _, c, e.2.1⟩
theorem dm_2 {w : World} {Q : Nat → Prop} {d : Dm} {x u1 u2 u3 : Value} (h : DmAt w Q d [x, u1, u2, u3]) : ∃ A m c, u2 = .slice A m c := by
  obtain ⟨v1, v2, v3, xs, e, -, ⟨A, c, rfl, -⟩, -⟩ := h
  simp only [List.cons.injEq] at e
  exact ⟨A, _, c, e.2.2.1⟩
theorem dm_3 {w : World} {Q : Nat → Prop} {d : Dm} {x u1 u2 u3 : Value} (h : DmAt w Q d [x, u1, u2, u3]) : ∃ A m c, u3 = .slice A m c := by
  obtain ⟨v1, v2, v3, xs, e, -, -, -, ⟨A, c, rfl, -⟩⟩ := h
  simp only [List.cons.injEq] at e
  exact ⟨A, _, c, e.2.2.2.1⟩
theorem nx_kd {ts : List Tk} {L : Nat} {σ : St} (hE : EnT ts L) (hl : σ.1 ≤ L) (h : (nxS ts σ).kd ≠ 0) : σ.2 = 0 ∧ σ.1 < L := by
  unfold nxS at h
  by_cases e : σ.2 = 0
  · refine ⟨e, ?_⟩
    rcases Nat.lt_or_ge σ.1 L with z | z
    · exact z
    · have : σ.1 = L := by omega
      rw [this] at h
      exact absurd (nxt_end0 hE σ.2) h
  · rw [nxt_bad e] at h
    exact absurd rfl h
theorem program_any {w : World} {gp g n cp B L : Nat} {ts : List Tk} (hok : NamesOk ts) (hnk : NumsOk ts) (hv : LV w B) (hB : B ≤ gp) (hE : EnT ts L) (h : PS2 59 w gp g n cp ts (0, 0)) :
    Calls Tryd.prog 18 #[.pointer (some ⟨gp, 0, none⟩)] w fun x w' => PgPost w gp g n cp ts (prgG ts).1 (prgG ts).2 x w' := by
  obtain ⟨W0, hW0⟩ : ∃ W, (w.alloc (.cells #[.slice none 0 0, .slice none 0 0, .slice none 0 0] 28)).alloc (.cells #[.slice none 0 0, .slice none 0 0, .slice none 0 0] 28) = W := ⟨_, rfl⟩
  have t0 : Touch NoB w W0 := by rw [← hW0]; exact ((Touch.refl _ _).alloc _).alloc _
  have b2 : B3 W0 28 w.heap.size (.slice none 0 0) (.slice none 0 0) (.slice none 0 0) := by rw [← hW0]; exact (B3.new w _ _ _ _ rfl).old _
  have b3 : B3 W0 28 (w.heap.size + 1) (.slice none 0 0) (.slice none 0 0) (.slice none 0 0) := by rw [← hW0]; exact B3.new _ _ _ _ _ (by simp only [World.size_alloc])
  have hgp := blk_lt h.blk
  have hgl := h.tl.lt
  have hln : ts.length = n := h.len
  have hLn : L < n := by obtain ⟨t, ht, -⟩ := hE; rw [← hln]; exact (List.getElem?_eq_some_iff.1 ht).1
  obtain ⟨R0, hR0⟩ : ∃ z, prgR ts (ts.length + 5) [] [] [] (0, 0) = z := ⟨_, rfl⟩
  unfold prgG
  simp only [hR0]
  obtain ⟨q3, hq3⟩ : ∃ z, w.heap.size + 1 = z := ⟨_, rfl⟩
  have hsq : w.heap.size < q3 := by omega
  rw [hq3] at b3
  have HR : Hid (∃ f a b c τ vk vt vd xt xd Q, PM w W0 gp q3 Q a b c vk vt vd xt xd ∧ PS2 59 W0 gp g n cp ts τ ∧ PR ts R0 n L f a b c τ) := Lib.hid ⟨ts.length + 5, [], [], [], (0, 0), .slice none 0 0, .slice none 0 0, .slice none 0 0, [], [], fun _ => False, ⟨Touch.anyB t0, b2, b3, World.ownsRow_nil _ _ _ _, World.ownsRow_nil _ _ _ _, .nil, World.ownsRow_nil _ _ _ _, .nil, fun _ hk => hk.elim⟩, h.touch t0, ⟨hR0, ⟨by omega, fun _ => by omega⟩, by simp, by simp, by simp, Nat.zero_le _⟩⟩
  have HNK := Lib.hid (And.intro hok (And.intro hnk (And.intro hv (And.intro hB hE))))
  clear h t0 b2 b3 hR0 hok hnk hv hB hE
  have hf := fun (a b c d : Value) (W : World) => tok_f0 a b c d W
  go_enter Tryd.func18, Tryd.ntmps18
  go_wp2_with fail
  go_loopw [] (fun wr => ∃ f a b c τ vk vt vd xt xd Q, PM w wr gp q3 Q a b c vk vt vd xt xd ∧ PS2 59 wr gp g n cp ts τ ∧ PR ts R0 n L f a b c τ) (fun wr => meas2 gp n wr)
  case atStart => exact HR.out
  case round =>
    clear HR
    obtain ⟨f, a, b, c, τ, vk, vt, vd, xt, xd, Q, hD, hps, hdr⟩ := hrel
    obtain ⟨A1, kp1, rfl, hc1, hc2⟩ := row_any hD.rk
    obtain ⟨A2, kp2, rfl, hd1, hd2⟩ := row_any hD.rt
    obtain ⟨A3, kp3, rfl, he1, he2⟩ := row_any hD.rd
    have hrd := prg_round hdr.md hdr.fu
    have hme := meas2_at hps
    have HC := Lib.hid (next_any hps)
    have HD := Lib.hid hD
    have HP := Lib.hid hps
    have HDR := Lib.hid hdr
    have hkx := fun e => nx_kd HNK.out.2.2.2.2 hdr.hl (σ := τ) e
    have hnx : nxt ts τ.1 τ.2 = nxS ts τ := rfl
    rw [hnx] at HC
    obtain ⟨x, hx⟩ : ∃ x, nxS ts τ = x := ⟨_, rfl⟩
    rw [hx] at HC hrd hkx
    clear hD hps hdr hnx hx
    by_cases hw : x.kd = 0
    · have he := hrd.1 hw
      have hw2 : (((x.kd : Nat) : Int) != 0) = false := by simp [hw]
      clear hrd hme hkx
      go_wp2_with fail
      refine HC.out.mono ?_
      rintro r V ⟨rfl, hT⟩
      have HD := Lib.hid (HD.out.go (Touch.anyB hT) hgp hsq)
      have HP := Lib.hid (HP.out.touch hT)
      obtain ⟨z0, z1, z2, zl⟩ := HD.out.b2.cells
      obtain ⟨f0, f1, f2⟩ := HD.out.b2.free
      obtain ⟨p0, p1, p2, pl⟩ := HD.out.b3.cells
      have HE := Lib.hid he
      have HO := Lib.hid (prg_out HD.out HP.out hgp hgl)
      clear hT he
      go_wp2
      refine bodyPost_ret (v := .agg #[.slice A1 a.length kp1, .slice A2 b.length kp2, .slice A3 c.length kp3]) (by simp [results, Tryd.results18, go_sem, z0, z1, z2]) rfl ?_
      rw [HE.out]
      exact ⟨_, _, _, rfl, HO.out _ _ _⟩
    · have hw2 : (((x.kd : Nat) : Int) != 0) = true := by simp; omega
      obtain ⟨h0, hlt⟩ := hkx hw
      obtain ⟨f', rfl, s1, s2, s3, hs1, hs2, hs3, r1, r2, r3, r4⟩ := hrd.2 hw
      clear hrd hw hkx
      have hE := HNK.out.2.2.2.2
      have hl1 : s1.1 ≤ L := by rw [← hs1]; exact beT_L hE (Nat.le_of_lt hlt)
      have hl2 : s2.1 ≤ L := by rw [← hs2]; exact beT_L hE hl1
      have hl3 : s3.1 ≤ L := by rw [← hs3]; exact beT_L hE hl2
      obtain ⟨bn1, hbn1⟩ : ∃ z, beV ts keyB a.length 100 τ = z := ⟨_, rfl⟩
      obtain ⟨bn2, hbn2⟩ : ∃ z, beV ts treeB b.length 100 s1 = z := ⟨_, rfl⟩
      obtain ⟨bn3, hbn3⟩ : ∃ z, beV ts domB c.length 100 s2 = z := ⟨_, rfl⟩
      have HBN1 : Hid (∀ (W : World), PS2 59 W gp g n cp ts τ → Calls Tryd.prog 30 #[.pointer (some ⟨gp, 0, none⟩), .string ⟨#[107, 101, 121]⟩, .int .i64 (a.length : Int), .int .i64 100] W fun x w' => x = .returned (.bool bn1) ∧ PS2 59 w' gp g n cp ts s1 ∧ Touch (AtB gp) W w') := Lib.hid (fun W q => by rw [← hs1, ← hbn1]; exact begins_st (s := keyB) (hv := a.length) (most := 100) q)
      have HBN2 : Hid (∀ (W : World), PS2 59 W gp g n cp ts s1 → Calls Tryd.prog 30 #[.pointer (some ⟨gp, 0, none⟩), .string ⟨#[116, 114, 101, 101]⟩, .int .i64 (b.length : Int), .int .i64 100] W fun x w' => x = .returned (.bool bn2) ∧ PS2 59 w' gp g n cp ts s2 ∧ Touch (AtB gp) W w') := Lib.hid (fun W q => by rw [← hs2, ← hbn2]; exact begins_st (s := treeB) (hv := b.length) (most := 100) q)
      have HBN3 : Hid (∀ (W : World), PS2 59 W gp g n cp ts s2 → Calls Tryd.prog 30 #[.pointer (some ⟨gp, 0, none⟩), .string ⟨#[100, 111, 109, 97, 105, 110]⟩, .int .i64 (c.length : Int), .int .i64 100] W fun x w' => x = .returned (.bool bn3) ∧ PS2 59 w' gp g n cp ts s3 ∧ Touch (AtB gp) W w') := Lib.hid (fun W q => by rw [← hs3, ← hbn3]; exact begins_st (s := domB) (hv := c.length) (most := 100) q)
      have hy1 : bn1 = true → s1.1 = τ.1 + 1 ∧ a.length < 100 := fun e => by rw [← hs1]; subst e; exact ⟨beT_yes hbn1, be_lt hbn1 HDR.out.la⟩
      have hz1 : bn1 = false → s1.1 = τ.1 := fun e => by rw [← hs1]; subst e; exact beT_no hbn1
      have hy2 : bn2 = true → s2.1 = s1.1 + 1 ∧ b.length < 100 := fun e => by rw [← hs2]; subst e; exact ⟨beT_yes hbn2, be_lt hbn2 HDR.out.lb⟩
      have hz2 : bn2 = false → s2.1 = s1.1 := fun e => by rw [← hs2]; subst e; exact beT_no hbn2
      have hy3 : bn3 = true → s3.1 = s2.1 + 1 ∧ c.length < 100 := fun e => by rw [← hs3]; subst e; exact ⟨beT_yes hbn3, be_lt hbn3 HDR.out.lc⟩
      have hz3 : bn3 = false → s3.1 = s2.1 := fun e => by rw [← hs3]; subst e; exact beT_no hbn3
      rw [hbn1] at r1 r2 r3 r4
      rw [hbn2] at r2 r3 r4
      rw [hbn3] at r3 r4
      have HR1 := Lib.hid r1
      have HR2 := Lib.hid r2
      have HR3 := Lib.hid r3
      have HR4 := Lib.hid r4
      have HY1 := Lib.hid hy1
      have HY2 := Lib.hid hy2
      have HY3 := Lib.hid hy3
      have HZ1 := Lib.hid hz1
      have HZ2 := Lib.hid hz2
      have HZ3 := Lib.hid hz3
      have HLL := Lib.hid (And.intro hl1 (And.intro hl2 (And.intro hl3 hlt)))
      have H0 := Lib.hid h0
      have HME := Lib.hid hme
      clear hs1 hs2 hs3 hbn1 hbn2 hbn3 hy1 hy2 hy3 hz1 hz2 hz3 r1 r2 r3 r4 h0 hme hl1 hl2 hl3 hlt hE
      go_wp2_with fail
      refine HC.out.mono ?_
      rintro r V0 ⟨rfl, hT⟩
      have HD := Lib.hid (HD.out.go (Touch.anyB hT) hgp hsq)
      have HP := Lib.hid (HP.out.touch hT)
      clear hT
      obtain ⟨q0, q1, q2, ql⟩ := HD.out.b3.cells
      have HC := Lib.hid (HBN1.out _ HP.out)
      go_wp2_with fail
      refine HC.out.mono ?_
      rintro r V1 ⟨rfl, hp, hT⟩
      have HD := Lib.hid (HD.out.go hT hgp hsq)
      have HP := Lib.hid hp
      clear hp hT q0 q1 q2 ql
      cases bn1
      · skip
        obtain ⟨q0, q1, q2, ql⟩ := HD.out.b3.cells
        have HC := Lib.hid (HBN2.out _ HP.out)
        go_wp2_with fail
        refine HC.out.mono ?_
        rintro r V2 ⟨rfl, hp, hT⟩
        have HD := Lib.hid (HD.out.go hT hgp hsq)
        have HP := Lib.hid hp
        clear hp hT q0 q1 q2 ql
        cases bn2
        · skip
          obtain ⟨q0, q1, q2, ql⟩ := HD.out.b3.cells
          have HC := Lib.hid (HBN3.out _ HP.out)
          go_wp2_with fail
          refine HC.out.mono ?_
          rintro r V3 ⟨rfl, hp, hT⟩
          have HD := Lib.hid (HD.out.go hT hgp hsq)
          have HP := Lib.hid hp
          clear hp hT q0 q1 q2 ql
          cases bn3
          · have hz1 := HZ1.out (by trivial)
            have hz2 := HZ2.out (by trivial)
            have hz3 := HZ3.out (by trivial)
            have HF := Lib.hid (fail_st HP.out 2)
            have hr3 := Lib.hid (HR4.out (by trivial) (by trivial) (by trivial))
            obtain ⟨fs, hfs⟩ : ∃ z, failS 2 s3 = z := ⟨_, rfl⟩
            have hf1 : fs.1 = s3.1 := by rw [← hfs]; rfl
            have hf2 : fs.2 ≠ 0 := by rw [← hfs]; exact failS_bad (by decide) s3
            rw [hfs] at HF hr3
            clear hfs
            go_wp2_with fail
            refine HF.out.mono ?_
            rintro r V4 ⟨rfl, hp, hT⟩
            have HD := Lib.hid (HD.out.go hT hgp hsq)
            have HP := Lib.hid hp
            clear hp hT
            go_wp2
            go_roundw
            case rel => exact ⟨f', a, b, c, fs, _, _, _, _, _, _, HD.out, HP.out, hr3.out, HDR.out.fu.stop H0.out hf2, HDR.out.la, HDR.out.lb, HDR.out.lc, by have := HLL.out.2.2.1; omega⟩
            case measure =>
              rw [meas2_at HP.out, HME.out, if_pos H0.out, if_neg hf2]
              omega
          · skip
            have hz1 := HZ1.out (by trivial)
            have hz2 := HZ2.out (by trivial)
            obtain ⟨hy, hla⟩ := HY3.out (by trivial)
            obtain ⟨q0, q1, q2, ql⟩ := HD.out.b3.cells
            obtain ⟨g0, g1, g2⟩ := HD.out.b3.free
            have hr1 := HR3.out (by trivial) (by trivial) (by trivial)
            obtain ⟨cv, hcv⟩ : ∃ z, domV ts s3 = z := ⟨_, rfl⟩
            obtain ⟨cs, hcs⟩ : ∃ z, domS ts s3 = z := ⟨_, rfl⟩
            have hge : s3.1 ≤ cs.1 := by rw [← hcs]; exact domS_ge ts s3
            have hcl : cs.1 ≤ L := by rw [← hcs]; exact domS_L HNK.out.2.2.2.2 HLL.out.2.2.1
            have HCD := Lib.hid (fun (W : World) (q : PS2 59 W gp g n cp ts s3) => domain_any HNK.out.2.1 q)
            unfold DomPost at HCD
            rw [hcv, hcs] at hr1 HCD
            obtain ⟨cnm, hcnm⟩ : ∃ z, bs cv.nm = z := ⟨_, rfl⟩
            rw [hcnm] at HCD
            have HCV := Lib.hid hcnm
            have HRR := Lib.hid hr1
            clear hcv hcs hcnm hr1
            obtain ⟨i0, hi, hz0, hz1', hz2'⟩ := info_dom'
            unfold maxLen at he2
            go_wp2_with fail
            go_region_law? (first
              | (go_simp; go_at_call 33
                 refine (HCD.out _ (HP.out.touch (Touch.refl _ _).drew)).mono ?_
                 rintro r w3 ⟨u1, u2, u3, rfl, hta, hp, hT0⟩
                 have hT := (Touch.refl (AtB gp) V3).drew.same hT0
                 have HD3 := Lib.hid (HD.out.widen hT hgp hsq)
                 have hav := hta.via (R := fun k => Q k ∨ (V3.heap.size ≤ k ∧ k < w3.heap.size)) (fun k h1 h2 => .inr ⟨h1, h2⟩)
                 obtain ⟨B1, L1, k1, rfl⟩ := dm_1 hta
                 obtain ⟨B2, L2, k2, rfl⟩ := dm_2 hta
                 obtain ⟨B3_, L3, k3, rfl⟩ := dm_3 hta
                 obtain ⟨j0, j1, j2, jl⟩ := HD3.out.b3.cells
                 obtain ⟨l0, l1, l2⟩ := HD3.out.b3.free
                 have HX3 := Lib.hid (And.intro hp (And.intro hT hav))
                 clear hp hT0 hT hav hta)
              | (refine step_append_lies _ rfl (.tmp 47) (.tmp 50) 26 rfl w.heap.size 90 i0 (.agg #[.string ⟨#[]⟩, .slice none 0 0, .slice none 0 0, .slice none 0 0]) 4 88 Tryd.underlying26 hi hz0 hz1' hz2' rfl (by decide) (.slice A3 c.length kp3) c.length xd (by simp [Act.eval]) (by exact (HD3.out.rd.alloc _)) ⟨w3.heap.size, 0, none⟩ 1 1 [.string cnm, .slice B1 L1 k1, .slice B2 L2 k2, .slice B3_ L3 k3] (by simp [Act.eval]) rfl (by exact World.news_of_block (cs := #[.string cnm, .slice B1 L1 k1, .slice B2 L2 k2, .slice B3_ L3 k3]) (alloc_blk w3 _ 90 rfl)) (by intro u hu; simp at hu; rcases hu with rfl | rfl | rfl | rfl <;> rfl) (by decide) (by unfold maxLen; omega) (by omega) (by have := HX3.out.2.1.size; have := HD.out.t.size; simp only [World.size_alloc]; omega) (w3.heap.size + 1) (by simp) ?_
                 intro gd cap2 wx hown hgrow hat hlt
                 have TR : Touch (fun k9 => (Value.slice A3 c.length kp3).ownBlock = some k9) w3 wx := ((Touch.refl _ w3).alloc _).grown hgrow (fun _ e => .inl e)
                 have hbx := HD3.out.b3.goR TR (row_ne HD3.out.rd HD3.out.b3 (by decide))
                 obtain ⟨k0, k1', k2', kl⟩ := hbx.cells
                 obtain ⟨m0, m1, m2⟩ := hbx.free
                 have HX := Lib.hid (And.intro (HX3.out.1.touchR TR (row_base HD3.out.rd) hgp hgl) (HD3.out.addD hsq HX3.out.2.2 TR hown hat))
                 clear hown hgrow hat TR hbx))
            all_goals
              go_wp2
              go_roundw
              case rel => exact ⟨f', a, b, c ++ [cv], cs, _, _, _, _, _, _, HX.out.2, HX.out.1.own (by omega) (by omega), HRR.out, HDR.out.fu.next H0.out (by have := HLL.out.2.2.2; omega) (by omega), HDR.out.la, HDR.out.lb, by rw [List.length_append]; exact hla, hcl⟩
              case measure =>
                have hps := HX.out.1.own (q := q3) (i := 2) (v := .slice (some ⟨gd, 0, none⟩) (c.length + 1) cap2) (by omega) (by omega)
                rw [meas2_at hps, HME.out, if_pos H0.out]
                have := HLL.out.2.2.2
                split <;> omega
        · skip
          have hz1 := HZ1.out (by trivial)
          obtain ⟨hy, hla⟩ := HY2.out (by trivial)
          obtain ⟨q0, q1, q2, ql⟩ := HD.out.b3.cells
          obtain ⟨g0, g1, g2⟩ := HD.out.b3.free
          have hr1 := HR2.out (by trivial) (by trivial)
          obtain ⟨cv, hcv⟩ : ∃ z, treV ts s2 = z := ⟨_, rfl⟩
          obtain ⟨cs, hcs⟩ : ∃ z, treS ts s2 = z := ⟨_, rfl⟩
          have hge : s2.1 ≤ cs.1 := by rw [← hcs]; exact treS_ge HNK.out.2.2.2.2 HLL.out.2.1
          have hcl : cs.1 ≤ L := by rw [← hcs]; exact treS_L HNK.out.2.2.2.2 HLL.out.2.1
          have HCD := Lib.hid (fun (W : World) (q : PS2 59 W gp g n cp ts s2) (hv : LV W B) => tree_any HNK.out.1 HNK.out.2.1 hv HNK.out.2.2.2.1 HNK.out.2.2.2.2 HLL.out.2.1 q)
          unfold TrPost at HCD
          rw [hcv, hcs] at hr1 HCD
          obtain ⟨cnm, hcnm⟩ : ∃ z, bs cv.nm = z := ⟨_, rfl⟩
          rw [hcnm] at HCD
          have HCV := Lib.hid hcnm
          have HRR := Lib.hid hr1
          clear hcv hcs hcnm hr1
          obtain ⟨i0, hi, hz0, hz1', hz2'⟩ := info_tree'
          unfold maxLen at hd2
          go_wp2_with fail
          go_region_law? (first
            | (go_simp; go_at_call 32
               refine (HCD.out _ (HP.out.touch (Touch.refl _ _).drew) (HNK.out.2.2.1.touchP (HD.out.t.drew) HNK.out.2.2.2.1)).mono ?_
               rintro r w3 ⟨e0, e1, e2, A, m, c9, kA, km, kc, wA, wm, wc, rfl, hta, hp, hT0⟩
               have hT := (Touch.refl (AtB gp) V2).drew.same hT0
               have HD3 := Lib.hid (HD.out.widen hT hgp hsq)
               have hav := hta.via (R := fun k => Q k ∨ (V2.heap.size ≤ k ∧ k < w3.heap.size)) (fun k h1 h2 => .inr ⟨h1, h2⟩)
               obtain ⟨j0, j1, j2, jl⟩ := HD3.out.b3.cells
               obtain ⟨l0, l1, l2⟩ := HD3.out.b3.free
               have HX3 := Lib.hid (And.intro hp (And.intro hT hav))
               clear hp hT0 hT hav hta)
            | (refine step_append_lies _ rfl (.tmp 34) (.tmp 37) 25 rfl w.heap.size 52 i0 (.agg #[.string ⟨#[]⟩, .int .i64 0, .int .i64 0, .int .i64 0, .string ⟨#[]⟩, .int .i64 0, .int .i64 0, .string ⟨#[]⟩, .slice none 0 0, .slice none 0 0, .slice none 0 0]) 11 160 Tryd.underlying25 hi hz0 hz1' hz2' rfl (by decide) (.slice A2 b.length kp2) b.length xt (by simp [Act.eval]) (by exact (HD3.out.rt.alloc _)) ⟨w3.heap.size, 0, none⟩ 1 1 [.string cnm, .int .i64 (cv.root.kd : Int), .int .i64 (cv.root.a : Int), .int .i64 (cv.root.b : Int), .string (bs cv.root.nm), .int .i64 e0, .int .i64 e1, .string e2, .slice A m c9, .slice kA km kc, .slice wA wm wc] (by simp [Act.eval]) rfl (by exact World.news_of_block (cs := #[.string cnm, .int .i64 (cv.root.kd : Int), .int .i64 (cv.root.a : Int), .int .i64 (cv.root.b : Int), .string (bs cv.root.nm), .int .i64 e0, .int .i64 e1, .string e2, .slice A m c9, .slice kA km kc, .slice wA wm wc]) (alloc_blk w3 _ 52 rfl)) (by intro u hu; simp at hu; rcases hu with rfl | rfl | rfl | rfl | rfl | rfl | rfl | rfl | rfl | rfl | rfl <;> rfl) (by decide) (by unfold maxLen; omega) (by omega) (by have := HX3.out.2.1.size; have := HD.out.t.size; simp only [World.size_alloc]; omega) (w3.heap.size + 1) (by simp) ?_
               intro gd cap2 wx hown hgrow hat hlt
               have TR : Touch (fun k9 => (Value.slice A2 b.length kp2).ownBlock = some k9) w3 wx := ((Touch.refl _ w3).alloc _).grown hgrow (fun _ e => .inl e)
               have hbx := HD3.out.b3.goR TR (row_ne HD3.out.rt HD3.out.b3 (by decide))
               obtain ⟨k0, k1', k2', kl⟩ := hbx.cells
               obtain ⟨m0, m1, m2⟩ := hbx.free
               have HX := Lib.hid (And.intro (HX3.out.1.touchR TR (row_base HD3.out.rt) hgp hgl) (HD3.out.addT hsq HX3.out.2.2 TR hown hat))
               clear hown hgrow hat TR hbx))
          all_goals
            go_wp2
            go_roundw
            case rel => exact ⟨f', a, b ++ [cv], c, cs, _, _, _, _, _, _, HX.out.2, HX.out.1.own (by omega) (by omega), HRR.out, HDR.out.fu.next H0.out (by have := HLL.out.2.2.2; omega) (by omega), HDR.out.la, by rw [List.length_append]; exact hla, HDR.out.lc, hcl⟩
            case measure =>
              have hps := HX.out.1.own (q := q3) (i := 1) (v := .slice (some ⟨gd, 0, none⟩) (b.length + 1) cap2) (by omega) (by omega)
              rw [meas2_at hps, HME.out, if_pos H0.out]
              have := HLL.out.2.2.2
              split <;> omega
      · skip
        obtain ⟨hy, hla⟩ := HY1.out (by trivial)
        obtain ⟨q0, q1, q2, ql⟩ := HD.out.b3.cells
        obtain ⟨g0, g1, g2⟩ := HD.out.b3.free
        have hr1 := HR1.out (by trivial)
        obtain ⟨cv, hcv⟩ : ∃ z, keyV ts s1 = z := ⟨_, rfl⟩
        obtain ⟨cs, hcs⟩ : ∃ z, keyS ts s1 = z := ⟨_, rfl⟩
        have hge : s1.1 ≤ cs.1 := by rw [← hcs]; exact keyS_ge ts s1
        have hcl : cs.1 ≤ L := by rw [← hcs]; exact keyS_L HNK.out.2.2.2.2 HLL.out.1
        have HCD := Lib.hid (fun (W : World) (q : PS2 59 W gp g n cp ts s1) => key_st HNK.out.2.1 q)
        rw [hcv, hcs] at hr1 HCD
        obtain ⟨cnm, hcnm⟩ : ∃ z, bs cv.nm = z := ⟨_, rfl⟩
        rw [hcnm] at HCD
        have HCV := Lib.hid hcnm
        have HRR := Lib.hid hr1
        clear hcv hcs hcnm hr1
        obtain ⟨i0, hi, hz0, hz1', hz2'⟩ := info_key'
        unfold maxLen at hc2
        go_wp2_with fail
        go_region_law? (first
          | (go_simp; go_at_call 31
             refine (HCD.out _ (HP.out.touch (Touch.refl _ _).drew)).mono ?_
             rintro r w3 ⟨rfl, hp, hT0⟩
             have hT := (Touch.refl (AtB gp) V1).drew.same hT0
             have HD3 := Lib.hid (HD.out.go hT hgp hsq)
             have hav := trivial
             obtain ⟨j0, j1, j2, jl⟩ := HD3.out.b3.cells
             obtain ⟨l0, l1, l2⟩ := HD3.out.b3.free
             have HX3 := Lib.hid (And.intro hp (And.intro hT hav))
             clear hp hT0 hT hav)
          | (refine step_append_lies _ rfl (.tmp 21) (.tmp 24) 24 rfl w.heap.size 83 i0 (.agg #[.string ⟨#[]⟩, .int .i64 0, .bool false]) 3 32 Tryd.underlying24 hi hz0 hz1' hz2' rfl (by decide) (.slice A1 a.length kp1) a.length (kyC a) (by simp [Act.eval]) (by exact (HD3.out.rk.alloc _)) ⟨w3.heap.size, 0, none⟩ 1 1 [.string cnm, .int .i64 (cv.kd : Int), .bool cv.sh] (by simp [Act.eval]) rfl (by exact World.news_of_block (cs := #[.string cnm, .int .i64 (cv.kd : Int), .bool cv.sh]) (alloc_blk w3 _ 83 rfl)) (by intro u hu; simp at hu; rcases hu with rfl | rfl | rfl <;> rfl) (by decide) (by unfold maxLen; omega) (by omega) (by have := HX3.out.2.1.size; have := HD.out.t.size; simp only [World.size_alloc]; omega) (w3.heap.size + 1) (by simp) ?_
             intro gd cap2 wx hown hgrow hat hlt
             have TR : Touch (fun k9 => (Value.slice A1 a.length kp1).ownBlock = some k9) w3 wx := ((Touch.refl _ w3).alloc _).grown hgrow (fun _ e => .inl e)
             have hbx := HD3.out.b3.goR TR (row_ne HD3.out.rk HD3.out.b3 (by decide))
             obtain ⟨k0, k1', k2', kl⟩ := hbx.cells
             obtain ⟨m0, m1, m2⟩ := hbx.free
             have HX := Lib.hid (And.intro (HX3.out.1.touchR TR (row_base HD3.out.rk) hgp hgl) (HD3.out.addK (v := cv) hsq TR (by rw [HCV.out]; exact hown) hat))
             clear hown hgrow hat TR hbx))
        all_goals
          go_wp2
          go_roundw
          case rel => exact ⟨f', a ++ [cv], b, c, cs, _, _, _, _, _, _, HX.out.2, HX.out.1.own (by omega) (by omega), HRR.out, HDR.out.fu.next H0.out (by have := HLL.out.2.2.2; omega) (by omega), by rw [List.length_append]; exact hla, HDR.out.lb, HDR.out.lc, hcl⟩
          case measure =>
            have hps := HX.out.1.own (q := q3) (i := 0) (v := .slice (some ⟨gd, 0, none⟩) (a.length + 1) cap2) (by omega) (by omega)
            rw [meas2_at hps, HME.out, if_pos H0.out]
            have := HLL.out.2.2.2
            split <;> omega
end Go.Proofs.YtanecdpcenkoeaaDoor
