/-
  What the document's own Parse does with a text. Conditions: at most 65536 bytes.
-/
import Derived.Test.YtnphaaahdlkmhaaGreatZs32
import Derived.Test.YtnphaaahdlkmhaaGreatZs11
import Derived.Test.YtnphaaahdlkmhaaGreatZs33
import Derived.Test.YtnphaaahdlkmhaaGreatZs34
namespace Go.Proofs.YtnphaaahdlkmhaaGreat
open Go.ChangeShapes Go.WideShapes Go.ChangeAt Go.RowKit
set_option maxRecDepth 100000
set_option maxHeartbeats 100000000

theorem run_field_tok (a b c d : Value) (W : World) : (Instr.field 52 (.agg #[a, b, c, d]) 0).run Tryz.prog W = .ok a W := by
  unfold Instr.field
  simp [go_sem, asAgg]
attribute [local go_sem ↓] run_field_tok
theorem rtoks_good {A : Option Addr} {n cap m : Nat} {b : Bs} {w : World} {ts : List Tk} (h : lexL b = .good ts) (hm : ts.length = m) (hn : b.length = n) (hmax : n ≤ 65536) (hcap : n ≤ cap) (hb : BAt w A b) :
    Calls Tryz.prog 12 #[.slice A n cap] w fun e w' => ∃ g cp, e = .returned (.tuple #[.slice (some ⟨g, 0, none⟩) m cp, .int .i64 n, .int .i64 0]) ∧ TL w' g ts ∧ Touch NoB w w' := by
  refine (rtokens_any A n cap b w hn hcap hb).mono ?_
  intro e w' hP
  unfold TokPost at hP
  rw [if_pos (by omega), h] at hP
  obtain ⟨hT, vl, rfl, ho⟩ := hP
  have hpos : 0 < ts.length := by
    cases ts with
    | nil => exact (lex_places h).elim
    | cons t r => simp
  obtain ⟨g, cp, rfl, hTL⟩ := TL.of_row ho hpos
  exact ⟨g, cp, by rw [hn, hm], hTL, hT⟩

theorem rtoks_bad {A : Option Addr} {n cap : Nat} {b : Bs} {w : World} {p : Nat} (h : lexL b = .bad p) (hn : b.length = n) (hmax : n ≤ 65536) (hcap : n ≤ cap) (hb : BAt w A b) :
    Calls Tryz.prog 12 #[.slice A n cap] w fun e w' => e = .returned (.tuple #[.slice none 0 0, .int .i64 p, .int .i64 2]) ∧ Touch NoB w w' := by
  refine (rtokens_any A n cap b w hn hcap hb).mono ?_
  intro e w' hP
  unfold TokPost at hP
  rw [if_pos (by omega), h] at hP
  obtain ⟨hT, rfl⟩ := hP
  exact ⟨rfl, hT⟩
/-- A block of eleven cells. -/
def TQ (w : World) (q : Nat) (cs : Array Value) : Prop := w.heap[q]? = some (.cells cs 64 (0, 0))
theorem TQ.touch {w w' : World} {F : Nat → Prop} {q : Nat} {cs : Array Value} (h : TQ w q cs) (t : Touch F w w') (hq : ¬ F q) : TQ w' q cs := (t.block q (blk_lt h) hq).trans h
structure DP (ts : List Tk) (R0 : (List Ky × List Tr × List Dm) × St) (n f : Nat) (a : List Ky) (bm : List Tr) (c : List Dm) (σ : St) (b : List Tr) : Prop where
  md : rprR ts f a bm c σ = R0
  fu : Fu f n σ
  la : a.length ≤ 100
  lb : b.length ≤ 100
  lc : c.length ≤ 101 ∧ (σ.2 = 0 → c.length ≤ 100)
  ln : b.length = bm.length
  ok : σ.2 = 0 → b = bm
/-- What a domain's reader leaves, its four cells told one by one. -/
def RDoQ (w : World) (gp g n cp L : Nat) (ts : List Tk) (v : Dm) (st : St) (x : Ending) (w' : World) : Prop := ∃ (B1 : Option Addr) (n1 : Nat) (B2 : Option Addr) (n2 : Nat) (B3' : Option Addr) (n3 : Nat), x = .returned (.agg #[.string (bs v.nm), .slice B1 v.vars.length n1, .slice B2 v.acts.length n2, .slice B3' v.goal.length n3]) ∧
  DmAt w' (fun k => w.heap.size ≤ k) v [.string (bs v.nm), .slice B1 v.vars.length n1, .slice B2 v.acts.length n2, .slice B3' v.goal.length n3] ∧ RT w' gp g n cp ts L st ∧ Touch (AtB gp) w w'
theorem rdomq_any {gp g n cp L : Nat} {ts : List Tk} (hnk : NumsOk ts) {w : World} {σ : St} (h : RT w gp g n cp ts L σ) :
    Calls Tryz.prog 21 #[.pointer (some ⟨gp, 0, none⟩)] w (RDoQ w gp g n cp L ts (rdoV ts σ) (rdoS ts σ)) := by
  refine (rdom_any hnk h).mono ?_
  rintro x w' ⟨l, rfl, hd, hp, hT⟩
  obtain ⟨v1, v2, v3, xs, rfl, h1, h2, h3, h4⟩ := hd
  have h1' := h1
  have h2' := h2
  have h4' := h4
  obtain ⟨B1, n1, rfl, -⟩ := h1'
  obtain ⟨B2, n2, rfl, -⟩ := h2'
  obtain ⟨B3', n3, rfl, -⟩ := h4'
  exact ⟨B1, n1, B2, n2, B3', n3, rfl, ⟨_, _, _, xs, rfl, h1, h2, h3, h4⟩, hp, hT⟩
/-- A slice's length is within its capacity. -/
def CapOk (v : Value) : Prop := ∀ (A : Option Addr) (n c : Nat), v = .slice A n c → n ≤ c
theorem pn_out {w WE V : World} {gp q3 : Nat} {Q : Nat → Prop} {a : List Ky} {b : List Tr} {c : List Dm} {vk vt vd : Value} {xt xd : List Value} (h : PN WE V gp q3 Q a b c vk vt vd xt xd) (hT : Touch NoB w WE) (hgp : w.heap.size ≤ gp) (hq3 : w.heap.size ≤ q3) (hlt : w.heap.size < WE.heap.size) :
    ∀ (x0 x1 x2 : Value), let W := ((V.setCell ⟨w.heap.size, 0, none⟩ x0).setCell ⟨w.heap.size, 1, none⟩ x1).setCell ⟨w.heap.size, 2, none⟩ x2
      PgAt W (fun k => w.heap.size ≤ k) ⟨a, b, c⟩ [vk, vt, vd] ∧ Touch NoB w W ∧ CapOk vk := by
  intro x0 x1 x2
  have tX := touch3 (F := fun k => k = w.heap.size) (Touch.refl _ V) (.inl rfl) x0 x1 x2
  have r1 := row_touch h.rk tX (fun k hk e => by have := row_base h.rk k hk; omega)
  have r2 := row_touch h.rt tX (fun k hk e => by have := row_base h.rt k hk; omega)
  have r3 := row_touch h.rd tX (fun k hk e => by have := row_base h.rd k hk; omega)
  have q : ∀ k, Q k → ¬ (k = w.heap.size) := fun k hk e => by have := (h.hQ k hk).1; omega
  have v : ∀ k, Q k → k < (((V.setCell ⟨w.heap.size, 0, none⟩ x0).setCell ⟨w.heap.size, 1, none⟩ x1).setCell ⟨w.heap.size, 2, none⟩ x2).heap.size → w.heap.size ≤ k := fun k hk _ => by have := (h.hQ k hk).1; omega
  have u : ∀ k, WE.heap.size ≤ k → k < (((V.setCell ⟨w.heap.size, 0, none⟩ x0).setCell ⟨w.heap.size, 1, none⟩ x1).setCell ⟨w.heap.size, 2, none⟩ x2).heap.size → w.heap.size ≤ k := fun k hk _ => by omega
  have tV : Touch NoB w V := hT.trans h.t (fun k hk => .inr (by rcases hk with rfl | rfl; exact hgp; exact hq3))
  exact ⟨⟨_, _, _, xt, xd, rfl, (slat_of r1).via u, (slat_of r2).via u, h.lt.mono (fun x ys hx => (hx.touch tX q).via v), (slat_of r3).via u, h.ld.mono (fun x ys hx => (hx.touch tX q).via v)⟩, touch3 tV (.inr (Nat.le_refl _)) x0 x1 x2, fun A n c e => by
    obtain ⟨A', c', e', hle, -⟩ := row_any h.rk
    rw [e] at e'
    injection e' with _ h2 h3
    omega⟩
/-- What the document's Parse returns of b, over memory that w had. -/
def RPm (w : World) (b : Bs) (r : Pr) (x : Ending) (w' : World) : Prop := match r with
  | .ok p => ∃ v1 v2 v3, x = .returned (.tuple #[.agg #[v1, v2, v3], .int .i64 (b.length : Int), .int .i64 0]) ∧ PgAt w' (fun k => w.heap.size ≤ k) p [v1, v2, v3] ∧ CapOk v1
  | .er e k => x = .returned (.tuple #[.agg #[.slice none 0 0, .slice none 0 0, .slice none 0 0], .int .i64 (k : Int), .int .i64 (e : Int)])
def RPaP (w : World) (b : Bs) (x : Ending) (w' : World) : Prop := Touch NoB w w' ∧ RPm w b (rparP b) x w'
theorem rparse_any {w : World} {A : Option Addr} {n cap : Nat} {b : Bs} (hn : b.length = n) (hmax : n ≤ 65536) (hcap : n ≤ cap) (hb : BAt w A b) :
    Calls Tryz.prog 7 #[.slice A n cap] w (RPaP w b) := by
  obtain ⟨W0, hW0⟩ : ∃ W, (w.alloc (.cells #[.slice none 0 0, .slice none 0 0, .slice none 0 0] 29)).alloc (.cells #[.slice none 0 0, .slice none 0 0, .slice none 0 0] 29) = W := ⟨_, rfl⟩
  have hT0 : Touch NoB w W0 := by rw [← hW0]; exact ((Touch.refl _ _).alloc _).alloc _
  have hb2 : B3 W0 29 w.heap.size (.slice none 0 0) (.slice none 0 0) (.slice none 0 0) := by rw [← hW0]; exact (B3.new w _ _ _ _ rfl).old _
  have hb3 : B3 W0 29 (w.heap.size + 1) (.slice none 0 0) (.slice none 0 0) (.slice none 0 0) := by rw [← hW0]; exact B3.new _ _ _ _ _ (by simp only [World.size_alloc])
  have hs0 : W0.heap.size = w.heap.size + 1 + 1 := by rw [← hW0]; simp only [World.size_alloc]
  have HB := Lib.hid (And.intro hT0 (And.intro hb2 (And.intro hb3 hs0)))
  unfold RPaP
  obtain ⟨PR, hPR⟩ : ∃ z, rparP b = z := ⟨_, rfl⟩
  rw [hPR]
  unfold rparP at hPR
  cases hl : lexL b with
  | bad p =>
    rw [hl] at hPR
    have HPR := Lib.hid hPR
    clear hPR
    have HC := Lib.hid (rtoks_bad hl hn hmax hcap (hb.touch hT0))
    clear hb hl hT0 hb2 hb3 hs0
    subst hW0
    go_enter Tryz.func7, Tryz.ntmps7
    go_wp2_with fail
    refine HC.out.mono ?_
    rintro r w1 ⟨rfl, hT⟩
    have HT := Lib.hid hT
    have hb2 : B3 w1 29 w.heap.size (.slice none 0 0) (.slice none 0 0) (.slice none 0 0) := (hT.block _ (blk_lt HB.out.2.1) (fun z => z)).trans HB.out.2.1
    have hb3 : B3 w1 29 (w.heap.size + 1) (.slice none 0 0) (.slice none 0 0) (.slice none 0 0) := (hT.block _ (blk_lt HB.out.2.2.1) (fun z => z)).trans HB.out.2.2.1
    obtain ⟨z0, z1, z2, zl⟩ := hb2.cells
    obtain ⟨f0, f1, f2⟩ := hb2.free
    obtain ⟨p0, p1, p2, pl⟩ := hb3.cells
    clear hT
    obtain ⟨Y, hY⟩ : ∃ Y, ((w1.setCell ⟨w.heap.size, 0, none⟩ (.slice none 0 0)).setCell ⟨w.heap.size, 1, none⟩ (.slice none 0 0)).setCell ⟨w.heap.size, 2, none⟩ (.slice none 0 0) = Y := ⟨_, rfl⟩
    have tY : Touch NoB w Y := by rw [← hY]; exact touch3 (HB.out.1.same HT.out) (.inr (Nat.le_refl _)) _ _ _
    have bY : B3 Y 29 w.heap.size (.slice none 0 0) (.slice none 0 0) (.slice none 0 0) := by rw [← hY]; exact ((hb2.set0 _).set1 _).set2 _
    obtain ⟨y0, y1, y2, yl⟩ := bY.cells
    have HY := Lib.hid tY
    clear tY bY hb3 hb2
    go_wp2
    exact bodyPost_ret (v := .tuple #[.agg #[.slice none 0 0, .slice none 0 0, .slice none 0 0], .int .i64 (p : Int), .int .i64 2]) (by simp [results, Tryz.results7, go_sem, y0, y1, y2]) rfl ⟨HY.out, by rw [← HPR.out]; exact rfl⟩
  | good ts =>
    rw [hl] at hPR
    obtain ⟨m, hm⟩ : ∃ m, ts.length = m := ⟨_, rfl⟩
    obtain ⟨L, hE, hL⟩ := lex_end hl
    have hm1 : m ≤ n + 1 := by have := pl_count b 0 ts (lex_places hl); omega
    have HC := Lib.hid (rtoks_good hl hm hn hmax hcap (hb.touch hT0))
    have HNK := Lib.hid (lex_oksT hl).2
    have HEN := Lib.hid (And.intro hE (And.intro hL hm))
    obtain ⟨R0, hR0⟩ : ∃ z, rprR ts (ts.length + 5) [] [] [] (0, 0) = z := ⟨_, rfl⟩
    unfold rprG at hPR
    simp only [hR0] at hPR
    have HPR := Lib.hid hPR
    clear hPR
    have HR0 := Lib.hid hR0
    clear hb hl hT0 hb2 hb3 hs0 hR0 hE
    subst hW0
    go_enter Tryz.func7, Tryz.ntmps7
    go_wp2_with fail
    refine HC.out.mono ?_
    rintro r w1 ⟨g, cp, rfl, htl, hT⟩
    have hs1 := hT.size
    rw [HB.out.2.2.2] at hs1
    obtain ⟨WE, hWE⟩ : ∃ W, w1.alloc (.cells #[.slice (some ⟨g, 0, none⟩) m cp, .int .i64 0, .int .i64 0, .int .i64 0] 50) = W := ⟨_, rfl⟩
    have tE : Touch NoB w1 WE := by rw [← hWE]; exact (Touch.refl _ _).alloc _
    have hgl := htl.lt
    have HGQ0 : Hid (g ≠ w.heap.size + 1) := Lib.hid (fun e => by
      have h3 : B3 w1 29 (w.heap.size + 1) (.slice none 0 0) (.slice none 0 0) (.slice none 0 0) := (hT.block _ (blk_lt HB.out.2.2.1) (fun z => z)).trans HB.out.2.2.1
      obtain ⟨t0, ht0⟩ : ∃ t, ts[0]? = some t := ⟨_, List.getElem?_eq_getElem (by omega)⟩
      have h4 := (htl.at_ 0 t0 ht0).1
      rw [e] at h4
      have h5 := h3.cells.1
      simp only [Nat.zero_mul] at h4
      rw [h5] at h4
      cases h4)
    have hse : WE.heap.size = w1.heap.size + 1 := by rw [← hWE]; simp only [World.size_alloc]
    have hrt : RT WE w1.heap.size g m cp ts L (0, 0) := ⟨⟨⟨0, by rw [← hWE]; exact alloc_blk _ _ _ rfl, fun h => absurd rfl h⟩, htl.touch tE, by omega, HEN.out.2.2, Nat.zero_le _, by omega⟩, HEN.out.1, Nat.zero_le _, by omega⟩
    have HTE := Lib.hid (HB.out.1.same (hT.same tE))
    have HB2 := Lib.hid (show B3 WE 29 w.heap.size (.slice none 0 0) (.slice none 0 0) (.slice none 0 0) from ((hT.same tE).block _ (blk_lt HB.out.2.1) (fun z => z)).trans HB.out.2.1)
    have hb3 : B3 WE 29 (w.heap.size + 1) (.slice none 0 0) (.slice none 0 0) (.slice none 0 0) := ((hT.same tE).block _ (blk_lt HB.out.2.2.1) (fun z => z)).trans HB.out.2.2.1
    have HR : Hid (∃ f a bm c τ b vk vt vd xs ds Q, PN WE WE w1.heap.size (w.heap.size + 1) Q a b c vk vt vd xs ds ∧ RT WE w1.heap.size g m cp ts L τ ∧ DP ts R0 m f a bm c τ b) := Lib.hid ⟨ts.length + 5, [], [], [], (0, 0), [], .slice none 0 0, .slice none 0 0, .slice none 0 0, [], [], fun _ => False, ⟨Touch.refl _ _, hb3, World.ownsRow_nil _ _ _ _, World.ownsRow_nil _ _ _ _, .nil, World.ownsRow_nil _ _ _ _, .nil, fun k hk => hk.elim⟩, hrt, HR0.out, ⟨by omega, fun _ => by have := HEN.out.2.2; omega⟩, by simp, by simp, ⟨by simp, fun _ => by simp⟩, rfl, fun _ => rfl⟩
    have HTL := Lib.hid (htl.touch tE)
    clear htl hT tE hrt hb3 HC HR0
    go_wp2_with fail
    go_loopw [] (fun wr => ∃ f a bm c τ b vk vt vd xs ds Q, PN WE wr w1.heap.size (w.heap.size + 1) Q a b c vk vt vd xs ds ∧ RT wr w1.heap.size g m cp ts L τ ∧ DP ts R0 m f a bm c τ b) (fun wr => meas2 w1.heap.size m wr)
    case atStart => first | exact HR.out | (rw [hWE]; exact HR.out)
    case round =>
      clear HR hWE
      obtain ⟨f, a, bm, c, τ, b, vk, vt, vd, xs, ds, Q, hR⟩ := hrel
      obtain ⟨A1, kp1, rfl, hc1, hc2⟩ := row_any hR.1.rk
      obtain ⟨A2, kp2, rfl, hd1, hd2⟩ := row_any hR.1.rt
      obtain ⟨A3, kp3, rfl, he1, he2⟩ := row_any hR.1.rd
      obtain ⟨c1, c2, cl⟩ := hR.2.1.cells
      obtain ⟨f1, rfl⟩ : ∃ f1, f = f1 + 1 := ⟨f - 1, by have := hR.2.2.fu.1; omega⟩
      have hs9 := hR.1.t.size
      have hgp : w1.heap.size < WE.heap.size := by omega
      have hqg : w.heap.size + 1 ≠ w1.heap.size := by omega
      have hq3 : w.heap.size + 1 < WE.heap.size := by omega
      have HR := Lib.hid hR
      clear hR
      have HGQ : Hid (g ≠ w.heap.size + 1) := HGQ0
      by_cases he : τ.2 = 0
      · have hee : ((τ.2 : Int) == 0) = true := by rw [he]; rfl
        have HI := Lib.hid (rnow_any HR.out.2.1.rs)
        have hnx : nxt ts τ.1 0 = nxS ts τ := by unfold nxS; rw [he]
        rw [hnx] at HI
        obtain ⟨tk, htk⟩ : ∃ z, nxS ts τ = z := ⟨_, rfl⟩
        rw [htk] at HI
        obtain ⟨k0, nn, pl, tx⟩ := tk
        have hk0 : (nxS ts τ).kd = k0 := by rw [htk]
        simp only at HI
        obtain ⟨sx, hsx⟩ : ∃ z, bs tx = z := ⟨_, rfl⟩
        rw [hsx] at HI
        clear hnx htk hsx
        by_cases hk : k0 = 0
        · have hne : ((k0 : Int) != 0) = false := by rw [hk]; rfl
          go_wp2_with fail
          refine HI.out.mono ?_
          rintro x V4 ⟨rfl, hT4⟩
          have hst : ¬ (τ.2 = 0 ∧ (nxS ts τ).kd ≠ 0) := fun e => e.2 (by rw [hk0]; exact hk)
          have hR1 : R0 = ((a, bm, c), τ) := by have := HR.out.2.2.md; rw [rprR_stop hst] at this; exact this.symm
          have hbm : b = bm := HR.out.2.2.ok he
          subst hbm
          have hez : ((τ.2 : Int) != 0) = false := by rw [he]; rfl
          have HPN := Lib.hid (HR.out.1.go (Touch.anyB (F := AtB w1.heap.size) hT4) hgp hqg)
          have hrt := (HR.out.2.1.touch hT4)
          obtain ⟨bad, hbk, hbad⟩ := hrt.rs.blk
          have d1 := cell_blk hbk 1
          have d2 := cell_blk hbk 2
          have d3 := cell_blk hbk 3
          have d4 := blk_lt hbk
          have hb2 : B3 V4 29 w.heap.size (.slice none 0 0) (.slice none 0 0) (.slice none 0 0) := (HPN.out.t.block _ (by omega) (fun e => by unfold At2 at e; omega)).trans HB2.out
          obtain ⟨z0, z1, z2, zl⟩ := hb2.cells
          obtain ⟨f0, f1, f2⟩ := hb2.free
          obtain ⟨y0, y1, y2, yl⟩ := HPN.out.b3.cells
          have HRR := Lib.hid (And.intro hR1 he)
          have hwg : w.heap.size ≤ w1.heap.size := by omega
          obtain ⟨Y, hY⟩ : ∃ Y, ((V4.setCell ⟨w.heap.size, 0, none⟩ (.slice A1 a.length kp1)).setCell ⟨w.heap.size, 1, none⟩ (.slice A2 b.length kp2)).setCell ⟨w.heap.size, 2, none⟩ (.slice A3 c.length kp3) = Y := ⟨_, rfl⟩
          have hPY := pn_out HPN.out HTE.out hwg (by omega) (by omega) (.slice A1 a.length kp1) (.slice A2 b.length kp2) (.slice A3 c.length kp3)
          simp only at hPY
          rw [hY] at hPY
          have bY : B3 Y 29 w.heap.size (.slice A1 a.length kp1) (.slice A2 b.length kp2) (.slice A3 c.length kp3) := by rw [← hY]; exact ((hb2.set0 _).set1 _).set2 _
          obtain ⟨u0, u1, u2, ul⟩ := bY.cells
          have HPY := Lib.hid hPY
          clear hPY bY hst hR1 hrt hbk hbad hb2 HI HR hT4 hee hne hk0
          go_wp2
          exact bodyPost_ret (v := .tuple #[.agg #[.slice A1 a.length kp1, .slice A2 b.length kp2, .slice A3 c.length kp3], .int .i64 (n : Int), .int .i64 0]) (by simp [results, Tryz.results7, go_sem, u0, u1, u2]) rfl (by
            have h1 : PR = .ok ⟨a, b, c⟩ := by
              have h2 := HPR.out
              rw [HRR.out.1] at h2
              simp only at h2
              rw [if_pos HRR.out.2] at h2
              exact h2.symm
            refine ⟨HPY.out.2.1, ?_⟩
            rw [h1]
            exact ⟨_, _, _, by rw [hn], HPY.out.1, HPY.out.2.2⟩)
        · have hne : ((k0 : Int) != 0) = true := by simp; omega
          have HMD := Lib.hid (show τ.2 = 0 ∧ (nxS ts τ).kd ≠ 0 from ⟨he, by rw [hk0]; exact hk⟩)
          obtain ⟨N, hN⟩ : ∃ z, a.length = z := ⟨_, rfl⟩
          obtain ⟨M, hM⟩ : ∃ z, b.length = z := ⟨_, rfl⟩
          obtain ⟨K, hK⟩ : ∃ z, c.length = z := ⟨_, rfl⟩
          have hN8 : N ≤ 100 := by rw [← hN]; exact HR.out.2.2.la
          have hM8 : M ≤ 100 := by rw [← hM]; exact HR.out.2.2.lb
          have hK8 : K ≤ 100 := by rw [← hK]; exact HR.out.2.2.lc.2 he
          rw [hN] at hc1
          rw [hM] at hd1
          rw [hK] at he1
          have HN := Lib.hid hN
          have HM := Lib.hid hM
          have HK := Lib.hid hK
          clear hN hM hK hk0 hk
          go_wp2_with fail
          refine HI.out.mono ?_
          rintro x V4 ⟨rfl, hT4⟩
          have HP := Lib.hid (HR.out.2.1.touch hT4)
          have HT := Lib.hid (Touch.anyB (F := AtB w1.heap.size) hT4)
          clear hT4 HI
          cases hn : isS ts keyB τ with
          | true =>
            have hm : isS ts treeB τ = false := isS_other hn (by decide)
            have hg : isS ts domB τ = false := isS_other hn (by decide)
            by_cases h8 : 100 ≤ N
            · have hge : decide ((100 : Int) ≤ (N : Int)) = true := by simp; omega
              have HI := Lib.hid (t_is HP.out [107, 101, 121] he)
              rw [show isS ts [107, 101, 121] τ = true from hn] at HI
              go_wp2_with fail
              refine HI.out.mono ?_
              rintro x V5 ⟨rfl, hT⟩
              have HP := Lib.hid (HP.out.touch hT)
              have HT := Lib.hid (HT.out.same (Touch.anyB (F := AtB w1.heap.size) hT))
              clear hT HI
              obtain ⟨y0, y1, y2, yl⟩ := (HR.out.1.go HT.out hgp hqg).b3.cells
              rw [HN.out] at y0
              rw [HM.out] at y1
              rw [HK.out] at y2
              have HF := Lib.hid (t_fail HP.out 9)
              go_wp2_with fail
              refine HF.out.mono ?_
              rintro x V6 ⟨rfl, hp, hT⟩
              have hbad : (failS 9 τ).2 ≠ 0 := failS_bad (by decide) _
              have hmd : rprR ts f1 a bm c (failS 9 τ) = R0 := by have := HR.out.2.2.md; rw [rprR_many HMD.out (.inl ⟨hn, by rw [HN.out]; exact h8⟩)] at this; exact this
              have HA := Lib.hid (And.intro (HR.out.1.go (HT.out.same hT) hgp hqg) (And.intro hp (DP.mk hmd (HR.out.2.2.fu.stop he hbad) HR.out.2.2.la HR.out.2.2.lb ⟨HR.out.2.2.lc.1, fun e => absurd e hbad⟩ HR.out.2.2.ln (fun e => absurd e hbad))))
              have HME := Lib.hid (meas2_lt HR.out.2.1 hp he (.inr ⟨hbad, Nat.le_refl _⟩))
              clear hp hT hbad hmd
              go_wp2
              go_roundw
              case rel => exact ⟨_, _, _, _, _, _, _, _, _, _, _, _, HA.out⟩
              case measure => exact HME.out
            · have hge : decide ((100 : Int) ≤ (N : Int)) = false := by simp; omega
              have HI := Lib.hid (t_is HP.out [107, 101, 121] he)
              rw [show isS ts [107, 101, 121] τ = true from hn] at HI
              go_wp2_with fail
              refine HI.out.mono ?_
              rintro x V5 ⟨rfl, hT⟩
              have HP := Lib.hid (HP.out.touch hT)
              have HT := Lib.hid (HT.out.same (Touch.anyB (F := AtB w1.heap.size) hT))
              clear hT HI
              obtain ⟨y0, y1, y2, yl⟩ := (HR.out.1.go HT.out hgp hqg).b3.cells
              rw [HN.out] at y0
              rw [HM.out] at y1
              rw [HK.out] at y2
              have HI := Lib.hid (t_is HP.out [116, 114, 101, 101] he)
              rw [show isS ts [116, 114, 101, 101] τ = false from hm] at HI
              go_wp2_with fail
              refine HI.out.mono ?_
              rintro x V51 ⟨rfl, hT⟩
              have HP := Lib.hid (HP.out.touch hT)
              have HT := Lib.hid (HT.out.same (Touch.anyB (F := AtB w1.heap.size) hT))
              clear hT HI
              have HI := Lib.hid (t_is HP.out [100, 111, 109, 97, 105, 110] he)
              rw [show isS ts [100, 111, 109, 97, 105, 110] τ = false from hg] at HI
              go_wp2_with fail
              refine HI.out.mono ?_
              rintro x V52 ⟨rfl, hT⟩
              have HP := Lib.hid (HP.out.touch hT)
              have HT := Lib.hid (HT.out.same (Touch.anyB (F := AtB w1.heap.size) hT))
              clear hT HI
              clear y0 y1 y2 yl hge
              have HC := Lib.hid (t_take HP.out [107, 101, 121])
              rw [show isS ts [107, 101, 121] τ = true from hn] at HC
              go_wp2_with fail
              refine HC.out.mono ?_
              rintro x V7 ⟨rfl, hp, hT⟩
              have HT := Lib.hid (HT.out.same hT)
              obtain ⟨tn, htn⟩ : ∃ z, acS ts keyB τ = z := ⟨_, rfl⟩
              have ht1 : tn.1 = τ.1 + 1 := by rw [← htn, acS_yes hn]
              have hp : RT V7 w1.heap.size g m cp ts L tn := by rw [← htn]; exact hp
              have HP := Lib.hid hp
              have hmd : rprR ts f1 (a ++ [rkeV ts tn]) bm c (rkeS ts tn) = R0 := by have := HR.out.2.2.md; rw [rprR_key HMD.out hn (by rw [HN.out]; omega), htn] at this; exact this
              obtain ⟨cv, hcv⟩ : ∃ z, rkeV ts tn = z := ⟨_, rfl⟩
              obtain ⟨cs, hcs⟩ : ∃ z, rkeS ts tn = z := ⟨_, rfl⟩
              have hge : tn.1 ≤ cs.1 := by rw [← hcs]; exact rkeS_ge ts tn
              have HCD := Lib.hid (fun (W : World) (q : RT W w1.heap.size g m cp ts L tn) => rkey_any q q.rs.tl.lt)
              rw [hcv, hcs] at HCD hmd
              obtain ⟨cnm, hcnm⟩ : ∃ z, bs cv.nm = z := ⟨_, rfl⟩
              rw [hcnm] at HCD
              have HCV := Lib.hid hcnm
              have hge2 : τ.1 + 1 ≤ cs.1 := by omega
              have HDQ := Lib.hid (show DP ts R0 m f1 (a ++ [cv]) bm c cs b from ⟨hmd, HR.out.2.2.fu.next he (by have := HR.out.2.1.le; have := HR.out.2.1.ln; omega) hge2, by rw [List.length_append, HN.out]; simp; omega, HR.out.2.2.lb, ⟨HR.out.2.2.lc.1, fun _ => HR.out.2.2.lc.2 he⟩, HR.out.2.2.ln, fun _ => HR.out.2.2.ok he⟩)
              have HGE := Lib.hid hge2
              have HE0 := Lib.hid he
              have HD := Lib.hid (HR.out.1.go HT.out hgp hqg)
              have hs7 := HT.out.size
              obtain ⟨i0, hi0, hz0, hz1', hz2'⟩ := info_key'
              unfold maxLen at hc2
              obtain ⟨q0, q1, q2, ql⟩ := HD.out.b3.cells
              rw [HN.out] at q0
              obtain ⟨g0, g1, g2⟩ := HD.out.b3.free
              clear hp hT hcv hcs hcnm hmd htn ht1 hge hge2 HC c1 c2 hee hm hn he hg hne
              go_wp2_with fail
              go_region_law? (first
                | (go_simp; go_at_call 17
                   refine (HCD.out _ (HP.out.touch (Touch.refl _ _).drew)).mono ?_
                   rintro r w3 ⟨rfl, hp, hT0⟩
                   have hT := (Touch.refl (AtB w1.heap.size) V7).drew.same hT0
                   have HD3 := Lib.hid (HD.out.go hT hgp hqg)
                   obtain ⟨j0, j1, j2, jl⟩ := HD3.out.b3.cells
                   rw [HN.out] at j0
                   obtain ⟨l0, l1, l2⟩ := HD3.out.b3.free
                   have HX3 := Lib.hid (And.intro hp hT)
                   have HRG := Lib.hid HD3.out.rk
                   rw [HN.out] at HRG
                   clear hp hT0 hT)
                | (refine step_append_lies _ rfl (.tmp 80) (.tmp 83) 25 rfl WE.heap.size 57 i0 (.agg #[.string ⟨#[]⟩, .int .i64 0, .bool false]) 3 32 Tryz.underlying25 hi0 hz0 hz1' hz2' rfl (by decide) (.slice A1 N kp1) N (kyC a) (by simp [Act.eval]) (by exact (HRG.out.alloc _)) ⟨w3.heap.size, 0, none⟩ 1 1 [.string cnm, .int .i64 (cv.kd : Int), .bool cv.sh] (by simp [Act.eval]) rfl (by exact World.news_of_block (cs := #[.string cnm, .int .i64 (cv.kd : Int), .bool cv.sh]) (alloc_blk w3 _ 57 rfl)) (by intro u hu; simp at hu; rcases hu with rfl | rfl | rfl <;> rfl) (by decide) (by unfold maxLen; omega) (by omega) (by have := HX3.out.2.size; simp only [World.size_alloc]; omega) (w3.heap.size + 1) (by simp) ?_
                   intro gd cap2 wx hown hgrow hat hlt
                   have TR : Touch (fun k9 => (Value.slice A1 N kp1).ownBlock = some k9) w3 wx := ((Touch.refl _ w3).alloc _).grown hgrow (fun _ e => .inl e)
                   have hat' : (Value.slice A1 N kp1).ownBlock = some gd ∨ w3.heap.size ≤ gd := hat.elim .inl (fun e => .inr (by omega))
                   have hbx := HD3.out.b3.goR TR (row_ne HRG.out HD3.out.b3 (by decide))
                   obtain ⟨k0, k1', k2', kl⟩ := hbx.cells
                   rw [HN.out] at k0
                   obtain ⟨m0, m1, m2⟩ := hbx.free
                   have hr8 := (HX3.out.1.row TR (fun e => by have := row_base HRG.out _ e; omega) (fun e => by have := row_base HRG.out _ e; omega)).row ((Touch.refl (fun b => b = w.heap.size + 1) wx).setCell (p := ⟨w.heap.size + 1, 0, none⟩) (.inl rfl) (.slice (some ⟨gd, 0, none⟩) (N + 1) cap2)) (fun e => by omega) (fun e => HGQ.out e)
                   have hA : PN WE (wx.setCell ⟨w.heap.size + 1, 0, none⟩ (.slice (some ⟨gd, 0, none⟩) (N + 1) cap2)) w1.heap.size (w.heap.size + 1) (fun k => (Q k ∨ (wr.heap.size ≤ k ∧ k < V7.heap.size)) ∨ (V7.heap.size ≤ k ∧ k < w3.heap.size)) (a ++ [cv]) b c (.slice (some ⟨gd, 0, none⟩) (N + 1) cap2) (.slice A2 b.length kp2) (.slice A3 c.length kp3) xs ds := by
                     have hown := hown
                     have TR := TR
                     have hat := hat'
                     rw [← HCV.out] at hown
                     rw [← HN.out] at hown TR hat ⊢
                     exact HD3.out.addK hq3 TR hown hat
                   have HA := Lib.hid (And.intro hA (And.intro hr8 HDQ.out))
                   have HME := Lib.hid (meas2_lt HR.out.2.1 hr8 HE0.out (.inl HGE.out))
                   clear hown hgrow hat TR hbx hA hr8 hat'))
              all_goals
                go_wp2
                go_roundw
                case rel => exact ⟨_, _, _, _, _, _, _, _, _, _, _, _, HA.out⟩
                case measure => exact HME.out
          | false =>
            have HI := Lib.hid (t_is HP.out [107, 101, 121] he)
            rw [show isS ts [107, 101, 121] τ = false from hn] at HI
            go_wp2_with fail
            refine HI.out.mono ?_
            rintro x V5 ⟨rfl, hT⟩
            have HP := Lib.hid (HP.out.touch hT)
            have HT := Lib.hid (HT.out.same (Touch.anyB (F := AtB w1.heap.size) hT))
            clear hT HI
            cases hm : isS ts treeB τ with
            | true =>
              have hg : isS ts domB τ = false := isS_other hm (by decide)
              by_cases h8 : 100 ≤ M
              · have hge : decide ((100 : Int) ≤ (M : Int)) = true := by simp; omega
                have HI := Lib.hid (t_is HP.out [116, 114, 101, 101] he)
                rw [show isS ts [116, 114, 101, 101] τ = true from hm] at HI
                go_wp2_with fail
                refine HI.out.mono ?_
                rintro x V51 ⟨rfl, hT⟩
                have HP := Lib.hid (HP.out.touch hT)
                have HT := Lib.hid (HT.out.same (Touch.anyB (F := AtB w1.heap.size) hT))
                clear hT HI
                obtain ⟨y0, y1, y2, yl⟩ := (HR.out.1.go HT.out hgp hqg).b3.cells
                rw [HN.out] at y0
                rw [HM.out] at y1
                rw [HK.out] at y2
                have HF := Lib.hid (t_fail HP.out 9)
                go_wp2_with fail
                refine HF.out.mono ?_
                rintro x V6 ⟨rfl, hp, hT⟩
                have hbad : (failS 9 τ).2 ≠ 0 := failS_bad (by decide) _
                have hmd : rprR ts f1 a bm c (failS 9 τ) = R0 := by have := HR.out.2.2.md; rw [rprR_many HMD.out (.inr (.inl ⟨hm, by rw [← HR.out.2.2.ln, HM.out]; exact h8⟩))] at this; exact this
                have HA := Lib.hid (And.intro (HR.out.1.go (HT.out.same hT) hgp hqg) (And.intro hp (DP.mk hmd (HR.out.2.2.fu.stop he hbad) HR.out.2.2.la HR.out.2.2.lb ⟨HR.out.2.2.lc.1, fun e => absurd e hbad⟩ HR.out.2.2.ln (fun e => absurd e hbad))))
                have HME := Lib.hid (meas2_lt HR.out.2.1 hp he (.inr ⟨hbad, Nat.le_refl _⟩))
                clear hp hT hbad hmd
                go_wp2
                go_roundw
                case rel => exact ⟨_, _, _, _, _, _, _, _, _, _, _, _, HA.out⟩
                case measure => exact HME.out
              · have hge : decide ((100 : Int) ≤ (M : Int)) = false := by simp; omega
                have HI := Lib.hid (t_is HP.out [116, 114, 101, 101] he)
                rw [show isS ts [116, 114, 101, 101] τ = true from hm] at HI
                go_wp2_with fail
                refine HI.out.mono ?_
                rintro x V51 ⟨rfl, hT⟩
                have HP := Lib.hid (HP.out.touch hT)
                have HT := Lib.hid (HT.out.same (Touch.anyB (F := AtB w1.heap.size) hT))
                clear hT HI
                obtain ⟨y0, y1, y2, yl⟩ := (HR.out.1.go HT.out hgp hqg).b3.cells
                rw [HN.out] at y0
                rw [HM.out] at y1
                rw [HK.out] at y2
                have HI := Lib.hid (t_is HP.out [100, 111, 109, 97, 105, 110] he)
                rw [show isS ts [100, 111, 109, 97, 105, 110] τ = false from hg] at HI
                go_wp2_with fail
                refine HI.out.mono ?_
                rintro x V52 ⟨rfl, hT⟩
                have HP := Lib.hid (HP.out.touch hT)
                have HT := Lib.hid (HT.out.same (Touch.anyB (F := AtB w1.heap.size) hT))
                clear hT HI
                clear y0 y1 y2 yl hge
                have HC := Lib.hid (t_no HP.out [107, 101, 121] hn)
                go_wp2_with fail
                refine HC.out.mono ?_
                rintro x V6 ⟨rfl, hp, hT⟩
                have HP := Lib.hid hp
                have HT := Lib.hid (HT.out.same (Touch.anyB (F := AtB w1.heap.size) hT))
                clear hp hT HC
                have HC := Lib.hid (t_take HP.out [116, 114, 101, 101])
                rw [show isS ts [116, 114, 101, 101] τ = true from hm] at HC
                go_wp2_with fail
                refine HC.out.mono ?_
                rintro x V7 ⟨rfl, hp, hT⟩
                have HT := Lib.hid (HT.out.same hT)
                obtain ⟨tn, htn⟩ : ∃ z, acS ts treeB τ = z := ⟨_, rfl⟩
                have ht1 : tn.1 = τ.1 + 1 := by rw [← htn, acS_yes hm]
                have hp : RT V7 w1.heap.size g m cp ts L tn := by rw [← htn]; exact hp
                have hmd : rprR ts f1 a (bm ++ [rtrV ts tn]) c (rtrS ts tn) = R0 := by have := HR.out.2.2.md; rw [rprR_tree HMD.out hm (by rw [← HR.out.2.2.ln, HM.out]; omega), htn] at this; exact this
                have hLl : L ≤ ts.length := by have := HR.out.2.1.ln; have := HEN.out.2.2; omega
                have hge : tn.1 ≤ (rtrS ts tn).1 := rtrS_ge HR.out.2.1.en hLl (by rw [ht1]; exact isS_in HR.out.2.1.en hm HR.out.2.1.le)
                obtain ⟨v1, hv1⟩ : ∃ z, naV ts tn = z := ⟨_, rfl⟩
                obtain ⟨s1, hs1⟩ : ∃ z, naS ts tn = z := ⟨_, rfl⟩
                obtain ⟨s2, hs2⟩ : ∃ z, exS ts [123] s1 = z := ⟨_, rfl⟩
                obtain ⟨nd, hnd⟩ : ∃ z, (rnd ts 40 s2).1 = z := ⟨_, rfl⟩
                obtain ⟨s3, hs3⟩ : ∃ z, (rnd ts 40 s2).2 = z := ⟨_, rfl⟩
                obtain ⟨s4, hs4⟩ : ∃ z, exS ts [125] s3 = z := ⟨_, rfl⟩
                have hrS : rtrS ts tn = s4 := by unfold rtrS; rw [hs1, hs2, hs3, hs4]
                have hrV : rtrV ts tn = ⟨v1, nd⟩ := by unfold rtrV; rw [hv1, hs1, hs2, hnd]
                rw [hrS, hrV] at hmd
                rw [hrS, ht1] at hge
                have H1 := Lib.hid (t_name hp)
                rw [hv1, hs1] at H1
                obtain ⟨n1, hn1⟩ : ∃ z, bs v1 = z := ⟨_, rfl⟩
                rw [hn1] at H1
                have H2 : Hid (∀ (W : World), RT W w1.heap.size g m cp ts L s1 → Calls Tryz.prog 19 #[.pointer (some ⟨w1.heap.size, 0, none⟩), .string ⟨#[123]⟩] W fun x w' => x = .returned (.tuple #[]) ∧ RT w' w1.heap.size g m cp ts L s2 ∧ Touch (AtB w1.heap.size) W w') := Lib.hid (fun W q => by rw [← hs2]; exact t_want q [123])
                have H3 := Lib.hid (fun (W : World) (q : RT W w1.heap.size g m cp ts L s2) => rnode_top HNK.out W s2 q q.rs.tl.lt)
                have H4 : Hid (∀ (W : World), RT W w1.heap.size g m cp ts L s3 → Calls Tryz.prog 19 #[.pointer (some ⟨w1.heap.size, 0, none⟩), .string ⟨#[125]⟩] W fun x w' => x = .returned (.tuple #[]) ∧ RT w' w1.heap.size g m cp ts L s4 ∧ Touch (AtB w1.heap.size) W w') := Lib.hid (fun W q => by rw [← hs4]; exact t_want q [125])
                have hkeep : s4.2 = 0 → s3.2 = 0 := fun e => Classical.byContradiction (fun h => by have h2 := exS_keep (ts := ts) (s := [125]) h; rw [hs4] at h2; exact h2 e)
                have HNM := Lib.hid (And.intro hn1 (And.intro hkeep (And.intro hmd (And.intro hnd hs3))))
                have HGE := Lib.hid hge
                have HE0 := Lib.hid he
                have hs7 := HT.out.size
                obtain ⟨i0', hi0, hz0, hz1', hz2'⟩ := info_tree'
                unfold maxLen at hd2
                clear hp hT hv1 hs1 hs2 hnd hs3 hs4 hrS hrV hmd hge htn ht1 hLl HC c1 c2 hee hm hn he hg hne hn1 hkeep
                go_wp2_with fail
                refine H1.out.mono ?_
                rintro x w8 ⟨rfl, hp, hT⟩
                obtain ⟨X, hX⟩ : ∃ X, w8.alloc (.cells #[.string n1, .int .i64 0, .int .i64 0, .int .i64 0, .string ⟨#[]⟩, .int .i64 0, .int .i64 0, .string ⟨#[]⟩, .slice none 0 0, .slice none 0 0, .slice none 0 0] 64) = X := ⟨_, rfl⟩
                have tx : Touch NoB w8 X := by rw [← hX]; exact (Touch.refl _ _).alloc _
                obtain ⟨q9, hq9⟩ : ∃ q9, w8.heap.size = q9 := ⟨_, rfl⟩
                have hsq : V7.heap.size ≤ q9 := by have := hT.size; omega
                have hgq : w1.heap.size < q9 := by have := HR.out.1.t.size; omega
                have hgl9 : g < q9 := by rw [← hq9]; exact hp.rs.tl.lt
                have HB3 := Lib.hid (show TQ X q9 #[.string n1, .int .i64 0, .int .i64 0, .int .i64 0, .string ⟨#[]⟩, .int .i64 0, .int .i64 0, .string ⟨#[]⟩, .slice none 0 0, .slice none 0 0, .slice none 0 0] by rw [← hX]; exact alloc_blk _ _ _ hq9)
                have HT := Lib.hid (HT.out.same (hT.same (Touch.anyB tx)))
                have HP := Lib.hid (hp.touch tx)
                clear hp hT tx
                subst hX
                have HC := Lib.hid (H2.out _ HP.out)
                go_wp2_with fail
                refine HC.out.mono ?_
                rintro x w9 ⟨rfl, hp, hT⟩
                have HB3 := Lib.hid (HB3.out.touch hT (by unfold AtB; omega))
                have HT := Lib.hid (HT.out.same hT)
                have hq92 := blk_lt HB3.out
                have HC := Lib.hid (H3.out _ hp)
                clear hp hT
                go_wp2_with fail
                refine HC.out.mono ?_
                rintro x w10 ⟨hT, hp, y, e0, e1, e2, xA, xm, xc, kA, kc, wA, wc, rfl, hnt, hy⟩
                have HB3 := Lib.hid (HB3.out.touch hT (by unfold AtB; omega))
                have HT := Lib.hid (HT.out.same hT)
                have HNT := Lib.hid (NT.via (R := fun b => q9 < b) (fun b h1 _ => by omega) _ _ _ hnt)
                have HY := Lib.hid hy
                have hp : RT w10 w1.heap.size g m cp ts L s3 := by rw [← HNM.out.2.2.2.2]; exact hp
                have HP := Lib.hid hp
                clear hp hT hnt hq92 hy
                have hb3 : w10.heap[q9]? = _ := HB3.out
                have ⟨i0, i1, i2, i3, i4, i5, i6, i7, i8, i9, i10⟩ : w10.cell? ⟨q9, 0, none⟩ = some (.string n1) ∧ w10.cell? ⟨q9, 1, none⟩ = some (.int .i64 0) ∧ w10.cell? ⟨q9, 2, none⟩ = some (.int .i64 0) ∧ w10.cell? ⟨q9, 3, none⟩ = some (.int .i64 0) ∧ w10.cell? ⟨q9, 4, none⟩ = some (.string ⟨#[]⟩) ∧ w10.cell? ⟨q9, 5, none⟩ = some (.int .i64 0) ∧ w10.cell? ⟨q9, 6, none⟩ = some (.int .i64 0) ∧ w10.cell? ⟨q9, 7, none⟩ = some (.string ⟨#[]⟩) ∧ w10.cell? ⟨q9, 8, none⟩ = some (.slice none 0 0) ∧ w10.cell? ⟨q9, 9, none⟩ = some (.slice none 0 0) ∧ w10.cell? ⟨q9, 10, none⟩ = some (.slice none 0 0) := ⟨cell_blk hb3 0, cell_blk hb3 1, cell_blk hb3 2, cell_blk hb3 3, cell_blk hb3 4, cell_blk hb3 5, cell_blk hb3 6, cell_blk hb3 7, cell_blk hb3 8, cell_blk hb3 9, cell_blk hb3 10⟩
                have ⟨z0, z1, z2, z3, z4, z5, z6, z7, z8, z9, z10⟩ : w10.frozen? ⟨q9, 0, none⟩ = false ∧ w10.frozen? ⟨q9, 1, none⟩ = false ∧ w10.frozen? ⟨q9, 2, none⟩ = false ∧ w10.frozen? ⟨q9, 3, none⟩ = false ∧ w10.frozen? ⟨q9, 4, none⟩ = false ∧ w10.frozen? ⟨q9, 5, none⟩ = false ∧ w10.frozen? ⟨q9, 6, none⟩ = false ∧ w10.frozen? ⟨q9, 7, none⟩ = false ∧ w10.frozen? ⟨q9, 8, none⟩ = false ∧ w10.frozen? ⟨q9, 9, none⟩ = false ∧ w10.frozen? ⟨q9, 10, none⟩ = false := ⟨free_blk hb3 0, free_blk hb3 1, free_blk hb3 2, free_blk hb3 3, free_blk hb3 4, free_blk hb3 5, free_blk hb3 6, free_blk hb3 7, free_blk hb3 8, free_blk hb3 9, free_blk hb3 10⟩
                obtain ⟨V, hV⟩ : ∃ V, setL w10 q9 1 [.int .i64 (y.kd : Int), .int .i64 (y.a : Int), .int .i64 (y.b : Int), .string (bs y.nm), .int .i64 e0, .int .i64 e1, .string e2, .slice xA xm xc, .slice kA y.ks.length kc, .slice wA y.ws.length wc] = V := ⟨_, rfl⟩
                have tV : Touch (fun b => b = q9) w10 V := by rw [← hV]; exact setL_touch _ _ _
                have bV := setL_blk (t := 64) (fr := (0, 0)) [.int .i64 (y.kd : Int), .int .i64 (y.a : Int), .int .i64 (y.b : Int), .string (bs y.nm), .int .i64 e0, .int .i64 e1, .string e2, .slice xA xm xc, .slice kA y.ks.length kc, .slice wA y.ws.length wc] [.int .i64 0, .int .i64 0, .int .i64 0, .string ⟨#[]⟩, .int .i64 0, .int .i64 0, .string ⟨#[]⟩, .slice none 0 0, .slice none 0 0, .slice none 0 0] [.string n1] w10 rfl hb3
                rw [show [Value.string n1].length = 1 from rfl, hV] at bV
                simp only [setL, Nat.reduceAdd] at hV
                have HB3 := Lib.hid (show TQ V q9 #[.string n1, .int .i64 (y.kd : Int), .int .i64 (y.a : Int), .int .i64 (y.b : Int), .string (bs y.nm), .int .i64 e0, .int .i64 e1, .string e2, .slice xA xm xc, .slice kA y.ks.length kc, .slice wA y.ws.length wc] from bV)
                have HNT := Lib.hid (NT.touch tV (fun b h1 => by omega) _ _ _ HNT.out)
                have HP := Lib.hid (HP.out.touchX tV hgq hgl9)
                have HT := Lib.hid (HT.out.trans tV (fun b hb => .inr (by omega)))
                clear hb3 tV bV
                have HC := Lib.hid (H4.out _ HP.out)
                go_wp2_with fail
                refine HC.out.mono ?_
                rintro x w11 ⟨rfl, hp, hT⟩
                have HB3 := Lib.hid (HB3.out.touch hT (by unfold AtB; omega))
                have HT := Lib.hid (HT.out.same hT)
                have HNT := Lib.hid (NT.touch hT (fun b h1 => by unfold AtB; omega) _ _ _ HNT.out)
                have HP := Lib.hid hp
                clear hp hT
                have hb3 : w11.heap[q9]? = _ := HB3.out
                clear i0 i1 i2 i3 i4 i5 i6 i7 i8 i9 i10 z0 z1 z2 z3 z4 z5 z6 z7 z8 z9 z10
                have ⟨i0, i1, i2, i3, i4, i5, i6, i7, i8, i9, i10⟩ : w11.cell? ⟨q9, 0, none⟩ = some (.string n1) ∧ w11.cell? ⟨q9, 1, none⟩ = some (.int .i64 (y.kd : Int)) ∧ w11.cell? ⟨q9, 2, none⟩ = some (.int .i64 (y.a : Int)) ∧ w11.cell? ⟨q9, 3, none⟩ = some (.int .i64 (y.b : Int)) ∧ w11.cell? ⟨q9, 4, none⟩ = some (.string (bs y.nm)) ∧ w11.cell? ⟨q9, 5, none⟩ = some (.int .i64 e0) ∧ w11.cell? ⟨q9, 6, none⟩ = some (.int .i64 e1) ∧ w11.cell? ⟨q9, 7, none⟩ = some (.string e2) ∧ w11.cell? ⟨q9, 8, none⟩ = some (.slice xA xm xc) ∧ w11.cell? ⟨q9, 9, none⟩ = some (.slice kA y.ks.length kc) ∧ w11.cell? ⟨q9, 10, none⟩ = some (.slice wA y.ws.length wc) := ⟨cell_blk hb3 0, cell_blk hb3 1, cell_blk hb3 2, cell_blk hb3 3, cell_blk hb3 4, cell_blk hb3 5, cell_blk hb3 6, cell_blk hb3 7, cell_blk hb3 8, cell_blk hb3 9, cell_blk hb3 10⟩
                have hq11 := blk_lt hb3
                clear hb3
                have HD3 := Lib.hid (HR.out.1.go HT.out hgp hqg)
                obtain ⟨j0, j1, j2, jl⟩ := HD3.out.b3.cells
                rw [HM.out] at j1
                obtain ⟨l0, l1, l2⟩ := HD3.out.b3.free
                have HRG := Lib.hid HD3.out.rt
                rw [HM.out] at HRG
                have hs11 := HT.out.size
                have htr : TrAt w11 (fun k => Q k ∨ (wr.heap.size ≤ k ∧ k < w11.heap.size)) ⟨v1, y⟩ [.string n1, .int .i64 (y.kd : Int), .int .i64 (y.a : Int), .int .i64 (y.b : Int), .string (bs y.nm), .int .i64 e0, .int .i64 e1, .string e2, .slice xA xm xc, .slice kA y.ks.length kc, .slice wA y.ws.length wc] := ⟨41, [.int .i64 (y.kd : Int), .int .i64 (y.a : Int), .int .i64 (y.b : Int), .string (bs y.nm), .int .i64 e0, .int .i64 e1, .string e2, .slice xA xm xc, .slice kA y.ks.length kc, .slice wA y.ws.length wc], by rw [HNM.out.1], NT.via (fun b h1 h2 => .inr ⟨by omega, h2⟩) _ _ _ HNT.out⟩
                have HTR := Lib.hid htr
                have hy2 : s3.2 = 0 → y = nd := fun e => by rw [← HNM.out.2.2.2.1]; exact HY.out (by rw [HNM.out.2.2.2.2]; exact e)
                have HDQ := Lib.hid (show DP ts R0 m f1 a (bm ++ [⟨v1, nd⟩]) c s4 (b ++ [⟨v1, y⟩]) from ⟨HNM.out.2.2.1, HR.out.2.2.fu.next HE0.out (by have := HR.out.2.1.le; have := HR.out.2.1.ln; omega) HGE.out, HR.out.2.2.la, by rw [List.length_append, HM.out]; simp; omega, ⟨HR.out.2.2.lc.1, fun _ => HR.out.2.2.lc.2 HE0.out⟩, by simp [HR.out.2.2.ln], fun e => by rw [HR.out.2.2.ok HE0.out, hy2 (HNM.out.2.1 e)]⟩)
                clear htr hy2
                go_wp2_with (at_builtin; refine wpList_append_lies _ rfl (.tmp 100) (.tmp 102) 26 rfl WE.heap.size 64 i0' (.agg #[.string ⟨#[]⟩, .int .i64 0, .int .i64 0, .int .i64 0, .string ⟨#[]⟩, .int .i64 0, .int .i64 0, .string ⟨#[]⟩, .slice none 0 0, .slice none 0 0, .slice none 0 0]) 11 160 Tryz.underlying26 hi0 hz0 hz1' hz2' rfl (by decide) (.slice A2 M kp2) M xs rfl ?c0 ⟨w11.heap.size, 0, none⟩ 1 1 [.string n1, .int .i64 (y.kd : Int), .int .i64 (y.a : Int), .int .i64 (y.b : Int), .string (bs y.nm), .int .i64 e0, .int .i64 e1, .string e2, .slice xA xm xc, .slice kA y.ks.length kc, .slice wA y.ws.length wc] rfl rfl ?c1 ?c2 (by decide) ?c3 ?c4 ?c5 (w11.heap.size + 1) ?c6 ?go)
                case c0 => exact HRG.out.alloc _
                case c1 => exact World.news_of_block (cs := #[.string n1, .int .i64 (y.kd : Int), .int .i64 (y.a : Int), .int .i64 (y.b : Int), .string (bs y.nm), .int .i64 e0, .int .i64 e1, .string e2, .slice xA xm xc, .slice kA y.ks.length kc, .slice wA y.ws.length wc]) (alloc_blk w11 _ 64 rfl)
                case c2 => intro u hu; simp at hu; rcases hu with rfl | rfl | rfl | rfl | rfl | rfl | rfl | rfl | rfl | rfl | rfl <;> rfl
                case c3 => unfold maxLen; omega
                case c4 => omega
                case c5 => simp only [World.size_alloc]; omega
                case c6 => simp only [World.size_alloc]
                case go =>
                intro gd cap2 wx hown hgrow hat hlt
                have TR : Touch (fun k9 => (Value.slice A2 M kp2).ownBlock = some k9) w11 wx := ((Touch.refl _ w11).alloc _).grown hgrow (fun _ e => .inl e)
                have hat' : (Value.slice A2 M kp2).ownBlock = some gd ∨ w11.heap.size ≤ gd := hat.elim .inl (fun e => .inr (by omega))
                have hbx := HD3.out.b3.goR TR (row_ne HRG.out HD3.out.b3 (by decide))
                obtain ⟨k0, k1', k2', kl⟩ := hbx.cells
                rw [HM.out] at k1'
                obtain ⟨m0, m1, m2⟩ := hbx.free
                have hr8 := (HP.out.row TR (fun e => by have := row_base HRG.out _ e; omega) (fun e => by have := row_base HRG.out _ e; omega)).row ((Touch.refl (fun b => b = w.heap.size + 1) wx).setCell (p := ⟨w.heap.size + 1, 1, none⟩) (.inl rfl) (.slice (some ⟨gd, 0, none⟩) (M + 1) cap2)) (fun e => by omega) (fun e => HGQ.out e)
                have hA : PN WE (wx.setCell ⟨w.heap.size + 1, 1, none⟩ (.slice (some ⟨gd, 0, none⟩) (M + 1) cap2)) w1.heap.size (w.heap.size + 1) (fun k => Q k ∨ (wr.heap.size ≤ k ∧ k < w11.heap.size)) a (b ++ [⟨v1, y⟩]) c (.slice A1 a.length kp1) (.slice (some ⟨gd, 0, none⟩) (M + 1) cap2) (.slice A3 c.length kp3) (xs ++ [.string n1, .int .i64 (y.kd : Int), .int .i64 (y.a : Int), .int .i64 (y.b : Int), .string (bs y.nm), .int .i64 e0, .int .i64 e1, .string e2, .slice xA xm xc, .slice kA y.ks.length kc, .slice wA y.ws.length wc]) ds := by
                  have hown := hown
                  have TR := TR
                  have hat := hat'
                  rw [← HM.out] at hown TR hat ⊢
                  rw [← hse] at hown
                  exact HD3.out.addT hq3 HTR.out TR hown hat
                have HA := Lib.hid (And.intro hA (And.intro hr8 HDQ.out))
                have HME := Lib.hid (meas2_lt HR.out.2.1 hr8 HE0.out (.inl HGE.out))
                clear hown hgrow hat TR hbx hA hr8 hat'
                go_wp2
                go_roundw
                case rel => exact ⟨_, _, _, _, _, _, _, _, _, _, _, _, HA.out⟩
                case measure => exact HME.out
            | false =>
              have HI := Lib.hid (t_is HP.out [116, 114, 101, 101] he)
              rw [show isS ts [116, 114, 101, 101] τ = false from hm] at HI
              go_wp2_with fail
              refine HI.out.mono ?_
              rintro x V51 ⟨rfl, hT⟩
              have HP := Lib.hid (HP.out.touch hT)
              have HT := Lib.hid (HT.out.same (Touch.anyB (F := AtB w1.heap.size) hT))
              clear hT HI
              cases hg : isS ts domB τ with
              | true =>
                by_cases h8 : 100 ≤ K
                · have hge : decide ((100 : Int) ≤ (K : Int)) = true := by simp; omega
                  have HI := Lib.hid (t_is HP.out [100, 111, 109, 97, 105, 110] he)
                  rw [show isS ts [100, 111, 109, 97, 105, 110] τ = true from hg] at HI
                  go_wp2_with fail
                  refine HI.out.mono ?_
                  rintro x V52 ⟨rfl, hT⟩
                  have HP := Lib.hid (HP.out.touch hT)
                  have HT := Lib.hid (HT.out.same (Touch.anyB (F := AtB w1.heap.size) hT))
                  clear hT HI
                  obtain ⟨y0, y1, y2, yl⟩ := (HR.out.1.go HT.out hgp hqg).b3.cells
                  rw [HN.out] at y0
                  rw [HM.out] at y1
                  rw [HK.out] at y2
                  have HF := Lib.hid (t_fail HP.out 9)
                  go_wp2_with fail
                  refine HF.out.mono ?_
                  rintro x V6 ⟨rfl, hp, hT⟩
                  have hbad : (failS 9 τ).2 ≠ 0 := failS_bad (by decide) _
                  have hmd : rprR ts f1 a bm c (failS 9 τ) = R0 := by have := HR.out.2.2.md; rw [rprR_many HMD.out (.inr (.inr ⟨hg, by rw [HK.out]; exact h8⟩))] at this; exact this
                  have HA := Lib.hid (And.intro (HR.out.1.go (HT.out.same hT) hgp hqg) (And.intro hp (DP.mk hmd (HR.out.2.2.fu.stop he hbad) HR.out.2.2.la HR.out.2.2.lb ⟨HR.out.2.2.lc.1, fun e => absurd e hbad⟩ HR.out.2.2.ln (fun e => absurd e hbad))))
                  have HME := Lib.hid (meas2_lt HR.out.2.1 hp he (.inr ⟨hbad, Nat.le_refl _⟩))
                  clear hp hT hbad hmd
                  go_wp2
                  go_roundw
                  case rel => exact ⟨_, _, _, _, _, _, _, _, _, _, _, _, HA.out⟩
                  case measure => exact HME.out
                · have hge : decide ((100 : Int) ≤ (K : Int)) = false := by simp; omega
                  have HI := Lib.hid (t_is HP.out [100, 111, 109, 97, 105, 110] he)
                  rw [show isS ts [100, 111, 109, 97, 105, 110] τ = true from hg] at HI
                  go_wp2_with fail
                  refine HI.out.mono ?_
                  rintro x V52 ⟨rfl, hT⟩
                  have HP := Lib.hid (HP.out.touch hT)
                  have HT := Lib.hid (HT.out.same (Touch.anyB (F := AtB w1.heap.size) hT))
                  clear hT HI
                  obtain ⟨y0, y1, y2, yl⟩ := (HR.out.1.go HT.out hgp hqg).b3.cells
                  rw [HN.out] at y0
                  rw [HM.out] at y1
                  rw [HK.out] at y2
                  have hHG : τ.1 ≤ (rdoS ts (exS ts domB τ)).1 ∧ (τ.1 + 1 ≤ (rdoS ts (exS ts domB τ)).1 ∧ c.length < 100 ∨ (rdoS ts (exS ts domB τ)).2 ≠ 0) := ⟨Nat.le_trans (exS_ge ts domB τ) (rdoS_ge ts _), (.inl ⟨by have := exS_yes' hg; have := rdoS_ge ts (exS ts domB τ); omega, by rw [HK.out]; omega⟩)⟩
                  have hmd : rprR ts f1 a bm (c ++ [rdoV ts (exS ts domB τ)]) (rdoS ts (exS ts domB τ)) = R0 := by have := HR.out.2.2.md; rw [rprR_dom HMD.out hn hm (fun _ => by rw [HK.out]; omega)] at this; exact this
                  have HC := Lib.hid (t_no HP.out [107, 101, 121] hn)
                  go_wp2_with fail
                  refine HC.out.mono ?_
                  rintro x V6 ⟨rfl, hp, hT⟩
                  have HP := Lib.hid hp
                  have HT := Lib.hid (HT.out.same (Touch.anyB (F := AtB w1.heap.size) hT))
                  clear hp hT HC
                  have HC := Lib.hid (t_no HP.out [116, 114, 101, 101] hm)
                  go_wp2_with fail
                  refine HC.out.mono ?_
                  rintro x V61 ⟨rfl, hp, hT⟩
                  have HP := Lib.hid hp
                  have HT := Lib.hid (HT.out.same (Touch.anyB (F := AtB w1.heap.size) hT))
                  clear hp hT HC
                  have HC := Lib.hid (t_want HP.out [100, 111, 109, 97, 105, 110])
                  go_wp2_with fail
                  refine HC.out.mono ?_
                  rintro x V7 ⟨rfl, hp, hT⟩
                  have HT := Lib.hid (HT.out.same hT)
                  obtain ⟨tn, htn⟩ : ∃ z, exS ts domB τ = z := ⟨_, rfl⟩
                  have hp : RT V7 w1.heap.size g m cp ts L tn := by rw [← htn]; exact hp
                  have HP := Lib.hid hp
                  rw [htn] at hHG hmd
                  obtain ⟨cv, hcv⟩ : ∃ z, rdoV ts tn = z := ⟨_, rfl⟩
                  obtain ⟨cs, hcs⟩ : ∃ z, rdoS ts tn = z := ⟨_, rfl⟩
                  have HCD := Lib.hid (fun (W : World) (q : RT W w1.heap.size g m cp ts L tn) => rdomq_any HNK.out q)
                  rw [hcv, hcs] at HCD hmd
                  obtain ⟨cnm, hcnm⟩ : ∃ z, bs cv.nm = z := ⟨_, rfl⟩
                  unfold RDoQ at HCD
                  rw [hcnm] at HCD
                  have HCV := Lib.hid hcnm
                  rw [hcs] at hHG
                  have hc8 := HR.out.2.2.lc.2 he
                  have HDQ := Lib.hid (show DP ts R0 m f1 a bm (c ++ [cv]) cs b from ⟨hmd, by rcases hHG.2 with h | h; exact HR.out.2.2.fu.next he (by have := HR.out.2.1.le; have := HR.out.2.1.ln; omega) h.1; exact HR.out.2.2.fu.stop he h, HR.out.2.2.la, HR.out.2.2.lb, ⟨by simp; omega, fun e => by rcases hHG.2 with h | h; simp; omega; exact absurd e h⟩, HR.out.2.2.ln, fun _ => HR.out.2.2.ok he⟩)
                  have HGE := Lib.hid hHG
                  have HE0 := Lib.hid he
                  have HD := Lib.hid (HR.out.1.go HT.out hgp hqg)
                  have hs7 := HT.out.size
                  obtain ⟨i0, hi0, hz0, hz1', hz2'⟩ := info_dom'
                  unfold maxLen at he2
                  obtain ⟨q0, q1, q2, ql⟩ := HD.out.b3.cells
                  rw [HK.out] at q2
                  obtain ⟨g0, g1, g2⟩ := HD.out.b3.free
                  clear hp hT hcv hcs hcnm hmd htn hHG hc8 HC c1 c2 hee hm hn he hg hne
                  go_wp2_with fail
                  go_region_law? (first
                    | (go_simp; go_at_call 21
                       refine (HCD.out _ (HP.out.touch (Touch.refl _ _).drew)).mono ?_
                       rintro r w3 ⟨B1, n1, B2, n2, B3', n3, rfl, hdm, hp, hT0⟩
                       have hT := (Touch.refl (AtB w1.heap.size) V7).drew.same hT0
                       have HD3 := Lib.hid (HD.out.go hT hgp hqg)
                       have hdv : DmAt w3 (fun k => (Q k ∨ (wr.heap.size ≤ k ∧ k < V7.heap.size)) ∨ (V7.heap.size ≤ k ∧ k < w3.heap.size)) cv [.string cnm, .slice B1 cv.vars.length n1, .slice B2 cv.acts.length n2, .slice B3' cv.goal.length n3] := DmAt.via (Q := fun k => V7.heap.size ≤ k) hdm (fun k h1 h2 => .inr ⟨h1, h2⟩)
                       obtain ⟨j0, j1, j2, jl⟩ := HD3.out.b3.cells
                       rw [HK.out] at j2
                       obtain ⟨l0, l1, l2⟩ := HD3.out.b3.free
                       have HX3 := Lib.hid (And.intro hp (And.intro hT hdv))
                       have HRG := Lib.hid HD3.out.rd
                       rw [HK.out] at HRG
                       clear hp hT0 hT hdv hdm)
                    | (refine step_append_lies _ rfl (.tmp 39) (.tmp 42) 27 rfl WE.heap.size 71 i0 (.agg #[.string ⟨#[]⟩, .slice none 0 0, .slice none 0 0, .slice none 0 0]) 4 88 Tryz.underlying27 hi0 hz0 hz1' hz2' rfl (by decide) (.slice A3 K kp3) K ds (by simp [Act.eval]) (by exact (HRG.out.alloc _)) ⟨w3.heap.size, 0, none⟩ 1 1 [.string cnm, .slice B1 cv.vars.length n1, .slice B2 cv.acts.length n2, .slice B3' cv.goal.length n3] (by simp [Act.eval]) rfl (by exact World.news_of_block (cs := #[.string cnm, .slice B1 cv.vars.length n1, .slice B2 cv.acts.length n2, .slice B3' cv.goal.length n3]) (alloc_blk w3 _ 71 rfl)) (by intro u hu; simp at hu; rcases hu with rfl | rfl | rfl | rfl <;> rfl) (by decide) (by unfold maxLen; omega) (by omega) (by have := HX3.out.2.1.size; simp only [World.size_alloc]; omega) (w3.heap.size + 1) (by simp) ?_
                       intro gd cap2 wx hown hgrow hat hlt
                       have TR : Touch (fun k9 => (Value.slice A3 K kp3).ownBlock = some k9) w3 wx := ((Touch.refl _ w3).alloc _).grown hgrow (fun _ e => .inl e)
                       have hat' : (Value.slice A3 K kp3).ownBlock = some gd ∨ w3.heap.size ≤ gd := hat.elim .inl (fun e => .inr (by omega))
                       have hbx := HD3.out.b3.goR TR (row_ne HRG.out HD3.out.b3 (by decide))
                       obtain ⟨k0, k1', k2', kl⟩ := hbx.cells
                       rw [HK.out] at k2'
                       obtain ⟨m0, m1, m2⟩ := hbx.free
                       have hr8 := (HX3.out.1.row TR (fun e => by have := row_base HRG.out _ e; omega) (fun e => by have := row_base HRG.out _ e; omega)).row ((Touch.refl (fun b => b = w.heap.size + 1) wx).setCell (p := ⟨w.heap.size + 1, 2, none⟩) (.inl rfl) (.slice (some ⟨gd, 0, none⟩) (K + 1) cap2)) (fun e => by omega) (fun e => HGQ.out e)
                       have hA : PN WE (wx.setCell ⟨w.heap.size + 1, 2, none⟩ (.slice (some ⟨gd, 0, none⟩) (K + 1) cap2)) w1.heap.size (w.heap.size + 1) (fun k => (Q k ∨ (wr.heap.size ≤ k ∧ k < V7.heap.size)) ∨ (V7.heap.size ≤ k ∧ k < w3.heap.size)) a b (c ++ [cv]) (.slice A1 a.length kp1) (.slice A2 b.length kp2) (.slice (some ⟨gd, 0, none⟩) (K + 1) cap2) xs (ds ++ [.string cnm, .slice B1 cv.vars.length n1, .slice B2 cv.acts.length n2, .slice B3' cv.goal.length n3]) := by
                         have hown := hown
                         have TR := TR
                         have hat := hat'
                         rw [← HK.out] at hown TR hat ⊢
                         exact HD3.out.addD hq3 HX3.out.2.2 TR hown hat
                       have HA := Lib.hid (And.intro hA (And.intro hr8 HDQ.out))
                       have HME := Lib.hid (meas2_lt HR.out.2.1 hr8 HE0.out (by rcases HGE.out.2 with h | h; exact .inl h.1; exact .inr ⟨h, HGE.out.1⟩))
                       clear hown hgrow hat TR hbx hA hr8 hat'))
                  all_goals
                    go_wp2
                    go_roundw
                    case rel => exact ⟨_, _, _, _, _, _, _, _, _, _, _, _, HA.out⟩
                    case measure => exact HME.out
              | false =>
                have HI := Lib.hid (t_is HP.out [100, 111, 109, 97, 105, 110] he)
                rw [show isS ts [100, 111, 109, 97, 105, 110] τ = false from hg] at HI
                go_wp2_with fail
                refine HI.out.mono ?_
                rintro x V52 ⟨rfl, hT⟩
                have HP := Lib.hid (HP.out.touch hT)
                have HT := Lib.hid (HT.out.same (Touch.anyB (F := AtB w1.heap.size) hT))
                clear hT HI
                have hHG : τ.1 ≤ (rdoS ts (exS ts domB τ)).1 ∧ (τ.1 + 1 ≤ (rdoS ts (exS ts domB τ)).1 ∧ c.length < 100 ∨ (rdoS ts (exS ts domB τ)).2 ≠ 0) := ⟨Nat.le_trans (exS_ge ts domB τ) (rdoS_ge ts _), (.inr (rdoS_bad (exS_no hg)))⟩
                have hmd : rprR ts f1 a bm (c ++ [rdoV ts (exS ts domB τ)]) (rdoS ts (exS ts domB τ)) = R0 := by have := HR.out.2.2.md; rw [rprR_dom HMD.out hn hm (fun e => by rw [hg] at e; cases e)] at this; exact this
                have HC := Lib.hid (t_no HP.out [107, 101, 121] hn)
                go_wp2_with fail
                refine HC.out.mono ?_
                rintro x V6 ⟨rfl, hp, hT⟩
                have HP := Lib.hid hp
                have HT := Lib.hid (HT.out.same (Touch.anyB (F := AtB w1.heap.size) hT))
                clear hp hT HC
                have HC := Lib.hid (t_no HP.out [116, 114, 101, 101] hm)
                go_wp2_with fail
                refine HC.out.mono ?_
                rintro x V61 ⟨rfl, hp, hT⟩
                have HP := Lib.hid hp
                have HT := Lib.hid (HT.out.same (Touch.anyB (F := AtB w1.heap.size) hT))
                clear hp hT HC
                have HC := Lib.hid (t_want HP.out [100, 111, 109, 97, 105, 110])
                go_wp2_with fail
                refine HC.out.mono ?_
                rintro x V7 ⟨rfl, hp, hT⟩
                have HT := Lib.hid (HT.out.same hT)
                obtain ⟨tn, htn⟩ : ∃ z, exS ts domB τ = z := ⟨_, rfl⟩
                have hp : RT V7 w1.heap.size g m cp ts L tn := by rw [← htn]; exact hp
                have HP := Lib.hid hp
                rw [htn] at hHG hmd
                obtain ⟨cv, hcv⟩ : ∃ z, rdoV ts tn = z := ⟨_, rfl⟩
                obtain ⟨cs, hcs⟩ : ∃ z, rdoS ts tn = z := ⟨_, rfl⟩
                have HCD := Lib.hid (fun (W : World) (q : RT W w1.heap.size g m cp ts L tn) => rdomq_any HNK.out q)
                rw [hcv, hcs] at HCD hmd
                obtain ⟨cnm, hcnm⟩ : ∃ z, bs cv.nm = z := ⟨_, rfl⟩
                unfold RDoQ at HCD
                rw [hcnm] at HCD
                have HCV := Lib.hid hcnm
                rw [hcs] at hHG
                have hc8 := HR.out.2.2.lc.2 he
                have HDQ := Lib.hid (show DP ts R0 m f1 a bm (c ++ [cv]) cs b from ⟨hmd, by rcases hHG.2 with h | h; exact HR.out.2.2.fu.next he (by have := HR.out.2.1.le; have := HR.out.2.1.ln; omega) h.1; exact HR.out.2.2.fu.stop he h, HR.out.2.2.la, HR.out.2.2.lb, ⟨by simp; omega, fun e => by rcases hHG.2 with h | h; simp; omega; exact absurd e h⟩, HR.out.2.2.ln, fun _ => HR.out.2.2.ok he⟩)
                have HGE := Lib.hid hHG
                have HE0 := Lib.hid he
                have HD := Lib.hid (HR.out.1.go HT.out hgp hqg)
                have hs7 := HT.out.size
                obtain ⟨i0, hi0, hz0, hz1', hz2'⟩ := info_dom'
                unfold maxLen at he2
                obtain ⟨q0, q1, q2, ql⟩ := HD.out.b3.cells
                rw [HK.out] at q2
                obtain ⟨g0, g1, g2⟩ := HD.out.b3.free
                clear hp hT hcv hcs hcnm hmd htn hHG hc8 HC c1 c2 hee hm hn he hg hne
                go_wp2_with fail
                go_region_law? (first
                  | (go_simp; go_at_call 21
                     refine (HCD.out _ (HP.out.touch (Touch.refl _ _).drew)).mono ?_
                     rintro r w3 ⟨B1, n1, B2, n2, B3', n3, rfl, hdm, hp, hT0⟩
                     have hT := (Touch.refl (AtB w1.heap.size) V7).drew.same hT0
                     have HD3 := Lib.hid (HD.out.go hT hgp hqg)
                     have hdv : DmAt w3 (fun k => (Q k ∨ (wr.heap.size ≤ k ∧ k < V7.heap.size)) ∨ (V7.heap.size ≤ k ∧ k < w3.heap.size)) cv [.string cnm, .slice B1 cv.vars.length n1, .slice B2 cv.acts.length n2, .slice B3' cv.goal.length n3] := DmAt.via (Q := fun k => V7.heap.size ≤ k) hdm (fun k h1 h2 => .inr ⟨h1, h2⟩)
                     obtain ⟨j0, j1, j2, jl⟩ := HD3.out.b3.cells
                     rw [HK.out] at j2
                     obtain ⟨l0, l1, l2⟩ := HD3.out.b3.free
                     have HX3 := Lib.hid (And.intro hp (And.intro hT hdv))
                     have HRG := Lib.hid HD3.out.rd
                     rw [HK.out] at HRG
                     clear hp hT0 hT hdv hdm)
                  | (refine step_append_lies _ rfl (.tmp 39) (.tmp 42) 27 rfl WE.heap.size 71 i0 (.agg #[.string ⟨#[]⟩, .slice none 0 0, .slice none 0 0, .slice none 0 0]) 4 88 Tryz.underlying27 hi0 hz0 hz1' hz2' rfl (by decide) (.slice A3 K kp3) K ds (by simp [Act.eval]) (by exact (HRG.out.alloc _)) ⟨w3.heap.size, 0, none⟩ 1 1 [.string cnm, .slice B1 cv.vars.length n1, .slice B2 cv.acts.length n2, .slice B3' cv.goal.length n3] (by simp [Act.eval]) rfl (by exact World.news_of_block (cs := #[.string cnm, .slice B1 cv.vars.length n1, .slice B2 cv.acts.length n2, .slice B3' cv.goal.length n3]) (alloc_blk w3 _ 71 rfl)) (by intro u hu; simp at hu; rcases hu with rfl | rfl | rfl | rfl <;> rfl) (by decide) (by unfold maxLen; omega) (by omega) (by have := HX3.out.2.1.size; simp only [World.size_alloc]; omega) (w3.heap.size + 1) (by simp) ?_
                     intro gd cap2 wx hown hgrow hat hlt
                     have TR : Touch (fun k9 => (Value.slice A3 K kp3).ownBlock = some k9) w3 wx := ((Touch.refl _ w3).alloc _).grown hgrow (fun _ e => .inl e)
                     have hat' : (Value.slice A3 K kp3).ownBlock = some gd ∨ w3.heap.size ≤ gd := hat.elim .inl (fun e => .inr (by omega))
                     have hbx := HD3.out.b3.goR TR (row_ne HRG.out HD3.out.b3 (by decide))
                     obtain ⟨k0, k1', k2', kl⟩ := hbx.cells
                     rw [HK.out] at k2'
                     obtain ⟨m0, m1, m2⟩ := hbx.free
                     have hr8 := (HX3.out.1.row TR (fun e => by have := row_base HRG.out _ e; omega) (fun e => by have := row_base HRG.out _ e; omega)).row ((Touch.refl (fun b => b = w.heap.size + 1) wx).setCell (p := ⟨w.heap.size + 1, 2, none⟩) (.inl rfl) (.slice (some ⟨gd, 0, none⟩) (K + 1) cap2)) (fun e => by omega) (fun e => HGQ.out e)
                     have hA : PN WE (wx.setCell ⟨w.heap.size + 1, 2, none⟩ (.slice (some ⟨gd, 0, none⟩) (K + 1) cap2)) w1.heap.size (w.heap.size + 1) (fun k => (Q k ∨ (wr.heap.size ≤ k ∧ k < V7.heap.size)) ∨ (V7.heap.size ≤ k ∧ k < w3.heap.size)) a b (c ++ [cv]) (.slice A1 a.length kp1) (.slice A2 b.length kp2) (.slice (some ⟨gd, 0, none⟩) (K + 1) cap2) xs (ds ++ [.string cnm, .slice B1 cv.vars.length n1, .slice B2 cv.acts.length n2, .slice B3' cv.goal.length n3]) := by
                       have hown := hown
                       have TR := TR
                       have hat := hat'
                       rw [← HK.out] at hown TR hat ⊢
                       exact HD3.out.addD hq3 HX3.out.2.2 TR hown hat
                     have HA := Lib.hid (And.intro hA (And.intro hr8 HDQ.out))
                     have HME := Lib.hid (meas2_lt HR.out.2.1 hr8 HE0.out (by rcases HGE.out.2 with h | h; exact .inl h.1; exact .inr ⟨h, HGE.out.1⟩))
                     clear hown hgrow hat TR hbx hA hr8 hat'))
                all_goals
                  go_wp2
                  go_roundw
                  case rel => exact ⟨_, _, _, _, _, _, _, _, _, _, _, _, HA.out⟩
                  case measure => exact HME.out
      · have hee : ((τ.2 : Int) == 0) = false := by simp; omega
        go_wp2_with fail
        have hst : ¬ (τ.2 = 0 ∧ (nxS ts τ).kd ≠ 0) := fun e => he e.1
        have hR1 : R0 = ((a, bm, c), τ) := by have := HR.out.2.2.md; rw [rprR_stop hst] at this; exact this.symm
        have hez : ((τ.2 : Int) != 0) = true := by simp; omega
        have HPN := Lib.hid HR.out.1
        have hrt := HR.out.2.1
        obtain ⟨bad, hbk, hbad⟩ := hrt.rs.blk
        have d1 := cell_blk hbk 1
        have d2 := cell_blk hbk 2
        have d3 := cell_blk hbk 3
        have d4 := blk_lt hbk
        have hb2 : B3 wr 29 w.heap.size (.slice none 0 0) (.slice none 0 0) (.slice none 0 0) := (HPN.out.t.block _ (by omega) (fun e => by unfold At2 at e; omega)).trans HB2.out
        obtain ⟨z0, z1, z2, zl⟩ := hb2.cells
        obtain ⟨f0, f1, f2⟩ := hb2.free
        obtain ⟨y0, y1, y2, yl⟩ := HPN.out.b3.cells
        have HRR := Lib.hid (And.intro hR1 he)
        have hwg : w.heap.size ≤ w1.heap.size := by omega
        have hbk1 : (bad : Int) = (τ.1 : Int) := by rw [hbad he]
        rw [hbk1] at d3
        have hlt1 : τ.1 < m := by have := hrt.le; have := hrt.ln; omega
        obtain ⟨tk, htk⟩ : ∃ t, ts[τ.1]? = some t := ⟨_, List.getElem?_eq_getElem (by have := hrt.rs.len; omega)⟩
        obtain ⟨-, -, g2, -⟩ := hrt.rs.tl.at_ τ.1 tk htk
        have hgl2 := hrt.rs.tl.lt
        have hm9 : m ≤ 100000 := hrt.rs.small
        obtain ⟨Y, hY⟩ : ∃ Y, ((wr.setCell ⟨w.heap.size, 0, none⟩ (.slice none 0 0)).setCell ⟨w.heap.size, 1, none⟩ (.slice none 0 0)).setCell ⟨w.heap.size, 2, none⟩ (.slice none 0 0) = Y := ⟨_, rfl⟩
        have tY : Touch NoB w Y := by rw [← hY]; exact touch3 (HTE.out.trans HPN.out.t (fun k hk => .inr (by rcases hk with rfl | rfl <;> omega))) (.inr (Nat.le_refl _)) _ _ _
        have bY : B3 Y 29 w.heap.size (.slice none 0 0) (.slice none 0 0) (.slice none 0 0) := by rw [← hY]; exact ((hb2.set0 _).set1 _).set2 _
        obtain ⟨u0, u1, u2, ul⟩ := bY.cells
        obtain ⟨t0, ht0⟩ : ∃ t, ts[0]? = some t := ⟨_, List.getElem?_eq_getElem (by have := hrt.rs.len; omega)⟩
        have hgw : g ≠ w.heap.size := fun e => by
          have h4 := (hrt.rs.tl.at_ 0 t0 ht0).1
          rw [e] at h4
          simp only [Nat.zero_mul] at h4
          rw [z0] at h4
          cases h4
        have tYb : Touch (fun k => k = w.heap.size) wr Y := by rw [← hY]; exact touch3 (F := fun k => k = w.heap.size) (q := w.heap.size) (Touch.refl _ _) (.inl rfl) _ _ _
        have v2 := (tYb.cell (p := ⟨w1.heap.size, 2, none⟩) d4 (fun e => by have e : w1.heap.size = w.heap.size := e; omega)).trans d2
        have v3 := (tYb.cell (p := ⟨w1.heap.size, 3, none⟩) d4 (fun e => by have e : w1.heap.size = w.heap.size := e; omega)).trans d3
        have v4 := (tYb.cell (p := ⟨g, τ.1 * 4 + 2, none⟩) hgl2 (fun e => hgw e)).trans g2
        have HPY := Lib.hid (And.intro tY htk)
        clear tYb ht0 hgw tY bY hst hR1 hrt hbk hbad hbk1 hb2 HR hee htk
        have HTK := Lib.hid hm9
        go_wp2_with fail
        go_region
        all_goals
          go_wp2
          exact bodyPost_ret (v := .tuple #[.agg #[.slice none 0 0, .slice none 0 0, .slice none 0 0], .int .i64 (tk.pl : Int), .int .i64 (τ.2 : Int)]) (by simp [results, Tryz.results7, go_sem, u0, u1, u2]) rfl (by
            have h1 : PR = .er τ.2 tk.pl := by
              have h2 := HPR.out
              rw [HRR.out.1] at h2
              simp only at h2
              rw [if_neg HRR.out.2, HPY.out.2] at h2
              exact h2.symm
            refine ⟨by first | exact HPY.out.1 | exact HPY.out.1.drew, ?_⟩
            rw [h1]
            exact rfl)
end Go.Proofs.YtnphaaahdlkmhaaGreat
