/-
  What package syntax's MostKids and Nodes, and package tree's expression do with a parser in memory. Conditions: the table of levels can be read; names and numbers among the tokens are such.
-/
import Derived.Test.YtanecdpcenkoeaaDoorZa1
import Derived.Deep.RegionLaw
namespace Go.Proofs.YtanecdpcenkoeaaDoor
open Go.ChangeShapes Go.WideShapes Go.ChangeAt Go.RowKit
set_option maxRecDepth 100000
set_option maxHeartbeats 4000000

/-- How many Kids a kind may have. -/
def mostL (k : Nat) : Nat := if k ≤ 4 ∨ k = 11 then 16 else if k = 5 ∨ k = 6 then 1 else 0
theorem mostkids_any (k : Nat) (hk : k ≤ 15) (w : World) : Calls Tryd.prog 86 #[.int .i64 (k : Int)] w fun x w' => x = .returned (.int .i64 (mostL k : Int)) ∧ w = w' := by
  have hc : k = 0 ∨ k = 1 ∨ k = 2 ∨ k = 3 ∨ k = 4 ∨ k = 5 ∨ k = 6 ∨ k = 7 ∨ k = 8 ∨ k = 9 ∨ k = 10 ∨ k = 11 ∨ k = 12 ∨ k = 13 ∨ k = 14 ∨ k = 15 := by omega
  clear hk
  rcases hc with rfl | rfl | rfl | rfl | rfl | rfl | rfl | rfl | rfl | rfl | rfl | rfl | rfl | rfl | rfl | rfl
  all_goals
    go_enter Tryd.func86, Tryd.ntmps86
    go_wp2
    go_ret
    exact ⟨rfl, rfl⟩
/-- The words that nodes begin with. -/
def nodeW : List Bs := [[115, 101, 113], [115, 101, 108], [109, 115, 101, 113], [109, 115, 101, 108], [112, 97, 114], [110, 111, 116], [114, 101, 112, 101, 97, 116], [105, 102], [115, 101, 116], [100, 111], [117, 115, 101], [112, 105, 99, 107], [112, 108, 97, 110], [111, 107], [102, 97, 105, 108], [119, 97, 105, 116]]
theorem nodes_any (w : World) : Calls Tryd.prog 109 #[] w fun x w' => ∃ b, x = .returned (.slice (some ⟨b, 0, none⟩) 16 16) ∧ WdAt w' b 16 nodeW ∧ Touch NoB w w' := by
  obtain ⟨X, hX⟩ : ∃ X, w.alloc (.cells #[.string ⟨#[115, 101, 113]⟩, .string ⟨#[115, 101, 108]⟩, .string ⟨#[109, 115, 101, 113]⟩, .string ⟨#[109, 115, 101, 108]⟩, .string ⟨#[112, 97, 114]⟩, .string ⟨#[110, 111, 116]⟩, .string ⟨#[114, 101, 112, 101, 97, 116]⟩, .string ⟨#[105, 102]⟩, .string ⟨#[115, 101, 116]⟩, .string ⟨#[100, 111]⟩, .string ⟨#[117, 115, 101]⟩, .string ⟨#[112, 105, 99, 107]⟩, .string ⟨#[112, 108, 97, 110]⟩, .string ⟨#[111, 107]⟩, .string ⟨#[102, 97, 105, 108]⟩, .string ⟨#[119, 97, 105, 116]⟩] 9) = X := ⟨_, rfl⟩
  have HX := Lib.hid (And.intro (show WdAt X w.heap.size 16 nodeW from words_at (by rw [← hX]; exact alloc_blk _ _ _ rfl) rfl (by decide) rfl) (show Touch NoB w X by rw [← hX]; exact (Touch.refl _ _).alloc _))
  go_enter Tryd.func109, Tryd.ntmps109
  go_wp2
  go_ret
  exact ⟨_, rfl, HX.out.1, HX.out.2⟩
/-- What an expression's parser leaves. -/
def EqPost (w : World) (gp g n cp : Nat) (ts : List Tk) (σ : St) (x : Ending) (w' : World) : Prop := ∃ (a b : Int) (s : ByteArray) (A : Option Addr) (m c : Nat), x = .returned (.agg #[.int .i64 a, .int .i64 b, .string s, .slice A m c]) ∧
  ET w' (fun b => w.heap.size ≤ b) (eqV ts σ) a b s A m c ∧ PS2 59 w' gp g n cp ts (eqS ts σ) ∧ Touch (AtB gp) w w'
theorem par_eq {w w' : World} {ts : List Tk} {σ : St} {x : Ending} (h : ParPost w (parL ts σ.1) x w') (he : σ.2 = 0) : ∃ (a b : Int) (s : ByteArray) (A : Option Addr) (m c : Nat),
    x = .returned (.tuple #[.agg #[.int .i64 a, .int .i64 b, .string s, .slice A m c], .int .i64 ((eqS ts σ).1 : Int), .int .i64 ((eqS ts σ).2 : Int)]) ∧ ET w' (fun b => w.heap.size ≤ b) (eqV ts σ) a b s A m c ∧ Touch NoB w w' := by
  obtain ⟨ht, h⟩ := h
  unfold eqV eqS
  rw [if_pos he, if_pos he]
  cases hp : parL ts σ.1 with
  | ok y k =>
    rw [hp] at h
    obtain ⟨a, b, s, A, m, c, rfl, h2⟩ := h
    exact ⟨a, b, s, A, m, c, rfl, h2, ht⟩
  | er e k =>
    rw [hp] at h
    exact ⟨0, 0, ⟨#[]⟩, none, 0, 0, h, ⟨rfl, rfl, rfl, rfl, rfl, rfl⟩, ht⟩
theorem eqS_le {ts : List Tk} {σ : St} (h : σ.1 ≤ ts.length) : (eqS ts σ).1 ≤ ts.length := by
  unfold eqS
  split
  · have hf := ful_fwd ts 40 5 σ.1 h
    rw [← par_bin h] at hf
    cases hp : parL ts σ.1 with
    | ok y k => rw [hp] at hf; exact hf.2
    | er e k => rw [hp] at hf; exact hf.2.1
  · exact h
theorem expr_st {w : World} {gp g n cp B : Nat} {ts : List Tk} {σ : St} (hok : NamesOk ts) (hnk : NumsOk ts) (hv : LV w B) (h : PS2 59 w gp g n cp ts σ) :
    Calls Tryd.prog 116 #[.pointer (some ⟨gp, 0, none⟩)] w (EqPost w gp g n cp ts σ) := by
  obtain ⟨W0, hW0⟩ : ∃ W, w.alloc (.cells #[.int .i64 0, .int .i64 0, .string ⟨#[]⟩, .slice none 0 0] 43) = W := ⟨_, rfl⟩
  have t0 : Touch NoB w W0 := by rw [← hW0]; exact (Touch.refl _ _).alloc _
  have hb2 : XB W0 w.heap.size 0 0 ⟨#[]⟩ none 0 0 := by rw [← hW0]; exact XB.new w _ _ _ _ _ _ rfl
  have hs0 : W0.heap.size = w.heap.size + 1 := by rw [← hW0]; simp only [World.size_alloc]
  have hgp := blk_lt h.blk
  have hgl := h.tl.lt
  have hp0 := h.touch t0
  have c2 : W0.cell? ⟨gp, 2, none⟩ = some (.int .i64 (σ.2 : Int)) := cell_blk hp0.blk 2
  by_cases he : σ.2 = 0
  · have hee : ((σ.2 : Int) != 0) = false := by simp [he]
    have d0 : W0.drew.cell? ⟨gp, 0, none⟩ = some (.slice (some ⟨g, 0, none⟩) n cp) := cell_blk (w := W0.drew) hp0.blk 0
    have d1 : W0.drew.cell? ⟨gp, 1, none⟩ = some (.int .i64 (σ.1 : Int)) := cell_blk (w := W0.drew) hp0.blk 1
    obtain ⟨Z, hZ⟩ : ∃ Z, W0.drew.alloc (.cells #[.int .i64 0, .int .i64 0, .string ⟨#[]⟩, .slice none 0 0] 43) = Z := ⟨_, rfl⟩
    have tZ : Touch NoB W0 Z := by rw [← hZ]; exact (Touch.refl NoB W0).drew.alloc _
    have hpZ := hp0.touch tZ
    have z0 : Z.cell? ⟨gp, 0, none⟩ = some (.slice (some ⟨g, 0, none⟩) n cp) := cell_blk hpZ.blk 0
    have z1 : Z.cell? ⟨gp, 1, none⟩ = some (.int .i64 (σ.1 : Int)) := cell_blk hpZ.blk 1
    have hxZ : XB Z (w.heap.size + 1) 0 0 ⟨#[]⟩ none 0 0 := by rw [← hZ]; exact XB.new _ _ _ _ _ _ _ hs0
    have hsZ : Z.heap.size = w.heap.size + 2 := by rw [← hZ]; simp only [World.size_alloc, World.size_drew]; omega
    have HP1 := Lib.hid (parse_at (w := W0.drew) (cp := cp) (h.tl.touch (t0.drew)) h.len h.le h.small (hv.touch0 t0.drew) hok hnk)
    have HP2 := Lib.hid (parse_at (w := Z) (cp := cp) (h.tl.touch (t0.same tZ)) h.len h.le h.small (hv.touch0 (t0.same tZ)) hok hnk)
    have HH := Lib.hid (And.intro h (And.intro t0 (And.intro hb2 (And.intro tZ hxZ))))
    have HLE := Lib.hid (eqS_le (ts := ts) (σ := σ) (by rw [h.len]; exact h.le))
    have HQ := Lib.hid (fun (w w' : World) (x : Ending) (hp : ParPost w (parL ts σ.1) x w') => par_eq hp he)
    obtain ⟨st, hst⟩ : ∃ st, eqS ts σ = st := ⟨_, rfl⟩
    obtain ⟨ex, hex⟩ : ∃ ex, eqV ts σ = ex := ⟨_, rfl⟩
    rw [hst, hex] at HQ
    rw [hst] at HLE
    unfold EqPost
    rw [hst, hex]
    obtain ⟨k, hk⟩ : ∃ k, σ.1 = k := ⟨_, rfl⟩
    obtain ⟨e, hse⟩ : ∃ e, σ.2 = e := ⟨_, rfl⟩
    rw [hse] at c2 hee
    rw [hk] at d1 z1 HP1 HP2 HQ
    clear h t0 hb2 hp0 tZ hpZ hxZ hok hnk hv hst hex he hk hse
    go_enter Tryd.func116, Tryd.ntmps116
    go_wp2_with fail
    go_region_law
      (first
        | (go_simp; go_at_call 131
           refine HP1.out.mono ?_
           intro x w1 hP
           obtain ⟨a, b, s, A, m, c, rfl, het, hT1⟩ := HQ.out _ _ _ hP
           clear hP
           obtain ⟨W', hW'⟩ : ∃ W, w1.alloc (.cells #[.int .i64 a, .int .i64 b, .string s, .slice A m c] 43) = W := ⟨_, rfl⟩
           have t' : Touch NoB w1 W' := by rw [← hW']; exact (Touch.refl _ _).alloc _
           obtain ⟨q, hq⟩ : ∃ q, w1.heap.size = q := ⟨_, rfl⟩
           have hx : XB W' q a b s A m c := by rw [← hW']; exact XB.new _ _ _ _ _ _ _ hq
           have hT01 : Touch NoB W0 W' := ((Touch.refl NoB W0).drew.same hT1).same t'
           have hsq : w.heap.size + 1 ≤ q := by have h1 := hT1.size; have h2 : W0.drew.heap.size = W0.heap.size := rfl; omega
           have HX := Lib.hid (And.intro hx (And.intro (show ET W' (fun b => w.heap.size + 1 ≤ b ∧ b ≠ q) ex a b s A m c from (het.via (R := fun b => w.heap.size + 1 ≤ b ∧ b ≠ q) (fun b h1 h2 => ⟨by have h3 : W0.drew.heap.size = W0.heap.size := rfl; omega, by omega⟩)).touch0 t') hT01))
           clear hx het hT1 t' hT01 HP2)
        | (go_simp; go_at_call 131
           refine HP2.out.mono ?_
           intro x w1 hP
           obtain ⟨a, b, s, A, m, c, rfl, het, hT1⟩ := HQ.out _ _ _ hP
           clear hP
           obtain ⟨q, hq⟩ : ∃ q, w.heap.size + 1 = q := ⟨_, rfl⟩
           have hxq : XB w1 q 0 0 ⟨#[]⟩ none 0 0 := by rw [← hq]; exact (hT1.block _ (blk_lt HH.out.2.2.2.2) (fun x => x)).trans HH.out.2.2.2.2
           obtain ⟨g0, g1, g2, g3⟩ := hxq.free
           obtain ⟨v0, v1, v2, v3, v4⟩ := hxq.cells
           obtain ⟨W', hW'⟩ : ∃ W, (((w1.setCell ⟨q, 0, none⟩ (.int .i64 a)).setCell ⟨q, 1, none⟩ (.int .i64 b)).setCell ⟨q, 2, none⟩ (.string s)).setCell ⟨q, 3, none⟩ (.slice A m c) = W := ⟨_, rfl⟩
           have hx : XB W' q a b s A m c := by rw [← hW']; exact set4 hxq _ _ _ _
           have tX : Touch (fun b => b = q) w1 W' := by rw [← hW']; exact touch4 (F := fun b => b = q) (Touch.refl _ w1) (.inl rfl) _ _ _ _
           have hT01 : Touch NoB W0 W' := (HH.out.2.2.2.1.same hT1).trans tX (fun b hb => .inr (by omega))
           have hsq : w.heap.size + 1 ≤ q := by omega
           have HX := Lib.hid (And.intro hx (And.intro (show ET W' (fun b => w.heap.size + 1 ≤ b ∧ b ≠ q) ex a b s A m c from (het.via (R := fun b => w.heap.size + 1 ≤ b ∧ b ≠ q) (fun b h1 h2 => ⟨by omega, by omega⟩)).aside tX (fun h => h.2 rfl)) hT01))
           clear hxq hx het hT1 tX hT01 HP1))
    all_goals
      have hpW := HH.out.1.touch (HH.out.2.1.same HX.out.2.2)
      have c1 : W'.cell? ⟨gp, 1, none⟩ = some (.int .i64 (σ.1 : Int)) := cell_blk hpW.blk 1
      have q1 : W'.frozen? ⟨gp, 1, none⟩ = false := free_blk hpW.blk 1
      have hle : st.1 ≤ n := by have := HLE.out; rw [hpW.len] at this; exact this
      have hp1 := hpW.setk st.1 hle
      have c2' : (W'.setCell ⟨gp, 1, none⟩ (.int .i64 (st.1 : Int))).cell? ⟨gp, 2, none⟩ = some (.int .i64 (σ.2 : Int)) := cell_blk hp1.blk 2
      have q2 : (W'.setCell ⟨gp, 1, none⟩ (.int .i64 (st.1 : Int))).frozen? ⟨gp, 2, none⟩ = false := free_blk hp1.blk 2
      obtain ⟨V, hV⟩ : ∃ V, (W'.setCell ⟨gp, 1, none⟩ (.int .i64 (st.1 : Int))).setCell ⟨gp, 2, none⟩ (.int .i64 (st.2 : Int)) = V := ⟨_, rfl⟩
      have hp2 : PS2 59 V gp g n cp ts st := by rw [← hV]; exact hp1.sete st.2
      have tV : Touch (AtB gp) W' V := by rw [← hV]; exact touch_set (gp := gp) (touch_set (gp := gp) (Touch.refl _ W') 1 _) 2 _
      have hqgp : q ≠ gp := by omega
      obtain ⟨p0, p1, p2, p3, p4⟩ := (HX.out.1.go tV hqgp).cells
      have hb2V : XB V w.heap.size 0 0 ⟨#[]⟩ none 0 0 := XB.go ((HX.out.2.2.block _ (by omega) (fun x => x)).trans HH.out.2.2.1 : XB W' w.heap.size 0 0 ⟨#[]⟩ none 0 0) tV (by omega)
      obtain ⟨b0, b1, b2, b3, b4⟩ := hb2V.cells
      obtain ⟨f0, f1, f2, f3⟩ := hb2V.free
      have HF := Lib.hid (And.intro hp2 (And.intro (HX.out.2.1.touch tV (hpW.nox _)) (show Touch (AtB gp) w V from (Touch.anyB (HH.out.2.1.same HX.out.2.2)).same tV)))
      clear hpW hp1 hp2 tV hb2V
      go_wp2
      have hTE := touch4 (F := AtB gp) HF.out.2.2 (.inr (Nat.le_refl w.heap.size)) (.int .i64 a) (.int .i64 b) (.string s) (.slice A m c)
      have hTX := touch4 (F := fun b => b = w.heap.size) (Touch.refl _ V) (.inl rfl) (.int .i64 a) (.int .i64 b) (.string s) (.slice A m c)
      exact bodyPost_ret (v := .agg #[.int .i64 a, .int .i64 b, .string s, .slice A m c]) (by simp [results, Tryd.results116, go_sem, b0, b1, b2, b3]) rfl ⟨a, b, s, A, m, c, rfl, (HF.out.2.1.aside hTX (fun h => by omega)).via (fun b h1 _ => by omega), HF.out.1.touchX hTX hgp hgl, hTE⟩
  · have hee : ((σ.2 : Int) != 0) = true := by simp; omega
    have HP := Lib.hid (And.intro hp0 t0)
    have e1 : eqV ts σ = .leaf 0 0 [] := by unfold eqV; rw [if_neg he]
    have e2 : eqS ts σ = σ := by unfold eqS; rw [if_neg he]
    unfold EqPost
    rw [e1, e2]
    obtain ⟨z0, z1, z2, z3, z4⟩ := hb2.cells
    obtain ⟨f0, f1, f2, f3⟩ := hb2.free
    obtain ⟨e, hse⟩ : ∃ e, σ.2 = e := ⟨_, rfl⟩
    rw [hse] at c2 hee
    clear h t0 hb2 hp0 e1 e2 he hok hnk hv hse
    go_enter Tryd.func116, Tryd.ntmps116
    go_wp2
    have hTE := touch4 (F := AtB gp) (Touch.anyB (F := AtB gp) HP.out.2) (.inr (Nat.le_refl w.heap.size)) (.int .i64 0) (.int .i64 0) (.string ⟨#[]⟩) (.slice none 0 0)
    have hTX := touch4 (F := fun b => b = w.heap.size) (Touch.refl _ W0) (.inl rfl) (.int .i64 0) (.int .i64 0) (.string ⟨#[]⟩) (.slice none 0 0)
    exact bodyPost_ret (v := .agg #[.int .i64 0, .int .i64 0, .string ⟨#[]⟩, .slice none 0 0]) (by simp [results, Tryd.results116, go_sem, z0, z1, z2, z3]) rfl ⟨0, 0, ⟨#[]⟩, none, 0, 0, rfl, ⟨rfl, rfl, rfl, rfl, rfl, rfl⟩, HP.out.1.touchX hTX hgp hgl, hTE⟩
end Go.Proofs.YtanecdpcenkoeaaDoor
