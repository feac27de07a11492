/-
  How far the document's own reader goes; a program's loop, round by round. Conditions: an end's token lies at or behind the place.
-/
import Derived.Test.YtnphaaahdlkmhaaGreatZs26
import Derived.Test.YtnphaaahdlkmhaaGreatZs30
import Derived.Test.YtnphaaahdlkmhaaGreatZs11
namespace Go.Proofs.YtnphaaahdlkmhaaGreat
open Go.ChangeShapes Go.WideShapes Go.ChangeAt Go.RowKit
set_option maxRecDepth 100000
set_option maxHeartbeats 4000000

/-- Never back, never past the end's token. -/
def Gd (L : Nat) (F : St → St) : Prop := ∀ σ : St, σ.1 ≤ L → σ.1 ≤ (F σ).1 ∧ (F σ).1 ≤ L
section
variable {ts : List Tk} {L : Nat}
theorem Gd.comp {F G : St → St} (hF : Gd L F) (hG : Gd L G) : Gd L (fun σ => G (F σ)) := fun σ h => ⟨Nat.le_trans (hF σ h).1 (hG _ (hF σ h).2).1, (hG _ (hF σ h).2).2⟩
theorem gd_ex (hE : EnT ts L) (s : Bs) : Gd L (exS ts s) := fun σ h => ⟨exS_ge ts s σ, exS_L hE h⟩
theorem gd_na (hE : EnT ts L) : Gd L (naS ts) := fun σ h => ⟨naS_ge ts σ, naS_L hE h⟩
theorem gd_nu (hE : EnT ts L) : Gd L (nuS ts) := fun σ h => ⟨nuS_ge ts σ, nuS_L hE h⟩
theorem gd_eq (hE : EnT ts L) (hL : L ≤ ts.length) : Gd L (eqS ts) := fun _ h => ⟨eqS_ge (Nat.le_trans h hL), eqS_L hE h⟩
theorem gd_bra {sub : St → Nd × St} (hs : Gd L (fun σ => (sub σ).2)) : ∀ (f : Nat) (l : List Nd), Gd L (fun σ => (braR ts sub f l σ).2)
  | 0, _ => fun σ h => ⟨Nat.le_refl _, h⟩
  | f + 1, l => fun σ h => by
    simp only [braR]
    split
    · split
      · exact ⟨Nat.le_refl _, h⟩
      · exact (hs.comp (gd_bra hs f _)) σ h
    · exact ⟨Nat.le_refl _, h⟩
theorem gd_pic (hE : EnT ts L) (hL : L ≤ ts.length) {sub : St → Nd × St} (hs : Gd L (fun σ => (sub σ).2)) : ∀ (f : Nat) (x : List Ex) (l : List Nd), Gd L (fun σ => (picR ts sub f x l σ).2)
  | 0, _, _ => fun σ h => ⟨Nat.le_refl _, h⟩
  | f + 1, x, l => fun σ h => by
    simp only [picR]
    split
    · split
      · exact ⟨Nat.le_refl _, h⟩
      · exact ((gd_eq hE hL).comp ((gd_ex hE [58]).comp (hs.comp (gd_pic hE hL hs f _ _)))) σ h
    · exact ⟨Nat.le_refl _, h⟩
theorem gd_braS (hE : EnT ts L) {sub : St → Nd × St} (hs : Gd L (fun σ => (sub σ).2)) : Gd L (braS ts sub) := fun σ h => by
  unfold braS
  exact ((gd_ex hE [123]).comp ((gd_bra hs 17 []).comp (gd_ex hE [125]))) σ h
theorem gd_picS (hE : EnT ts L) (hL : L ≤ ts.length) {sub : St → Nd × St} (hs : Gd L (fun σ => (sub σ).2)) : Gd L (picS ts sub) := fun σ h => by
  unfold picS
  exact ((gd_ex hE [123]).comp ((gd_pic hE hL hs 17 [] []).comp (gd_ex hE [125]))) σ h
theorem gd_K (hE : EnT ts L) (hL : L ≤ ts.length) {sub : St → Nd × St} (hs : Gd L (fun σ => (sub σ).2)) (k : Nat) : Gd L (fun σ => (rndK ts sub k σ).2) := fun σ h => by
  simp only [rndK]
  repeat' split
  · exact gd_braS hE hs σ h
  · exact ((gd_nu hE).comp ((gd_nu hE).comp (gd_braS hE hs))) σ h
  · exact hs σ h
  · exact ((gd_nu hE).comp hs) σ h
  · exact gd_picS hE hL hs σ h
  · exact ((gd_eq hE hL).comp (gd_ex hE [59])) σ h
  · exact ((gd_na hE).comp ((gd_ex hE [58, 61]).comp ((gd_eq hE hL).comp (gd_ex hE [59])))) σ h
  · exact ((gd_na hE).comp (gd_ex hE [59])) σ h
  · exact gd_ex hE [59] σ h
theorem isS_in (hE : EnT ts L) {s : Bs} {σ : St} (h : isS ts s σ = true) (hl : σ.1 ≤ L) : σ.1 + 1 ≤ L := by
  have := exS_L (s := s) hE hl
  rw [exS_yes' h] at this
  exact this
theorem gd_rnd (hE : EnT ts L) (hL : L ≤ ts.length) : ∀ m, Gd L (fun σ => (rnd ts m σ).2)
  | 0 => fun σ h => ⟨Nat.le_refl _, h⟩
  | m + 1 => fun σ h => by
    simp only [rnd]
    split
    · exact ⟨Nat.le_refl _, h⟩
    · split
      · exact ⟨Nat.le_refl _, h⟩
      · rename_i k hk
        obtain ⟨i, s, e, hi, hs⟩ := choF_some _ _ _ hk
        have h1 := isS_in hE hs h
        have := gd_K hE hL (gd_rnd hE hL m) k (σ.1 + 1, σ.2) h1
        exact ⟨Nat.le_trans (Nat.le_succ _) this.1, this.2⟩
theorem rtrS_ge (hE : EnT ts L) (hL : L ≤ ts.length) {σ : St} (h : σ.1 ≤ L) : σ.1 ≤ (rtrS ts σ).1 := by
  unfold rtrS
  exact (((gd_na hE).comp ((gd_ex hE [123]).comp ((gd_rnd hE hL 40).comp (gd_ex hE [125])))) σ h).1
end
theorem rdoR_ge (ts : List Tk) : ∀ (f : Nat) (a : List Va) (b : List Ac) (c : List Cn) (σ : St), σ.1 ≤ (rdoR ts f a b c σ).2.1
  | 0, _, _, _, _ => Nat.le_refl _
  | f + 1, a, b, c, σ => by
    unfold rdoR
    split
    · split
      · exact rdoR_ge ts f a b c (failS 9 σ)
      · split
        · exact Nat.le_trans (acS_ge ts _ _) (Nat.le_trans (varS_ge ts _) (rdoR_ge ts f _ _ _ _))
        · split
          · exact Nat.le_trans (acS_ge ts _ _) (Nat.le_trans (racS_ge ts _) (rdoR_ge ts f _ _ _ _))
          · exact Nat.le_trans (exS_ge ts _ _) (Nat.le_trans (rcnS_ge ts _) (rdoR_ge ts f _ _ _ _))
    · exact Nat.le_refl _
theorem rdoS_ge (ts : List Tk) (σ : St) : σ.1 ≤ (rdoS ts σ).1 := by
  unfold rdoS
  exact Nat.le_trans (Nat.le_trans (naS_ge ts σ) (exS_ge ts _ _)) (Nat.le_trans (rdoR_ge ts _ _ _ _ _) (exS_ge ts _ _))
theorem rdoS_bad {ts : List Tk} {σ : St} (h : σ.2 ≠ 0) : (rdoS ts σ).2 ≠ 0 := by
  unfold rdoS
  have h1 : (exS ts [123] (naS ts σ)).2 ≠ 0 := exS_keep (naS_bad h)
  rw [rdoR_stop (fun e => h1 e.1)]
  exact exS_keep h1
theorem rkeS_ge (ts : List Tk) (σ : St) : σ.1 ≤ (rkeS ts σ).1 := by
  unfold rkeS
  simp only
  refine Nat.le_trans ?_ (Nat.le_trans (naS_ge ts _) (Nat.le_trans (choS_ge ts _ _) (exS_ge ts [59] _)))
  split
  · exact acS_ge ts _ _
  · exact exS_ge ts _ _
section
variable {ts : List Tk} {f : Nat} {a : List Ky} {b : List Tr} {c : List Dm} {σ : St}
theorem rprR_stop (h : ¬ (σ.2 = 0 ∧ (nxS ts σ).kd ≠ 0)) : rprR ts f a b c σ = ((a, b, c), σ) := by
  cases f with
  | zero => rfl
  | succ f => rw [rprR, if_neg h]
theorem rprR_many (h : σ.2 = 0 ∧ (nxS ts σ).kd ≠ 0) (hm : (isS ts keyB σ = true ∧ 100 ≤ a.length) ∨ (isS ts treeB σ = true ∧ 100 ≤ b.length) ∨ (isS ts domB σ = true ∧ 100 ≤ c.length)) : rprR ts (f + 1) a b c σ = rprR ts f a b c (failS 9 σ) := by
  rw [rprR, if_pos h, if_pos hm]
theorem rprR_key (h : σ.2 = 0 ∧ (nxS ts σ).kd ≠ 0) (hn : isS ts keyB σ = true) (ha : a.length < 100) : rprR ts (f + 1) a b c σ = rprR ts f (a ++ [rkeV ts (acS ts keyB σ)]) b c (rkeS ts (acS ts keyB σ)) := by
  have h1 : isS ts treeB σ = false := isS_other hn (by decide)
  have h2 : isS ts domB σ = false := isS_other hn (by decide)
  rw [rprR, if_pos h, if_neg (by rw [h1, h2]; intro h; rcases h with h | h | h; omega; cases h.1; cases h.1), if_pos hn]
theorem rprR_tree (h : σ.2 = 0 ∧ (nxS ts σ).kd ≠ 0) (hn : isS ts treeB σ = true) (hb : b.length < 100) : rprR ts (f + 1) a b c σ = rprR ts f a (b ++ [rtrV ts (acS ts treeB σ)]) c (rtrS ts (acS ts treeB σ)) := by
  have h1 : isS ts keyB σ = false := isS_other hn (by decide)
  have h2 : isS ts domB σ = false := isS_other hn (by decide)
  rw [rprR, if_pos h, if_neg (by rw [h1, h2]; intro h; rcases h with h | h | h; cases h.1; omega; cases h.1), if_neg (by rw [h1]; decide), if_pos hn]
theorem rprR_dom (h : σ.2 = 0 ∧ (nxS ts σ).kd ≠ 0) (hn : isS ts keyB σ = false) (hm : isS ts treeB σ = false) (hc : isS ts domB σ = true → c.length < 100) : rprR ts (f + 1) a b c σ = rprR ts f a b (c ++ [rdoV ts (exS ts domB σ)]) (rdoS ts (exS ts domB σ)) := by
  rw [rprR, if_pos h, if_neg (by rw [hn, hm]; intro h; rcases h with h | h | h; cases h.1; cases h.1; have := hc h.1; omega), if_neg (by rw [hn]; decide), if_neg (by rw [hm]; decide)]
end
end Go.Proofs.YtnphaaahdlkmhaaGreat
