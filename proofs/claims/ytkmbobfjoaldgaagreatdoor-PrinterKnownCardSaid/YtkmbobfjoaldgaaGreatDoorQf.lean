/-
  What package tokens' one, Number and Name, and package expr's number and name do with a reader in memory. Conditions: those that each theorem names.
-/
import Derived.Test.YtkmbobfjoaldgaaGreatDoorQe
namespace Go.Proofs.YtkmbobfjoaldgaaGreatDoor
open Go.ChangeShapes Go.WideShapes Go.ChangeAt Go.RowKit
set_option maxRecDepth 100000
set_option maxHeartbeats 4000000

theorem num_nxt {ts : List Tk} {k m : Nat} (h : numAt ts k = some m) : (nxt ts k 0).kd = 3 ∧ (nxt ts k 0).n = m := by
  unfold numAt at h
  cases ht : ts[k]? with
  | none => rw [ht] at h; cases h
  | some t =>
    rw [ht] at h
    simp only at h
    split at h
    · rename_i h3; injection h with h; rw [nxt_at ht]; exact ⟨h3, h⟩
    · cases h
theorem num_not {ts : List Tk} {k : Nat} (h : numAt ts k = none) : (nxt ts k 0).kd ≠ 3 := by
  unfold numAt at h
  cases ht : ts[k]? with
  | none => simp [nxt, ht]
  | some t =>
    rw [ht] at h
    simp only at h
    split at h
    · cases h
    · rename_i h3; rw [nxt_at ht]; exact h3
theorem nam_nxt {ts : List Tk} {k : Nat} {s : Bs} (h : nameAt ts k = some s) : (nxt ts k 0).kd = 1 ∧ (nxt ts k 0).tx = s := by
  unfold nameAt at h
  cases ht : ts[k]? with
  | none => rw [ht] at h; cases h
  | some t =>
    rw [ht] at h
    simp only at h
    split at h
    · rename_i h3; injection h with h; rw [nxt_at ht]; exact ⟨h3, h⟩
    · cases h
theorem nam_not {ts : List Tk} {k : Nat} (h : nameAt ts k = none) : (nxt ts k 0).kd ≠ 1 := by
  unfold nameAt at h
  cases ht : ts[k]? with
  | none => simp [nxt, ht]
  | some t =>
    rw [ht] at h
    simp only at h
    split at h
    · cases h
    · rename_i h3; rw [nxt_at ht]; exact h3

theorem tok_f1 (a b c d : Value) (W : World) : (Instr.field 60 (.agg #[a, b, c, d]) 1).run Tryz.prog W = .ok b W := by kernel_rfl
theorem tok_f3 (a b c d : Value) (W : World) : (Instr.field 60 (.agg #[a, b, c, d]) 3).run Tryz.prog W = .ok d W := by kernel_rfl
theorem fail_any {T : TypeId} {w : World} {gp g n cp : Nat} {ts : List Tk} {k e : Nat} (h : PSt T w gp g n cp ts k e) (c : Nat) :
    Calls Tryz.prog 44 #[.pointer (some ⟨gp, 0, none⟩), .int .i64 (c : Int)] w fun x w' => x = .returned (.tuple #[]) ∧ PSt T w' gp g n cp ts k (if e = 0 then c else e) ∧ Touch (AtB gp) w w' := by
  by_cases he : e = 0
  · subst he
    exact (fail_yes h c).mono (fun x w' q => by simpa using q)
  · exact (fail_no h he c).mono (fun x w' q => by obtain ⟨rfl, rfl⟩ := q; rw [if_neg he]; exact ⟨rfl, h, Touch.refl _ _⟩)
/-- A token as a value. -/
def tkV (t : Tk) : Value := .agg #[.int .i64 t.kd, .int .i64 t.n, .int .i64 t.pl, .string (bs t.tx)]
def tk0 : Tk := ⟨0, 0, 0, []⟩
theorem PSt.kd_zero {T : TypeId} {w : World} {gp g n cp : Nat} {ts : List Tk} {k e c : Nat} (h : PSt T w gp g n cp ts k e) (hc : c ≠ 0) (hk : (nxt ts k e).kd = c) : e = 0 ∧ k < n := by
  by_cases he : e = 0
  · subst he
    refine ⟨rfl, ?_⟩
    by_cases hl : k < n
    · exact hl
    · have := h.le
      have : k = ts.length := by rw [h.len]; omega
      rw [this, nxt_end] at hk
      exact absurd hk.symm hc
  · rw [nxt_bad he] at hk; exact absurd hk.symm hc
theorem one_yes {T : TypeId} {w : World} {gp g n cp : Nat} {ts : List Tk} {k e c : Nat} (h : PSt T w gp g n cp ts k e) (hc : c ≠ 0) (hk : (nxt ts k e).kd = c) :
    Calls Tryz.prog 112 #[.pointer (some ⟨gp, 0, none⟩), .int .i64 (c : Int)] w fun x w' => x = .returned (tkV (nxt ts k e)) ∧ PSt T w' gp g n cp ts (k + 1) e ∧ Touch (AtB gp) w w' := by
  obtain ⟨W0, hW0⟩ : ∃ W, w.alloc (.cells #[.int .i64 0, .int .i64 0, .int .i64 0, .string ⟨#[]⟩] 60) = W := ⟨_, rfl⟩
  have hT0 : Touch NoB w W0 := by rw [← hW0]; exact (Touch.refl _ _).alloc _
  have hb4 : W0.heap[w.heap.size]? = some (.cells #[.int .i64 0, .int .i64 0, .int .i64 0, .string ⟨#[]⟩] 60 (0, 0)) := by rw [← hW0]; exact alloc_blk _ _ _ rfl
  have hs0 : W0.heap.size = w.heap.size + 1 := by rw [← hW0]; simp only [World.size_alloc]
  have hgp := blk_lt h.blk
  have hgl := h.tl.lt
  obtain ⟨-, hlt⟩ := h.kd_zero hc hk
  have hsm := h.small
  obtain ⟨k1, hkk⟩ : ∃ k1, k + 1 = k1 := ⟨_, rfl⟩
  have hk1 : IntKind.i64.wrap ((k : Int) + 1) = (k1 : Int) := by rw [show (k : Int) + 1 = (k1 : Int) from by omega]; exact IntWalk.i64_in _ (by omega)
  rw [hkk]
  have hk1n : k1 ≤ n := by omega
  have HN := Lib.hid (next_any (h.touch hT0))
  have HP := Lib.hid (h.touch hT0)
  have HT0 := Lib.hid hT0
  have HB4 := Lib.hid hb4
  unfold tkV
  obtain ⟨t, ht⟩ : ∃ t, nxt ts k e = t := ⟨_, rfl⟩
  rw [ht] at HN hk ⊢
  obtain ⟨kd, nn, pl, tx⟩ := t
  simp only at hk HN ⊢
  subst hk
  obtain ⟨sx, hsx⟩ : ∃ sx, bs tx = sx := ⟨_, rfl⟩
  rw [hsx] at HN ⊢
  clear hkk hlt hsm h ht hsx hT0 hb4
  go_enter Tryz.func112, Tryz.ntmps112
  go_wp2_with fail
  refine HN.out.mono ?_
  rintro x w1 ⟨rfl, hT1⟩
  obtain ⟨W, hW⟩ : ∃ W, w1.alloc (.cells #[.int .i64 (kd : Int), .int .i64 (nn : Int), .int .i64 (pl : Int), .string sx] 60) = W := ⟨_, rfl⟩
  have hT2 : Touch NoB W0 W := by rw [← hW]; exact hT1.alloc _
  have hp2 := HP.out.touch hT2
  have hs1 := hT1.size
  have c1 : W.cell? ⟨gp, 1, none⟩ = some (.int .i64 (k : Int)) := cell_blk hp2.blk 1
  have q1 : W.frozen? ⟨gp, 1, none⟩ = false := free_blk hp2.blk 1
  have hb : W.heap[w1.heap.size]? = some (.cells #[.int .i64 (kd : Int), .int .i64 (nn : Int), .int .i64 (pl : Int), .string sx] 60 (0, 0)) := by rw [← hW]; exact alloc_blk _ _ _ rfl
  have d0 : W.cell? ⟨w1.heap.size, 0, none⟩ = some (.int .i64 (kd : Int)) := cell_blk hb 0
  obtain ⟨W3, hW3⟩ : ∃ W3, W.setCell ⟨gp, 1, none⟩ (.int .i64 (k1 : Int)) = W3 := ⟨_, rfl⟩
  have t3 : Touch (AtB gp) W W3 := by rw [← hW3]; exact touch_set (gp := gp) (Touch.refl _ W) 1 _
  have hb3 : W3.heap[w1.heap.size]? = some (.cells #[.int .i64 (kd : Int), .int .i64 (nn : Int), .int .i64 (pl : Int), .string sx] 60 (0, 0)) := (t3.block _ (blk_lt hb) (by unfold AtB; omega)).trans hb
  have hb43 : W3.heap[w.heap.size]? = some (.cells #[.int .i64 0, .int .i64 0, .int .i64 0, .string ⟨#[]⟩] 60 (0, 0)) := (t3.block _ (by have := hT2.size; omega) (by unfold AtB; omega)).trans ((hT2.block _ (by omega) (fun x => x)).trans HB4.out)
  have e0 : W3.cell? ⟨w1.heap.size, 0, none⟩ = some (.int .i64 (kd : Int)) := cell_blk hb3 0
  have e1 : W3.cell? ⟨w1.heap.size, 1, none⟩ = some (.int .i64 (nn : Int)) := cell_blk hb3 1
  have e2 : W3.cell? ⟨w1.heap.size, 2, none⟩ = some (.int .i64 (pl : Int)) := cell_blk hb3 2
  have e3 : W3.cell? ⟨w1.heap.size, 3, none⟩ = some (.string sx) := cell_blk hb3 3
  have z0 : W3.cell? ⟨w.heap.size, 0, none⟩ = some (.int .i64 0) := cell_blk hb43 0
  have z1 : W3.cell? ⟨w.heap.size, 1, none⟩ = some (.int .i64 0) := cell_blk hb43 1
  have z2 : W3.cell? ⟨w.heap.size, 2, none⟩ = some (.int .i64 0) := cell_blk hb43 2
  have z3 : W3.cell? ⟨w.heap.size, 3, none⟩ = some (.string ⟨#[]⟩) := cell_blk hb43 3
  have f0 : W3.frozen? ⟨w.heap.size, 0, none⟩ = false := free_blk hb43 0
  have f1 : W3.frozen? ⟨w.heap.size, 1, none⟩ = false := free_blk hb43 1
  have f2 : W3.frozen? ⟨w.heap.size, 2, none⟩ = false := free_blk hb43 2
  have f3 : W3.frozen? ⟨w.heap.size, 3, none⟩ = false := free_blk hb43 3
  have nl := blk_lt hb43
  have HE := Lib.hid (And.intro (show PSt T W3 gp g n cp ts k1 e by rw [← hW3]; exact hp2.setk k1 hk1n) (show Touch (AtB gp) w W3 from (Touch.anyB (HT0.out.same hT2)).same t3))
  clear hT1 hT2 hp2 hb hb3 hb43 t3
  go_wp2
  have hTE := touch4 (F := AtB gp) HE.out.2 (.inr (Nat.le_refl w.heap.size)) (.int .i64 (kd : Int)) (.int .i64 (nn : Int)) (.int .i64 (pl : Int)) (.string sx)
  have hTX := touch4 (F := fun b => b = w.heap.size) (Touch.refl _ W3) (.inl rfl) (.int .i64 (kd : Int)) (.int .i64 (nn : Int)) (.int .i64 (pl : Int)) (.string sx)
  exact bodyPost_ret (v := .agg #[.int .i64 (kd : Int), .int .i64 (nn : Int), .int .i64 (pl : Int), .string sx]) (by simp [results, Tryz.results112, go_sem, z0, z1, z2, z3]) rfl ⟨rfl, HE.out.1.touchX hTX (by omega) (by omega), hTE⟩
theorem one_no {T : TypeId} {w : World} {gp g n cp : Nat} {ts : List Tk} {k e c : Nat} (h : PSt T w gp g n cp ts k e) (hk : (nxt ts k e).kd ≠ c) :
    Calls Tryz.prog 112 #[.pointer (some ⟨gp, 0, none⟩), .int .i64 (c : Int)] w fun x w' => x = .returned (tkV tk0) ∧ PSt T w' gp g n cp ts k (if e = 0 then 2 else e) ∧ Touch (AtB gp) w w' := by
  obtain ⟨W0, hW0⟩ : ∃ W, w.alloc (.cells #[.int .i64 0, .int .i64 0, .int .i64 0, .string ⟨#[]⟩] 60) = W := ⟨_, rfl⟩
  have hT0 : Touch NoB w W0 := by rw [← hW0]; exact (Touch.refl _ _).alloc _
  have hb4 : W0.heap[w.heap.size]? = some (.cells #[.int .i64 0, .int .i64 0, .int .i64 0, .string ⟨#[]⟩] 60 (0, 0)) := by rw [← hW0]; exact alloc_blk _ _ _ rfl
  have hs0 : W0.heap.size = w.heap.size + 1 := by rw [← hW0]; simp only [World.size_alloc]
  have hgp := blk_lt h.blk
  have hgl := h.tl.lt
  have HN := Lib.hid (next_any (h.touch hT0))
  have HP := Lib.hid (h.touch hT0)
  have HT0 := Lib.hid hT0
  have HB4 := Lib.hid hb4
  obtain ⟨t, ht⟩ : ∃ t, nxt ts k e = t := ⟨_, rfl⟩
  rw [ht] at HN hk
  obtain ⟨kd, nn, pl, tx⟩ := t
  simp only at hk HN
  have hkc : ((kd : Int) != (c : Int)) = true := by rw [ne_nat]; simpa using hk
  obtain ⟨sx, hsx⟩ : ∃ sx, bs tx = sx := ⟨_, rfl⟩
  rw [hsx] at HN
  have hbs : bs [] = ⟨#[]⟩ := rfl
  obtain ⟨e', he'⟩ : ∃ e', (if e = 0 then 2 else e) = e' := ⟨_, rfl⟩
  rw [he']
  have HE' := Lib.hid he'
  unfold tkV tk0
  simp only [hbs]
  clear h ht hsx hT0 hb4 hk he' hbs
  go_enter Tryz.func112, Tryz.ntmps112
  go_wp2_with fail
  refine HN.out.mono ?_
  rintro x w1 ⟨rfl, hT1⟩
  obtain ⟨W, hW⟩ : ∃ W, w1.alloc (.cells #[.int .i64 (kd : Int), .int .i64 (nn : Int), .int .i64 (pl : Int), .string sx] 60) = W := ⟨_, rfl⟩
  have hT2 : Touch NoB W0 W := by rw [← hW]; exact hT1.alloc _
  have hb : W.heap[w1.heap.size]? = some (.cells #[.int .i64 (kd : Int), .int .i64 (nn : Int), .int .i64 (pl : Int), .string sx] 60 (0, 0)) := by rw [← hW]; exact alloc_blk _ _ _ rfl
  have d0 : W.cell? ⟨w1.heap.size, 0, none⟩ = some (.int .i64 (kd : Int)) := cell_blk hb 0
  have HF := Lib.hid (fail_any (HP.out.touch hT2) 2)
  rw [HE'.out] at HF
  have HE := Lib.hid (show Touch (AtB gp) w W from Touch.anyB (HT0.out.same hT2))
  have HT2 := Lib.hid hT2
  clear hT1 hT2 hb
  go_wp2_with fail
  refine HF.out.mono ?_
  rintro x W3 ⟨rfl, hp3, t3⟩
  have hs3 := t3.size
  have hb43 : W3.heap[w.heap.size]? = some (.cells #[.int .i64 0, .int .i64 0, .int .i64 0, .string ⟨#[]⟩] 60 (0, 0)) := (t3.block _ (by have := HT2.out.size; omega) (by unfold AtB; omega)).trans ((HT2.out.block _ (by omega) (fun x => x)).trans HB4.out)
  have z0 : W3.cell? ⟨w.heap.size, 0, none⟩ = some (.int .i64 0) := cell_blk hb43 0
  have z1 : W3.cell? ⟨w.heap.size, 1, none⟩ = some (.int .i64 0) := cell_blk hb43 1
  have z2 : W3.cell? ⟨w.heap.size, 2, none⟩ = some (.int .i64 0) := cell_blk hb43 2
  have z3 : W3.cell? ⟨w.heap.size, 3, none⟩ = some (.string ⟨#[]⟩) := cell_blk hb43 3
  have f0 : W3.frozen? ⟨w.heap.size, 0, none⟩ = false := free_blk hb43 0
  have f1 : W3.frozen? ⟨w.heap.size, 1, none⟩ = false := free_blk hb43 1
  have f2 : W3.frozen? ⟨w.heap.size, 2, none⟩ = false := free_blk hb43 2
  have f3 : W3.frozen? ⟨w.heap.size, 3, none⟩ = false := free_blk hb43 3
  have nl := blk_lt hb43
  have HE := Lib.hid (And.intro hp3 (HE.out.same t3))
  clear hp3 t3 hb43
  go_wp2
  have hTE := touch4 (F := AtB gp) HE.out.2 (.inr (Nat.le_refl w.heap.size)) (.int .i64 0) (.int .i64 0) (.int .i64 0) (.string ⟨#[]⟩)
  have hTX := touch4 (F := fun b => b = w.heap.size) (Touch.refl _ W3) (.inl rfl) (.int .i64 0) (.int .i64 0) (.int .i64 0) (.string ⟨#[]⟩)
  exact bodyPost_ret (v := .agg #[.int .i64 0, .int .i64 0, .int .i64 0, .string ⟨#[]⟩]) (by simp [results, Tryz.results112, go_sem, z0, z1, z2, z3]) rfl ⟨rfl, HE.out.1.touchX hTX (by omega) (by omega), hTE⟩
/-- What Number returns, and where it leaves the reader. -/
def numR (t : Tk) : Nat := if t.kd = 3 then t.n else 0
def namR (t : Tk) : Bs := if t.kd = 1 then t.tx else []
def stepK (t : Tk) (c k : Nat) : Nat := if t.kd = c then k + 1 else k
def stepE (t : Tk) (c e : Nat) : Nat := if t.kd = c then e else if e = 0 then 2 else e
theorem Number_any {T : TypeId} {w : World} {gp g n cp : Nat} {ts : List Tk} {k e : Nat} (h : PSt T w gp g n cp ts k e) :
    Calls Tryz.prog 116 #[.pointer (some ⟨gp, 0, none⟩)] w fun x w' => x = .returned (.int .i64 (numR (nxt ts k e) : Int)) ∧ PSt T w' gp g n cp ts (stepK (nxt ts k e) 3 k) (stepE (nxt ts k e) 3 e) ∧ Touch (AtB gp) w w' := by
  have hf := fun (a b c d : Value) (W : World) => tok_f1 a b c d W
  by_cases hk : (nxt ts k e).kd = 3
  · have HO := Lib.hid (one_yes h (by decide) hk)
    unfold numR stepK stepE
    rw [if_pos hk, if_pos hk, if_pos hk]
    unfold tkV at HO
    obtain ⟨t, ht⟩ : ∃ t, nxt ts k e = t := ⟨_, rfl⟩
    rw [ht] at HO ⊢
    obtain ⟨kd, nn, pl, tx⟩ := t
    simp only at HO ⊢
    obtain ⟨sx, hsx⟩ : ∃ sx, bs tx = sx := ⟨_, rfl⟩
    rw [hsx] at HO
    clear h hk ht hsx
    go_enter Tryz.func116, Tryz.ntmps116
    go_wp2_with fail
    refine HO.out.mono ?_
    rintro x W ⟨rfl, h1, h2⟩
    have HE := Lib.hid (And.intro h1 h2)
    clear h1 h2
    go_wp2
    go_ret
    exact ⟨rfl, HE.out.1, HE.out.2⟩
  · have HO := Lib.hid (one_no h hk)
    unfold numR stepK stepE
    rw [if_neg hk, if_neg hk, if_neg hk]
    obtain ⟨e', he'⟩ : ∃ e', (if e = 0 then 2 else e) = e' := ⟨_, rfl⟩
    rw [he'] at HO ⊢
    clear he'
    unfold tkV tk0 at HO
    have hbs : bs [] = ⟨#[]⟩ := rfl
    simp only [hbs] at HO
    clear h hk hbs
    go_enter Tryz.func116, Tryz.ntmps116
    go_wp2_with fail
    refine HO.out.mono ?_
    rintro x W ⟨rfl, h1, h2⟩
    have HE := Lib.hid (And.intro h1 h2)
    clear h1 h2
    go_wp2
    go_ret
    exact ⟨rfl, HE.out.1, HE.out.2⟩
theorem Name_any {T : TypeId} {w : World} {gp g n cp : Nat} {ts : List Tk} {k e : Nat} (h : PSt T w gp g n cp ts k e) :
    Calls Tryz.prog 82 #[.pointer (some ⟨gp, 0, none⟩)] w fun x w' => x = .returned (.string (bs (namR (nxt ts k e)))) ∧ PSt T w' gp g n cp ts (stepK (nxt ts k e) 1 k) (stepE (nxt ts k e) 1 e) ∧ Touch (AtB gp) w w' := by
  have hf := fun (a b c d : Value) (W : World) => tok_f3 a b c d W
  by_cases hk : (nxt ts k e).kd = 1
  · have HO := Lib.hid (one_yes h (by decide) hk)
    unfold namR stepK stepE
    rw [if_pos hk, if_pos hk, if_pos hk]
    unfold tkV at HO
    obtain ⟨t, ht⟩ : ∃ t, nxt ts k e = t := ⟨_, rfl⟩
    rw [ht] at HO ⊢
    obtain ⟨kd, nn, pl, tx⟩ := t
    simp only at HO ⊢
    obtain ⟨sx, hsx⟩ : ∃ sx, bs tx = sx := ⟨_, rfl⟩
    rw [hsx] at HO ⊢
    clear h hk ht hsx
    go_enter Tryz.func82, Tryz.ntmps82
    go_wp2_with fail
    refine HO.out.mono ?_
    rintro x W ⟨rfl, h1, h2⟩
    have HE := Lib.hid (And.intro h1 h2)
    clear h1 h2
    go_wp2
    go_ret
    exact ⟨rfl, HE.out.1, HE.out.2⟩
  · have HO := Lib.hid (one_no h hk)
    unfold namR stepK stepE
    rw [if_neg hk, if_neg hk, if_neg hk]
    obtain ⟨e', he'⟩ : ∃ e', (if e = 0 then 2 else e) = e' := ⟨_, rfl⟩
    rw [he'] at HO ⊢
    clear he'
    unfold tkV tk0 at HO
    have hbs : bs [] = ⟨#[]⟩ := rfl
    simp only [hbs] at HO ⊢
    clear h hk hbs
    go_enter Tryz.func82, Tryz.ntmps82
    go_wp2_with fail
    refine HO.out.mono ?_
    rintro x W ⟨rfl, h1, h2⟩
    have HE := Lib.hid (And.intro h1 h2)
    clear h1 h2
    go_wp2
    go_ret
    exact ⟨rfl, HE.out.1, HE.out.2⟩
theorem number_any' {w : World} {gp g n cp : Nat} {ts : List Tk} {k e : Nat} (h : PS w gp g n cp ts k e) :
    Calls Tryz.prog 178 #[.pointer (some ⟨gp, 0, none⟩)] w fun x w' => x = .returned (.int .i64 (numR (nxt ts k e) : Int)) ∧ PS w' gp g n cp ts (stepK (nxt ts k e) 3 k) (stepE (nxt ts k e) 3 e) ∧ Touch (AtB gp) w w' := by
  have hf := fun (a b c d : Value) (W : World) => tok_f1 a b c d W
  have HN := Lib.hid (next_any h)
  have HM := Lib.hid (fun (W : World) (t : Touch NoB w W) => Number_any (h.touch t))
  obtain ⟨k1, hk1⟩ : ∃ k1, stepK (nxt ts k e) 3 k = k1 := ⟨_, rfl⟩
  obtain ⟨e1, he1⟩ : ∃ e1, stepE (nxt ts k e) 3 e = e1 := ⟨_, rfl⟩
  obtain ⟨m, hm⟩ : ∃ m, numR (nxt ts k e) = m := ⟨_, rfl⟩
  rw [hk1, he1, hm] at HM ⊢
  clear hk1 he1 hm
  obtain ⟨t, ht⟩ : ∃ t, nxt ts k e = t := ⟨_, rfl⟩
  rw [ht] at HN
  obtain ⟨kd, nn, pl, tx⟩ := t
  simp only at HN
  have hmin : ((nn : Int) == -9223372036854775808) = false := by simp
  obtain ⟨sx, hsx⟩ : ∃ sx, bs tx = sx := ⟨_, rfl⟩
  rw [hsx] at HN
  clear h ht hsx
  go_enter Tryz.func178, Tryz.ntmps178
  go_wp2_with fail
  refine HN.out.mono ?_
  rintro x w1 ⟨rfl, hT1⟩
  have HM := Lib.hid (HM.out w1 hT1)
  have HT1 := Lib.hid hT1
  clear hT1
  go_wp2_with fail
  refine HM.out.mono ?_
  rintro x W ⟨rfl, h1, h2⟩
  have HE := Lib.hid (And.intro h1 ((Touch.anyB HT1.out).same h2))
  clear h1 h2
  go_wp2
  go_ret
  exact ⟨rfl, HE.out.1, HE.out.2⟩
theorem number_yes {w : World} {gp g n cp : Nat} {ts : List Tk} {k m : Nat} (h : PS w gp g n cp ts k 0) (hn : numAt ts k = some m) :
    Calls Tryz.prog 178 #[.pointer (some ⟨gp, 0, none⟩)] w fun x w' => x = .returned (.int .i64 (m : Int)) ∧ PS w' gp g n cp ts (k + 1) 0 ∧ Touch (AtB gp) w w' := by
  obtain ⟨h3, h4⟩ := num_nxt hn
  have H := number_any' h
  unfold numR stepK stepE at H
  rw [if_pos h3, if_pos h3, if_pos h3, h4] at H
  exact H
theorem number_no {w : World} {gp g n cp : Nat} {ts : List Tk} {k : Nat} (h : PS w gp g n cp ts k 0) (hn : numAt ts k = none) :
    Calls Tryz.prog 178 #[.pointer (some ⟨gp, 0, none⟩)] w fun x w' => x = .returned (.int .i64 0) ∧ PS w' gp g n cp ts k 2 ∧ Touch (AtB gp) w w' := by
  have h3 := num_not hn
  have H := number_any' h
  unfold numR stepK stepE at H
  rw [if_neg h3, if_neg h3, if_neg h3, if_pos rfl] at H
  exact H
/-- Is this a name? -/
def okN (s : Bs) : Bool := nameB (bs s) && !wrd (bs s)
theorem okN_len {s : Bs} (h : okN s = true) : s.length ≤ 24 := by
  unfold okN nameB at h
  simp only [Bool.and_eq_true, decide_eq_true_eq, bs_size] at h
  exact h.1.1.1.2
theorem PSt.tx_le {T : TypeId} {w : World} {gp g n cp : Nat} {ts : List Tk} {k e : Nat} (h : PSt T w gp g n cp ts k e) : (nxt ts k e).tx.length ≤ 100000 := by
  unfold nxt
  split
  · cases ht : ts[k]? with
    | none => simp
    | some t => exact h.txs t (List.mem_of_getElem? ht)
  · simp
theorem name_yes {w : World} {gp g n cp : Nat} {ts : List Tk} {k : Nat} {s : Bs} (h : PS w gp g n cp ts k 0) (hn : nameAt ts k = some s) (hs : okN s = true) :
    Calls Tryz.prog 183 #[.pointer (some ⟨gp, 0, none⟩)] w fun x w' => x = .returned (.string (bs s)) ∧ PS w' gp g n cp ts (k + 1) 0 ∧ Touch (AtB gp) w w' := by
  obtain ⟨h3, h4⟩ := nam_nxt hn
  have hf := fun (a b c d : Value) (W : World) => tok_f3 a b c d W
  have HN := Lib.hid (next_any h)
  have HM := Lib.hid (fun (W : World) (t : Touch NoB w W) => Name_any (h.touch t))
  unfold namR stepK stepE at HM
  rw [if_pos h3, if_pos h3, if_pos h3, h4] at HM
  have HL := Lib.hid (fun w => lname_any (bs s) (by rw [bs_size]; have := okN_len hs; omega) w)
  unfold okN at hs
  rw [hs] at HL
  rw [h4] at HN
  obtain ⟨t, ht⟩ : ∃ t, nxt ts k 0 = t := ⟨_, rfl⟩
  rw [ht] at HN
  obtain ⟨kd, nn, pl, tx⟩ := t
  simp only at HN
  obtain ⟨sx, hsx⟩ : ∃ sx, bs s = sx := ⟨_, rfl⟩
  rw [hsx] at HN HL HM ⊢
  clear h ht hsx h3 h4 hn hs
  go_enter Tryz.func183, Tryz.ntmps183
  go_wp2_with fail
  refine HN.out.mono ?_
  rintro x w1 ⟨rfl, hT1⟩
  have HM := Lib.hid (HM.out w1 hT1)
  have HT1 := Lib.hid hT1
  clear hT1
  go_wp2_with fail
  refine (HL.out _).mono ?_
  rintro x w2 ⟨rfl, rfl⟩
  go_wp2_with fail
  refine HM.out.mono ?_
  rintro x W ⟨rfl, h1, h2⟩
  have HE := Lib.hid (And.intro h1 ((Touch.anyB HT1.out).same h2))
  clear h1 h2
  go_wp2
  go_ret
  exact ⟨rfl, HE.out.1, HE.out.2⟩
theorem name_no {w : World} {gp g n cp : Nat} {ts : List Tk} {k : Nat} (h : PS w gp g n cp ts k 0) (hn : nameAt ts k = none) :
    Calls Tryz.prog 183 #[.pointer (some ⟨gp, 0, none⟩)] w fun x w' => x = .returned (.string ⟨#[]⟩) ∧ PS w' gp g n cp ts k 2 ∧ Touch (AtB gp) w w' := by
  have h3 := nam_not hn
  have hf := fun (a b c d : Value) (W : World) => tok_f3 a b c d W
  have HN := Lib.hid (next_any h)
  have HF := Lib.hid (fun (W : World) (t : Touch NoB w W) => fail_yes (h.touch t) 2)
  have HM := Lib.hid (fun (W : World) (t : Touch NoB w W) => Name_any (h.touch t))
  have HB := Lib.hid (fun (W : World) (q : PS W gp g n cp ts k 2) => Name_any q)
  have hbad : (nxt ts k 2).kd ≠ 1 := by rw [nxt_bad (by decide)]; decide
  have hbs : bs [] = ⟨#[]⟩ := rfl
  unfold namR stepK stepE at HM HB
  rw [if_neg h3, if_neg h3, if_neg h3, if_pos rfl, hbs] at HM
  rw [if_neg hbad, if_neg hbad, if_neg hbad, if_neg (by decide), hbs] at HB
  have HL := Lib.hid (fun w => lname_any (bs (nxt ts k 0).tx) (by rw [bs_size]; have := h.tx_le; omega) w)
  obtain ⟨t, ht⟩ : ∃ t, nxt ts k 0 = t := ⟨_, rfl⟩
  rw [ht] at HN HL
  obtain ⟨kd, nn, pl, tx⟩ := t
  simp only at HN HL
  obtain ⟨sx, hsx⟩ : ∃ sx, bs tx = sx := ⟨_, rfl⟩
  rw [hsx] at HN HL
  obtain ⟨b, hb⟩ : ∃ b, (nameB sx && !wrd sx) = b := ⟨_, rfl⟩
  rw [hb] at HL
  clear h ht hsx h3 hn hb hbad hbs
  cases b
  · go_enter Tryz.func183, Tryz.ntmps183
    go_wp2_with fail
    refine HN.out.mono ?_
    rintro x w1 ⟨rfl, hT1⟩
    have HF := Lib.hid (HF.out w1 hT1)
    have HT1 := Lib.hid hT1
    clear hT1
    go_wp2_with fail
    refine (HL.out _).mono ?_
    rintro x w2 ⟨rfl, rfl⟩
    go_wp2_with fail
    refine HF.out.mono ?_
    rintro x w3 ⟨rfl, h1, h2⟩
    have HB := Lib.hid (HB.out w3 h1)
    have HE := Lib.hid ((Touch.anyB HT1.out).same h2)
    clear h1 h2
    go_wp2_with fail
    refine HB.out.mono ?_
    rintro x W ⟨rfl, h1, h2⟩
    have HE := Lib.hid (And.intro h1 (HE.out.same h2))
    clear h1 h2
    go_wp2
    go_ret
    exact ⟨rfl, HE.out.1, HE.out.2⟩
  · go_enter Tryz.func183, Tryz.ntmps183
    go_wp2_with fail
    refine HN.out.mono ?_
    rintro x w1 ⟨rfl, hT1⟩
    have HM := Lib.hid (HM.out w1 hT1)
    have HT1 := Lib.hid hT1
    clear hT1
    go_wp2_with fail
    refine (HL.out _).mono ?_
    rintro x w2 ⟨rfl, rfl⟩
    go_wp2_with fail
    refine HM.out.mono ?_
    rintro x W ⟨rfl, h1, h2⟩
    have HE := Lib.hid (And.intro h1 ((Touch.anyB HT1.out).same h2))
    clear h1 h2
    go_wp2
    go_ret
    exact ⟨rfl, HE.out.1, HE.out.2⟩
end Go.Proofs.YtkmbobfjoaldgaaGreatDoor
