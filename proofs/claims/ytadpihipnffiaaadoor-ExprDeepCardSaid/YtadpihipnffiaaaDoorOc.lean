/-
  What the statements' own reader of texts returns. Conditions: the listed variables read as they are laid; the text has an expression.
-/
import Derived.Test.YtadpihipnffiaaaDoorOb
import Derived.Test.YtadpihipnffiaaaDoorQt
namespace Go.Proofs.YtadpihipnffiaaaDoor
open Go.ChangeShapes Go.WideShapes Go.ChangeAt Go.RowKit
set_option maxRecDepth 100000
set_option maxHeartbeats 4000000

/-- The expression of a text, and where it ends; nothing where there is none. -/
def txtE (l : Bs) : Option (Ex × Nat) := match lexL l with
  | .bad _ => none
  | .good ts => match parL ts 0 with
    | .ok x k => some (x, k)
    | .er _ _ => none
theorem txt_some {l : Bs} {x : Ex} {k : Nat} (h : txtE l = some (x, k)) : ∃ ts, lexL l = .good ts ∧ parL ts 0 = .ok x k := by
  unfold txtE at h
  cases hl : lexL l with
  | bad p => rw [hl] at h; cases h
  | good ts =>
    rw [hl] at h
    simp only at h
    cases hp : parL ts 0 with
    | er e j => rw [hp] at h; cases h
    | ok y j =>
      rw [hp] at h
      simp only [Option.some.injEq, Prod.mk.injEq] at h
      obtain ⟨rfl, rfl⟩ := h
      exact ⟨ts, rfl, hp⟩
theorem read_any {l : Bs} {x : Ex} {k : Nat} (h : txtE l = some (x, k)) (hlen : l.length ≤ 2000) (w : World) (hev : EN w) :
    Calls Tryd.prog 20 #[.string (bs l)] w fun e w' => ∃ (a b : Int) (s : ByteArray) (A : Option Addr) (m c : Nat), e = .returned (.tuple #[.agg #[.int .i64 a, .int .i64 b, .string s, .slice A m c], .int .i64 (k : Int)]) ∧ ET w' (fun _ => True) x a b s A m c ∧ Touch NoB w w' := by
  obtain ⟨ts, hl, hp⟩ := txt_some h
  obtain ⟨m, hm⟩ : ∃ m, ts.length = m := ⟨_, rfl⟩
  have hmx : m ≤ 2001 := by have := pl_count l 0 ts (lex_places hl); omega
  have hpos : 0 < m := by
    rw [← hm]
    cases ts with
    | nil => exact (lex_places hl).elim
    | cons t r => simp
  obtain ⟨W0, hW0⟩ : ∃ W, w.alloc (.cells #[.int .i64 0, .int .i64 0, .string ⟨#[]⟩, .slice none 0 0] 29) = W := ⟨_, rfl⟩
  have t0 : Touch NoB w W0 := by rw [← hW0]; exact (Touch.refl _ _).alloc _
  have hb0 : XB W0 w.heap.size 0 0 ⟨#[]⟩ none 0 0 := by rw [← hW0]; exact XB.new w _ _ _ _ _ _ rfl
  obtain ⟨sx, hsx⟩ : ∃ sx, bs l = sx := ⟨_, rfl⟩
  have hsz : sx.size = l.length := by rw [← hsx, bs_size]
  obtain ⟨cap, W1, hcv, hc1, hc2, hT1, hB1⟩ := conv_any sx (by omega) W0
  rw [hsz] at hcv hc1
  have hsl : sx.data.toList = l := by rw [← hsx, bs_list]
  rw [hsl] at hB1
  have HTK := Lib.hid (rtoks_good (w := W1) (m := m) (n := l.length) hl hm rfl (by omega) hc1 hB1)
  obtain ⟨ln, hln⟩ : ∃ ln, l.length = ln := ⟨_, rfl⟩
  rw [hln] at hcv HTK
  rw [hsx]
  have HPP := Lib.hid (And.intro hm (And.intro hmx (And.intro hpos (And.intro (lex_oks hl) hp))))
  have HEV := Lib.hid (hev.touch (t0.same hT1))
  have HB0 := Lib.hid ((hT1.block _ (blk_lt hb0) (fun x => x)).trans hb0 : XB W1 w.heap.size 0 0 ⟨#[]⟩ none 0 0)
  have HT1 := Lib.hid (t0.same hT1)
  have HN := Lib.hid (fun n w => num_any n w)
  clear h hl hp hm hmx hpos t0 hb0 hsx hsz hc1 hc2 hT1 hB1 hsl hln hev hlen
  go_enter Tryd.func20, Tryd.ntmps20
  go_wp2_with fail
  refine HTK.out.mono ?_
  rintro e w2 ⟨g, cp, rfl, hTL, hT2⟩
  have HPA := Lib.hid (fun (B : Nat) (hB : LV w2 B) => parse_any (cp := cp) hTL HPP.out.1 HPP.out.2.2.1 (by have := HPP.out.2.1; omega) hB HPP.out.2.2.2.1.1 HPP.out.2.2.2.1.2)
  obtain ⟨⟨B, hB⟩, -⟩ := HEV.out.touch hT2
  have HPA := Lib.hid (HPA.out B hB)
  have HB2 := Lib.hid ((hT2.block _ (blk_lt HB0.out) (fun x => x)).trans HB0.out : XB w2 w.heap.size 0 0 ⟨#[]⟩ none 0 0)
  have HT2 := Lib.hid (HT1.out.same hT2)
  clear hTL hT2 hB hcv
  go_wp2_with fail
  refine HPA.out.mono ?_
  intro e w3 hP
  unfold ParPost at hP
  rw [HPP.out.2.2.2.2] at hP
  obtain ⟨hT3, a, b, s, A, m', c, rfl, het⟩ := hP
  obtain ⟨W3, hW3⟩ : ∃ W, w3.alloc (.cells #[.int .i64 a, .int .i64 b, .string s, .slice A m' c] 29) = W := ⟨_, rfl⟩
  have t3 : Touch NoB w3 W3 := by rw [← hW3]; exact (Touch.refl _ _).alloc _
  have hx7 : XB W3 w3.heap.size a b s A m' c := by rw [← hW3]; exact XB.new _ _ _ _ _ _ _ rfl
  have hb3 : XB W3 w.heap.size 0 0 ⟨#[]⟩ none 0 0 := ((hT3.same t3).block _ (blk_lt HB2.out) (fun x => x)).trans HB2.out
  have hlt : w.heap.size < w2.heap.size := blk_lt HB2.out
  have hlt3 : w2.heap.size ≤ w3.heap.size := hT3.size
  obtain ⟨p0, p1, p2, p3, p4⟩ := hx7.cells
  obtain ⟨z0, z1, z2, z3, z4⟩ := hb3.cells
  obtain ⟨f0, f1, f2, f3⟩ := hb3.free
  have HET := Lib.hid (het.touch0 t3)
  have HT3 := Lib.hid (HT2.out.same (hT3.same t3))
  clear het hT3 t3 hx7 hb3
  go_wp2_with (first | (go_at_call 17; refine (HN.out _ _).mono ?_; rintro e w' ⟨rfl, rfl⟩))
  have hTE := touch4 (F := NoB) HT3.out (.inr (Nat.le_refl w.heap.size)) (.int .i64 a) (.int .i64 b) (.string s) (.slice A m' c)
  have hTX := touch4 (F := fun b => b = w.heap.size) (Touch.refl _ W3) (.inl rfl) (.int .i64 a) (.int .i64 b) (.string s) (.slice A m' c)
  exact bodyPost_ret (v := .tuple #[.agg #[.int .i64 a, .int .i64 b, .string s, .slice A m' c], .int .i64 (k : Int)]) (by simp [results, Tryd.results20, go_sem, z0, z1, z2, z3]) rfl ⟨a, b, s, A, m', c, rfl, (HET.out.aside hTX (by omega)).via (fun _ _ _ => trivial), hTE⟩
end Go.Proofs.YtadpihipnffiaaaDoor
