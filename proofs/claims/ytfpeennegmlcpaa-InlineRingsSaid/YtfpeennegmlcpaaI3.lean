/-
  Package nest's anew over a list of none; Copier.Fit and Both over a zero expression with no weights. Conditions: those that each theorem names.
-/
import Derived.Test.YtfpeennegmlcpaaI2
import Derived.Test.YtfpeennegmlcpaaN8
namespace Go.Proofs.Ytfpeennegmlcpaa
open Go.ChangeShapes Go.WideShapes Go.ChangeAt Go.RowKit
set_option maxRecDepth 100000
set_option maxHeartbeats 1000000

theorem anew_nil (w : World) : Calls Try.prog 96 #[.slice none 0 0] w fun e w' => e = .returned (.slice none 0 0) ∧ Touch NoB w w' := by
  go_enter Try.func96, Try.ntmps96
  go_wp2_with fail
  refine (moved_nil w).mono ?_
  rintro r w1 ⟨rfl, rfl⟩
  go_wp2
  go_loopg [3] 1 (fun k v3 wr => k ≤ 1 ∧ ∃ rb, v3 = .slice (some ⟨rb, 0, none⟩) k 1 ∧ wr.cell? ⟨rb, 0, none⟩ = some (.slice none 0 0) ∧ Touch NoB w wr)
  case atStart => exact ⟨Nat.le_refl _, w.heap.size, rfl, cell_blk (mk_blk w #[.slice none 0 0] _ rfl) 0, (Touch.refl _ _).alloc _⟩
  case round =>
    obtain ⟨hk, rb, rfl, hc0, hT⟩ := hrel
    have HR := Lib.hid hT
    clear hT
    by_cases h0 : gk = 0
    · subst h0
      go_wp2
      go_ret
      exact ⟨rfl, HR.out⟩
    · have h1 : gk = 1 := by omega
      subst h1
      clear hk h0
      go_wp2
      obtain ⟨wo, rfl⟩ : ∃ x, x = wr := ⟨_, rfl⟩
      go_loopg [3, 27] 0 (fun k v3 v27 w2 => v3 = .slice (some ⟨rb, 0, none⟩) 0 1 ∧ v27 = .int .i64 0 ∧ Touch NoB w w2 ∧ w2.cell? ⟨rb, 0, none⟩ = some (.slice none 0 0))
      case atStart => exact ⟨rfl, rfl, HR.out, hc0⟩
      case round =>
        obtain ⟨rfl, rfl, hT, hc2⟩ := hrel
        have HR2 := Lib.hid hT
        clear hT hc0
        go_wp2
        go_roundg 0
        case measure => omega
        case rel => exact ⟨by omega, rb, rfl, hc2, HR2.out⟩
theorem set_same {cs : Array Value} {i : Nat} {v : Value} (h : cs[i]? = some v) : cs.setIfInBounds i v = cs := by
  apply Array.ext_getElem?
  intro j
  by_cases e : i = j
  · subst e
    rw [Array.getElem?_setIfInBounds_self_of_lt (Array.getElem?_eq_some_iff.1 h).1, h]
  · rw [Array.getElem?_setIfInBounds_ne e]
/-- A list of one zero expression has one element, with nothing below. -/
theorem lk_bare {w : World} {b : Nat} {cs : Array Value} {ty : TypeId} (hb : w.heap[b]? = some (.cells cs ty (0, 0))) (h3 : cs[3]? = some (.slice none 0 0)) : LK w 4 3 1 (⟨b, 0, none⟩, 1) [.mk []] := by
  refine ⟨rfl, Nat.one_pos, rfl, ⟨cs, ty, hb⟩, fun i t ht => ?_⟩
  match i, ht with
  | 0, ht =>
    injection ht with ht
    subst ht
    exact ⟨none, 0, 0, (cell_blk hb 3).trans h3, by omega, fun _ => rfl, fun h => by omega⟩
/-- At the head of a round of Fit, of which k are still to come. -/
def FtRel (w : World) (eb ox lb : Nat) (cs : Array Value) (ty : TypeId) (x k : Nat) (v : Value) (W : World) : Prop :=
  k ≤ 2 ∧ v = .int .i64 ((2 - k : Nat) : Int) ∧ (∃ y : Nat, W.heap[eb]? = some (.cells (cs.setIfInBounds ox (.int .i64 (y : Int))) ty (0, 0)) ∧ (k = 2 → y = x) ∧ (k < 2 → y = x + 1)) ∧ Touch (fun b => b = eb) w W ∧
    W.heap[lb + 1]? = some (.cells #[.slice (some ⟨lb, 0, none⟩) 1 1, .slice none 0 0] 25 (0, 0)) ∧ W.heap[lb]? = some (.cells zE.toArray 27 (0, 0))
theorem fit_bare {w : World} {eb ox : Nat} {cs : Array Value} {ty : TypeId} (x : Nat) (hb : w.heap[eb]? = some (.cells cs ty (0, 0))) (h1 : cs[ox]? = some (.int .i64 (x : Int))) (hx : x ≤ 100000) :
    Calls Try.prog 95 #[.pointer (some ⟨eb, ox, none⟩), .agg #[.int .i64 0, .int .i64 0, .string ⟨#[]⟩, .slice none 0 0], .slice none 0 0] w fun e w' => e = .returned (.bool true) ∧ w'.heap[eb]? = some (.cells (cs.setIfInBounds ox (.int .i64 ((x + 1 : Nat) : Int))) ty (0, 0)) ∧ Touch (fun b => b = eb) w w' := by
  have hel := blk_lt hb
  obtain ⟨lb, hlb⟩ : ∃ lb, w.heap.size + 1 = lb := ⟨_, rfl⟩
  go_enter Try.func95, Try.ntmps95
  go_wp2
  go_loopg [16] 2 (fun k v16 wr => FtRel w eb ox lb cs ty x k v16 wr)
  case atStart =>
    have t3 : ∀ a b c, Touch NoB w (((w.alloc a).alloc b).alloc c) := fun a b c => (((Touch.refl NoB w).alloc a).alloc b).alloc c
    refine ⟨Nat.le_refl _, rfl, ⟨x, ?_, fun _ => rfl, fun h => by omega⟩, (t3 _ _ _).mono (fun _ f => f.elim), mk_blk ((w.alloc _).alloc _) #[.slice (some ⟨lb, 0, none⟩) 1 1, .slice none 0 0] _ (by simp; omega), ?_⟩
    · rw [set_same h1]
      exact ((t3 _ _ _).block eb hel (fun f => f)).trans hb
    · refine (((Touch.refl NoB _).alloc _).block lb (by simp; omega) (fun f => f)).trans ?_
      exact mk_blk (w.alloc _) zE.toArray _ (by simp; omega)
  case round =>
    obtain ⟨hk, rfl, ⟨y, hy, hy2, hy1⟩, hT, hll, hl⟩ := hrel
    have HR := Lib.hid (And.intro hT (And.intro hll (And.intro hl (And.intro hy1 hy2))))
    clear hT hll hl hy1 hy2
    by_cases h0 : gk = 0
    · subst h0
      go_wp2
      go_ret
      rw [HR.out.2.2.2.1 (by omega)] at hy
      exact ⟨rfl, hy, HR.out.1⟩
    · have hyx : y ≤ 100001 := by
        by_cases h2 : gk = 2
        · have := HR.out.2.2.2.2 h2; omega
        · have := HR.out.2.2.2.1 (by omega); omega
      have e1 := (cell_blk hy ox).trans (Array.getElem?_setIfInBounds_self_of_lt (Array.getElem?_eq_some_iff.1 h1).1)
      have hell := blk_lt hy
      have HY := Lib.hid hy
      have l0 : wr.cell? ⟨lb + 1, 0, none⟩ = some (.slice (some ⟨lb, 0, none⟩) 1 1) := cell_blk HR.out.2.1 0
      have l1 : wr.cell? ⟨lb + 1, 1, none⟩ = some (.slice none 0 0) := cell_blk HR.out.2.1 1
      by_cases h2 : gk = 2
      · have HS := Lib.hid (fun c => sizex_any (c := c) (lk_bare (w := wr) HR.out.2.2.1 rfl) (by simp [cntT, Tt.cnt]))
        have HK := Lib.hid (HR.out.2.2.2.2 h2)
        subst h2
        clear h0 hk hy
        go_wp2_with fail
        refine (HS.out _).mono ?_
        rintro r w4 ⟨rfl, t4⟩
        have t4' : Touch (fun b => b = eb) wr w4 := t4.mono (fun _ f => f.elim)
        have hy4 := (t4.block eb hell (fun f => f)).trans HY.out
        have e4 := (t4.cell (p := ⟨eb, ox, none⟩) hell (fun f => f)).trans e1
        have f4 := free_blk hy4 ox
        have hell4 := blk_lt hy4
        have HT4 := Lib.hid (And.intro t4 hy4)
        clear t4 t4' hy4 e1
        have hc1 : ((cntT [Tt.mk []] : Nat) : Int) = 1 := rfl
        have hd1 : ((depT [Tt.mk []] : Nat) : Int) = 1 := rfl
        rw [hc1, hd1]
        have hw1 : IntKind.i64.wrap (38347922 - (y : Int)) = 38347922 - (y : Int) := IntWalk.i64_in _ (by omega)
        have hw2 : ¬ ((38347922 - (y : Int)) < 1) := by omega
        have hw3 : IntKind.i64.wrap ((y : Int) + 1) = ((y + 1 : Nat) : Int) := IntWalk.i64_in _ (by omega)
        go_wp2
        go_roundg 1
        case measure => omega
        case rel =>
          have hs := set_blk HT4.out.2 ox (.int .i64 ((y : Int) + 1))
          have tS : Touch (fun b => b = eb) wr (w4.setCell ⟨eb, ox, none⟩ (.int .i64 ((y : Int) + 1))) := Touch.setCell (F := fun b => b = eb) (HT4.out.1.mono (fun _ f => f.elim)) (p := ⟨eb, ox, none⟩) (.inl rfl) _
          have hne : ∀ j, j = lb ∨ j = lb + 1 → ¬ j = eb := fun j h => by omega
          refine ⟨by omega, rfl, ⟨y + 1, ?_, fun h => by omega, fun _ => by rw [HK.out]⟩, HR.out.1.same tS, (tS.block (lb + 1) (blk_lt HR.out.2.1) (hne _ (.inr rfl))).trans HR.out.2.1, (tS.block lb (blk_lt HR.out.2.2.1) (hne _ (.inl rfl))).trans HR.out.2.2.1⟩
          rw [hs, Array.setIfInBounds_setIfInBounds]
          rfl
      · have h1k : gk = 1 := by omega
        have HK := Lib.hid (HR.out.2.2.2.1 (by omega))
        subst h1k
        clear h0 hk hy h2
        have e4 := e1
        have f4 := free_blk HY.out ox
        have hw1 : IntKind.i64.wrap (38347922 - (y : Int)) = 38347922 - (y : Int) := IntWalk.i64_in _ (by omega)
        have hw2 : ¬ ((38347922 - (y : Int)) < 0) := by omega
        have hw3 : IntKind.i64.wrap ((y : Int) + 0) = (y : Int) := IntWalk.i64_in _ (by omega)
        go_wp2_with fail
        refine (sizex_nil _).mono ?_
        rintro r w4 ⟨rfl, rfl⟩
        go_wp2
        go_roundg 0
        case measure => omega
        case rel =>
          have hs := set_blk HY.out ox (.int .i64 (y : Int))
          have tS : Touch (fun b => b = eb) wr (wr.setCell ⟨eb, ox, none⟩ (.int .i64 (y : Int))) := (Touch.refl (fun b => b = eb) wr).setCell (p := ⟨eb, ox, none⟩) (.inl rfl) _
          have hne : ∀ j, j = lb ∨ j = lb + 1 → ¬ j = eb := fun j h => by omega
          refine ⟨by omega, rfl, ⟨y, ?_, fun h => by omega, fun _ => HK.out⟩, HR.out.1.same tS, (tS.block (lb + 1) (blk_lt HR.out.2.1) (hne _ (.inr rfl))).trans HR.out.2.1, (tS.block lb (blk_lt HR.out.2.2.1) (hne _ (.inl rfl))).trans HR.out.2.2.1⟩
          rw [hs, Array.setIfInBounds_setIfInBounds]
end Go.Proofs.Ytfpeennegmlcpaa
