/-
  What schema.New returns, and what it leaves in memory; the example of the document.
-/
import Derived.Test.YteacpfknfbmjkaaKd
namespace Go.Proofs.Yteacpfknfbmjkaa
open Go.ChangeShapes Go.WideShapes Go.ChangeAt Go.RowKit
set_option maxRecDepth 100000
set_option maxHeartbeats 4000000

theorem SK.more {w : World} {F G : Nat → Prop} {g : Nat} {l : List Ky} (h : SK w F g l) (d : ∀ b, F b → G b) : SK w G g l := by
  obtain ⟨v, hg, hr, f0, f1, hs⟩ := h
  exact ⟨v, hg, hr, d _ f0, fun k hk => d _ (f1 k hk), hs⟩
theorem noext_in (w wr : World) : InW wr 0 (Ext NoB w wr) := by
  rintro b (hb | ⟨_, h2⟩)
  · exact hb.elim
  · exact ⟨Nat.zero_le _, h2⟩
theorem noext_ext {w a b c : World} (h1 : w.heap.size ≤ a.heap.size) (h2 : a.heap.size ≤ b.heap.size) (h3 : b.heap.size ≤ c.heap.size) : ∀ k, Ext (Ext NoB w a) b c k → Ext NoB w c k := by
  rintro k ((x | ⟨x, y⟩) | ⟨x, y⟩)
  · exact x.elim
  · exact .inr ⟨x, by omega⟩
  · exact .inr ⟨by omega, y⟩

/-- New's answers: a schema of the keys in new memory, or none and the error. -/
def NewYes (w : World) (l : List Ky) (e : Ending) (w' : World) : Prop := ∃ g : Nat, e = .returned (.tuple #[.pointer (some ⟨g, 0, none⟩), .int .i64 0]) ∧ SK w' (Ext NoB w w') g l ∧ Touch NoB w w'
def NewNo (w : World) (x : Int) (e : Ending) (w' : World) : Prop := e = .returned (.tuple #[.pointer none, .int .i64 x]) ∧ Touch NoB w w'
def NewPost (w : World) (l : List Ky) (e : Ending) (w' : World) : Prop := (errK l = 0 ∧ NewYes w l e w') ∨ (errK l ≠ 0 ∧ NewNo w (errK l) e w')
def NwRel (w : World) (l : List Ky) (v15 : Value) (wr : World) : Prop := ∃ i : Nat, i ≤ l.length ∧ v15 = .int .i64 i ∧ errI l i = errI l 0 ∧ SK wr (Ext NoB w wr) w.heap.size (l.take i) ∧ Touch NoB w wr

theorem new_any (A : Option Addr) (n cap : Nat) (l : List Ky) (w : World) (hn : l.length = n) (hn2 : n ≤ 1000000) (h : KAt w NoB A l) :
    Calls Try.prog 14 #[.slice A n cap] w (NewPost w l) := by
  by_cases h100 : 100 < n
  · have e9 : errK l = 9 := by unfold errK; rw [if_pos (by omega)]
    go_enter Try.func14, Try.ntmps14
    go_wp2
    exact bodyPost_ret (v := .tuple #[.pointer none, .int .i64 9]) (by simp [results, Try.results14, go_sem]) rfl (.inr ⟨by rw [e9]; decide, by rw [e9], Touch.refl _ _⟩)
  · have e9 : errK l = errI l 0 := by unfold errK; rw [if_neg (by omega), errI_zero]
    have HE := Lib.hid e9
    have HK := Lib.hid h
    have HN := Lib.hid hn
    clear e9 h hn
    go_enter Try.func14, Try.ntmps14
    go_wp2
    go_loopw [15] (fun v15 wr => NwRel w l v15 wr) (fun v15 _ => n - (intOf v15).toNat)
    case atStart => exact ⟨0, Nat.zero_le _, rfl, rfl, ⟨_, alloc_blk w _ 54 rfl, World.ownsRow_nil _ _ _ _, .inr ⟨Nat.le_refl _, by simp⟩, fun k hk => by simp [Value.ownBlock] at hk, fun j k hk => by simp at hk⟩, (Touch.refl _ _).alloc _⟩
    case round =>
      obtain ⟨i, hi, rfl, herr, hSK, hT⟩ := hrel
      by_cases hlt : i < n
      · obtain ⟨k, hk⟩ : ∃ k, l[i]? = some k := ⟨l[i]'(by have := HN.out; omega), List.getElem?_eq_getElem _⟩
        have hst := errI_step l i k hk
        rw [herr] at hst
        obtain ⟨hsz, b, off, rfl, hb, -, c0, c1, c2⟩ := HK.out.touch hT i k hk
        have htl : (l.take i).length ≤ 1000 := by rw [List.length_take]; omega
        by_cases he : errAt (l.take i) k = 0
        · have HA := Lib.hid (fun w' (t : Touch NoB wr w') => add_yes w.heap.size (l.take i) k (Ext NoB w wr) w' (hSK.quiet t) (fun x hx => ⟨Nat.zero_le _, Nat.lt_of_lt_of_le (noext_in w wr x hx).2 t.size⟩) htl hsz he)
          have e0 : errI l 0 = errI l (i + 1) := by rw [hst, if_pos he]
          have htk : l.take i ++ [k] = l.take (i + 1) := by
            have hil : i < l.length := by have := HN.out; omega
            rw [List.take_succ_eq_append_getElem hil]
            rw [List.getElem?_eq_getElem hil] at hk
            injection hk with hk
            rw [hk]
          rw [htk] at HA
          obtain ⟨nm, kd, sh⟩ := k
          simp only at c0 c1 c2 HA
          have HT := Lib.hid hT
          have H0 := Lib.hid e0
          clear hT herr hk hst he e0 htk hsz htl hSK
          go_wp2_with fail
          refine (HA.out _ (by repeat (first | with_reducible exact Touch.refl _ _ | with_reducible refine Touch.alloc ?_ _ | with_reducible refine Touch.setCell ?_ (.inr (by simp)) _))).mono ?_
          rintro e w1 ⟨rfl, hS1, hT1⟩
          have hsz1 := hT1.size
          have hw := HT.out.size
          simp only [World.size_alloc] at hsz1
          have hS2 := hS1.more (noext_ext (w := w) (a := wr) (b := _) (c := w1) hw (by simp) (by simp; omega))
          have hT2 : Touch NoB w w1 := (HT.out.alloc _).trans (G := Ext NoB w wr) hT1 (fun x hx => .inr (by rcases hx with hx | hx; exact hx.elim; exact hx.1))
          have HS2 := Lib.hid (And.intro hS2 hT2)
          clear hS1 hT1 hS2 hT2 hsz1 hw
          go_wp2
          go_roundw
          case rel => exact ⟨i + 1, by have := HN.out; omega, by go_num, H0.out.symm, HS2.out.1, HS2.out.2⟩
          case measure => simp [intOf]; omega
        · have HA := Lib.hid (fun w' (t : Touch NoB wr w') => add_no w.heap.size (l.take i) k (Ext NoB w wr) w' (hSK.quiet t) htl hsz he)
          have e0 : errK l = errAt (l.take i) k := by rw [HE.out, hst, if_neg he]
          obtain ⟨x, hx⟩ : ∃ x, errAt (l.take i) k = x := ⟨_, rfl⟩
          rw [hx] at HA e0 he
          obtain ⟨nm, kd, sh⟩ := k
          simp only at c0 c1 c2 HA
          have hne : (x != 0) = true := by simpa using he
          have HT := Lib.hid hT
          have H0 := Lib.hid e0
          have HX := Lib.hid he
          clear hT herr hk hst he e0 hsz htl hSK hx
          go_wp2_with fail
          refine (HA.out _ (by repeat (first | with_reducible exact Touch.refl _ _ | with_reducible refine Touch.alloc ?_ _ | with_reducible refine Touch.setCell ?_ (.inr (by simp)) _))).mono ?_
          rintro e w1 ⟨rfl, hT1⟩
          have HT1 := Lib.hid (HT.out.same (Touch.same (by repeat (first | with_reducible exact Touch.refl _ _ | with_reducible refine Touch.alloc ?_ _ | with_reducible refine Touch.setCell ?_ (.inr (by simp)) _)) hT1))
          clear hT1
          go_wp2
          exact bodyPost_ret (v := .tuple #[.pointer none, .int .i64 x]) (by simp [results, Try.results14, go_sem]) rfl (.inr ⟨by rw [H0.out]; exact HX.out, by rw [H0.out], HT1.out⟩)
      · have hin : i = n := by have := HN.out; omega
        subst hin
        have e0 : errK l = 0 := by rw [HE.out, ← herr]; exact errI_end l i (by have := HN.out; omega)
        have htk : l.take i = l := List.take_of_length_le (by have := HN.out; omega)
        rw [htk] at hSK
        have HS := Lib.hid (And.intro hSK hT)
        clear hT herr hSK htk
        go_wp2
        exact bodyPost_ret (v := .tuple #[.pointer (some ⟨w.heap.size, 0, none⟩), .int .i64 0]) (by simp [results, Try.results14, go_sem]) rfl (.inl ⟨e0, _, rfl, HS.out.1, HS.out.2⟩)
theorem new_yes (A : Option Addr) (n cap : Nat) (l : List Ky) (w : World) (hn : l.length = n) (hn2 : n ≤ 1000000) (h : KAt w NoB A l) (he : errK l = 0) :
    Calls Try.prog 14 #[.slice A n cap] w (NewYes w l) :=
  (new_any A n cap l w hn hn2 h).mono fun _ _ x => x.elim (fun y => y.2) (fun y => absurd he y.1)
theorem new_no (A : Option Addr) (n cap : Nat) (l : List Ky) (w : World) (hn : l.length = n) (hn2 : n ≤ 1000000) (h : KAt w NoB A l) {x : Int} (he : errK l = x) (hx : x ≠ 0) :
    Calls Try.prog 14 #[.slice A n cap] w (NewNo w x) :=
  (new_any A n cap l w hn hn2 h).mono fun _ _ y => by
    rcases y with y | y
    · exact absurd y.1 (by rw [he]; exact hx)
    · rw [← he]; exact y.2

end Go.Proofs.Yteacpfknfbmjkaa
