/-
  What ids.Drop returns, and what it leaves in memory.
-/
import Derived.Test.YticekldgjlihmaaSb
import Derived.Deep.RegionLaw
import Derived.Laws.MakeOwn
import Derived.Maps.OwnSet
import Derived.Laws.BitsAllLaws
import Derived.Laws.BitsLemmas
import Derived.DeepKeys4
import Derived.MapViews
import Derived.ChangeSame
import Derived.Deep.RegionHeld3
namespace Go.Proofs.Yticekldgjlihmaa
open Go.ChangeShapes Go.WideShapes Go.ChangeAt Go.RowKit
variable {tl : List Value}

theorem set_same {α : Type} {l : List α} {i : Nat} {a : α} (h : l[i]? = some a) : l.set i a = l := by
  obtain ⟨hi, e⟩ := List.getElem?_eq_some_iff.1 h
  subst e
  exact List.set_getElem_self hi

set_option maxHeartbeats 400000 in
theorem drop_no (g : Nat) (room i x : Int) (ps : List (Int × Bool)) (ds : List Int) (F : Nat → Prop) (w : World) (h : Own tl w F g room ps ds) (hh : hasI ps i x = false) :
    Calls Try.prog 34 #[.pointer (some ⟨g, 0, none⟩), .agg #[.int .i64 i, .int .i64 x]] w fun e w' => e = .returned (.int .i64 11) ∧ Touch NoB w w' := by
  have H0 := Lib.hid h
  have HH := Lib.hid hh
  clear h hh
  go_enter Try.func34, Try.ntmps34
  go_wp2_with fail
  refine (has_any g room i x ps ds F _ (H0.out.alloc _)).mono ?_
  rintro e w1 ⟨rfl, hT⟩
  rw [HH.out]
  have HT := Lib.hid hT
  clear hT
  go_wp2
  go_ret
  exact ⟨rfl, ((Touch.refl _ _).alloc _).same HT.out⟩

set_option maxHeartbeats 1000000 in
theorem drop_yes (g k : Nat) (room x : Int) (ps : List (Int × Bool)) (ds : List Int) (F : Nat → Prop) (w : World) (h : Own tl w F g room ps ds) (hF : InW w 0 F) (hk : ps[k]? = some (x, true)) (hdl : ds.length < 1000000000) :
    Calls Try.prog 34 #[.pointer (some ⟨g, 0, none⟩), .agg #[.int .i64 k, .int .i64 x]] w fun e w' => e = .returned (.int .i64 0) ∧ Own tl w' (Ext F w w') g room (ps.set k (x, false)) (ds ++ [(k : Int)]) ∧ Touch F w w' := by
  have H0 := Lib.hid h
  have HK := Lib.hid hk
  have HF := Lib.hid hF
  have hhas : hasI ps k x = true := by unfold hasI; simp [hk]
  have HH := Lib.hid hhas
  clear h hk hF hhas
  obtain ⟨i0, hi, hz0, hz1, hz2⟩ := info_parts info_int
  go_enter Try.func34, Try.ntmps34
  go_wp2_with fail
  refine (has_any g room k x ps ds F _ (H0.out.alloc _)).mono ?_
  rintro e w1 ⟨rfl, hT⟩
  rw [HH.out]
  have hsz := hT.size
  simp only [World.size_alloc] at hsz
  have hb := new_blk hT rfl (fun x => x)
  have hO := (H0.out.alloc (.cells #[.int .i64 k, .int .i64 x] 30)).keep hT (fun _ _ x => x)
  obtain ⟨vp, vd, hg, hp, hd, f0, f1, f2⟩ := hO
  have hkl : k < ps.length := (List.getElem?_eq_some_iff.1 HK.out).1
  obtain ⟨gp, cap, rfl, hc1, hc2, hob⟩ := row_form hp (by omega)
  obtain ⟨A2, cap2, rfl, hc3, hc4⟩ := row_any hd
  unfold maxLen at hc2 hc4
  have hl := blk_lt hg
  have hlp := row_lt hp hob
  have hgp : gp ≠ g := by
    intro e; subst e
    exact row_ne hp hg (by decide) rfl
  have hrb : ¬ F w.heap.size := fun x => by have := (HF.out _ x).2; omega
  have hgw : w.heap.size ≠ g := fun e => hrb (e ▸ f0)
  have hgw2 : w.heap.size ≠ gp := fun e => hrb (e ▸ f1 gp rfl)
  have k1 : w1.cell? ⟨g, 1, none⟩ = some (.slice (some ⟨gp, 0, none⟩) ps.length cap) := cell_blk hg 1
  have k2 : w1.cell? ⟨g, 2, none⟩ = some (.slice A2 ds.length cap2) := cell_blk hg 2
  have z2 : w1.frozen? ⟨g, 2, none⟩ = false := free_blk hg 2
  have b0 : w1.cell? ⟨w.heap.size, 0, none⟩ = some (.int .i64 k) := cell_blk hb 0
  have p1 : w1.cell? ⟨gp, k * 2 + 1, none⟩ = some (.bool true) := by rw [hp.cellAt (k * 2 + 1) (by omega), pc_at1, HK.out]; rfl
  have q1 : w1.frozen? ⟨gp, k * 2 + 1, none⟩ = false := hp.frozenAt _
  have Hg := Lib.hid hg
  have Hp := Lib.hid hp
  have Hd := Lib.hid hd
  have Hf := Lib.hid (And.intro f0 (And.intro f1 f2))
  have HT := Lib.hid hT
  have Hb := Lib.hid hb
  clear hp hd f0 f1 f2 hg hT hb hob
  obtain ⟨n, hn⟩ : ∃ n, ps.length = n := ⟨_, rfl⟩
  obtain ⟨m, hm⟩ : ∃ m, ds.length = m := ⟨_, rfl⟩
  rw [hn] at k1 hkl hc1
  rw [hm] at k2 hdl hc3
  have Hn := Lib.hid hn
  have Hm := Lib.hid hm
  clear hn hm
  go_wp2
  go_region
  go_wp2
  obtain ⟨g1, p2, d2⟩ := own_place Hg.out Hp.out Hd.out (k * 2 + 1) (.bool false)
  obtain ⟨f0, f1, f2⟩ := Hf.out
  have hb2 : (w1.setCell ⟨gp, k * 2 + 1, none⟩ (.bool false)).heap[w.heap.size]? = some (.cells #[.int .i64 k, .int .i64 x] 30 (0, 0)) := (Below.heap_setCell _ _ _ _ hgw2).trans Hb.out
  have hT2 : Touch F w (w1.setCell ⟨gp, k * 2 + 1, none⟩ (.bool false)) := ((((Touch.refl _ w).alloc _).trans HT.out (fun _ x => x.elim)).setCell (.inl (f1 gp rfl)) _)
  have hpp : (pc ps).set (k * 2 + 1) (.bool false) = pc (ps.set k (x, false)) := by
    have h0 : (pc ps).set (k * 2) (.int .i64 x) = pc ps := set_same (by rw [pc_at0, HK.out]; rfl)
    rw [pc_set, h0]
  rw [hpp] at p2
  have hn := Hn.out
  have hm := Hm.out
  rw [hn] at g1 p2 f1
  rw [hm] at g1 d2 f2
  clear hpp hn hm
  obtain ⟨ws, hws⟩ : ∃ ws, w1.setCell ⟨gp, k * 2 + 1, none⟩ (.bool false) = ws := ⟨_, rfl⟩
  rw [hws] at g1 p2 d2 hb2 hT2
  rw [hws]
  have hlw : g < ws.heap.size := blk_lt g1
  have hbw : w.heap.size < ws.heap.size := blk_lt hb2
  have hgpw : gp < ws.heap.size := row_lt p2 rfl
  clear hws Hg Hp Hd Hf HT Hb k1 k2 z2 b0 p1 q1 hsz hl hlp
  have k2 : ws.cell? ⟨g, 2, none⟩ = some (.slice A2 m cap2) := cell_blk g1 2
  have z2 : ws.frozen? ⟨g, 2, none⟩ = false := free_blk g1 2
  have b0 : ws.cell? ⟨w.heap.size, 0, none⟩ = some (.int .i64 k) := cell_blk hb2 0
  have hfg : (Value.slice A2 m cap2).ownBlock ≠ some g := row_ne d2 g1 (by decide)
  have G1 := Lib.hid g1
  have P2 := Lib.hid p2
  have D2 := Lib.hid d2
  have T2 := Lib.hid hT2
  have Fs := Lib.hid (And.intro f0 (And.intro f1 f2))
  have HFG := Lib.hid hfg
  clear g1 p2 d2 hT2 f0 f1 f2 hfg hb2
  go_region_law (refine step_append_lies _ rfl (.tmp 21) (.tmp 24) 55 rfl 0 3 i0 (.int .i64 0) 1 8 Try.underlying55 hi hz0 hz1 hz2 rfl (by decide) (.slice A2 m cap2) m (ic ds) (by simp [Act.eval]) (by exact (D2.out.alloc _)) ⟨ws.heap.size, 0, none⟩ 1 1 [.int .i64 k] (by simp [Act.eval]) rfl (by exact World.news_of_block (cs := #[.int .i64 k]) (alloc_blk ws.drew _ 3 rfl)) (by intro u hu; simp at hu; subst hu; rfl) (by decide) (by unfold maxLen; omega) (by omega) (Nat.zero_le _) (ws.heap.size + 1) (by simp) ?_
                 intro gd cap1 wx hown hgrow hat hlt
                 have TR : Touch (fun b => (Value.slice A2 m cap2).ownBlock = some b) ws wx := (((Touch.refl _ ws).alloc _).drew.drew).grown hgrow (fun _ e => .inl e)
                 have hgx := (TR.block g hlw HFG.out).trans G1.out
                 have kx : wx.cell? ⟨g, 2, none⟩ = some (.slice A2 m cap2) := cell_blk hgx 2
                 have zx : wx.frozen? ⟨g, 2, none⟩ = false := free_blk hgx 2
                 have HX := Lib.hid (And.intro hown (And.intro hat (And.intro TR hgx)))
                 clear hown hgrow hat TR hgx)
  all_goals
    go_wp2
    go_ret
    obtain ⟨hown, hat, TR, hgx⟩ := HX.out
    obtain ⟨f0, f1, f2⟩ := Fs.out
    have hgrown : wx.grownBy (wx.setCell ⟨g, 2, none⟩ (.slice (some ⟨gd, 0, none⟩) (m + 1) cap1)) (some g) :=
      ⟨rfl, rfl, rfl, by simp [World.setCell], fun x _ hx => Below.heap_setCell _ _ _ _ (fun e => hx (by rw [e]))⟩
    have hpx := row_touch P2.out TR (fun k hk x => row_row_ne P2.out D2.out (by decide) hk x)
    have hs1 := set_blk hgx 2 (.slice (some ⟨gd, 0, none⟩) (m + 1) cap1)
    have hp3 := hpx.kept hgrown (.inr (row_ne hpx hgx (by decide)))
    have hd3 := hown.kept hgrown (.inr (row_ne hown hgx (by decide)))
    have hTx : Touch F w wx := T2.out.trans TR (fun b e => .inl (f2 b e))
    refine ⟨rfl, ⟨_, _, by simpa using hs1, by rw [List.length_set, Hn.out]; exact hp3, by rw [List.length_append, Hm.out]; simpa [ic] using hd3, .inl f0, fun j hj => .inl (f1 j hj), fun j hj => ?_⟩, hTx.setCell (.inl f0) _⟩
    have e1 : gd = j := by simpa [Value.ownBlock] using hj
    subst e1
    rcases hat with e | e
    · exact .inl (f2 _ e)
    · right
      simp [World.setCell]
      omega
end Go.Proofs.Yticekldgjlihmaa

/-
  Lists of identifiers as cells; an Ids within a Store's block.
-/
namespace Go.Proofs.Yticekldgjlihmaa
open Go.ChangeShapes Go.WideShapes Go.ChangeAt Go.RowKit

theorem InW.zero {w : World} {B : Nat} {F : Nat → Prop} (h : InW w B F) : InW w 0 F := fun b hb => ⟨Nat.zero_le _, (h b hb).2⟩
theorem inw_new (w : World) (o : Obj) : InW (w.alloc o) w.heap.size (fun b => b = w.heap.size) := by
  rintro b rfl; simp

/-- The identifiers of the places in use, from place i on. -/
def allI : Nat → List (Int × Bool) → List (Int × Int)
  | _, [] => []
  | i, p :: ps => if p.2 = true then ((i : Int), p.1) :: allI (i + 1) ps else allI (i + 1) ps
/-- The cells of a row of identifiers. -/
def idc (l : List (Int × Int)) : List Value := l.flatMap fun x => [.int .i64 x.1, .int .i64 x.2]

theorem all_snoc (i : Nat) (l : List (Int × Bool)) (p : Int × Bool) : allI i (l ++ [p]) = allI i l ++ (if p.2 = true then [(((i + l.length : Nat) : Int), p.1)] else []) := by
  induction l generalizing i with
  | nil => simp [allI]
  | cons q l ih =>
    simp only [List.cons_append, allI, ih (i + 1), List.length_cons]
    rw [show i + 1 + l.length = i + (l.length + 1) from by omega]
    by_cases h : q.2 = true
    · rw [if_pos h, if_pos h]; rfl
    · rw [if_neg h, if_neg h]
theorem all_length (i : Nat) (l : List (Int × Bool)) : (allI i l).length ≤ l.length := by
  induction l generalizing i with
  | nil => simp [allI]
  | cons q l ih =>
    have := ih (i + 1)
    simp only [allI, List.length_cons]
    split
    · simp only [List.length_cons]; omega
    · omega
theorem idc_length (l : List (Int × Int)) : (idc l).length = l.length * 2 := by
  induction l with
  | nil => rfl
  | cons p l ih => simp only [idc, List.flatMap_cons, List.length_append, List.length_cons, List.length_nil] at ih ⊢; omega
theorem idc_snoc (l : List (Int × Int)) (x : Int × Int) : idc (l ++ [x]) = idc l ++ [.int .i64 x.1, .int .i64 x.2] := by simp [idc]
theorem idc_at0 (l : List (Int × Int)) (i : Nat) : (idc l)[i * 2]? = (l[i]?).map fun p => .int .i64 p.1 := by
  induction l generalizing i with
  | nil => simp [idc]
  | cons p l ih =>
    cases i with
    | zero => simp [idc]
    | succ i =>
      have := ih i
      simp only [idc, List.flatMap_cons, List.getElem?_cons_succ] at this ⊢
      rw [show (i + 1) * 2 = i * 2 + 1 + 1 from by omega]
      simpa using this
theorem idc_at1 (l : List (Int × Int)) (i : Nat) : (idc l)[i * 2 + 1]? = (l[i]?).map fun p => .int .i64 p.2 := by
  induction l generalizing i with
  | nil => simp [idc]
  | cons p l ih =>
    cases i with
    | zero => simp [idc]
    | succ i =>
      have := ih i
      simp only [idc, List.flatMap_cons, List.getElem?_cons_succ] at this ⊢
      rw [show (i + 1) * 2 + 1 = i * 2 + 1 + 1 + 1 from by omega]
      simpa using this

theorem info_id : (Try.prog.info? 30).map (fun i => (i.zero, i.size, i.bytes)) = some (some (.agg #[.int .i64 0, .int .i64 0]), 2, 16) := by kernel_rfl

end Go.Proofs.Yticekldgjlihmaa

/-
  Plain words for tables: bits of a mask, where an entity stands in a list, one column changed. No program is named here.
-/
namespace Go.Proofs.Yticekldgjlihmaa

/-- Is bit c of m set? -/
def bitB (m : Int) (c : Nat) : Bool := decide (m / 2 ^ c % 2 = 1)
/-- Is there a column for c? -/
def colB (m c : Int) : Bool := decide (0 ≤ c) && decide (c < 16) && bitB m c.toNat

/-- Where p stands in l. -/
def rowOf : List (Int × Int) → Int × Int → Option Nat
  | [], _ => none
  | q :: l, p => if q = p then some 0 else (rowOf l p).map (· + 1)
/-- .. as Row returns it. -/
def rowV (l : List (Int × Int)) (p : Int × Int) : Int := match rowOf l p with
  | some r => (r : Int)
  | none => -1

theorem rowOf_some {l : List (Int × Int)} {p : Int × Int} {r : Nat} (h : rowOf l p = some r) : l[r]? = some p ∧ ∀ j, j < r → l[j]? ≠ some p := by
  induction l generalizing r with
  | nil => simp [rowOf] at h
  | cons q l ih =>
    unfold rowOf at h
    split at h
    · rename_i e
      injection h with h
      subst h e
      exact ⟨rfl, fun j hj => by omega⟩
    · rename_i e
      rcases hr : rowOf l p with _ | r'
      · rw [hr] at h; simp at h
      · rw [hr] at h
        simp at h
        subst h
        obtain ⟨h1, h2⟩ := ih hr
        refine ⟨by simpa using h1, fun j hj => ?_⟩
        cases j with
        | zero => simpa using e
        | succ j => simpa using h2 j (by omega)
theorem rowOf_none {l : List (Int × Int)} {p : Int × Int} (h : rowOf l p = none) (j : Nat) : l[j]? ≠ some p := by
  induction l generalizing j with
  | nil => simp
  | cons q l ih =>
    unfold rowOf at h
    split at h
    · cases h
    · rename_i e
      have hr : rowOf l p = none := by simpa using h
      cases j with
      | zero => simpa using e
      | succ j => simpa using ih hr j
/-- No entity stands twice. -/
def Once (l : List (Int × Int)) : Prop := ∀ (a b : Nat) (p : Int × Int), l[a]? = some p → l[b]? = some p → a = b
theorem rowOf_at {l : List (Int × Int)} (hn : Once l) {p : Int × Int} {r : Nat} (h : l[r]? = some p) : rowOf l p = some r := by
  rcases hr : rowOf l p with _ | r'
  · exact absurd h (rowOf_none hr r)
  · rw [hn r r' p h (rowOf_some hr).1]
theorem rowV_some {l : List (Int × Int)} {p : Int × Int} {r : Nat} (h : rowOf l p = some r) : rowV l p = r := by simp [rowV, h]
theorem rowV_none {l : List (Int × Int)} {p : Int × Int} (h : rowOf l p = none) : rowV l p = -1 := by simp [rowV, h]
theorem rowOf_none_of {l : List (Int × Int)} {p : Int × Int} (h : ∀ j : Nat, l[j]? ≠ some p) : rowOf l p = none := by
  rcases hr : rowOf l p with _ | r
  · rfl
  · exact absurd (rowOf_some hr).1 (h r)

/-- One column is another list. -/
def colSet (cf : Nat → List Int) (c : Nat) (l : List Int) : Nat → List Int := fun d => if d = c then l else cf d
theorem colSet_same (cf : Nat → List Int) (c : Nat) (l : List Int) : colSet cf c l c = l := by simp [colSet]
theorem colSet_other (cf : Nat → List Int) {c d : Nat} (h : d ≠ c) (l : List Int) : colSet cf c l d = cf d := by simp [colSet, h]

/-- What bit c says, as Go reckons it. -/
theorem bit_mod (m : Int) (c : Nat) : (m / 2 ^ c % 2 == 1) = bitB m c := rfl

/-- The last value that l has for c, or 0. -/
def lastI (l : List (Int × Int)) (c : Int) : Int := l.foldl (fun a p => if p.1 = c then p.2 else a) 0
theorem lastI_nil (c : Int) : lastI [] c = 0 := rfl
theorem lastI_snoc (l : List (Int × Int)) (p : Int × Int) (c : Int) : lastI (l ++ [p]) c = if p.1 = c then p.2 else lastI l c := by simp [lastI, List.foldl_append]

/-- The first k columns have one 0 more. -/
def upCol (m : Int) (cf : Nat → List Int) (k : Nat) : Nat → List Int := fun c => if c < k ∧ bitB m c = true then cf c ++ [0] else cf c
theorem upCol_zero (m : Int) (cf : Nat → List Int) : upCol m cf 0 = cf := by funext c; simp [upCol]
theorem upCol_yes {m : Int} {cf : Nat → List Int} {k : Nat} (h : bitB m k = true) : colSet (upCol m cf k) k (cf k ++ [0]) = upCol m cf (k + 1) := by
  funext c
  by_cases e : c = k
  · subst e
    rw [colSet_same]
    simp [upCol, h]
  · rw [colSet_other _ e]
    unfold upCol
    have : (c < k ∧ bitB m c = true) ↔ (c < k + 1 ∧ bitB m c = true) := by
      constructor
      · rintro ⟨a, b⟩; exact ⟨by omega, b⟩
      · rintro ⟨a, b⟩; exact ⟨by omega, b⟩
    simp only [this]
theorem upCol_no {m : Int} {cf : Nat → List Int} {k : Nat} (h : bitB m k = false) : upCol m cf (k + 1) = upCol m cf k := by
  funext c
  unfold upCol
  by_cases e : c = k
  · subst e
    simp [h]
  · have : (c < k + 1 ∧ bitB m c = true) ↔ (c < k ∧ bitB m c = true) := by
      constructor
      · rintro ⟨a, b⟩; exact ⟨by omega, b⟩
      · rintro ⟨a, b⟩; exact ⟨by omega, b⟩
    simp only [this]
theorem upCol_at {m : Int} {cf : Nat → List Int} (k : Nat) : upCol m cf k k = cf k := by simp [upCol]

/-- Each column has one value more: the last that was said for it, or 0. -/
def newCol (m : Int) (cf : Nat → List Int) (cl : List (Int × Int)) : Nat → List Int := fun c => if c < 16 ∧ bitB m c = true then cf c ++ [lastI cl c] else cf c
theorem newCol_nil (m : Int) (cf : Nat → List Int) : newCol m cf [] = upCol m cf 16 := rfl
theorem newCol_yes {m : Int} {cf : Nat → List Int} {cl : List (Int × Int)} {c : Nat} {v : Int} {L : Nat} (hc : c < 16) (hb : bitB m c = true) (hL : (cf c).length = L) :
    colSet (newCol m cf cl) c ((newCol m cf cl c).set L v) = newCol m cf (cl ++ [((c : Int), v)]) := by
  funext d
  by_cases e : d = c
  · subst e
    rw [colSet_same]
    unfold newCol
    rw [if_pos ⟨hc, hb⟩, if_pos ⟨hc, hb⟩, lastI_snoc, if_pos rfl, List.set_append_right _ _ (by omega)]
    simp [hL]
  · rw [colSet_other _ e]
    unfold newCol
    by_cases h : d < 16 ∧ bitB m d = true
    · rw [if_pos h, if_pos h, lastI_snoc, if_neg (by simp; omega)]
    · rw [if_neg h, if_neg h]
theorem newCol_no {m : Int} {cf : Nat → List Int} {cl : List (Int × Int)} {c v : Int} (h : colB m c = false) : newCol m cf (cl ++ [(c, v)]) = newCol m cf cl := by
  funext d
  unfold newCol
  by_cases hd : d < 16 ∧ bitB m d = true
  · rw [if_pos hd, if_pos hd, lastI_snoc, if_neg]
    rintro rfl
    unfold colB at h
    simp [hd.2] at h
    omega
  · rw [if_neg hd, if_neg hd]
theorem newCol_len {m : Int} {cf : Nat → List Int} {cl : List (Int × Int)} {c L : Nat} (hc : c < 16) (hb : bitB m c = true) (hL : (cf c).length = L) : (newCol m cf cl c).length = L + 1 := by
  unfold newCol
  rw [if_pos ⟨hc, hb⟩, List.length_append, hL]
  rfl
end Go.Proofs.Yticekldgjlihmaa

/-
  A Table in memory; what table.New, hasRow, hasColumn and Row return.
-/
namespace Go.Proofs.Yticekldgjlihmaa
open Go.ChangeShapes Go.WideShapes Go.ChangeAt Go.RowKit Go.Maps

/-- An int that is one of 64 bits. -/
def I64 (a : Int) : Prop := (Lit.int .i64 a).wf = true
theorem i64_mk {a : Int} (h1 : -9223372036854775808 ≤ a) (h2 : a ≤ 9223372036854775807) : I64 a := WalkArith.wf_i64 ⟨h1, h2⟩

set_option maxRecDepth 100000 in
theorem laidOutP : laidOutB Try.prog = true := by kernel_rfl
set_option maxRecDepth 100000 in
theorem rowId : (30 : TypeId) < Try.prog.types.size := of_decide_eq_true (by kernel_rfl)
theorem wideId : (match Try.prog.underlying 30 with | some (.array _ _) | some (.struct _) => true | _ => false) = true := by rw [Try.underlying30]
set_option maxRecDepth 100000 in
theorem deepId : Try.prog.keyTypeAt (Try.prog.types.size + 1) 30 = true := by kernel_rfl
theorem cellsId : Try.prog.cellsOf 30 = 2 := by kernel_rfl
theorem cellsInt : Try.prog.cellsOf 3 = 1 := by kernel_rfl
set_option maxRecDepth 100000 in
theorem lawId : Keyed Try.prog 30 := Keyed.of_law (deep_law_laid laidOutP (m := 3) (by omega) rowId (by kernel_rfl) wideId)
theorem zeroInt (w : World) : (zeroValue 3).run Try.prog w = .ok (.int .i64 0) w := by kernel_rfl

/-- What the identifier (i, x) reads as, as a key. -/
def klI (i x : Int) : Lit := (DataW.agg [.lit (.int .i64 i), .lit (.int .i64 x)] : DataW Unit).asKey
set_option maxRecDepth 100000 in
theorem key_id {i x : Int} (hi : I64 i) (hx : I64 x) : keyOf Try.prog 30 (.agg #[.int .i64 i, .int .i64 x]) = some (klI i x) := by
  have h0 : ∀ {a : Int}, I64 a → DataW.trod (fun _ => ()) Try.prog default 0 (fun _ => true) true 1 3 [.int .i64 a] = some (.lit (.int .i64 a), []) := by
    intro a ha
    have : (Lit.int .i64 a).wf = true := ha
    simp [DataW.trod, Try.underlying3, this]
  have ht : DataW.trod (fun _ => ()) Try.prog default 0 (fun _ => true) true 2 30 [.int .i64 i, .int .i64 x] = some (.agg [.lit (.int .i64 i), .lit (.int .i64 x)], [] ++ []) :=
    trod_struct2_mk (cs := [.int .i64 i, .int .i64 x]) Try.underlying30 (by rw [cellsId]; rfl) (by simpa [cellsInt] using h0 hi) (by simpa [cellsInt] using h0 hx)
  have hf : (Value.agg #[.int .i64 i, .int .i64 x]).formed Try.prog 30 = true := by simp [Value.formed, Try.underlying30, cellsId]
  exact (keyOf_asKey (H := Unit) (enc := fun _ => ()) (w := default) (base := 0) (sp := fun _ => true) (held := true) deepId wideId hf ⟨2, by simpa [Value.cells] using ht⟩).1
theorem kl_inj {i x i' x' : Int} (hi : I64 i) (hx : I64 x) (hi' : I64 i') (hx' : I64 x') (h : klI i x = klI i' x') : (i, x) = (i', x') := by
  have h1 := key_id hi hx
  have h2 := key_id hi' hx'
  rw [← h] at h2
  have := lawId.inj h1 h2
  simp at this
  rw [this.1, this.2]
theorem kl_key {i x : Int} (hi : I64 i) (hx : I64 x) : WideAt.IsKeyLit (klI i x) := lawId.key (key_id hi hx)

/-- The map of a Table: nil, or a block that reads as D. -/
def MapAt (w : World) (vm : Value) (n : Nat) (D : DataW Unit) : Prop :=
  (vm = .map none ∧ D = .map []) ∨ ∃ b, vm = .map (some b) ∧ w.ownsMap Try.prog 30 (plainElem Try.prog 3) b n D

/-- A Table lies at block g: its entities, its columns, its map; every block of it is in F. -/
structure TG (w : World) (F : Nat → Prop) (g : Nat) (m : Int) (ids : List (Int × Int)) (cf : Nat → List Int) (D : DataW Unit) (n : Nat) (vi vm : Value) (vc : Nat → Value) (cs : Array Value) : Prop where
  blk : w.heap[g]? = some (.cells cs 125 (0, 0))
  size : cs.size = 19
  c0 : cs[0]? = some (.int .u16 m)
  c1 : cs[1]? = some vi
  c2 : cs[2]? = some vm
  cc : ∀ c, c < 16 → cs[3 + c]? = some (vc c)
  ri : w.ownsRow 0 30 2 vi ids.length (idc ids)
  rc : ∀ c, c < 16 → w.ownsRow 0 3 1 (vc c) (cf c).length (ic (cf c))
  mp : MapAt w vm n D
  ap : ∀ c d, c < 16 → d < 16 → c ≠ d → ∀ k, (vc c).ownBlock = some k → (vc d).ownBlock ≠ some k
  fg : F g
  fi : ∀ k, vi.ownBlock = some k → F k
  fc : ∀ c, c < 16 → ∀ k, (vc c).ownBlock = some k → F k
  fm : ∀ b, vm = .map (some b) → F b
def TO (w : World) (F : Nat → Prop) (g : Nat) (m : Int) (ids : List (Int × Int)) (cf : Nat → List Int) (D : DataW Unit) (n : Nat) : Prop :=
  ∃ vi vm vc cs, TG w F g m ids cf D n vi vm vc cs

theorem MapAt.touch {w w' : World} {G : Nat → Prop} {vm : Value} {n : Nat} {D : DataW Unit} (h : MapAt w vm n D) (t : Touch G w w') (hn : ∀ b, vm = .map (some b) → ¬ G b) : MapAt w' vm n D := by
  rcases h with h | ⟨b, rfl, es, clock, hb, r⟩
  · exact .inl h
  · exact .inr ⟨b, rfl, es, clock, (t.block b (blk_lt hb) (hn b rfl)).trans hb, r⟩

section
variable {w w' : World} {F G : Nat → Prop} {g : Nat} {m : Int} {ids : List (Int × Int)} {cf : Nat → List Int} {D : DataW Unit} {n : Nat} {vi vm : Value} {vc : Nat → Value} {cs : Array Value}
theorem TG.keep (h : TG w F g m ids cf D n vi vm vc cs) (t : Touch G w w') (d : Dis F G) : TG w' F g m ids cf D n vi vm vc cs :=
  ⟨(t.block g (blk_lt h.blk) (fun x => d g h.fg x)).trans h.blk, h.size, h.c0, h.c1, h.c2, h.cc, row_touch h.ri t (fun k hk x => d k (h.fi k hk) x), fun c hc => row_touch (h.rc c hc) t (fun k hk x => d k (h.fc c hc k hk) x), h.mp.touch t (fun b hb x => d b (h.fm b hb) x), h.ap, h.fg, h.fi, h.fc, h.fm⟩
theorem TG.more (h : TG w F g m ids cf D n vi vm vc cs) (d : ∀ k, F k → G k) : TG w G g m ids cf D n vi vm vc cs :=
  ⟨h.blk, h.size, h.c0, h.c1, h.c2, h.cc, h.ri, h.rc, h.mp, h.ap, d _ h.fg, fun k hk => d _ (h.fi k hk), fun c hc k hk => d _ (h.fc c hc k hk), fun b hb => d _ (h.fm b hb)⟩
theorem TG.quiet (h : TG w F g m ids cf D n vi vm vc cs) (t : Touch NoB w w') : TG w' F g m ids cf D n vi vm vc cs := h.keep t (fun _ _ x => x)
theorem TO.keep (h : TO w F g m ids cf D n) (t : Touch G w w') (d : Dis F G) : TO w' F g m ids cf D n := by
  obtain ⟨vi, vm, vc, cs, h⟩ := h
  exact ⟨vi, vm, vc, cs, h.keep t d⟩
theorem TO.more (h : TO w F g m ids cf D n) (d : ∀ k, F k → G k) : TO w G g m ids cf D n := by
  obtain ⟨vi, vm, vc, cs, h⟩ := h
  exact ⟨vi, vm, vc, cs, h.more d⟩
theorem TO.quiet (h : TO w F g m ids cf D n) (t : Touch NoB w w') : TO w' F g m ids cf D n := h.keep t (fun _ _ x => x)
theorem TG.lt (h : TG w F g m ids cf D n vi vm vc cs) : g < w.heap.size := blk_lt h.blk
theorem TG.at0 (h : TG w F g m ids cf D n vi vm vc cs) : w.cell? ⟨g, 0, none⟩ = some (.int .u16 m) := (cell_blk h.blk 0).trans h.c0
theorem TG.at1 (h : TG w F g m ids cf D n vi vm vc cs) : w.cell? ⟨g, 1, none⟩ = some vi := (cell_blk h.blk 1).trans h.c1
theorem TG.at2 (h : TG w F g m ids cf D n vi vm vc cs) : w.cell? ⟨g, 2, none⟩ = some vm := (cell_blk h.blk 2).trans h.c2
theorem TG.atc (h : TG w F g m ids cf D n vi vm vc cs) (c : Nat) (hc : c < 16) : w.cell? ⟨g, 3 + c, none⟩ = some (vc c) := (cell_blk h.blk (3 + c)).trans (h.cc c hc)
theorem TG.free (h : TG w F g m ids cf D n vi vm vc cs) (i : Nat) : w.frozen? ⟨g, i, none⟩ = false := free_blk h.blk i
end

theorem and_one {x : Int} (h0 : 0 ≤ x) (h1 : x < 65536) : bits .and .u16 x 1 = x % 2 :=
  bits_mask .u16 16 (by decide) (fun n a b => by simp [IntKind.wrap, IntKind.bits, IntKind.signed]; omega) 1 (by decide) x h0 h1
theorem div_range {m : Int} (h0 : 0 ≤ m) (h1 : m < 65536) (c : Nat) : 0 ≤ m / 2 ^ c ∧ m / 2 ^ c < 65536 := by
  have hp : (0 : Int) < 2 ^ c := Int.pow_pos (by decide)
  refine ⟨Int.ediv_nonneg h0 (Int.le_of_lt hp), ?_⟩
  have := Int.ediv_le_self (2 ^ c) h0
  omega

set_option maxHeartbeats 400000 in
theorem hasCol_any (g : Nat) (m c : Int) (w : World) (hm : 0 ≤ m) (hm2 : m < 65536) (h0 : w.cell? ⟨g, 0, none⟩ = some (.int .u16 m)) :
    Calls Try.prog 66 #[.pointer (some ⟨g, 0, none⟩), .int .i64 c] w fun e w' => e = .returned (.bool (colB m c)) ∧ w = w' := by
  by_cases h1 : 0 ≤ c
  · by_cases h2 : c < 16
    · obtain ⟨k, rfl⟩ := Int.eq_ofNat_of_zero_le h1
      have hr := div_range hm hm2 k
      have e1 : colB m (k : Int) = (bits .and .u16 (m / 2 ^ k) 1 == 1) := by
        rw [and_one hr.1 hr.2]
        unfold colB
        simp [h2, bit_mod]
      rw [e1]
      clear e1 hr
      go_enter Try.func66, Try.ntmps66
      go_wp2
      go_ret
      exact ⟨rfl, rfl⟩
    · have e1 : colB m c = false := by unfold colB; simp [h2]
      rw [e1]
      clear e1
      go_enter Try.func66, Try.ntmps66
      go_wp2
      go_ret
      exact ⟨rfl, rfl⟩
  · have e1 : colB m c = false := by unfold colB; simp [h1]
    rw [e1]
    clear e1
    go_enter Try.func66, Try.ntmps66
    go_wp2
    go_ret
    exact ⟨rfl, rfl⟩

/-- Is there a row r of L? -/
def rowB (L : Nat) (r : Int) : Bool := decide (0 ≤ r) && decide (r < (L : Int))

set_option maxHeartbeats 400000 in
theorem hasRow_any (g : Nat) (r : Int) (A : Option Addr) (L cap : Nat) (w : World) (hL : L ≤ 9223372036854775807) (h1 : w.cell? ⟨g, 1, none⟩ = some (.slice A L cap)) :
    Calls Try.prog 65 #[.pointer (some ⟨g, 0, none⟩), .int .i64 r] w fun e w' => e = .returned (.bool (rowB L r)) ∧ w = w' := by
  by_cases h0 : 0 ≤ r <;> by_cases h2 : r < (L : Int)
  all_goals first | (exfalso; omega) | skip
  all_goals
    go_enter Try.func65, Try.ntmps65
    go_wp2
    go_ret
    exact ⟨by simp [rowB, h0, h2], rfl⟩

/-- The new Table at block g of w'. -/
theorem tnew_any (m : Int) (w : World) :
    Calls Try.prog 73 #[.int .u16 m] w fun e w' => e = .returned (.pointer (some ⟨w.heap.size, 0, none⟩)) ∧ TO w' (fun b => b = w.heap.size) w.heap.size m [] (fun _ => []) (.map []) 0 ∧ Touch NoB w w' := by
  go_enter Try.func73, Try.ntmps73
  go_wp2
  go_ret
  refine ⟨rfl, ⟨.slice none 0 0, .map none, fun _ => .slice none 0 0, _, alloc_blk w _ _ rfl, rfl, rfl, rfl, rfl, ?_, World.ownsRow_nil _ _ _ _, fun c hc => World.ownsRow_nil _ _ _ _, .inl ⟨rfl, rfl⟩, ?_, rfl, ?_, ?_, ?_⟩, (Touch.refl _ _).alloc _⟩
  · intro c hc
    rcases c with _ | _ | _ | _ | _ | _ | _ | _ | _ | _ | _ | _ | _ | _ | _ | _ | c
    all_goals first | rfl | omega
  · intro c d _ _ _ k hk; simp [Value.ownBlock] at hk
  · intro k hk; simp [Value.ownBlock] at hk
  · intro c _ k hk; simp [Value.ownBlock] at hk
  · intro b hb; cases hb
end Go.Proofs.Yticekldgjlihmaa

/-
  What table.Row, place, Get and Set return, and what they leave in memory.
-/
namespace Go.Proofs.Yticekldgjlihmaa
open Go.ChangeShapes Go.WideShapes Go.ChangeAt Go.RowKit Go.Maps

/-- The map D tells of each entity of ids where it stands, and of no other. -/
structure MapIs (D : DataW Unit) (ids : List (Int × Int)) : Prop where
  yes : ∀ (r : Nat) (i x : Int), ids[r]? = some (i, x) → Maps.has D (klI i x) = true ∧ D.atKey (klI i x) (.lit (.int .i64 0)) = .lit (.int .i64 r)
  no : ∀ i x : Int, I64 i → I64 x → (∀ r : Nat, ids[r]? ≠ some (i, x)) → Maps.has D (klI i x) = false

/-- What a look-up at (i, x) gives, in whatever world that has the map. -/
theorem look_id {w : World} {vm : Value} {n : Nat} {D : DataW Unit} (h : MapAt w vm n D) {i x : Int} (hi : I64 i) (hx : I64 x) :
    ∃ c : Int, D.atKey (klI i x) (.lit (.int .i64 0)) = .lit (.int .i64 c) ∧ (Instr.lookup 122 vm (.agg #[.int .i64 i, .int .i64 x]) true).run Try.prog w = .ok (.tuple #[.int .i64 c, .bool (Maps.has D (klI i x))]) w := by
  rcases h with ⟨rfl, rfl⟩ | ⟨b, rfl, hown⟩
  · refine ⟨0, rfl, ?_⟩
    have := Maps.look_nil (w := w) (t := 122) true lawId Try.underlying122 (zeroInt w) (key_id hi hx)
    simpa [Maps.has] using this
  · obtain ⟨v, ps, hrun, hv⟩ := hown.look_ok lawId Try.underlying122 (zeroInt w) (plainElem_int Try.underlying3 (by decide)) (key_id hi hx)
    obtain ⟨c, rfl, hc, _⟩ := plainElem_int_inv Try.underlying3 hv
    exact ⟨c, congrArg Prod.fst hc, hrun⟩

set_option maxHeartbeats 1000000 in
theorem trow_any (g : Nat) (m i x : Int) (ids : List (Int × Int)) (cf : Nat → List Int) (D : DataW Unit) (n : Nat) (F : Nat → Prop) (w : World) (h : TO w F g m ids cf D n) (hD : MapIs D ids) (hi : I64 i) (hx : I64 x) :
    Calls Try.prog 40 #[.pointer (some ⟨g, 0, none⟩), .agg #[.int .i64 i, .int .i64 x]] w fun e w' => e = .returned (.int .i64 (rowV ids (i, x))) ∧ Touch NoB w w' := by
  obtain ⟨vi, vm, vc, cs, hT⟩ := h
  have hl := hT.lt
  have k2 := hT.at2
  have hm1 : MapAt (w.alloc (.cells #[.int .i64 i, .int .i64 x] 30)).drew vm n D := hT.mp.touch (((Touch.refl NoB w).alloc _).drew) (fun _ _ e => e)
  obtain ⟨c, hat, hrun⟩ := look_id hm1 hi hx
  clear hT hm1
  rcases hr : rowOf ids (i, x) with _ | r
  · rw [hD.no i x hi hx (rowOf_none hr)] at hrun
    rw [rowV_none hr]
    clear hat hr hD
    go_enter Try.func40, Try.ntmps40
    go_wp2
    go_region
    go_wp2
    go_ret
    exact ⟨rfl, ((Touch.refl _ _).alloc _).drew⟩
  · obtain ⟨h1, h2⟩ := hD.yes r i x (rowOf_some hr).1
    rw [h1] at hrun
    have hc : c = (r : Int) := by
      have := hat.symm.trans h2
      simpa using this
    subst hc
    rw [rowV_some hr]
    clear hat hr hD h1 h2
    go_enter Try.func40, Try.ntmps40
    go_wp2
    go_region
    go_wp2
    go_ret
    exact ⟨rfl, ((Touch.refl _ _).alloc _).drew⟩

/-- A row is no map. -/
theorem row_ne_map {w : World} {base : Nat} {e : TypeId} {size k : Nat} {v : Value} {xs : List Value} (h : w.ownsRow base e size v k xs) {vm : Value} {n : Nat} {D : DataW Unit} (hm : MapAt w vm n D) {b : Nat} (hb : vm = .map (some b)) : v.ownBlock ≠ some b := by
  rcases hm with ⟨rfl, _⟩ | ⟨b', rfl, es, clock, hh, _⟩
  · cases hb
  · injection hb with hb
    injection hb with hb
    subst hb
    rcases h.2 with ⟨rfl, _⟩ | ⟨g, cap, cur, rfl, _, hg, _⟩
    · simp [Value.ownBlock]
    · intro e
      have : g = b' := by simpa [Value.ownBlock] using e
      subst this
      rw [hh] at hg
      cases hg
/-- A block of cells is no map. -/
theorem blk_ne_map {w : World} {g : Nat} {cs : Array Value} {t : TypeId} {fr : Nat × Nat} (h : w.heap[g]? = some (.cells cs t fr)) {vm : Value} {n : Nat} {D : DataW Unit} (hm : MapAt w vm n D) {b : Nat} (hb : vm = .map (some b)) : b ≠ g := by
  rcases hm with ⟨rfl, _⟩ | ⟨b', rfl, es, clock, hh, _⟩
  · cases hb
  · injection hb with hb
    injection hb with hb
    subst hb
    rintro rfl
    rw [hh] at h
    cases h

/-- One column's slice is another. -/
def valSet (vc : Nat → Value) (c : Nat) (v : Value) : Nat → Value := fun d => if d = c then v else vc d
theorem valSet_same (vc : Nat → Value) (c : Nat) (v : Value) : valSet vc c v c = v := by simp [valSet]
theorem valSet_other (vc : Nat → Value) {c d : Nat} (h : d ≠ c) (v : Value) : valSet vc c v d = vc d := by simp [valSet, h]

section
variable {w w' w1 : World} {F G : Nat → Prop} {g : Nat} {m : Int} {ids : List (Int × Int)} {cf : Nat → List Int} {D : DataW Unit} {n : Nat} {vi vm : Value} {vc : Nat → Value} {cs : Array Value}

theorem set_touch (w : World) (g j : Nat) (u : Value) : Touch (fun b => b = g) w (w.setCell ⟨g, j, none⟩ u) := (Touch.refl (fun b => b = g) w).setCell (p := ⟨g, j, none⟩) (.inl rfl) u
theorem get_set {cs : Array Value} (hs : cs.size = 19) {j : Nat} (hj : j < 19) (u : Value) : (cs.setIfInBounds j u)[j]? = some u := by
  rw [Array.getElem?_setIfInBounds_self_of_lt (by omega)]
theorem get_set_ne {cs : Array Value} {j k : Nat} (hjk : j ≠ k) (u : Value) : (cs.setIfInBounds j u)[k]? = cs[k]? := by
  rw [Array.getElem?_setIfInBounds_ne hjk]

/-- The list of entities is laid anew: what its row's block was may have changed, and the header. -/
theorem TG.put1 (h : TG w F g m ids cf D n vi vm vc cs) (t : Touch (fun b => vi.ownBlock = some b) w w1) {vi' : Value} {ids' : List (Int × Int)} (hr : w1.ownsRow 0 30 2 vi' ids'.length (idc ids')) (hF : ∀ k, F k → G k) (hv : ∀ k, vi'.ownBlock = some k → G k) :
    TG (w1.setCell ⟨g, 1, none⟩ vi') G g m ids' cf D n vi' vm vc (cs.setIfInBounds 1 vi') := by
  have hg1 : w1.heap[g]? = some (.cells cs 125 (0, 0)) := (t.block g h.lt (row_ne h.ri h.blk (by decide))).trans h.blk
  have s := set_touch w1 g 1 vi'
  have rc1 : ∀ c, c < 16 → w1.ownsRow 0 3 1 (vc c) (cf c).length (ic (cf c)) := fun c hc => row_touch (h.rc c hc) t (fun k hk e => row_row_ne h.ri (h.rc c hc) (by decide) e hk)
  have mp1 : MapAt w1 vm n D := h.mp.touch t (fun b hb e => row_ne_map h.ri h.mp hb e)
  refine ⟨by simpa using set_blk hg1 1 vi', by simpa using h.size, by rw [get_set_ne (by decide)]; exact h.c0, get_set h.size (by decide) _, by rw [get_set_ne (by decide)]; exact h.c2, fun c hc => by rw [get_set_ne (by omega)]; exact h.cc c hc,
    row_touch hr s (fun k hk (e : k = g) => row_ne hr hg1 (by decide) (e ▸ hk)), fun c hc => row_touch (rc1 c hc) s (fun k hk (e : k = g) => row_ne (rc1 c hc) hg1 (by decide) (e ▸ hk)), mp1.touch s (fun b hb (e : b = g) => blk_ne_map hg1 mp1 hb e), h.ap, hF _ h.fg, hv, fun c hc k hk => hF _ (h.fc c hc k hk), fun b hb => hF _ (h.fm b hb)⟩

/-- A column is laid anew. -/
theorem TG.putc (h : TG w F g m ids cf D n vi vm vc cs) {c : Nat} (hc : c < 16) (t : Touch (fun b => (vc c).ownBlock = some b) w w1) {v' : Value} {l' : List Int} (hr : w1.ownsRow 0 3 1 v' l'.length (ic l')) (hF : ∀ k, F k → G k) (hv : ∀ k, v'.ownBlock = some k → G k)
    (hat : ∀ k, v'.ownBlock = some k → (vc c).ownBlock = some k ∨ w.heap.size ≤ k) :
    TG (w1.setCell ⟨g, 3 + c, none⟩ v') G g m ids (colSet cf c l') D n vi vm (valSet vc c v') (cs.setIfInBounds (3 + c) v') := by
  have hg1 : w1.heap[g]? = some (.cells cs 125 (0, 0)) := (t.block g h.lt (row_ne (h.rc c hc) h.blk (by decide))).trans h.blk
  have s := set_touch w1 g (3 + c) v'
  have ri1 : w1.ownsRow 0 30 2 vi ids.length (idc ids) := row_touch h.ri t (fun k hk e => row_row_ne (h.rc c hc) h.ri (by decide) e hk)
  have rc1 : ∀ d, d < 16 → w1.ownsRow 0 3 1 (valSet vc c v' d) (colSet cf c l' d).length (ic (colSet cf c l' d)) := by
    intro d hd
    by_cases e : d = c
    · subst e
      rw [valSet_same, colSet_same]
      exact hr
    · rw [valSet_other vc e, colSet_other cf e]
      exact row_touch (h.rc d hd) t (fun k hk x => h.ap c d hc hd (fun y => e y.symm) k x hk)
  have mp1 : MapAt w1 vm n D := h.mp.touch t (fun b hb e => row_ne_map (h.rc c hc) h.mp hb e)
  refine ⟨by simpa using set_blk hg1 (3 + c) v', by simpa using h.size, by rw [get_set_ne (by omega)]; exact h.c0, by rw [get_set_ne (by omega)]; exact h.c1, by rw [get_set_ne (by omega)]; exact h.c2, ?_,
    row_touch ri1 s (fun k hk (e : k = g) => row_ne ri1 hg1 (by decide) (e ▸ hk)), fun d hd => row_touch (rc1 d hd) s (fun k hk (e : k = g) => row_ne (rc1 d hd) hg1 (by decide) (e ▸ hk)), mp1.touch s (fun b hb (e : b = g) => blk_ne_map hg1 mp1 hb e), ?_, hF _ h.fg, fun k hk => hF _ (h.fi k hk), ?_, fun b hb => hF _ (h.fm b hb)⟩
  · intro d hd
    by_cases e : d = c
    · subst e
      rw [valSet_same, get_set h.size (by omega)]
    · rw [valSet_other vc e, get_set_ne (by omega)]
      exact h.cc d hd
  · have key : ∀ d, d < 16 → d ≠ c → ∀ k, v'.ownBlock = some k → (vc d).ownBlock ≠ some k := by
      intro d hd e k hk hk2
      rcases hat k hk with x | x
      · exact h.ap c d hc hd (fun y => e y.symm) k x hk2
      · have := row_lt (h.rc d hd) hk2; omega
    intro a b ha hb hab k hk hk2
    by_cases ea : a = c
    · subst ea
      rw [valSet_same] at hk
      rw [valSet_other vc (fun y => hab y.symm)] at hk2
      exact key b hb (fun y => hab y.symm) k hk hk2
    · rw [valSet_other vc ea] at hk
      by_cases eb : b = c
      · subst eb
        rw [valSet_same] at hk2
        exact key a ha ea k hk2 hk
      · rw [valSet_other vc eb] at hk2
        exact h.ap a b ha hb hab k hk hk2
  · intro d hd k hk
    by_cases e : d = c
    · subst e
      rw [valSet_same] at hk
      exact hv k hk
    · rw [valSet_other vc e] at hk
      exact hF _ (h.fc d hd k hk)

/-- A value is stored into a column. -/
theorem TG.setc (h : TG w F g m ids cf D n vi vm vc cs) {c : Nat} (hc : c < 16) {gp L cap : Nat} (hv : vc c = .slice (some ⟨gp, 0, none⟩) L cap) (hL : (cf c).length = L) (r : Nat) (x : Int) :
    TG (w.setCell ⟨gp, r, none⟩ (.int .i64 x)) F g m ids (colSet cf c ((cf c).set r x)) D n vi vm vc cs := by
  have hrc := h.rc c hc
  have hob : (vc c).ownBlock = some gp := by rw [hv]; rfl
  have s := set_touch w gp r (.int .i64 x)
  refine ⟨(s.block g h.lt (fun (e : g = gp) => row_ne hrc h.blk (by decide) (e ▸ hob))).trans h.blk, h.size, h.c0, h.c1, h.c2, h.cc, row_touch h.ri s (fun k hk (e : k = gp) => row_row_ne hrc h.ri (by decide) hob (e ▸ hk)), ?_, h.mp.touch s (fun b hb (e : b = gp) => row_ne_map hrc h.mp hb (e ▸ hob)), h.ap, h.fg, h.fi, h.fc, h.fm⟩
  intro d hd
  by_cases e : d = c
  · subst e
    rw [colSet_same]
    have h1 := hrc
    rw [hL, hv] at h1
    have h2 := (h1.stored r (.int .i64 x)).1
    rw [hv, List.length_set, hL]
    have e1 : ic ((cf d).set r x) = (ic (cf d)).set r (.int .i64 x) := by simp [ic, List.map_set]
    rw [e1]
    exact h2
  · rw [colSet_other cf e]
    exact row_touch (h.rc d hd) s (fun k hk (x : k = gp) => h.ap c d hc hd (fun y => e y.symm) gp hob (x ▸ hk))

/-- The map's block has changed. -/
theorem TG.putm (h : TG w F g m ids cf D n vi vm vc cs) {b n' : Nat} {D' : DataW Unit} (hb : vm = .map (some b)) (hg : w.grownBy w' (some b)) (ho : w'.ownsMap Try.prog 30 (plainElem Try.prog 3) b n' D') :
    TG w' F g m ids cf D' n' vi vm vc cs := by
  have s : Touch (fun x => x = b) w w' := (Touch.refl (fun x => x = b) w).grown hg (fun k e => by injection e with e; exact .inl e.symm)
  exact ⟨(s.block g h.lt (fun (e : g = b) => blk_ne_map h.blk h.mp hb e.symm)).trans h.blk, h.size, h.c0, h.c1, h.c2, h.cc, row_touch h.ri s (fun k hk (e : k = b) => row_ne_map h.ri h.mp hb (e ▸ hk)), fun c hc => row_touch (h.rc c hc) s (fun k hk (e : k = b) => row_ne_map (h.rc c hc) h.mp hb (e ▸ hk)), .inr ⟨b, hb, ho⟩, h.ap, h.fg, h.fi, h.fc, h.fm⟩

/-- The header of the map is another. -/
theorem TG.put2 (h : TG w F g m ids cf D n vi vm vc cs) {vm' : Value} {n' : Nat} {D' : DataW Unit} (hm : MapAt w vm' n' D') (hF : ∀ k, F k → G k) (hv : ∀ b, vm' = .map (some b) → G b) :
    TG (w.setCell ⟨g, 2, none⟩ vm') G g m ids cf D' n' vi vm' vc (cs.setIfInBounds 2 vm') := by
  have s := set_touch w g 2 vm'
  exact ⟨by simpa using set_blk h.blk 2 vm', by simpa using h.size, by rw [get_set_ne (by decide)]; exact h.c0, by rw [get_set_ne (by decide)]; exact h.c1, get_set h.size (by decide) _, fun c hc => by rw [get_set_ne (by omega)]; exact h.cc c hc,
    row_touch h.ri s (fun k hk (e : k = g) => row_ne h.ri h.blk (by decide) (e ▸ hk)), fun c hc => row_touch (h.rc c hc) s (fun k hk (e : k = g) => row_ne (h.rc c hc) h.blk (by decide) (e ▸ hk)), hm.touch s (fun b hb (e : b = g) => blk_ne_map h.blk hm hb e), h.ap, hF _ h.fg, fun k hk => hF _ (h.fi k hk), fun c hc k hk => hF _ (h.fc c hc k hk), hv⟩
end
end Go.Proofs.Yticekldgjlihmaa

/-
  What table.place, Get and Set return, and what they leave in memory.
-/
namespace Go.Proofs.Yticekldgjlihmaa
open Go.ChangeShapes Go.WideShapes Go.ChangeAt Go.RowKit Go.Maps

theorem eqlSome (b : Nat) (w : World) : (binOp .eql 122 (.map (some b)) (.map none)).run Try.prog w = .ok (.bool false) w := by kernel_rfl
theorem eqlNil (w : World) : (binOp .eql 122 (.map none) (.map none)).run Try.prog w = .ok (.bool true) w := by kernel_rfl

/-- What place leaves: the map with one entry more or changed; the rows and columns as they were. -/
def PlacePost (w : World) (F : Nat → Prop) (g : Nat) (m : Int) (ids : List (Int × Int)) (cf : Nat → List Int) (D : DataW Unit) (n : Nat) (vi : Value) (vc : Nat → Value) (e : Ending) (w' : World) : Prop :=
  e = .returned (.tuple #[]) ∧ (∃ vm cs, TG w' (Ext F w w') g m ids cf D n vi vm vc cs) ∧ Touch F w w'

set_option maxRecDepth 20000 in
set_option maxHeartbeats 1000000 in
theorem place_any (g : Nat) (m i x r : Int) (ids : List (Int × Int)) (cf : Nat → List Int) (D : DataW Unit) (n : Nat) (vi vm : Value) (vc : Nat → Value) (cs : Array Value) (F : Nat → Prop) (w : World) (h : TG w F g m ids cf D n vi vm vc cs) (hi : I64 i) (hx : I64 x) (hr : I64 r) (hn : n < 1000000) :
    Calls Try.prog 74 #[.pointer (some ⟨g, 0, none⟩), .agg #[.int .i64 i, .int .i64 x], .int .i64 r] w (PlacePost w F g m ids cf (D.put (klI i x) (.lit (.int .i64 r))) (n + 1) vi vc) := by
  have hl := h.lt
  have k2 := h.at2
  have z2 := h.free 2
  rcases h.mp with ⟨rfl, rfl⟩ | ⟨b, rfl, hown⟩
  · have T1 : Touch NoB w ((w.alloc (.cells #[.int .i64 i, .int .i64 x] 30)).alloc (.map #[] 0)) := ((Touch.refl _ _).alloc _).alloc _
    have hmade := World.ownsMap_made (w.alloc (.cells #[.int .i64 i, .int .i64 x] 30)) Try.prog 30 (plainElem (H := Unit) Try.prog 3)
    simp only [World.size_alloc] at hmade
    have h2 : TG (((w.alloc (.cells #[.int .i64 i, .int .i64 x] 30)).alloc (.map #[] 0)).setCell ⟨g, 2, none⟩ (.map (some (w.heap.size + 1)))) (fun k => F k ∨ k = w.heap.size + 1) g m ids cf (.map []) 0 vi (.map (some (w.heap.size + 1))) vc _ :=
      TG.put2 (h.quiet T1) (.inr ⟨_, rfl, hmade⟩) (fun k hk => .inl hk) (fun b hb => by injection hb with hb; injection hb with hb; exact .inr hb.symm)
    have h3 := h2.quiet ((Touch.refl NoB _).drew)
    have T3 : Touch F w (((w.alloc (.cells #[.int .i64 i, .int .i64 x] 30)).alloc (.map #[] 0)).setCell ⟨g, 2, none⟩ (.map (some (w.heap.size + 1)))).drew := ((T1.mono (fun _ e => e.elim)).setCell (p := ⟨g, 2, none⟩) (.inl h.fg) _).drew
    obtain ⟨hown3⟩ : (((w.alloc (.cells #[.int .i64 i, .int .i64 x] 30)).alloc (.map #[] 0)).setCell ⟨g, 2, none⟩ (.map (some (w.heap.size + 1)))).drew.ownsMap Try.prog 30 (plainElem (H := Unit) Try.prog 3) (w.heap.size + 1) 0 (.map []) ∧ True := by
      rcases h3.mp with ⟨e, _⟩ | ⟨b, e, ho⟩
      · cases e
      · injection e with e; injection e with e; subst e; exact ⟨ho, trivial⟩
    obtain ⟨w4, hrun, ho4, hg4⟩ := hown3.update lawId Try.underlying122 (by unfold maxLen; omega) (key_id hi hx) (plainElem_int Try.underlying3 hr)
    have h4 := h3.putm rfl hg4 (ho4.mono (n' := n + 1) (by omega))
    have T4 : Touch F w w4 := T3.grown hg4 (fun k e => by injection e with e; right; omega)
    have hs4 := T4.size
    have hs4' : w.heap.size + 2 ≤ w4.heap.size := by have := hg4.size; simp [World.setCell, World.drew] at this; omega
    have P4 : PlacePost w F g m ids cf ((DataW.map []).put (klI i x) (.lit (.int .i64 r))) (n + 1) vi vc (.returned (.tuple #[])) w4 :=
      ⟨rfl, ⟨_, _, h4.more (fun k hk => hk.elim .inl (fun e => .inr ⟨by omega, by omega⟩))⟩, T4⟩
    have HP := Lib.hid P4
    have hmm := @run_makeMap Try.prog
    have heq := eqlNil
    rw [World.setCell_alloc_past _ _ _ _ (by simp; omega), World.setCell_alloc_past _ _ _ _ hl] at hrun
    clear h h2 h3 h4 T1 T3 T4 hmade hown3 ho4 hg4 P4 hs4 hs4'
    go_enter Try.func74, Try.ntmps74
    go_wp2
    go_region
    go_end0
    exact HP.out
  · have h1 := h.quiet (((Touch.refl NoB w).alloc (.cells #[.int .i64 i, .int .i64 x] 30)).drew)
    have hown1 : (w.alloc (.cells #[.int .i64 i, .int .i64 x] 30)).drew.ownsMap Try.prog 30 (plainElem (H := Unit) Try.prog 3) b n D := (hown.alloc _).drew
    obtain ⟨w4, hrun, ho4, hg4⟩ := hown1.update lawId Try.underlying122 (by unfold maxLen; omega) (key_id hi hx) (plainElem_int Try.underlying3 hr)
    have h4 := h1.putm rfl hg4 ho4
    have T4 : Touch F w w4 := ((((Touch.refl F w).alloc _).drew).grown hg4 (fun k e => by injection e with e; exact .inl (e ▸ h.fm b rfl)))
    have P4 : PlacePost w F g m ids cf (D.put (klI i x) (.lit (.int .i64 r))) (n + 1) vi vc (.returned (.tuple #[])) w4 :=
      ⟨rfl, ⟨_, _, h4.more (fun k hk => .inl hk)⟩, T4⟩
    have HP := Lib.hid P4
    have heq := eqlSome b
    clear h h1 h4 T4 hown hown1 ho4 hg4 P4
    go_enter Try.func74, Try.ntmps74
    go_wp2
    go_region
    go_end0
    exact HP.out

/-- The length of a list of entities is below the greatest int. -/
theorem TO.len {w : World} {F : Nat → Prop} {g : Nat} {m : Int} {ids : List (Int × Int)} {cf : Nat → List Int} {D : DataW Unit} {n : Nat} (h : TO w F g m ids cf D n) : ids.length ≤ 9223372036854775807 := by
  obtain ⟨vi, vm, vc, cs, h⟩ := h
  obtain ⟨A, cap, _, h1, h2⟩ := row_any h.ri
  unfold maxLen at h2
  omega

set_option maxHeartbeats 1000000 in
theorem tget_no (g : Nat) (m r c : Int) (ids : List (Int × Int)) (cf : Nat → List Int) (D : DataW Unit) (n : Nat) (F : Nat → Prop) (w : World) (h : TO w F g m ids cf D n) (hm : 0 ≤ m) (hm2 : m < 65536) (hno : (rowB ids.length r && colB m c) = false) :
    Calls Try.prog 47 #[.pointer (some ⟨g, 0, none⟩), .int .i64 r, .int .i64 c] w fun e w' => e = .returned (.tuple #[.int .i64 0, .bool false]) ∧ w = w' := by
  have hL := h.len
  obtain ⟨vi, vm, vc, cs, hT⟩ := h
  obtain ⟨A, cap, rfl, h1, h2⟩ := row_any hT.ri
  have HR := Lib.hid (hasRow_any g r A ids.length cap w hL hT.at1)
  have HC := Lib.hid (hasCol_any g m c w hm hm2 hT.at0)
  clear hT
  cases h3 : rowB ids.length r
  · rw [h3] at HR
    go_enter Try.func47, Try.ntmps47
    go_wp2_with fail
    refine HR.out.mono ?_
    rintro e w' ⟨rfl, rfl⟩
    go_wp2
    go_ret2
    exact ⟨rfl, rfl⟩
  · rw [h3] at HR
    rw [h3, Bool.true_and] at hno
    rw [hno] at HC
    go_enter Try.func47, Try.ntmps47
    go_wp2_with fail
    refine HR.out.mono ?_
    rintro e w' ⟨rfl, rfl⟩
    go_wp2_with fail
    refine HC.out.mono ?_
    rintro e w' ⟨rfl, rfl⟩
    go_wp2
    go_ret2
    exact ⟨rfl, rfl⟩

theorem colB_nat {m : Int} {c : Nat} (hc : c < 16) (hb : bitB m c = true) : colB m (c : Int) = true := by
  unfold colB
  simp [hb]
  omega
theorem rowB_nat {L r : Nat} (h : r < L) : rowB L (r : Int) = true := by
  unfold rowB
  simp [h]
theorem colB_true {m c : Int} (h : colB m c = true) : ∃ k : Nat, c = k ∧ k < 16 ∧ bitB m k = true := by
  unfold colB at h
  simp only [Bool.and_eq_true, decide_eq_true_eq] at h
  obtain ⟨⟨h1, h2⟩, h3⟩ := h
  obtain ⟨k, rfl⟩ := Int.eq_ofNat_of_zero_le h1
  exact ⟨k, rfl, by omega, by simpa using h3⟩
theorem rowB_true {L : Nat} {r : Int} (h : rowB L r = true) : ∃ k : Nat, r = k ∧ k < L := by
  unfold rowB at h
  simp only [Bool.and_eq_true, decide_eq_true_eq] at h
  obtain ⟨k, rfl⟩ := Int.eq_ofNat_of_zero_le h.1
  exact ⟨k, rfl, by omega⟩

set_option maxHeartbeats 1000000 in
theorem tget_yes (g r c : Nat) (m x : Int) (ids : List (Int × Int)) (cf : Nat → List Int) (D : DataW Unit) (n : Nat) (F : Nat → Prop) (w : World) (h : TO w F g m ids cf D n) (hm : 0 ≤ m) (hm2 : m < 65536) (hr : r < ids.length) (hc : c < 16) (hb : bitB m c = true) (hx : (cf c)[r]? = some x) :
    Calls Try.prog 47 #[.pointer (some ⟨g, 0, none⟩), .int .i64 r, .int .i64 c] w fun e w' => e = .returned (.tuple #[.int .i64 x, .bool true]) ∧ w = w' := by
  have hL := h.len
  obtain ⟨vi, vm, vc, cs, hT⟩ := h
  obtain ⟨A, cap, rfl, h1, h2⟩ := row_any hT.ri
  have HR := Lib.hid (hasRow_any g r A ids.length cap w hL hT.at1)
  have HC := Lib.hid (hasCol_any g m c w hm hm2 hT.at0)
  rw [rowB_nat hr] at HR
  rw [colB_nat hc hb] at HC
  have hrl : r < (cf c).length := (List.getElem?_eq_some_iff.1 hx).1
  have hrc := hT.rc c hc
  obtain ⟨gp, cp, hv, hc1, hc2, hob⟩ := row_form hrc (by omega)
  have k3 : w.cell? ⟨g, 3 + c, none⟩ = some (.slice (some ⟨gp, 0, none⟩) (cf c).length cp) := by rw [hT.atc c hc, hv]
  have k4 : w.cell? ⟨gp, r, none⟩ = some (.int .i64 x) := by
    rw [hv] at hrc
    rw [hrc.cellAt r (by omega)]
    simp [ic, hx]
  have hlp := row_lt hrc hob
  have hl := hT.lt
  unfold maxLen at hc2
  clear hT hrc hv hob hx hb
  generalize (cf c).length = Lc at *
  go_enter Try.func47, Try.ntmps47
  go_wp2_with fail
  refine HR.out.mono ?_
  rintro e w' ⟨rfl, rfl⟩
  go_wp2_with fail
  refine HC.out.mono ?_
  rintro e w' ⟨rfl, rfl⟩
  go_wp2
  go_ret2
  exact ⟨rfl, rfl⟩

set_option maxHeartbeats 1000000 in
theorem tset_no (g : Nat) (m r c x : Int) (ids : List (Int × Int)) (cf : Nat → List Int) (D : DataW Unit) (n : Nat) (F : Nat → Prop) (w : World) (h : TO w F g m ids cf D n) (hm : 0 ≤ m) (hm2 : m < 65536) (hno : (rowB ids.length r && colB m c) = false) :
    Calls Try.prog 39 #[.pointer (some ⟨g, 0, none⟩), .int .i64 r, .int .i64 c, .int .i64 x] w fun e w' => e = .returned (.bool false) ∧ w = w' := by
  have hL := h.len
  obtain ⟨vi, vm, vc, cs, hT⟩ := h
  obtain ⟨A, cap, rfl, h1, h2⟩ := row_any hT.ri
  have HR := Lib.hid (hasRow_any g r A ids.length cap w hL hT.at1)
  have HC := Lib.hid (hasCol_any g m c w hm hm2 hT.at0)
  clear hT
  cases h3 : rowB ids.length r
  · rw [h3] at HR
    go_enter Try.func39, Try.ntmps39
    go_wp2_with fail
    refine HR.out.mono ?_
    rintro e w' ⟨rfl, rfl⟩
    go_wp2
    go_ret
    exact ⟨rfl, rfl⟩
  · rw [h3] at HR
    rw [h3, Bool.true_and] at hno
    rw [hno] at HC
    go_enter Try.func39, Try.ntmps39
    go_wp2_with fail
    refine HR.out.mono ?_
    rintro e w' ⟨rfl, rfl⟩
    go_wp2_with fail
    refine HC.out.mono ?_
    rintro e w' ⟨rfl, rfl⟩
    go_wp2
    go_ret
    exact ⟨rfl, rfl⟩

set_option maxHeartbeats 1000000 in
theorem tset_yes (g r c : Nat) (m x : Int) (ids : List (Int × Int)) (cf : Nat → List Int) (D : DataW Unit) (n : Nat) (F : Nat → Prop) (w : World) (h : TO w F g m ids cf D n) (hm : 0 ≤ m) (hm2 : m < 65536) (hr : r < ids.length) (hc : c < 16) (hb : bitB m c = true) (hrl : r < (cf c).length) :
    Calls Try.prog 39 #[.pointer (some ⟨g, 0, none⟩), .int .i64 r, .int .i64 c, .int .i64 x] w fun e w' => e = .returned (.bool true) ∧ TO w' F g m ids (colSet cf c ((cf c).set r x)) D n ∧ Touch F w w' := by
  have hL := h.len
  obtain ⟨vi, vm, vc, cs, hT⟩ := h
  obtain ⟨A, cap, rfl, h1, h2⟩ := row_any hT.ri
  have HR := Lib.hid (hasRow_any g r A ids.length cap w hL hT.at1)
  have HC := Lib.hid (hasCol_any g m c w hm hm2 hT.at0)
  rw [rowB_nat hr] at HR
  rw [colB_nat hc hb] at HC
  have hrc := hT.rc c hc
  obtain ⟨gp, cp, hv, hc1, hc2, hob⟩ := row_form hrc (by omega)
  have k3 : w.cell? ⟨g, 3 + c, none⟩ = some (.slice (some ⟨gp, 0, none⟩) (cf c).length cp) := by rw [hT.atc c hc, hv]
  obtain ⟨y, hy⟩ : ∃ y, (cf c)[r]? = some y := ⟨_, List.getElem?_eq_getElem hrl⟩
  have k4 : w.cell? ⟨gp, r, none⟩ = some (.int .i64 y) := by
    rw [hv] at hrc
    rw [hrc.cellAt r (by omega)]
    simp [ic, hy]
  have z4 : w.frozen? ⟨gp, r, none⟩ = false := by
    rw [hv] at hrc
    exact hrc.frozenAt _
  have hlp := row_lt hrc hob
  have hl := hT.lt
  unfold maxLen at hc2
  have hP : TO (w.setCell ⟨gp, r, none⟩ (.int .i64 x)) F g m ids (colSet cf c ((cf c).set r x)) D n ∧ Touch F w (w.setCell ⟨gp, r, none⟩ (.int .i64 x)) :=
    ⟨⟨_, _, _, _, hT.setc hc hv rfl r x⟩, (Touch.refl F w).setCell (p := ⟨gp, r, none⟩) (.inl (hT.fc c hc gp hob)) _⟩
  have HP := Lib.hid hP
  clear hT hrc hv hob hy hb hP
  generalize (cf c).length = Lc at *
  go_enter Try.func39, Try.ntmps39
  go_wp2_with fail
  refine HR.out.mono ?_
  rintro e w' ⟨rfl, rfl⟩
  go_wp2_with fail
  refine HC.out.mono ?_
  rintro e w' ⟨rfl, rfl⟩
  go_wp2
  go_ret
  exact ⟨rfl, HP.out⟩
end Go.Proofs.Yticekldgjlihmaa
