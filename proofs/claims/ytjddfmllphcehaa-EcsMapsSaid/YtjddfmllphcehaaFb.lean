/-
  Where an entity lies among the tables, and what each call does to that: lists alone.
-/
import Derived.Test.YtjddfmllphcehaaEq
import Derived.Test.YtjddfmllphcehaaFa
namespace Go.Proofs.Ytjddfmllphcehaa
open Go.ChangeShapes Go.WideShapes Go.ChangeAt Go.RowKit Go.Maps
set_option maxRecDepth 100000
set_option maxHeartbeats 400000

/-- p lies in row k of table b, the values of its components are those of vf. -/
def RowB (b : Tb) (k : Nat) (p : Int × Int) (m : Int) (vf : Nat → Int) : Prop := b.ids[k]? = some p ∧ b.m = m ∧ ∀ c, c < 16 → bitB m c = true → (b.cf c).getD k 0 = vf c
/-- p lies among the tables, with mask m and the values of vf. -/
def AtB (bs : List Tb) (p : Int × Int) (m : Int) (vf : Nat → Int) : Prop := ∃ (j k : Nat) (b : Tb), bs[j]? = some b ∧ RowB b k p m vf
/-- Every column is as long as its table's list of entities. -/
def LenT (b : Tb) : Prop := ∀ c, c < 16 → bitB b.m c = true → (b.cf c).length = b.ids.length
def LenB (bs : List Tb) : Prop := ∀ (j : Nat) (b : Tb), bs[j]? = some b → LenT b

theorem St.lens {w : World} {F : Nat → Prop} {cnt g : Nat} {room tables : Int} {ps : List (Int × Bool)} {ds : List Int} {bs : List Tb} (h : St w F cnt g room tables ps ds bs) : LenB bs := by
  obtain ⟨φ, ts, H, nh, va, bh, h1, h2, h3, h4⟩ := h
  intro j b hb
  obtain ⟨r, hr, rfl⟩ := at_ts h3 hb
  exact (h2.t.ok j r hr).2.2.1
theorem St.rows {w : World} {F : Nat → Prop} {cnt g : Nat} {room tables : Int} {ps : List (Int × Bool)} {ds : List Int} {bs : List Tb} (h : St w F cnt g room tables ps ds bs) {j : Nat} {b : Tb} (hb : bs[j]? = some b) : IdsOk b.ids := by
  obtain ⟨φ, ts, H, nh, va, bh, h1, h2, h3, h4⟩ := h
  obtain ⟨r, hr, rfl⟩ := at_ts h3 hb
  exact (h2.t.ok j r hr).1
/-- An entity that is there lies in one of the tables, and the other way round. -/
theorem St.link {w : World} {F : Nat → Prop} {cnt g : Nat} {room tables : Int} {ps : List (Int × Bool)} {ds : List Int} {bs : List Tb} (h : St w F cnt g room tables ps ds bs) {j k : Nat} {b : Tb} {p : Int × Int} (hb : bs[j]? = some b) (hk : b.ids[k]? = some p) : hasI ps p.1 p.2 = true := by
  obtain ⟨φ, ts, H, nh, va, bh, h1, h2, h3, h4⟩ := h
  obtain ⟨r, hr, rfl⟩ := at_ts h3 hb
  exact (h2.link p.1 p.2).2 ⟨j, r, hr, row_mem hk⟩

theorem RowB.get {b : Tb} {k : Nat} {p : Int × Int} {m : Int} {vf : Nat → Int} (h : RowB b k p m vf) {c : Nat} (hc : c < 16) : getV b k (c : Int) = if bitB m c = true then (vf c, 0) else (0, 12) := by
  unfold getV
  rw [if_pos (isC_nat hc), Int.toNat_natCast, h.2.1]
  split
  · next hb => rw [h.2.2 c hc hb]
  · rfl

theorem open_keep {bs : List Tb} (m : Int) {j : Nat} {b : Tb} (hb : bs[j]? = some b) : ∃ l : Nat, (openB bs m)[l]? = some b := by
  unfold openB
  split
  · exact ⟨j, hb⟩
  · have hp := posB_le bs m
    have hj := (List.getElem?_eq_some_iff.1 hb).1
    unfold insT
    by_cases hjp : j < posB bs m
    · exact ⟨j, by rw [List.getElem?_append_left (by rw [List.length_take]; omega), List.getElem?_take, if_pos hjp]; exact hb⟩
    · refine ⟨j + 1, ?_⟩
      rw [List.getElem?_append_right (by rw [List.length_take]; omega), List.length_take, show j + 1 - min (posB bs m) bs.length = (j - posB bs m) + 1 from by omega, List.getElem?_cons_succ, List.getElem?_drop, show posB bs m + (j - posB bs m) = j from by omega]
      exact hb
theorem open_from {bs : List Tb} {m : Int} {l : Nat} {b : Tb} (hb : (openB bs m)[l]? = some b) : (∃ j : Nat, bs[j]? = some b) ∨ b = ⟨m, [], fun _ => []⟩ := by
  have hm := List.mem_of_getElem? hb
  unfold openB at hm
  split at hm
  · obtain ⟨j, hj, e⟩ := List.getElem_of_mem hm
    exact .inl ⟨j, by rw [List.getElem?_eq_getElem hj, e]⟩
  · unfold insT at hm
    have hs : b ∈ bs ∨ b = ⟨m, [], fun _ => []⟩ := by
      rcases List.mem_append.1 hm with a | a
      · exact .inl (List.mem_of_mem_take a)
      · rcases List.mem_cons.1 a with a | a
        · exact .inr a
        · exact .inl (List.mem_of_mem_drop a)
    rcases hs with a | a
    · obtain ⟨j, hj, e⟩ := List.getElem_of_mem a
      exact .inl ⟨j, by rw [List.getElem?_eq_getElem hj, e]⟩
    · exact .inr a
theorem LenB.opened {bs : List Tb} (h : LenB bs) (m : Int) : LenB (openB bs m) := by
  intro l b hb
  rcases open_from hb with ⟨j, hj⟩ | rfl
  · exact h j b hj
  · intro c _ _; rfl

theorem getD_some {l : List Int} {k : Nat} {x : Int} (h : l[k]? = some x) : l.getD k 0 = x := by rw [List.getD_eq_getElem?_getD, h]; rfl
theorem getD_app {l : List Int} {k : Nat} (x : Int) (h : k < l.length) : (l ++ [x]).getD k 0 = l.getD k 0 := by
  rw [List.getD_eq_getElem?_getD, List.getD_eq_getElem?_getD, List.getElem?_append_left h]

/-- Whoever was there is there as before when another enters. -/
theorem AtB.enter {bs : List Tb} {q : Int × Int} {m' : Int} {vf : Nat → Int} (h : AtB bs q m' vf) (hL : LenB bs) (m : Int) (p : Int × Int) (cl : List (Int × Int)) : AtB (enterB bs m p cl) q m' vf := by
  obtain ⟨j, k, b, hb, hk, hm, hv⟩ := h
  obtain ⟨l, hl⟩ := open_keep m hb
  obtain ⟨d, hd, hdm, e⟩ := enter_eq bs m p cl
  rw [e]
  by_cases hlp : l = posB bs m
  · subst hlp
    rw [hl] at hd
    injection hd with hd
    subst hd
    have hkl := (List.getElem?_eq_some_iff.1 hk).1
    refine ⟨posB bs m, k, addB p cl b, List.getElem?_set_self (List.getElem?_eq_some_iff.1 hl).1, ?_, hm, fun c hc hb' => ?_⟩
    · show (b.ids ++ [p])[k]? = some q
      rw [List.getElem?_append_left hkl]; exact hk
    · show (newCol b.m b.cf cl c).getD k 0 = vf c
      have hb2 : bitB b.m c = true := by rw [hm]; exact hb'
      unfold newCol
      rw [if_pos ⟨hc, hb2⟩, getD_app _ (by rw [hL j b hb c hc hb2]; exact hkl)]
      exact hv c hc hb'
  · exact ⟨l, k, b, by rw [List.getElem?_set_ne (fun e => hlp e.symm)]; exact hl, hk, hm, hv⟩
/-- Who enters is there. -/
theorem AtB.new {bs : List Tb} (hL : LenB bs) (m : Int) (p : Int × Int) (cl : List (Int × Int)) {vf : Nat → Int} (hv : ∀ c : Nat, c < 16 → bitB m c = true → lastI cl c = vf c) : AtB (enterB bs m p cl) p m vf := by
  obtain ⟨d, hd, hdm, e⟩ := enter_eq bs m p cl
  rw [e]
  refine ⟨posB bs m, d.ids.length, addB p cl d, List.getElem?_set_self (List.getElem?_eq_some_iff.1 hd).1, ?_, hdm, fun c hc hb => ?_⟩
  · show (d.ids ++ [p])[d.ids.length]? = some p
    simp
  · show (newCol d.m d.cf cl c).getD d.ids.length 0 = vf c
    have hb2 : bitB d.m c = true := by rw [hdm]; exact hb
    have hl := hL.opened m _ _ hd c hc hb2
    unfold newCol
    rw [if_pos ⟨hc, hb2⟩, List.getD_eq_getElem?_getD, List.getElem?_append_right (by omega), hl]
    simp
    exact hv c hc hb
theorem LenB.set {bs : List Tb} (h : LenB bs) (j : Nat) {b : Tb} (hb : LenT b) : LenB (bs.set j b) := by
  intro l x hx
  by_cases hl : j = l
  · subst hl
    rw [List.getElem?_set_self (by have := (List.getElem?_eq_some_iff.1 hx).1; rwa [List.length_set] at this)] at hx
    injection hx with hx
    subst hx
    exact hb
  · rw [List.getElem?_set_ne hl] at hx
    exact h l x hx
theorem LenT.cut {b : Tb} (h : LenT b) (k : Nat) : LenT (cutB b k) := by
  intro c hc hb
  show (remCol b.m b.cf k 16 c).length = (cutAt (0, 0) b.ids k).length
  unfold remCol
  rw [if_pos ⟨hc, hb⟩, cutAt_length, cutAt_length, h c hc hb]

/-- A row that isn't the one that goes keeps its entity and its values; the last one takes its place. -/
theorem cut_row {b : Tb} (hL : LenT b) {k l : Nat} {p q : Int × Int} {m : Int} {vf : Nat → Int} (hk : b.ids[k]? = some p) (hq : RowB b l q m vf) (hne : q ≠ p) : ∃ l', RowB (cutB b k) l' q m vf := by
  obtain ⟨hl, hm, hv⟩ := hq
  have hkl := (List.getElem?_eq_some_iff.1 hk).1
  have hll := (List.getElem?_eq_some_iff.1 hl).1
  have hkn : l ≠ k := fun e => by subst e; rw [hk] at hl; injection hl with hl; exact hne hl.symm
  obtain ⟨l', hl', hcase⟩ : ∃ l', l' < b.ids.length - 1 ∧ ((l' = k ∧ l = b.ids.length - 1) ∨ (l' ≠ k ∧ l' = l)) := by
    by_cases hlast : l = b.ids.length - 1
    · exact ⟨k, by omega, .inl ⟨rfl, hlast⟩⟩
    · exact ⟨l, by omega, .inr ⟨hkn, rfl⟩⟩
  refine ⟨l', ?_, hm, fun c hc hb => ?_⟩
  · show (cutAt (0, 0) b.ids k)[l']? = some q
    rw [cut_get _ _ hkl hl']
    rcases hcase with ⟨e1, e2⟩ | ⟨e1, e2⟩
    · rw [if_pos e1, ← e2]; exact hl
    · rw [if_neg e1, e2]; exact hl
  · show (remCol b.m b.cf k 16 c).getD l' 0 = vf c
    have hb2 : bitB b.m c = true := by rw [hm]; exact hb
    have hcl := hL c hc hb2
    unfold remCol
    rw [if_pos ⟨hc, hb2⟩, List.getD_eq_getElem?_getD, cut_get _ _ (by omega) (by omega), hcl]
    have := hv c hc hb
    rw [List.getD_eq_getElem?_getD] at this
    rcases hcase with ⟨e1, e2⟩ | ⟨e1, e2⟩
    · rw [if_pos e1, ← e2]; exact this
    · rw [if_neg e1, e2]; exact this
theorem AtB.cut {bs : List Tb} (hL : LenB bs) {j k : Nat} {b : Tb} {p q : Int × Int} {m : Int} {vf : Nat → Int} (hb : bs[j]? = some b) (hk : b.ids[k]? = some p) (hq : AtB bs q m vf) (hne : q ≠ p) : AtB (bs.set j (cutB b k)) q m vf := by
  obtain ⟨i, l, d, hd, hr⟩ := hq
  by_cases hij : j = i
  · subst hij
    rw [hb] at hd
    injection hd with hd
    subst hd
    obtain ⟨l', h⟩ := cut_row (hL j b hb) hk hr hne
    exact ⟨j, l', _, List.getElem?_set_self (List.getElem?_eq_some_iff.1 hb).1, h⟩
  · exact ⟨i, l, d, by rw [List.getElem?_set_ne hij]; exact hd, hr⟩
/-- A value that is set: of the entity's own.. -/
theorem AtB.setOwn {bs : List Tb} (hL : LenB bs) {j k c : Nat} {b : Tb} {p : Int × Int} {m : Int} {vf : Nat → Int} (hb : bs[j]? = some b) (hr : RowB b k p m vf) (hc : c < 16) (hbt : bitB b.m c = true) (v : Int) : AtB (bs.set j (setB b k c v)) p m (fun d => if d = c then v else vf d) := by
  obtain ⟨hk, hm, hv⟩ := hr
  have hkl := (List.getElem?_eq_some_iff.1 hk).1
  refine ⟨j, k, _, List.getElem?_set_self (List.getElem?_eq_some_iff.1 hb).1, hk, hm, fun d hd hbd => ?_⟩
  show (colSet b.cf c ((b.cf c).set k v) d).getD k 0 = if d = c then v else vf d
  unfold colSet
  by_cases hdc : d = c
  · subst hdc
    rw [if_pos rfl, if_pos rfl]
    exact getD_some (List.getElem?_set_self (by rw [hL j b hb d hd hbt]; exact hkl))
  · rw [if_neg hdc, if_neg hdc]; exact hv d hd hbd
/-- .. and of the others. -/
theorem AtB.setOther {bs : List Tb} {j k c : Nat} {b : Tb} {p q : Int × Int} {m : Int} {vf : Nat → Int} (hb : bs[j]? = some b) (hk : b.ids[k]? = some p) (hq : AtB bs q m vf) (hne : q ≠ p) (v : Int) : AtB (bs.set j (setB b k c v)) q m vf := by
  obtain ⟨i, l, d, hd, hl, hm, hv⟩ := hq
  by_cases hij : j = i
  · subst hij
    rw [hb] at hd
    injection hd with hd
    subst hd
    have hlk : k ≠ l := fun e => by subst e; rw [hk] at hl; injection hl with hl; exact hne hl.symm
    refine ⟨j, l, _, List.getElem?_set_self (List.getElem?_eq_some_iff.1 hb).1, hl, hm, fun x hx hbx => ?_⟩
    show (colSet b.cf c ((b.cf c).set k v) x).getD l 0 = vf x
    unfold colSet
    by_cases hxc : x = c
    · subst hxc
      rw [if_pos rfl, List.getD_eq_getElem?_getD, List.getElem?_set_ne hlk, ← List.getD_eq_getElem?_getD]
      exact hv x hx hbx
    · rw [if_neg hxc]; exact hv x hx hbx
  · exact ⟨i, l, d, by rw [List.getElem?_set_ne hij]; exact hd, hl, hm, hv⟩
theorem AtB.moveOther {bs : List Tb} (hL : LenB bs) {j k : Nat} {b : Tb} {p q : Int × Int} {m' : Int} {vf : Nat → Int} (hb : bs[j]? = some b) (hk : b.ids[k]? = some p) (hq : AtB bs q m' vf) (hne : q ≠ p) (m : Int) (more : List (Int × Int)) : AtB (moveB bs j k b m p more) q m' vf :=
  (AtB.cut hL hb hk hq hne).enter (hL.set j ((hL j b hb).cut k)) m p _
/-- What a row holds, as cells. -/
theorem last_out (m : Int) (cf : Nat → List Int) (r : Nat) : ∀ n c : Nat, c < n → bitB m c = true → lastI (outI m cf r n) c = (cf c).getD r 0 := by
  intro n
  induction n with
  | zero => intro c hc; omega
  | succ n ih =>
    intro c hc hb
    cases hn : bitB m n
    · rw [outI_no hn]
      have : c ≠ n := fun e => by subst e; rw [hb] at hn; cases hn
      exact ih c (by omega) hb
    · rw [outI_yes hn, lastI_snoc]
      by_cases hcn : c = n
      · subst hcn; rw [if_pos rfl]
      · rw [if_neg (by show ((n : Nat) : Int) ≠ _; omega)]
        exact ih c (by omega) hb
/-- A component more. -/
theorem AtB.more {bs : List Tb} (hL : LenB bs) {j k c : Nat} {b : Tb} {p : Int × Int} {m : Int} {vf : Nat → Int} (hb : bs[j]? = some b) (hr : RowB b k p m vf) (h0 : 0 ≤ m) (v : Int) : AtB (moveB bs j k b (orM m c) p [((c : Int), v)]) p (orM m c) (fun d => if d = c then v else vf d) := by
  obtain ⟨hk, rfl, hv⟩ := hr
  refine AtB.new (hL.set j ((hL j b hb).cut k)) _ p _ fun d hd hbd => ?_
  rw [lastI_snoc]
  by_cases hdc : d = c
  · subst hdc; rw [if_pos rfl, if_pos rfl]
  · rw [if_neg (by show ((c : Nat) : Int) ≠ _; omega), if_neg hdc]
    rw [orM_bit h0] at hbd
    have hbd : bitB b.m d = true := by simpa [hdc] using hbd
    rw [last_out _ _ _ 16 d hd hbd]
    exact hv d hd hbd
/-- A component less. -/
theorem AtB.less {bs : List Tb} (hL : LenB bs) {j k c : Nat} {b : Tb} {p : Int × Int} {m : Int} {vf : Nat → Int} (hb : bs[j]? = some b) (hr : RowB b k p m vf) (h0 : 0 ≤ m) (hc : c < 16) : AtB (moveB bs j k b (clM m c) p []) p (clM m c) vf := by
  obtain ⟨hk, rfl, hv⟩ := hr
  refine AtB.new (hL.set j ((hL j b hb).cut k)) _ p _ fun d hd hbd => ?_
  rw [List.append_nil]
  rw [clM_bit h0 hc hd] at hbd
  have hbd : bitB b.m d = true := by
    rw [Bool.and_eq_true] at hbd
    exact hbd.1
  rw [last_out _ _ _ 16 d hd hbd]
  exact hv d hd hbd
end Go.Proofs.Ytjddfmllphcehaa
