/-
  Where an entity lies among the tables, and what each call does to that: lists alone.
-/
import Derived.Test.YticekldgjlihmaaEq
import Derived.Test.YticekldgjlihmaaFa
import Derived.Test.YticekldgjlihmaaM4
import Derived.Test.YticekldgjlihmaaGk
import Derived.Test.YticekldgjlihmaaGh
namespace Go.Proofs.Yticekldgjlihmaa
open Go.ChangeShapes Go.WideShapes Go.ChangeAt Go.RowKit Go.Maps
set_option maxRecDepth 100000
set_option maxHeartbeats 400000

/-- p lies in row k of table b, the values of its components are those of vf. -/
def RowB (b : Tb) (k : Nat) (p : Int × Int) (m : Int) (vf : Nat → Int) : Prop := b.ids[k]? = some p ∧ b.m = m ∧ ∀ c, c < 16 → bitB m c = true → (b.cf c).getD k 0 = vf c
/-- p lies among the tables, with mask m and the values of vf. -/
def AtB (bs : List Tb) (p : Int × Int) (m : Int) (vf : Nat → Int) : Prop := ∃ (j k : Nat) (b : Tb), bs[j]? = some b ∧ RowB b k p m vf
/-- Every column is as long as its table's list of entities. -/
def LenT (b : Tb) : Prop := ∀ c, c < 16 → bitB b.m c = true → (b.cf c).length = b.ids.length
def LenB (bs : List Tb) : Prop := ∀ (j : Nat) (b : Tb), bs[j]? = some b → LenT b

theorem St.lens {w : World} {F : Nat → Prop} {cnt g : Nat} {room tables : Int} {ps : List (Int × Bool)} {ds : List Int} {bs : List Tb} (h : St w F cnt g room tables ps ds bs) : LenB bs := by
  obtain ⟨φ, ts, H, nh, va, bh, h1, h2, h3, h4⟩ := h
  intro j b hb
  obtain ⟨r, hr, rfl⟩ := at_ts h3 hb
  exact (h2.t.ok j r hr).2.2.1
theorem St.rows {w : World} {F : Nat → Prop} {cnt g : Nat} {room tables : Int} {ps : List (Int × Bool)} {ds : List Int} {bs : List Tb} (h : St w F cnt g room tables ps ds bs) {j : Nat} {b : Tb} (hb : bs[j]? = some b) : IdsOk b.ids := by
  obtain ⟨φ, ts, H, nh, va, bh, h1, h2, h3, h4⟩ := h
  obtain ⟨r, hr, rfl⟩ := at_ts h3 hb
  exact (h2.t.ok j r hr).1
/-- An entity that is there lies in one of the tables, and the other way round. -/
theorem St.link {w : World} {F : Nat → Prop} {cnt g : Nat} {room tables : Int} {ps : List (Int × Bool)} {ds : List Int} {bs : List Tb} (h : St w F cnt g room tables ps ds bs) {j k : Nat} {b : Tb} {p : Int × Int} (hb : bs[j]? = some b) (hk : b.ids[k]? = some p) : hasI ps p.1 p.2 = true := by
  obtain ⟨φ, ts, H, nh, va, bh, h1, h2, h3, h4⟩ := h
  obtain ⟨r, hr, rfl⟩ := at_ts h3 hb
  exact (h2.link p.1 p.2).2 ⟨j, r, hr, row_mem hk⟩

theorem RowB.get {b : Tb} {k : Nat} {p : Int × Int} {m : Int} {vf : Nat → Int} (h : RowB b k p m vf) {c : Nat} (hc : c < 16) : getV b k (c : Int) = if bitB m c = true then (vf c, 0) else (0, 12) := by
  unfold getV
  rw [if_pos (isC_nat hc), Int.toNat_natCast, h.2.1]
  split
  · next hb => rw [h.2.2 c hc hb]
  · rfl

theorem open_keep {bs : List Tb} (m : Int) {j : Nat} {b : Tb} (hb : bs[j]? = some b) : ∃ l : Nat, (openB bs m)[l]? = some b := by
  unfold openB
  split
  · exact ⟨j, hb⟩
  · have hp := posB_le bs m
    have hj := (List.getElem?_eq_some_iff.1 hb).1
    unfold insT
    by_cases hjp : j < posB bs m
    · exact ⟨j, by rw [List.getElem?_append_left (by rw [List.length_take]; omega), List.getElem?_take, if_pos hjp]; exact hb⟩
    · refine ⟨j + 1, ?_⟩
      rw [List.getElem?_append_right (by rw [List.length_take]; omega), List.length_take, show j + 1 - min (posB bs m) bs.length = (j - posB bs m) + 1 from by omega, List.getElem?_cons_succ, List.getElem?_drop, show posB bs m + (j - posB bs m) = j from by omega]
      exact hb
theorem open_from {bs : List Tb} {m : Int} {l : Nat} {b : Tb} (hb : (openB bs m)[l]? = some b) : (∃ j : Nat, bs[j]? = some b) ∨ b = ⟨m, [], fun _ => []⟩ := by
  have hm := List.mem_of_getElem? hb
  unfold openB at hm
  split at hm
  · obtain ⟨j, hj, e⟩ := List.getElem_of_mem hm
    exact .inl ⟨j, by rw [List.getElem?_eq_getElem hj, e]⟩
  · unfold insT at hm
    have hs : b ∈ bs ∨ b = ⟨m, [], fun _ => []⟩ := by
      rcases List.mem_append.1 hm with a | a
      · exact .inl (List.mem_of_mem_take a)
      · rcases List.mem_cons.1 a with a | a
        · exact .inr a
        · exact .inl (List.mem_of_mem_drop a)
    rcases hs with a | a
    · obtain ⟨j, hj, e⟩ := List.getElem_of_mem a
      exact .inl ⟨j, by rw [List.getElem?_eq_getElem hj, e]⟩
    · exact .inr a
theorem LenB.opened {bs : List Tb} (h : LenB bs) (m : Int) : LenB (openB bs m) := by
  intro l b hb
  rcases open_from hb with ⟨j, hj⟩ | rfl
  · exact h j b hj
  · intro c _ _; rfl

theorem getD_some {l : List Int} {k : Nat} {x : Int} (h : l[k]? = some x) : l.getD k 0 = x := by rw [List.getD_eq_getElem?_getD, h]; rfl
theorem getD_app {l : List Int} {k : Nat} (x : Int) (h : k < l.length) : (l ++ [x]).getD k 0 = l.getD k 0 := by
  rw [List.getD_eq_getElem?_getD, List.getD_eq_getElem?_getD, List.getElem?_append_left h]

/-- Whoever was there is there as before when another enters. -/
theorem AtB.enter {bs : List Tb} {q : Int × Int} {m' : Int} {vf : Nat → Int} (h : AtB bs q m' vf) (hL : LenB bs) (m : Int) (p : Int × Int) (cl : List (Int × Int)) : AtB (enterB bs m p cl) q m' vf := by
  obtain ⟨j, k, b, hb, hk, hm, hv⟩ := h
  obtain ⟨l, hl⟩ := open_keep m hb
  obtain ⟨d, hd, hdm, e⟩ := enter_eq bs m p cl
  rw [e]
  by_cases hlp : l = posB bs m
  · subst hlp
    rw [hl] at hd
    injection hd with hd
    subst hd
    have hkl := (List.getElem?_eq_some_iff.1 hk).1
    refine ⟨posB bs m, k, addB p cl b, List.getElem?_set_self (List.getElem?_eq_some_iff.1 hl).1, ?_, hm, fun c hc hb' => ?_⟩
    · show (b.ids ++ [p])[k]? = some q
      rw [List.getElem?_append_left hkl]; exact hk
    · show (newCol b.m b.cf cl c).getD k 0 = vf c
      have hb2 : bitB b.m c = true := by rw [hm]; exact hb'
      unfold newCol
      rw [if_pos ⟨hc, hb2⟩, getD_app _ (by rw [hL j b hb c hc hb2]; exact hkl)]
      exact hv c hc hb'
  · exact ⟨l, k, b, by rw [List.getElem?_set_ne (fun e => hlp e.symm)]; exact hl, hk, hm, hv⟩
/-- Who enters is there. -/
theorem AtB.new {bs : List Tb} (hL : LenB bs) (m : Int) (p : Int × Int) (cl : List (Int × Int)) {vf : Nat → Int} (hv : ∀ c : Nat, c < 16 → bitB m c = true → lastI cl c = vf c) : AtB (enterB bs m p cl) p m vf := by
  obtain ⟨d, hd, hdm, e⟩ := enter_eq bs m p cl
  rw [e]
  refine ⟨posB bs m, d.ids.length, addB p cl d, List.getElem?_set_self (List.getElem?_eq_some_iff.1 hd).1, ?_, hdm, fun c hc hb => ?_⟩
  · show (d.ids ++ [p])[d.ids.length]? = some p
    simp
  · show (newCol d.m d.cf cl c).getD d.ids.length 0 = vf c
    have hb2 : bitB d.m c = true := by rw [hdm]; exact hb
    have hl := hL.opened m _ _ hd c hc hb2
    unfold newCol
    rw [if_pos ⟨hc, hb2⟩, List.getD_eq_getElem?_getD, List.getElem?_append_right (by omega), hl]
    simp
    exact hv c hc hb
theorem LenB.set {bs : List Tb} (h : LenB bs) (j : Nat) {b : Tb} (hb : LenT b) : LenB (bs.set j b) := by
  intro l x hx
  by_cases hl : j = l
  · subst hl
    rw [List.getElem?_set_self (by have := (List.getElem?_eq_some_iff.1 hx).1; rwa [List.length_set] at this)] at hx
    injection hx with hx
    subst hx
    exact hb
  · rw [List.getElem?_set_ne hl] at hx
    exact h l x hx
theorem LenT.cut {b : Tb} (h : LenT b) (k : Nat) : LenT (cutB b k) := by
  intro c hc hb
  show (remCol b.m b.cf k 16 c).length = (cutAt (0, 0) b.ids k).length
  unfold remCol
  rw [if_pos ⟨hc, hb⟩, cutAt_length, cutAt_length, h c hc hb]

/-- A row that isn't the one that goes keeps its entity and its values; the last one takes its place. -/
theorem cut_row {b : Tb} (hL : LenT b) {k l : Nat} {p q : Int × Int} {m : Int} {vf : Nat → Int} (hk : b.ids[k]? = some p) (hq : RowB b l q m vf) (hne : q ≠ p) : ∃ l', RowB (cutB b k) l' q m vf := by
  obtain ⟨hl, hm, hv⟩ := hq
  have hkl := (List.getElem?_eq_some_iff.1 hk).1
  have hll := (List.getElem?_eq_some_iff.1 hl).1
  have hkn : l ≠ k := fun e => by subst e; rw [hk] at hl; injection hl with hl; exact hne hl.symm
  obtain ⟨l', hl', hcase⟩ : ∃ l', l' < b.ids.length - 1 ∧ ((l' = k ∧ l = b.ids.length - 1) ∨ (l' ≠ k ∧ l' = l)) := by
    by_cases hlast : l = b.ids.length - 1
    · exact ⟨k, by omega, .inl ⟨rfl, hlast⟩⟩
    · exact ⟨l, by omega, .inr ⟨hkn, rfl⟩⟩
  refine ⟨l', ?_, hm, fun c hc hb => ?_⟩
  · show (cutAt (0, 0) b.ids k)[l']? = some q
    rw [cut_get _ _ hkl hl']
    rcases hcase with ⟨e1, e2⟩ | ⟨e1, e2⟩
    · rw [if_pos e1, ← e2]; exact hl
    · rw [if_neg e1, e2]; exact hl
  · show (remCol b.m b.cf k 16 c).getD l' 0 = vf c
    have hb2 : bitB b.m c = true := by rw [hm]; exact hb
    have hcl := hL c hc hb2
    unfold remCol
    rw [if_pos ⟨hc, hb2⟩, List.getD_eq_getElem?_getD, cut_get _ _ (by omega) (by omega), hcl]
    have := hv c hc hb
    rw [List.getD_eq_getElem?_getD] at this
    rcases hcase with ⟨e1, e2⟩ | ⟨e1, e2⟩
    · rw [if_pos e1, ← e2]; exact this
    · rw [if_neg e1, e2]; exact this
theorem AtB.cut {bs : List Tb} (hL : LenB bs) {j k : Nat} {b : Tb} {p q : Int × Int} {m : Int} {vf : Nat → Int} (hb : bs[j]? = some b) (hk : b.ids[k]? = some p) (hq : AtB bs q m vf) (hne : q ≠ p) : AtB (bs.set j (cutB b k)) q m vf := by
  obtain ⟨i, l, d, hd, hr⟩ := hq
  by_cases hij : j = i
  · subst hij
    rw [hb] at hd
    injection hd with hd
    subst hd
    obtain ⟨l', h⟩ := cut_row (hL j b hb) hk hr hne
    exact ⟨j, l', _, List.getElem?_set_self (List.getElem?_eq_some_iff.1 hb).1, h⟩
  · exact ⟨i, l, d, by rw [List.getElem?_set_ne hij]; exact hd, hr⟩
/-- A value that is set: of the entity's own.. -/
theorem AtB.setOwn {bs : List Tb} (hL : LenB bs) {j k c : Nat} {b : Tb} {p : Int × Int} {m : Int} {vf : Nat → Int} (hb : bs[j]? = some b) (hr : RowB b k p m vf) (hc : c < 16) (hbt : bitB b.m c = true) (v : Int) : AtB (bs.set j (setB b k c v)) p m (fun d => if d = c then v else vf d) := by
  obtain ⟨hk, hm, hv⟩ := hr
  have hkl := (List.getElem?_eq_some_iff.1 hk).1
  refine ⟨j, k, _, List.getElem?_set_self (List.getElem?_eq_some_iff.1 hb).1, hk, hm, fun d hd hbd => ?_⟩
  show (colSet b.cf c ((b.cf c).set k v) d).getD k 0 = if d = c then v else vf d
  unfold colSet
  by_cases hdc : d = c
  · subst hdc
    rw [if_pos rfl, if_pos rfl]
    exact getD_some (List.getElem?_set_self (by rw [hL j b hb d hd hbt]; exact hkl))
  · rw [if_neg hdc, if_neg hdc]; exact hv d hd hbd
/-- .. and of the others. -/
theorem AtB.setOther {bs : List Tb} {j k c : Nat} {b : Tb} {p q : Int × Int} {m : Int} {vf : Nat → Int} (hb : bs[j]? = some b) (hk : b.ids[k]? = some p) (hq : AtB bs q m vf) (hne : q ≠ p) (v : Int) : AtB (bs.set j (setB b k c v)) q m vf := by
  obtain ⟨i, l, d, hd, hl, hm, hv⟩ := hq
  by_cases hij : j = i
  · subst hij
    rw [hb] at hd
    injection hd with hd
    subst hd
    have hlk : k ≠ l := fun e => by subst e; rw [hk] at hl; injection hl with hl; exact hne hl.symm
    refine ⟨j, l, _, List.getElem?_set_self (List.getElem?_eq_some_iff.1 hb).1, hl, hm, fun x hx hbx => ?_⟩
    show (colSet b.cf c ((b.cf c).set k v) x).getD l 0 = vf x
    unfold colSet
    by_cases hxc : x = c
    · subst hxc
      rw [if_pos rfl, List.getD_eq_getElem?_getD, List.getElem?_set_ne hlk, ← List.getD_eq_getElem?_getD]
      exact hv x hx hbx
    · rw [if_neg hxc]; exact hv x hx hbx
  · exact ⟨i, l, d, by rw [List.getElem?_set_ne hij]; exact hd, hl, hm, hv⟩
theorem AtB.moveOther {bs : List Tb} (hL : LenB bs) {j k : Nat} {b : Tb} {p q : Int × Int} {m' : Int} {vf : Nat → Int} (hb : bs[j]? = some b) (hk : b.ids[k]? = some p) (hq : AtB bs q m' vf) (hne : q ≠ p) (m : Int) (more : List (Int × Int)) : AtB (moveB bs j k b m p more) q m' vf :=
  (AtB.cut hL hb hk hq hne).enter (hL.set j ((hL j b hb).cut k)) m p _
/-- What a row holds, as cells. -/
theorem last_out (m : Int) (cf : Nat → List Int) (r : Nat) : ∀ n c : Nat, c < n → bitB m c = true → lastI (outI m cf r n) c = (cf c).getD r 0 := by
  intro n
  induction n with
  | zero => intro c hc; omega
  | succ n ih =>
    intro c hc hb
    cases hn : bitB m n
    · rw [outI_no hn]
      have : c ≠ n := fun e => by subst e; rw [hb] at hn; cases hn
      exact ih c (by omega) hb
    · rw [outI_yes hn, lastI_snoc]
      by_cases hcn : c = n
      · subst hcn; rw [if_pos rfl]
      · rw [if_neg (by show ((n : Nat) : Int) ≠ _; omega)]
        exact ih c (by omega) hb
/-- A component more. -/
theorem AtB.more {bs : List Tb} (hL : LenB bs) {j k c : Nat} {b : Tb} {p : Int × Int} {m : Int} {vf : Nat → Int} (hb : bs[j]? = some b) (hr : RowB b k p m vf) (h0 : 0 ≤ m) (v : Int) : AtB (moveB bs j k b (orM m c) p [((c : Int), v)]) p (orM m c) (fun d => if d = c then v else vf d) := by
  obtain ⟨hk, rfl, hv⟩ := hr
  refine AtB.new (hL.set j ((hL j b hb).cut k)) _ p _ fun d hd hbd => ?_
  rw [lastI_snoc]
  by_cases hdc : d = c
  · subst hdc; rw [if_pos rfl, if_pos rfl]
  · rw [if_neg (by show ((c : Nat) : Int) ≠ _; omega), if_neg hdc]
    rw [orM_bit h0] at hbd
    have hbd : bitB b.m d = true := by simpa [hdc] using hbd
    rw [last_out _ _ _ 16 d hd hbd]
    exact hv d hd hbd
/-- A component less. -/
theorem AtB.less {bs : List Tb} (hL : LenB bs) {j k c : Nat} {b : Tb} {p : Int × Int} {m : Int} {vf : Nat → Int} (hb : bs[j]? = some b) (hr : RowB b k p m vf) (h0 : 0 ≤ m) (hc : c < 16) : AtB (moveB bs j k b (clM m c) p []) p (clM m c) vf := by
  obtain ⟨hk, rfl, hv⟩ := hr
  refine AtB.new (hL.set j ((hL j b hb).cut k)) _ p _ fun d hd hbd => ?_
  rw [List.append_nil]
  rw [clM_bit h0 hc hd] at hbd
  have hbd : bitB b.m d = true := by
    rw [Bool.and_eq_true] at hbd
    exact hbd.1
  rw [last_out _ _ _ 16 d hd hbd]
  exact hv d hd hbd
end Go.Proofs.Yticekldgjlihmaa

/-
  EcsMaps: what its lists keep, beside the tables: lists alone.
-/
namespace Go.Proofs.Yticekldgjlihmaa
open Go.ChangeShapes Go.WideShapes Go.ChangeAt Go.RowKit Go.Maps
set_option maxRecDepth 100000
set_option maxHeartbeats 400000

theorem AtB.congr {bs : List Tb} {p : Int × Int} {m : Int} {vf vg : Nat → Int} (h : AtB bs p m vf) (e : ∀ c, c < 16 → vf c = vg c) : AtB bs p m vg := by
  obtain ⟨j, k, b, hb, hk, hm, hv⟩ := h
  exact ⟨j, k, b, hb, hk, hm, fun c hc hbt => (hv c hc hbt).trans (e c hc)⟩

/-- Entities that were made, whether they are there, their masks and their sixteen values. -/
structure MInv (room : Int) (ps : List (Int × Bool)) (ds : List Int) (bs : List Tb) (md : List (Int × Int)) (th : List Bool) (ms : List Int) (vs : List (List Int)) : Prop where
  once : OnceInv room ps ds md th
  pl : ps.length ≤ md.length
  ml : ms.length = md.length
  vl : vs.length = md.length
  each : ∀ (k : Nat) (p : Int × Int) (m : Int) (l : List Int), md[k]? = some p → th[k]? = some true → ms[k]? = some m → vs[k]? = some l → AtB bs p m fun c => l.getD c 0
  rng : ∀ (k : Nat) (m : Int), ms[k]? = some m → 0 ≤ m ∧ m < 65536
  six : ∀ (k : Nat) (l : List Int), vs[k]? = some l → l.length = 16
  lo : ∀ (k : Nat) (i x : Int), md[k]? = some (i, x) → 0 ≤ x

theorem minv_start : MInv 100 [] [] [] [] [] [] [] where
  once := once_start 100 (by decide)
  pl := by simp
  ml := rfl
  vl := rfl
  each := by simp
  rng := by simp
  six := by simp
  lo := by simp

section
variable {room : Int} {ps : List (Int × Bool)} {ds : List Int} {bs : List Tb} {md : List (Int × Int)} {th : List Bool} {ms : List Int} {vs : List (List Int)}

theorem MInv.tl (h : MInv room ps ds bs md th ms vs) : th.length = md.length := h.once.tl
/-- The next identifier is there to be had while fewer were made than there is room for. -/
theorem MInv.can (h : MInv room ps ds bs md th ms vs) {cnt : Nat} (hp : PInv cnt room ps ds) (hr : (md.length : Int) < room) : ∃ id ps' ds', makeS room ps ds = some (id, ps', ds') := by
  unfold makeS
  have hpl := h.pl
  rcases hd : ds.getLast? with _ | d
  · have hlt : (ps.length : Int) < room := by omega
    exact ⟨_, _, _, if_pos hlt⟩
  · have hs := last_split hd
    have hg : ds[ds.dropLast.length]? = some d := by
      conv => lhs; rw [hs]
      simp
    obtain ⟨k, y, rfl, hk⟩ := hp.fr _ d hg
    simp only [Int.toNat_natCast, hk]
    exact ⟨_, _, _, rfl⟩
theorem MInv.spawn (h : MInv room ps ds bs md th ms vs) {cnt : Nat} (hp : PInv cnt room ps ds) (hL : LenB bs) {id : Int × Int} {ps' : List (Int × Bool)} {ds' : List Int} (hk : makeS room ps ds = some (id, ps', ds')) :
    MInv room ps' ds' (enterB bs 0 id []) (md ++ [id]) (th ++ [true]) (ms ++ [0]) (vs ++ [List.replicate 16 0]) := by
  have hbits : OnceInv room ps' ds' (md ++ [id]) (th ++ [true]) ∧ ps'.length ≤ (md ++ [id]).length ∧ 0 ≤ id.2 := by
    have hpl := h.pl
    rcases make_ways hp hk with ⟨k, y, rfl, hy, rfl, rfl⟩ | ⟨rfl, rfl, hlt, rfl, rfl⟩
    · obtain ⟨z, hz, _, _, hO, _⟩ := h.once.pop
      rw [hy] at hz
      injection hz with hz
      injection hz with hz
      subst hz
      have hg := hp.gen k y false hy
      exact ⟨hO, by simp; omega, by show 0 ≤ y + 1; omega⟩
    · exact ⟨(h.once.new hlt).1, by simp; omega, by show (0 : Int) ≤ 1; omega⟩
  refine ⟨hbits.1, hbits.2.1, by simp [h.ml], by simp [h.vl], fun k p m l hd ht hm hv => ?_, fun k m hm => ?_, fun k l hv => ?_, fun k i x hd => ?_⟩
  · have hml := h.ml
    have hvl := h.vl
    have htl := h.tl
    rcases get_snoc hd with hd | ⟨e, rfl⟩
    · have hlt := (List.getElem?_eq_some_iff.1 hd).1
      rw [List.getElem?_append_left (by omega)] at ht hm hv
      exact (h.each k p m l hd ht hm hv).enter hL 0 id []
    · rcases get_snoc hm with hm | ⟨_, rfl⟩
      · have := (List.getElem?_eq_some_iff.1 hm).1; omega
      · exact AtB.new hL 0 p [] fun c _ hb => by rw [bitB_zero] at hb; cases hb
  · rcases get_snoc hm with hm | ⟨_, rfl⟩
    · exact h.rng k m hm
    · decide
  · rcases get_snoc hv with hv | ⟨_, rfl⟩
    · exact h.six k l hv
    · simp
  · rcases get_snoc hd with hd | ⟨_, e⟩
    · exact h.lo k i x hd
    · have := hbits.2.2
      rw [← e] at this
      exact this
/-- Other entities than the k-th. -/
theorem MInv.other (h : MInv room ps ds bs md th ms vs) {a k : Nat} {p q : Int × Int} (ha : md[a]? = some p) (hk : md[k]? = some q) (hne : k ≠ a) : q ≠ p := fun e => by
  subst e
  exact hne (h.once.un k a q hk ha)
theorem MInv.despawn (h : MInv room ps ds bs md th ms vs) (hL : LenB bs) {a : Nat} {i x : Int} (ha : md[a]? = some (i, x)) (ht : th[a]? = some true) {j k : Nat} {b : Tb} (hb : bs[j]? = some b) (hk : b.ids[k]? = some (i, x)) :
    MInv room (ps.set i.toNat (x, false)) (ds ++ [i]) (bs.set j (cutB b k)) md (th.set a false) ms vs := by
  obtain ⟨n, rfl, _, hO, _⟩ := h.once.drop ha ht
  rw [Int.toNat_natCast]
  refine ⟨hO, by rw [List.length_set]; exact h.pl, h.ml, h.vl, fun c p m l hd ht' hm hv => ?_, h.rng, h.six, h.lo⟩
  rcases set_get ht' with ⟨_, e, _⟩ | ⟨hne, ht'⟩
  · cases e
  · exact AtB.cut hL hb hk (h.each c p m l hd ht' hm hv) (h.other ha hd hne)
/-- A change of the tables that gives the a-th entity mask m and values l, and leaves all others. -/
theorem MInv.change (h : MInv room ps ds bs md th ms vs) {a : Nat} {p : Int × Int} (ha : md[a]? = some p) {bs' : List Tb} {m : Int} {l : List Int} (hown : AtB bs' p m fun c => l.getD c 0) (hrest : ∀ (q : Int × Int) (m' : Int) (vf : Nat → Int), q ≠ p → AtB bs q m' vf → AtB bs' q m' vf) (hm : 0 ≤ m ∧ m < 65536) (hl : l.length = 16) :
    MInv room ps ds bs' md th (ms.set a m) (vs.set a l) := by
  refine ⟨h.once, h.pl, by rw [List.length_set]; exact h.ml, by rw [List.length_set]; exact h.vl, fun c q m' l' hd ht hm' hv' => ?_, fun c m' hm' => ?_, fun c l' hv' => ?_, h.lo⟩
  · by_cases hca : c = a
    · subst hca
      have hlt := (List.getElem?_eq_some_iff.1 hd).1
      have hml := h.ml
      have hvl := h.vl
      rw [List.getElem?_set_self (by omega)] at hm' hv'
      injection hm' with hm'
      injection hv' with hv'
      rw [ha] at hd
      injection hd with hd
      subst hm' hv' hd
      exact hown
    · rw [List.getElem?_set_ne (fun e => hca e.symm)] at hm' hv'
      exact hrest q m' _ (h.other ha hd hca) (h.each c q m' l' hd ht hm' hv')
  · rcases set_get hm' with ⟨_, e, _⟩ | ⟨_, e⟩
    · rw [e]; exact hm
    · exact h.rng c m' e
  · rcases set_get hv' with ⟨_, e, _⟩ | ⟨_, e⟩
    · rw [e]; exact hl
    · exact h.six c l' e
theorem getD_set16 {l : List Int} (hl : l.length = 16) {c : Nat} (hc : c < 16) (v : Int) : ∀ d, d < 16 → (if d = c then v else l.getD d 0) = (l.set c v).getD d 0 := by
  intro d hd
  rw [List.getD_eq_getElem?_getD, List.getD_eq_getElem?_getD, List.getElem?_set]
  by_cases e : d = c
  · subst e; rw [if_pos rfl, if_pos rfl, if_pos (by omega)]; rfl
  · rw [if_neg e, if_neg (fun e' => e e'.symm)]

/-- Put of a component that is there. -/
theorem MInv.set (h : MInv room ps ds bs md th ms vs) (hL : LenB bs) {a : Nat} {p : Int × Int} (ha : md[a]? = some p) {j k c : Nat} {b : Tb} {l : List Int} (hl : vs[a]? = some l) (hb : bs[j]? = some b) (hr : RowB b k p b.m fun c => l.getD c 0) (hm : ms[a]? = some b.m) (hc : c < 16) (hbt : bitB b.m c = true) (v : Int) :
    MInv room ps ds (bs.set j (setB b k c v)) md th (ms.set a b.m) (vs.set a (l.set c v)) :=
  h.change ha ((AtB.setOwn hL hb hr hc hbt v).congr (getD_set16 (h.six a l hl) hc v)) (fun _ _ _ hne hq => AtB.setOther hb hr.1 hq hne v) (h.rng a _ hm) (by rw [List.length_set]; exact h.six a l hl)
/-- Put of a new one. -/
theorem MInv.more (h : MInv room ps ds bs md th ms vs) (hL : LenB bs) {a : Nat} {p : Int × Int} (ha : md[a]? = some p) {j k c : Nat} {b : Tb} {l : List Int} (hl : vs[a]? = some l) (hb : bs[j]? = some b) (hr : RowB b k p b.m fun c => l.getD c 0) (hm : ms[a]? = some b.m) (hc : c < 16) (v : Int) :
    MInv room ps ds (moveB bs j k b (orM b.m c) p [((c : Int), v)]) md th (ms.set a (orM b.m c)) (vs.set a (l.set c v)) :=
  h.change ha ((AtB.more hL hb hr (h.rng a _ hm).1 v).congr (getD_set16 (h.six a l hl) hc v)) (fun _ _ _ hne hq => AtB.moveOther hL hb hr.1 hq hne _ _) (orM_range (h.rng a _ hm).2 hc) (by rw [List.length_set]; exact h.six a l hl)
/-- Take of one that is there. -/
theorem MInv.less (h : MInv room ps ds bs md th ms vs) (hL : LenB bs) {a : Nat} {p : Int × Int} (ha : md[a]? = some p) {j k c : Nat} {b : Tb} {l : List Int} (hl : vs[a]? = some l) (hb : bs[j]? = some b) (hr : RowB b k p b.m fun c => l.getD c 0) (hm : ms[a]? = some b.m) (hc : c < 16) :
    MInv room ps ds (moveB bs j k b (clM b.m c) p []) md th (ms.set a (clM b.m c)) (vs.set a l) :=
  h.change ha (AtB.less hL hb hr (h.rng a _ hm).1 hc) (fun _ _ _ hne hq => AtB.moveOther hL hb hr.1 hq hne _ _) (clM_range _ _) (h.six a l hl)
end
end Go.Proofs.Yticekldgjlihmaa

/-
  EcsMaps: one contract for each call, in terms of the Store in memory and of the lists.
-/
namespace Go.Proofs.Yticekldgjlihmaa
open Go.ChangeShapes Go.WideShapes Go.ChangeAt Go.RowKit Go.Maps
set_option maxRecDepth 100000
set_option maxHeartbeats 400000

theorem clM_same {m : Int} (h0 : 0 ≤ m) (h1 : m < 65536) {k : Nat} (hk : k < 16) (hb : bitB m k = false) : clM m k = m := by
  have hr := clM_range m k
  refine bit_ext hr.1 hr.2 h0 h1 fun c hc => ?_
  rw [clM_bit h0 hk hc]
  by_cases e : c = k
  · subst e; simp [hb]
  · simp [e]

section
variable {w : World} {F : Nat → Prop} {cnt g : Nat} {ps : List (Int × Bool)} {ds : List Int} {bs : List Tb} {md : List (Int × Int)} {th : List Bool} {ms : List Int} {vs : List (List Int)}

theorem St.pinv {room tables : Int} (h : St w F cnt g room tables ps ds bs) : PInv cnt room ps ds := by
  obtain ⟨φ, ts, H, nh, va, bh, h1, h2, h3, h4⟩ := h
  exact h2.p
theorem St.few {room tables : Int} (h : St w F cnt g room tables ps ds bs) : bs.length ≤ cnt := by
  obtain ⟨φ, ts, H, nh, va, bh, h1, h2, h3, h4⟩ := h
  rw [← h3, List.length_map]
  exact h2.len
theorem MInv.i64 {room tables : Int} (M : MInv room ps ds bs md th ms vs) (h : St w F cnt g room tables ps ds bs) (hc : cnt ≤ 1000) {a : Nat} {i x : Int} (ha : md[a]? = some (i, x)) : I64 i ∧ I64 x := by
  obtain ⟨k, y, u, rfl, hp, hx, _⟩ := M.once.at_ a i x ha
  have hg := h.pinv.gen k y u hp
  have hl := M.lo a _ x ha
  have hk := (List.getElem?_eq_some_iff.1 hp).1
  have hn := h.pinv.len
  exact ⟨i64_mk (by omega) (by omega), i64_mk (by omega) (by omega)⟩

theorem despawn_maps (h : St w F cnt g 100 1000 ps ds bs) (M : MInv 100 ps ds bs md th ms vs) (hc : cnt ≤ 900) {a : Nat} {i x : Int} {u : Bool} (ha : md[a]? = some (i, x)) (ht : th[a]? = some u) :
    Calls Try.prog 10 #[.pointer (some ⟨g, 0, none⟩), .agg #[.int .i64 i, .int .i64 x]] w fun e w' => ∃ z ps' ds' bs', e = .returned (.int .i64 z) ∧ (z = 0 ↔ u = true) ∧ St w' (Ext F w w') (cnt + 2) g 100 1000 ps' ds' bs' ∧ MInv 100 ps' ds' bs' md (th.set a false) ms vs ∧ Touch F w w' := by
  obtain ⟨u', hu', hh⟩ := M.once.has ha
  rw [ht] at hu'
  injection hu' with hu'
  subst hu'
  obtain ⟨hi, hx⟩ := M.i64 h (by omega) ha
  cases u
  · refine (despawn_stale h i x hi hx hh).mono ?_
    rintro e w' ⟨rfl, hT⟩
    exact ⟨11, ps, ds, bs, rfl, by decide, (h.quiet hT).more ext_self (by omega), by rw [set_same ht]; exact M, hT.mono (fun _ e => e.elim)⟩
  · obtain ⟨m, hm⟩ : ∃ m, ms[a]? = some m := ⟨_, List.getElem?_eq_getElem (by have := M.ml; have := (List.getElem?_eq_some_iff.1 ha).1; omega)⟩
    obtain ⟨l, hl⟩ : ∃ l, vs[a]? = some l := ⟨_, List.getElem?_eq_getElem (by have := M.vl; have := (List.getElem?_eq_some_iff.1 ha).1; omega)⟩
    obtain ⟨j, k, b, hb, hk, _, _⟩ := M.each a _ m l ha ht hm hl
    refine (despawn_in h hc i x hb hk).mono ?_
    rintro e w' ⟨rfl, hS, hT⟩
    exact ⟨0, _, _, _, rfl, by decide, hS, M.despawn h.lens ha ht hb hk, hT⟩

theorem get_maps (h : St w F cnt g 100 1000 ps ds bs) (M : MInv 100 ps ds bs md th ms vs) (hc : cnt ≤ 900) {a c : Nat} {i x m : Int} {l : List Int} {u : Bool} (ha : md[a]? = some (i, x)) (ht : th[a]? = some u) (hm : ms[a]? = some m) (hl : vs[a]? = some l) (hc16 : c < 16) :
    Calls Try.prog 16 #[.pointer (some ⟨g, 0, none⟩), .agg #[.int .i64 i, .int .i64 x], .int .i64 c] w fun e w' => ∃ y z, e = .returned (tup2 (y, z)) ∧ (z = 0 ↔ (u && bitB m c) = true) ∧ (z = 0 → y = l.getD c 0) ∧ Touch NoB w w' := by
  obtain ⟨u', hu', hh⟩ := M.once.has ha
  rw [ht] at hu'
  injection hu' with hu'
  subst hu'
  obtain ⟨hi, hx⟩ := M.i64 h (by omega) ha
  cases u
  · refine (get_stale h i x c hi hx hh).mono ?_
    rintro e w' ⟨rfl, hT⟩
    exact ⟨0, 11, rfl, by simp, fun e => by omega, hT⟩
  · obtain ⟨j, k, b, hb, hr⟩ := M.each a _ m l ha ht hm hl
    refine (get_in h i x c hb hr.1).mono ?_
    rintro e w' ⟨rfl, hT⟩
    rw [hr.get hc16]
    cases hbt : bitB m c
    · exact ⟨0, 12, rfl, by simp, fun e => by omega, hT⟩
    · exact ⟨l.getD c 0, 0, rfl, by simp, fun _ => rfl, hT⟩

theorem put_maps (h : St w F cnt g 100 1000 ps ds bs) (M : MInv 100 ps ds bs md th ms vs) (hc : cnt ≤ 900) {a c : Nat} {i x m v : Int} {l : List Int} {u : Bool} (ha : md[a]? = some (i, x)) (ht : th[a]? = some u) (hm : ms[a]? = some m) (hl : vs[a]? = some l) (hc16 : c < 16) :
    Calls Try.prog 12 #[.pointer (some ⟨g, 0, none⟩), .agg #[.int .i64 i, .int .i64 x], .agg #[.int .i64 c, .int .i64 v]] w fun e w' => ∃ z bs', e = .returned (.int .i64 z) ∧ (z = 0 ↔ u = true) ∧ St w' (Ext F w w') (cnt + 2) g 100 1000 ps ds bs' ∧ MInv 100 ps ds bs' md th (if u = true then ms.set a (orM m c) else ms) (if u = true then vs.set a (l.set c v) else vs) ∧ Touch F w w' := by
  obtain ⟨u', hu', hh⟩ := M.once.has ha
  rw [ht] at hu'
  injection hu' with hu'
  subst hu'
  obtain ⟨hi, hx⟩ := M.i64 h (by omega) ha
  cases u
  · refine (put_stale h i x c v hi hx hh).mono ?_
    rintro e w' ⟨rfl, hT⟩
    exact ⟨11, bs, rfl, by decide, (h.quiet hT).more ext_self (by omega), M, hT.mono (fun _ e => e.elim)⟩
  · obtain ⟨j, k, b, hb, hr⟩ := M.each a _ m l ha ht hm hl
    obtain rfl : b.m = m := hr.2.1
    have hmr := M.rng a _ hm
    cases hbt : bitB b.m c
    · refine (put_more h hc i x v hb hr.1 hc16 hbt).mono ?_
      rintro e w' ⟨z, rfl, hM⟩
      unfold MoveEnd at hM
      rw [if_pos (by have := h.few; simp; right; omega)] at hM
      obtain ⟨rfl, hS, hT⟩ := hM
      exact ⟨0, _, rfl, by decide, hS, M.more h.lens ha hl hb hr hm hc16 v, hT⟩
    · refine (put_set h i x v hb hr.1 hc16 hbt).mono ?_
      rintro e w' ⟨rfl, hS, hT⟩
      refine ⟨0, _, rfl, by decide, hS, ?_, hT⟩
      rw [if_pos rfl, if_pos rfl, orM_has hmr.1 hmr.2 hc16 hbt]
      exact M.set h.lens ha hl hb hr hm hc16 hbt v

theorem take_maps (h : St w F cnt g 100 1000 ps ds bs) (M : MInv 100 ps ds bs md th ms vs) (hc : cnt ≤ 900) {a c : Nat} {i x m : Int} {l : List Int} {u : Bool} (ha : md[a]? = some (i, x)) (ht : th[a]? = some u) (hm : ms[a]? = some m) (hl : vs[a]? = some l) (hc16 : c < 16) :
    Calls Try.prog 14 #[.pointer (some ⟨g, 0, none⟩), .agg #[.int .i64 i, .int .i64 x], .int .i64 c] w fun e w' => ∃ y z bs', e = .returned (tup2 (y, z)) ∧ (z = 0 ↔ (u && bitB m c) = true) ∧ St w' (Ext F w w') (cnt + 2) g 100 1000 ps ds bs' ∧ MInv 100 ps ds bs' md th (if u = true then ms.set a (clM m c) else ms) vs ∧ Touch F w w' := by
  obtain ⟨u', hu', hh⟩ := M.once.has ha
  rw [ht] at hu'
  injection hu' with hu'
  subst hu'
  obtain ⟨hi, hx⟩ := M.i64 h (by omega) ha
  cases u
  · refine (take_stale h i x c hi hx hh).mono ?_
    rintro e w' ⟨rfl, hT⟩
    exact ⟨0, 11, bs, rfl, by simp, (h.quiet hT).more ext_self (by omega), M, hT.mono (fun _ e => e.elim)⟩
  · obtain ⟨j, k, b, hb, hr⟩ := M.each a _ m l ha ht hm hl
    obtain rfl : b.m = m := hr.2.1
    have hmr := M.rng a _ hm
    cases hbt : bitB b.m c
    · refine (take_no h i x c hb hr.1 (z := 12) (by rw [hr.get hc16, hbt]; rfl) (by decide)).mono ?_
      rintro e w' ⟨rfl, hT⟩
      refine ⟨0, 12, bs, rfl, by simp, (h.quiet hT).more ext_self (by omega), ?_, hT.mono (fun _ e => e.elim)⟩
      rw [if_pos rfl, clM_same hmr.1 hmr.2 hc16 hbt, set_same hm]
      exact M
    · refine (etake_in h hc i x hb hr.1 hc16 hbt).mono ?_
      rintro e w' ⟨y, z, rfl, hM, _⟩
      unfold MoveEnd at hM
      rw [if_pos (by have := h.few; simp; right; omega)] at hM
      obtain ⟨rfl, hS, hT⟩ := hM
      refine ⟨y, 0, _, rfl, by simp, hS, ?_, hT⟩
      have := M.less h.lens ha hl hb hr hm hc16
      rwa [set_same hl] at this

theorem spawn_maps (h : St w F cnt g 100 1000 ps ds bs) (M : MInv 100 ps ds bs md th ms vs) (hc : cnt ≤ 900) (hr : md.length < 100) :
    Calls Try.prog 7 #[.pointer (some ⟨g, 0, none⟩), .slice none 0 0] w fun e w' => ∃ id ps' ds' bs', e = .returned (.tuple #[.agg #[.int .i64 (Prod.fst id), .int .i64 (Prod.snd id)], .int .i64 0]) ∧ St w' (Ext F w w') (cnt + 1) g 100 1000 ps' ds' bs' ∧ MInv 100 ps' ds' bs' (md ++ [id]) (th ++ [true]) (ms ++ [0]) (vs ++ [List.replicate 16 0]) ∧ Touch F w w' := by
  obtain ⟨id, ps', ds', hk⟩ := M.can h.pinv (by omega)
  refine (spawn_ok h none 0 0 [] rfl (by decide) (fun j c v e => by simp at e) (m := 0) rfl (by have := h.few; simp; right; omega) hk (by omega)).mono ?_
  rintro e w' ⟨rfl, hS, hT⟩
  exact ⟨id, ps', ds', _, rfl, hS, M.spawn h.pinv h.lens hk, hT⟩
end
end Go.Proofs.Yticekldgjlihmaa

/-
  EcsPlays: each call on both sides, in terms of the same lists; where nothing moves.
-/
namespace Go.Proofs.Yticekldgjlihmaa
open Go.ChangeShapes Go.WideShapes Go.ChangeAt Go.RowKit Go.Maps
set_option maxRecDepth 100000
set_option maxHeartbeats 1000000

section
variable {w : World} {F : Nat → Prop} {cnt g : Nat} {room tables : Int} {ps : List (Int × Bool)} {ds : List Int} {bs : List Tb}
theorem St.uniq (h : St w F cnt g room tables ps ds bs) : UniqB bs := by
  obtain ⟨φ, ts, H, nh, va, bh, h1, h2, h3, h4⟩ := h
  intro j k j' k' b b' p hb hk hb' hk'
  obtain ⟨r, hr, rfl⟩ := at_ts h3 hb
  obtain ⟨q, hq, rfl⟩ := at_ts h3 hb'
  obtain rfl := h2.t.one j j' r q p hr hq (row_mem hk) (row_mem hk')
  rw [hr] at hq
  injection hq with hq
  subst hq
  exact ⟨rfl, (h2.t.ok j r hr).1.once k k' p hk hk'⟩
theorem St.small (h : St w F cnt g room tables ps ds bs) : bs.length ≤ cnt ∧ (∀ b ∈ bs, b.ids.length ≤ cnt) ∧ ds.length ≤ cnt := by
  obtain ⟨φ, ts, H, nh, va, bh, h1, h2, h3, h4⟩ := h
  refine ⟨by rw [← h3, List.length_map]; exact h2.len, fun b hb => ?_, h2.p.dl⟩
  obtain ⟨j, hj⟩ := List.mem_iff_getElem?.1 hb
  obtain ⟨r, hr, rfl⟩ := at_ts h3 hj
  exact (h2.t.ok j r hr).2.2.2.1
theorem St.lies (h : St w F cnt g room tables ps ds bs) {i x : Int} (hh : hasI ps i x = true) : ∃ (j k : Nat) (b : Tb), bs[j]? = some b ∧ b.ids[k]? = some (i, x) := by
  obtain ⟨φ, ts, H, nh, va, bh, h1, h2, h3, h4⟩ := h
  obtain ⟨j, r, hr, hin⟩ := (h2.link i x).1 hh
  obtain ⟨k, hk⟩ := mem_row hin
  exact ⟨j, k, r.b, by rw [← h3, List.getElem?_map, hr]; rfl, hk⟩
theorem St.newid (h : St w F cnt g room tables ps ds bs) (hc : cnt ≤ 1000) {id : Int × Int} {ps' : List (Int × Bool)} {ds' : List Int} (hm : makeS room ps ds = some (id, ps', ds')) : ∀ b ∈ bs, id ∉ b.ids := by
  intro b hb hin
  obtain ⟨j, hj⟩ := List.mem_iff_getElem?.1 hb
  obtain ⟨k, hk⟩ := mem_row hin
  have h1 := h.link hj hk
  have h2 := (h.pinv.make hm hc).2.2.2.1
  rw [h1] at h2
  cases h2
theorem RSt.wider {F' : Nat → Prop} (h : RSt w F g room tables ps ds bs) (hf : ∀ b, F b → F' b) : RSt w F' g room tables ps ds bs := by
  obtain ⟨φ, gi, ts, vl, h1, h2, h3⟩ := h
  exact ⟨φ, gi, ts, vl, h1, h2, fun b hb => hf b (h3 b hb)⟩

/-- Despawn, on both sides. -/
theorem pair_despawn (h : St w F cnt g room tables ps ds bs) (hc : cnt ≤ 900) (i x : Int) (hi : I64 i) (hx : I64 x) : ∃ z ps' ds' bs',
    (∀ W : World, Touch NoB w W → Calls Try.prog 10 #[.pointer (some ⟨g, 0, none⟩), .agg #[.int .i64 i, .int .i64 x]] W fun e w' => e = .returned (.int .i64 z) ∧ St w' (Ext F W w') (cnt + 2) g room tables ps' ds' bs' ∧ Touch F W w') ∧
    ∀ (w1 : World) (G : Nat → Prop) (r : Nat), RSt w1 G r room tables ps ds bs → Calls Try.prog 11 #[.pointer (some ⟨r, 0, none⟩), .agg #[.int .i64 i, .int .i64 x]] w1 fun e w' => e = .returned (.int .i64 z) ∧ RSt w' (Ext G w1 w') r room tables ps' ds' bs' ∧ Touch G w1 w' := by
  cases hh : hasI ps i x
  · refine ⟨11, ps, ds, bs, fun W t => (despawn_stale (h.quiet t) i x hi hx hh).mono ?_, fun w1 G r hr => (rdespawn_stale hr i x hh).mono ?_⟩
    · rintro e w' ⟨rfl, hT⟩
      exact ⟨rfl, ((h.quiet t).quiet hT).more ext_self (by omega), hT.mono (fun _ e => e.elim)⟩
    · rintro e w' ⟨rfl, hT⟩
      exact ⟨rfl, (hr.quiet hT).wider (fun b hb => .inl hb), hT.mono (fun _ e => e.elim)⟩
  · obtain ⟨j, k, b, hb, hk⟩ := h.lies hh
    obtain ⟨q, rfl, hq⟩ := (has_iff _ _ _).1 hh
    have hs := h.small
    refine ⟨0, _, _, _, fun W t => despawn_in (h.quiet t) hc q x hb hk, fun w1 G r hr => ?_⟩
    exact rdespawn_in hr h.uniq (fun b hb => by have := hs.2.1 b hb; omega) (by omega) q x hq hb hk
/-- Get, on both sides. -/
theorem pair_get (h : St w F cnt g room tables ps ds bs) (i x c : Int) (hi : I64 i) (hx : I64 x) : ∃ y z,
    (∀ W : World, Touch NoB w W → Calls Try.prog 16 #[.pointer (some ⟨g, 0, none⟩), .agg #[.int .i64 i, .int .i64 x], .int .i64 c] W fun e w' => e = .returned (tup2 (y, z)) ∧ Touch NoB W w') ∧
    ∀ (w1 : World) (G : Nat → Prop) (r : Nat), RSt w1 G r room tables ps ds bs → Calls Try.prog 17 #[.pointer (some ⟨r, 0, none⟩), .agg #[.int .i64 i, .int .i64 x], .int .i64 c] w1 fun e w' => e = .returned (tup2 (y, z)) ∧ Touch NoB w1 w' := by
  cases hh : hasI ps i x
  · exact ⟨0, 11, fun W t => get_stale (h.quiet t) i x c hi hx hh, fun w1 G r hr => rget_stale hr i x c hh⟩
  · obtain ⟨j, k, b, hb, hk⟩ := h.lies hh
    have hg := fun (W : World) (t : Touch NoB w W) => get_in (h.quiet t) i x c hb hk
    have hu := h.uniq
    unfold getV at hg
    cases hc : isC c
    · rw [if_neg (by rw [hc]; decide)] at hg
      exact ⟨0, 1, hg, fun w1 G r hr => rget_arg hr hu i x c hh hb hk hc⟩
    · rw [if_pos hc] at hg
      cases hbt : bitB b.m c.toNat
      · rw [if_neg (by rw [hbt]; decide)] at hg
        exact ⟨0, 12, hg, fun w1 G r hr => rget_none hr hu i x c hh hb hk hc hbt⟩
      · rw [if_pos hbt] at hg
        exact ⟨_, 0, hg, fun w1 G r hr => rget_some hr hu i x c hh hb hk hc hbt⟩
/-- Mask, on both sides. -/
theorem pair_mask (h : St w F cnt g room tables ps ds bs) (i x : Int) (hi : I64 i) (hx : I64 x) : ∃ m z,
    (∀ W : World, Touch NoB w W → Calls Try.prog 49 #[.pointer (some ⟨g, 0, none⟩), .agg #[.int .i64 i, .int .i64 x]] W fun e w' => e = .returned (.tuple #[.int .u16 m, .int .i64 z]) ∧ Touch NoB W w') ∧
    ∀ (w1 : World) (G : Nat → Prop) (r : Nat), RSt w1 G r room tables ps ds bs → Calls Try.prog 50 #[.pointer (some ⟨r, 0, none⟩), .agg #[.int .i64 i, .int .i64 x]] w1 fun e w' => e = .returned (.tuple #[.int .u16 m, .int .i64 z]) ∧ Touch NoB w1 w' := by
  cases hh : hasI ps i x
  · exact ⟨0, 11, fun W t => mask_stale (h.quiet t) i x hi hx hh, fun w1 G r hr => rmask_stale hr i x hh⟩
  · obtain ⟨j, k, b, hb, hk⟩ := h.lies hh
    exact ⟨b.m, 0, fun W t => mask_in (h.quiet t) i x hb hk, fun w1 G r hr => rmask_in hr h.uniq i x hh hb hk⟩
/-- Spawn, on both sides. -/
theorem pair_spawn (h : St w F cnt g room tables ps ds bs) (hc : cnt ≤ 900) (A : Option Addr) (N cap : Nat) (cl : List (Int × Int)) (hN : cl.length = N) (hN2 : N ≤ 1000) (hC : CellsAt w F A cl) : ∃ i x z ps' ds' bs', (I64 i ∧ I64 x) ∧
    (∀ W : World, Touch NoB w W → Calls Try.prog 7 #[.pointer (some ⟨g, 0, none⟩), .slice A N cap] W fun e w' => e = .returned (.tuple #[.agg #[.int .i64 i, .int .i64 x], .int .i64 z]) ∧ St w' (Ext F W w') (cnt + 2) g room tables ps' ds' bs' ∧ Touch F W w') ∧
    ∀ (w1 : World) (G : Nat → Prop) (r : Nat), RSt w1 G r room tables ps ds bs → CellsAt w1 G A cl → Calls Try.prog 8 #[.pointer (some ⟨r, 0, none⟩), .slice A N cap] w1 fun e w' => e = .returned (.tuple #[.agg #[.int .i64 i, .int .i64 x], .int .i64 z]) ∧ RSt w' (Ext G w1 w') r room tables ps' ds' bs' ∧ Touch G w1 w' := by
  have hs := h.small
  have hsp : ∀ (w1 : World) (G : Nat → Prop) (r : Nat), RSt w1 G r room tables ps ds bs → CellsAt w1 G A cl → Calls Try.prog 8 #[.pointer (some ⟨r, 0, none⟩), .slice A N cap] w1 (RSpawn w1 G r room tables ps ds bs cl) := fun w1 G r hr hC1 =>
    rs_spawn hr h.pinv (by omega) (by omega) (fun id ps' ds' hm => h.newid (by omega) hm) (fun b hb => by have := hs.2.1 b hb; omega) A N cap cl hN hN2 hC1
  unfold RSpawn at hsp
  cases hm : maskO cl with
  | none =>
    rw [hm] at hsp
    refine ⟨0, 0, 1, ps, ds, bs, ⟨i64_mk (by decide) (by decide), i64_mk (by decide) (by decide)⟩, fun W t => (spawn_arg A N cap cl hN hN2 (hC.none t) hm).mono ?_, fun w1 G r hr hC1 => (hsp w1 G r hr hC1).mono ?_⟩
    · rintro e w' ⟨rfl, hT⟩
      exact ⟨rfl, ((h.quiet t).quiet hT).more ext_self (by omega), hT.mono (fun _ e => e.elim)⟩
    · rintro e w' ⟨rfl, hT⟩
      exact ⟨rfl, (hr.quiet hT).wider (fun b hb => .inl hb), hT.mono (fun _ e => e.elim)⟩
  | some m =>
    rw [hm] at hsp
    cases hf : (hasB bs m || decide ((bs.length : Int) < tables))
    · simp only [hf, Bool.false_eq_true, if_false] at hsp
      refine ⟨0, 0, 10, ps, ds, bs, ⟨i64_mk (by decide) (by decide), i64_mk (by decide) (by decide)⟩, fun W t => (spawn_room (h.quiet t) A N cap cl hN hN2 (hC.none t) hm hf (by omega)).mono ?_, fun w1 G r hr hC1 => (hsp w1 G r hr hC1).mono ?_⟩
      · rintro e w' ⟨rfl, hT⟩
        exact ⟨rfl, ((h.quiet t).quiet hT).more ext_self (by omega), hT.mono (fun _ e => e.elim)⟩
      · rintro e w' ⟨rfl, hT⟩
        exact ⟨rfl, (hr.quiet hT).wider (fun b hb => .inl hb), hT.mono (fun _ e => e.elim)⟩
    · simp only [hf, if_true] at hsp
      cases hk : makeS room ps ds with
      | none =>
        rw [hk] at hsp
        refine ⟨0, 0, 10, ps, ds, bs, ⟨i64_mk (by decide) (by decide), i64_mk (by decide) (by decide)⟩, fun W t => (spawn_full (h.quiet t) A N cap cl hN hN2 (hC.none t) hm hf hk (by omega)).mono ?_, fun w1 G r hr hC1 => (hsp w1 G r hr hC1).mono ?_⟩
        · rintro e w' ⟨rfl, hT⟩
          exact ⟨rfl, ((h.quiet t).quiet hT).more ext_self (by omega), hT.mono (fun _ e => e.elim)⟩
        · rintro e w' ⟨rfl, hT⟩
          exact ⟨rfl, (hr.quiet hT).wider (fun b hb => .inl hb), hT.mono (fun _ e => e.elim)⟩
      | some q =>
        obtain ⟨⟨i, x⟩, ps', ds'⟩ := q
        rw [hk] at hsp
        refine ⟨i, x, 0, ps', ds', enterB bs m (i, x) cl, ⟨(h.pinv.make hk (by omega)).2.1, (h.pinv.make hk (by omega)).2.2.1⟩, fun W t => (spawn_ok (h.quiet t) A N cap cl hN hN2 (hC.none t) hm hf hk (by omega)).mono ?_, fun w1 G r hr hC1 => (hsp w1 G r hr hC1).mono ?_⟩
        · rintro e w' ⟨rfl, hS, hT⟩
          exact ⟨rfl, hS.more (fun _ h => h) (by omega), hT⟩
        · rintro e w' ⟨rfl, hS, hT⟩
          exact ⟨rfl, hS, hT⟩
end
end Go.Proofs.Yticekldgjlihmaa
