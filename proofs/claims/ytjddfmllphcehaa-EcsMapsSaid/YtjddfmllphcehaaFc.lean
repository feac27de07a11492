/-
  EcsMaps: what its lists keep, beside the tables: lists alone.
-/
import Derived.Test.YtjddfmllphcehaaFb
import Derived.Test.YtjddfmllphcehaaIh
namespace Go.Proofs.Ytjddfmllphcehaa
open Go.ChangeShapes Go.WideShapes Go.ChangeAt Go.RowKit Go.Maps
set_option maxRecDepth 100000
set_option maxHeartbeats 400000

theorem AtB.congr {bs : List Tb} {p : Int × Int} {m : Int} {vf vg : Nat → Int} (h : AtB bs p m vf) (e : ∀ c, c < 16 → vf c = vg c) : AtB bs p m vg := by
  obtain ⟨j, k, b, hb, hk, hm, hv⟩ := h
  exact ⟨j, k, b, hb, hk, hm, fun c hc hbt => (hv c hc hbt).trans (e c hc)⟩

/-- Entities that were made, whether they are there, their masks and their sixteen values. -/
structure MInv (room : Int) (ps : List (Int × Bool)) (ds : List Int) (bs : List Tb) (md : List (Int × Int)) (th : List Bool) (ms : List Int) (vs : List (List Int)) : Prop where
  once : OnceInv room ps ds md th
  pl : ps.length ≤ md.length
  ml : ms.length = md.length
  vl : vs.length = md.length
  each : ∀ (k : Nat) (p : Int × Int) (m : Int) (l : List Int), md[k]? = some p → th[k]? = some true → ms[k]? = some m → vs[k]? = some l → AtB bs p m fun c => l.getD c 0
  rng : ∀ (k : Nat) (m : Int), ms[k]? = some m → 0 ≤ m ∧ m < 65536
  six : ∀ (k : Nat) (l : List Int), vs[k]? = some l → l.length = 16
  lo : ∀ (k : Nat) (i x : Int), md[k]? = some (i, x) → 0 ≤ x

theorem minv_start : MInv 100 [] [] [] [] [] [] [] where
  once := once_start 100 (by decide)
  pl := by simp
  ml := rfl
  vl := rfl
  each := by simp
  rng := by simp
  six := by simp
  lo := by simp

section
variable {room : Int} {ps : List (Int × Bool)} {ds : List Int} {bs : List Tb} {md : List (Int × Int)} {th : List Bool} {ms : List Int} {vs : List (List Int)}

theorem MInv.tl (h : MInv room ps ds bs md th ms vs) : th.length = md.length := h.once.tl
/-- The next identifier is there to be had while fewer were made than there is room for. -/
theorem MInv.can (h : MInv room ps ds bs md th ms vs) {cnt : Nat} (hp : PInv cnt room ps ds) (hr : (md.length : Int) < room) : ∃ id ps' ds', makeS room ps ds = some (id, ps', ds') := by
  unfold makeS
  have hpl := h.pl
  rcases hd : ds.getLast? with _ | d
  · have hlt : (ps.length : Int) < room := by omega
    exact ⟨_, _, _, if_pos hlt⟩
  · have hs := last_split hd
    have hg : ds[ds.dropLast.length]? = some d := by
      conv => lhs; rw [hs]
      simp
    obtain ⟨k, y, rfl, hk⟩ := hp.fr _ d hg
    simp only [Int.toNat_natCast, hk]
    exact ⟨_, _, _, rfl⟩
theorem MInv.spawn (h : MInv room ps ds bs md th ms vs) {cnt : Nat} (hp : PInv cnt room ps ds) (hL : LenB bs) {id : Int × Int} {ps' : List (Int × Bool)} {ds' : List Int} (hk : makeS room ps ds = some (id, ps', ds')) :
    MInv room ps' ds' (enterB bs 0 id []) (md ++ [id]) (th ++ [true]) (ms ++ [0]) (vs ++ [List.replicate 16 0]) := by
  have hbits : OnceInv room ps' ds' (md ++ [id]) (th ++ [true]) ∧ ps'.length ≤ (md ++ [id]).length ∧ 0 ≤ id.2 := by
    have hpl := h.pl
    rcases make_ways hp hk with ⟨k, y, rfl, hy, rfl, rfl⟩ | ⟨rfl, rfl, hlt, rfl, rfl⟩
    · obtain ⟨z, hz, _, _, hO, _⟩ := h.once.pop
      rw [hy] at hz
      injection hz with hz
      injection hz with hz
      subst hz
      have hg := hp.gen k y false hy
      exact ⟨hO, by simp; omega, by show 0 ≤ y + 1; omega⟩
    · exact ⟨(h.once.new hlt).1, by simp; omega, by show (0 : Int) ≤ 1; omega⟩
  refine ⟨hbits.1, hbits.2.1, by simp [h.ml], by simp [h.vl], fun k p m l hd ht hm hv => ?_, fun k m hm => ?_, fun k l hv => ?_, fun k i x hd => ?_⟩
  · have hml := h.ml
    have hvl := h.vl
    have htl := h.tl
    rcases get_snoc hd with hd | ⟨e, rfl⟩
    · have hlt := (List.getElem?_eq_some_iff.1 hd).1
      rw [List.getElem?_append_left (by omega)] at ht hm hv
      exact (h.each k p m l hd ht hm hv).enter hL 0 id []
    · rcases get_snoc hm with hm | ⟨_, rfl⟩
      · have := (List.getElem?_eq_some_iff.1 hm).1; omega
      · exact AtB.new hL 0 p [] fun c _ hb => by rw [bitB_zero] at hb; cases hb
  · rcases get_snoc hm with hm | ⟨_, rfl⟩
    · exact h.rng k m hm
    · decide
  · rcases get_snoc hv with hv | ⟨_, rfl⟩
    · exact h.six k l hv
    · simp
  · rcases get_snoc hd with hd | ⟨_, e⟩
    · exact h.lo k i x hd
    · have := hbits.2.2
      rw [← e] at this
      exact this
/-- Other entities than the k-th. -/
theorem MInv.other (h : MInv room ps ds bs md th ms vs) {a k : Nat} {p q : Int × Int} (ha : md[a]? = some p) (hk : md[k]? = some q) (hne : k ≠ a) : q ≠ p := fun e => by
  subst e
  exact hne (h.once.un k a q hk ha)
theorem MInv.despawn (h : MInv room ps ds bs md th ms vs) (hL : LenB bs) {a : Nat} {i x : Int} (ha : md[a]? = some (i, x)) (ht : th[a]? = some true) {j k : Nat} {b : Tb} (hb : bs[j]? = some b) (hk : b.ids[k]? = some (i, x)) :
    MInv room (ps.set i.toNat (x, false)) (ds ++ [i]) (bs.set j (cutB b k)) md (th.set a false) ms vs := by
  obtain ⟨n, rfl, _, hO, _⟩ := h.once.drop ha ht
  rw [Int.toNat_natCast]
  refine ⟨hO, by rw [List.length_set]; exact h.pl, h.ml, h.vl, fun c p m l hd ht' hm hv => ?_, h.rng, h.six, h.lo⟩
  rcases set_get ht' with ⟨_, e, _⟩ | ⟨hne, ht'⟩
  · cases e
  · exact AtB.cut hL hb hk (h.each c p m l hd ht' hm hv) (h.other ha hd hne)
/-- A change of the tables that gives the a-th entity mask m and values l, and leaves all others. -/
theorem MInv.change (h : MInv room ps ds bs md th ms vs) {a : Nat} {p : Int × Int} (ha : md[a]? = some p) {bs' : List Tb} {m : Int} {l : List Int} (hown : AtB bs' p m fun c => l.getD c 0) (hrest : ∀ (q : Int × Int) (m' : Int) (vf : Nat → Int), q ≠ p → AtB bs q m' vf → AtB bs' q m' vf) (hm : 0 ≤ m ∧ m < 65536) (hl : l.length = 16) :
    MInv room ps ds bs' md th (ms.set a m) (vs.set a l) := by
  refine ⟨h.once, h.pl, by rw [List.length_set]; exact h.ml, by rw [List.length_set]; exact h.vl, fun c q m' l' hd ht hm' hv' => ?_, fun c m' hm' => ?_, fun c l' hv' => ?_, h.lo⟩
  · by_cases hca : c = a
    · subst hca
      have hlt := (List.getElem?_eq_some_iff.1 hd).1
      have hml := h.ml
      have hvl := h.vl
      rw [List.getElem?_set_self (by omega)] at hm' hv'
      injection hm' with hm'
      injection hv' with hv'
      rw [ha] at hd
      injection hd with hd
      subst hm' hv' hd
      exact hown
    · rw [List.getElem?_set_ne (fun e => hca e.symm)] at hm' hv'
      exact hrest q m' _ (h.other ha hd hca) (h.each c q m' l' hd ht hm' hv')
  · rcases set_get hm' with ⟨_, e, _⟩ | ⟨_, e⟩
    · rw [e]; exact hm
    · exact h.rng c m' e
  · rcases set_get hv' with ⟨_, e, _⟩ | ⟨_, e⟩
    · rw [e]; exact hl
    · exact h.six c l' e
theorem getD_set16 {l : List Int} (hl : l.length = 16) {c : Nat} (hc : c < 16) (v : Int) : ∀ d, d < 16 → (if d = c then v else l.getD d 0) = (l.set c v).getD d 0 := by
  intro d hd
  rw [List.getD_eq_getElem?_getD, List.getD_eq_getElem?_getD, List.getElem?_set]
  by_cases e : d = c
  · subst e; rw [if_pos rfl, if_pos rfl, if_pos (by omega)]; rfl
  · rw [if_neg e, if_neg (fun e' => e e'.symm)]

/-- Put of a component that is there. -/
theorem MInv.set (h : MInv room ps ds bs md th ms vs) (hL : LenB bs) {a : Nat} {p : Int × Int} (ha : md[a]? = some p) {j k c : Nat} {b : Tb} {l : List Int} (hl : vs[a]? = some l) (hb : bs[j]? = some b) (hr : RowB b k p b.m fun c => l.getD c 0) (hm : ms[a]? = some b.m) (hc : c < 16) (hbt : bitB b.m c = true) (v : Int) :
    MInv room ps ds (bs.set j (setB b k c v)) md th (ms.set a b.m) (vs.set a (l.set c v)) :=
  h.change ha ((AtB.setOwn hL hb hr hc hbt v).congr (getD_set16 (h.six a l hl) hc v)) (fun _ _ _ hne hq => AtB.setOther hb hr.1 hq hne v) (h.rng a _ hm) (by rw [List.length_set]; exact h.six a l hl)
/-- Put of a new one. -/
theorem MInv.more (h : MInv room ps ds bs md th ms vs) (hL : LenB bs) {a : Nat} {p : Int × Int} (ha : md[a]? = some p) {j k c : Nat} {b : Tb} {l : List Int} (hl : vs[a]? = some l) (hb : bs[j]? = some b) (hr : RowB b k p b.m fun c => l.getD c 0) (hm : ms[a]? = some b.m) (hc : c < 16) (v : Int) :
    MInv room ps ds (moveB bs j k b (orM b.m c) p [((c : Int), v)]) md th (ms.set a (orM b.m c)) (vs.set a (l.set c v)) :=
  h.change ha ((AtB.more hL hb hr (h.rng a _ hm).1 v).congr (getD_set16 (h.six a l hl) hc v)) (fun _ _ _ hne hq => AtB.moveOther hL hb hr.1 hq hne _ _) (orM_range (h.rng a _ hm).2 hc) (by rw [List.length_set]; exact h.six a l hl)
/-- Take of one that is there. -/
theorem MInv.less (h : MInv room ps ds bs md th ms vs) (hL : LenB bs) {a : Nat} {p : Int × Int} (ha : md[a]? = some p) {j k c : Nat} {b : Tb} {l : List Int} (hl : vs[a]? = some l) (hb : bs[j]? = some b) (hr : RowB b k p b.m fun c => l.getD c 0) (hm : ms[a]? = some b.m) (hc : c < 16) :
    MInv room ps ds (moveB bs j k b (clM b.m c) p []) md th (ms.set a (clM b.m c)) (vs.set a l) :=
  h.change ha (AtB.less hL hb hr (h.rng a _ hm).1 hc) (fun _ _ _ hne hq => AtB.moveOther hL hb hr.1 hq hne _ _) (clM_range _ _) (h.six a l hl)
end
end Go.Proofs.Ytjddfmllphcehaa
