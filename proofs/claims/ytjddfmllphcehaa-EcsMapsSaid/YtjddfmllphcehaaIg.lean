/-
  What a row of calls of Make and Drop keeps, said of lists alone: no identifier comes twice, and a dropped one stays dropped.
-/
import Derived.Test.YtjddfmllphcehaaSd
namespace Go.Proofs.Ytjddfmllphcehaa

theorem all_set_up (i : Nat) (ps : List (Int × Bool)) (k : Nat) (y z : Int) (h : ps[k]? = some (y, false)) : (allI i (ps.set k (z, true))).length = (allI i ps).length + 1 := by
  induction ps generalizing i k with
  | nil => simp at h
  | cons p ps ih =>
    cases k with
    | zero =>
      simp at h
      subst h
      simp [allI]
    | succ k =>
      simp only [List.getElem?_cons_succ] at h
      have := ih (i + 1) k h
      simp only [List.set_cons_succ, allI]
      split
      · simp only [List.length_cons, this]
      · exact this
theorem all_set_down (i : Nat) (ps : List (Int × Bool)) (k : Nat) (y z : Int) (h : ps[k]? = some (y, true)) : (allI i (ps.set k (z, false))).length + 1 = (allI i ps).length := by
  induction ps generalizing i k with
  | nil => simp at h
  | cons p ps ih =>
    cases k with
    | zero =>
      simp at h
      subst h
      simp [allI]
    | succ k =>
      simp only [List.getElem?_cons_succ] at h
      have := ih (i + 1) k h
      simp only [List.set_cons_succ, allI]
      split
      · simp only [List.length_cons]; omega
      · exact this

/-- What is kept: places and dropped ones, the identifiers made so far, and which of them are there. -/
structure OnceInv (room : Int) (ps : List (Int × Bool)) (ds : List Int) (md : List (Int × Int)) (th : List Bool) : Prop where
  len : (ps.length : Int) ≤ room
  cnt : (allI 0 ps).length + ds.length = ps.length
  fr : ∀ d ∈ ds, ∃ (k : Nat) (y : Int), d = k ∧ ps[k]? = some (y, false)
  nd : ds.Nodup
  gen : ∀ (k : Nat) (y : Int) (u : Bool), ps[k]? = some (y, u) → 0 ≤ y ∧ y ≤ md.length
  tl : th.length = md.length
  at_ : ∀ (j : Nat) (i x : Int), md[j]? = some (i, x) → ∃ (k : Nat) (y : Int) (u : Bool), i = k ∧ ps[k]? = some (y, u) ∧ x ≤ y ∧ th[j]? = some (u && (y == x))
  un : ∀ (j j' : Nat) (a : Int × Int), md[j]? = some a → md[j']? = some a → j = j'

theorem once_start (room : Int) (h : 0 ≤ room) : OnceInv room [] [] [] [] where
  len := by simpa using h
  cnt := rfl
  fr := by simp
  nd := List.nodup_nil
  gen := by simp
  tl := rfl
  at_ := by simp
  un := by simp

theorem get_snoc {α : Type} {l : List α} {a b : α} {j : Nat} (h : (l ++ [a])[j]? = some b) : l[j]? = some b ∨ (j = l.length ∧ b = a) := by
  by_cases hj : j < l.length
  · left; rwa [List.getElem?_append_left hj] at h
  · right
    rw [List.getElem?_append_right (by omega)] at h
    by_cases h0 : j - l.length = 0
    · rw [h0] at h; simp at h; exact ⟨by omega, h.symm⟩
    · rw [List.getElem?_eq_none (by simp; omega)] at h; cases h

section
variable {room : Int} {ps : List (Int × Bool)} {ds : List Int} {md : List (Int × Int)} {th : List Bool}

theorem OnceInv.pop {k : Nat} (h : OnceInv room ps (ds ++ [(k : Int)]) md th) :
    ∃ y, ps[k]? = some (y, false) ∧ 0 ≤ y ∧ y ≤ md.length ∧ OnceInv room (ps.set k (y + 1, true)) ds (md ++ [((k : Int), y + 1)]) (th ++ [true]) ∧ (∀ j : Nat, md[j]? ≠ some ((k : Int), y + 1)) ∧
      (allI 0 (ps.set k (y + 1, true))).length = (allI 0 ps).length + 1 ∧ ((allI 0 ps).length : Int) < room := by
  obtain ⟨k', y, hk, hy⟩ := h.fr k (by simp)
  obtain rfl : k = k' := by omega
  obtain ⟨g1, g2⟩ := h.gen k y false hy
  have hkl : k < ps.length := (List.getElem?_eq_some_iff.1 hy).1
  have hup := all_set_up 0 ps k y (y + 1) hy
  have hc := h.cnt
  have hlen := h.len
  rw [List.length_append, List.length_singleton] at hc
  have hfresh : ∀ j : Nat, md[j]? ≠ some ((k : Int), y + 1) := by
    intro j hj
    obtain ⟨k2, y2, u2, e, hp, hx, _⟩ := h.at_ j _ _ hj
    obtain rfl : k = k2 := by omega
    rw [hy] at hp
    injection hp with hp
    injection hp with hp1 hp2
    omega
  have hnd := List.nodup_append.1 h.nd
  refine ⟨y, hy, g1, g2, ?_, hfresh, hup, by omega⟩
  refine ⟨by simpa using hlen, by rw [hup, List.length_set]; omega, ?_, hnd.1, ?_, by simp [h.tl], ?_, ?_⟩
  · intro d hd
    obtain ⟨k2, y2, e, hp⟩ := h.fr d (List.mem_append_left _ hd)
    refine ⟨k2, y2, e, ?_⟩
    rw [List.getElem?_set_ne]
    · exact hp
    · rintro rfl
      exact hnd.2.2 d hd (k : Int) (by simp) e
  · intro k2 y2 u2 hp
    rw [List.length_append, List.length_singleton]
    by_cases e : k = k2
    · subst e
      rw [List.getElem?_set_self hkl] at hp
      injection hp with hp
      injection hp with hp1 hp2
      omega
    · rw [List.getElem?_set_ne e] at hp
      have := h.gen k2 y2 u2 hp
      omega
  · intro j i x hj
    rcases get_snoc hj with hj | ⟨hq, e⟩
    · obtain ⟨k2, y2, u2, e, hp, hx, ht⟩ := h.at_ j i x hj
      have hjl : j < th.length := (List.getElem?_eq_some_iff.1 ht).1
      by_cases e2 : k = k2
      · subst e2
        rw [hy] at hp
        injection hp with hp
        injection hp with hp1 hp2
        subst hp1 hp2
        refine ⟨k, y + 1, true, e, List.getElem?_set_self hkl, by omega, ?_⟩
        rw [List.getElem?_append_left hjl, ht]
        have : (y + 1 == x) = false := by simp; omega
        rw [this]; rfl
      · exact ⟨k2, y2, u2, e, by rw [List.getElem?_set_ne e2]; exact hp, hx, by rw [List.getElem?_append_left hjl]; exact ht⟩
    · have hjj := hq
      injection e with e1 e2
      subst e1 e2
      refine ⟨k, y + 1, true, rfl, List.getElem?_set_self hkl, by omega, ?_⟩
      rw [hjj, ← h.tl, List.getElem?_append_right (Nat.le_refl _)]
      simp
  · intro j j' a hj hj'
    rcases get_snoc hj with hj | ⟨hj, e⟩ <;> rcases get_snoc hj' with hj' | ⟨hj', e'⟩
    · exact h.un j j' a hj hj'
    · subst e'; exact absurd hj (hfresh j)
    · subst e; exact absurd hj' (hfresh j')
    · omega

theorem OnceInv.new (h : OnceInv room ps [] md th) (hr : (ps.length : Int) < room) :
    OnceInv room (ps ++ [(1, true)]) [] (md ++ [((ps.length : Int), 1)]) (th ++ [true]) ∧ (∀ j : Nat, md[j]? ≠ some ((ps.length : Int), 1)) ∧
      (allI 0 (ps ++ [(1, true)])).length = (allI 0 ps).length + 1 ∧ ((allI 0 ps).length : Int) < room := by
  have hc := h.cnt
  rw [List.length_nil] at hc
  have hup : (allI 0 (ps ++ [(1, true)])).length = (allI 0 ps).length + 1 := by rw [all_snoc, List.length_append]; rfl
  have hfresh : ∀ j : Nat, md[j]? ≠ some ((ps.length : Int), 1) := by
    intro j hj
    obtain ⟨k2, y2, u2, e, hp, hx, _⟩ := h.at_ j _ _ hj
    have := (List.getElem?_eq_some_iff.1 hp).1
    omega
  refine ⟨⟨by simp; omega, by rw [hup]; simp; omega, by simp, List.nodup_nil, ?_, by simp [h.tl], ?_, ?_⟩, hfresh, hup, by omega⟩
  · intro k y u hp
    rw [List.length_append, List.length_singleton]
    rcases get_snoc hp with hp | ⟨_, e⟩
    · have := h.gen k y u hp; omega
    · injection e with e1 e2; omega
  · intro j i x hj
    rcases get_snoc hj with hj | ⟨hq, e⟩
    · obtain ⟨k2, y2, u2, e, hp, hx, ht⟩ := h.at_ j i x hj
      have hkl : k2 < ps.length := (List.getElem?_eq_some_iff.1 hp).1
      have hjl : j < th.length := (List.getElem?_eq_some_iff.1 ht).1
      exact ⟨k2, y2, u2, e, by rw [List.getElem?_append_left hkl]; exact hp, hx, by rw [List.getElem?_append_left hjl]; exact ht⟩
    · have hjj := hq
      injection e with e1 e2
      subst e1 e2
      refine ⟨ps.length, 1, true, rfl, by rw [List.getElem?_append_right (Nat.le_refl _)]; simp, Int.le_refl _, ?_⟩
      rw [hjj, ← h.tl, List.getElem?_append_right (Nat.le_refl _)]
      simp
  · intro j j' a hj hj'
    rcases get_snoc hj with hj | ⟨hj, e⟩ <;> rcases get_snoc hj' with hj' | ⟨hj', e'⟩
    · exact h.un j j' a hj hj'
    · subst e'; exact absurd hj (hfresh j)
    · subst e; exact absurd hj' (hfresh j')
    · omega

theorem OnceInv.full (h : OnceInv room ps [] md th) (hr : room ≤ (ps.length : Int)) : ¬ ((allI 0 ps).length : Int) < room := by
  have hc := h.cnt
  rw [List.length_nil] at hc
  omega

/-- Has, of one that was made: what the row of bools says. -/
theorem OnceInv.has (h : OnceInv room ps ds md th) {j : Nat} {i x : Int} (hj : md[j]? = some (i, x)) : ∃ b, th[j]? = some b ∧ hasI ps i x = b := by
  obtain ⟨k, y, u, rfl, hp, _, ht⟩ := h.at_ j i x hj
  refine ⟨_, ht, ?_⟩
  unfold hasI
  simp [hp]

theorem OnceInv.drop (h : OnceInv room ps ds md th) {j : Nat} {i x : Int} (hj : md[j]? = some (i, x)) (ht : th[j]? = some true) :
    ∃ k : Nat, i = k ∧ ps[k]? = some (x, true) ∧ OnceInv room (ps.set k (x, false)) (ds ++ [(k : Int)]) md (th.set j false) ∧ (allI 0 (ps.set k (x, false))).length + 1 = (allI 0 ps).length := by
  obtain ⟨k, y, u, rfl, hp, hx, ht2⟩ := h.at_ j i x hj
  rw [ht] at ht2
  injection ht2 with ht2
  have hu : u = true ∧ y = x := by
    cases u
    · simp at ht2
    · simp at ht2; exact ⟨rfl, ht2⟩
  obtain ⟨rfl, rfl⟩ := hu
  have hkl : k < ps.length := (List.getElem?_eq_some_iff.1 hp).1
  have hdn := all_set_down 0 ps k y y hp
  have hc := h.cnt
  refine ⟨k, rfl, hp, ⟨by simpa using h.len, by rw [List.length_set, List.length_append, List.length_singleton]; omega, ?_, ?_, ?_, by simp [h.tl], ?_, h.un⟩, hdn⟩
  · intro d hd
    rcases List.mem_append.1 hd with hd | hd
    · obtain ⟨k2, y2, e, hp2⟩ := h.fr d hd
      refine ⟨k2, y2, e, ?_⟩
      rw [List.getElem?_set_ne]
      · exact hp2
      · rintro rfl
        rw [hp] at hp2
        injection hp2 with hp2
        injection hp2 with _ hp2
        cases hp2
    · obtain rfl : d = (k : Int) := by simpa using hd
      exact ⟨k, y, rfl, List.getElem?_set_self hkl⟩
  · refine List.nodup_append.2 ⟨h.nd, by simp, ?_⟩
    intro a ha b hb e
    obtain rfl : b = (k : Int) := by simpa using hb
    subst e
    obtain ⟨k2, y2, e, hp2⟩ := h.fr _ ha
    obtain rfl : k = k2 := by omega
    rw [hp] at hp2
    injection hp2 with hp2
    injection hp2 with _ hp2
    cases hp2
  · intro k2 y2 u2 hp2
    by_cases e : k = k2
    · subst e
      rw [List.getElem?_set_self hkl] at hp2
      injection hp2 with hp2
      injection hp2 with hp3 hp4
      have := h.gen k y true hp
      omega
    · rw [List.getElem?_set_ne e] at hp2
      exact h.gen k2 y2 u2 hp2
  · intro j2 i2 x2 hj2
    obtain ⟨k2, y2, u2, e, hp2, hx2, ht2⟩ := h.at_ j2 i2 x2 hj2
    by_cases ej : j = j2
    · subst ej
      rw [hj] at hj2
      injection hj2 with hj2
      injection hj2 with hj3 hj4
      subst hj3 hj4
      refine ⟨k, y, false, rfl, List.getElem?_set_self hkl, Int.le_refl _, ?_⟩
      rw [List.getElem?_set_self (by have := (List.getElem?_eq_some_iff.1 ht).1; exact this)]
      rfl
    · rw [List.getElem?_set_ne ej]
      by_cases ek : k = k2
      · subst ek
        rw [hp] at hp2
        injection hp2 with hp2
        injection hp2 with hp3 hp4
        subst hp3 hp4
        refine ⟨k, y, false, e, List.getElem?_set_self hkl, hx2, ?_⟩
        rw [ht2]
        have hne : (y == x2) = false := by
          simp only [beq_eq_false_iff_ne]
          rintro rfl
          exact ej (h.un j j2 _ hj (by rw [hj2, e]))
        rw [hne]; rfl
      · exact ⟨k2, y2, u2, e, by rw [List.getElem?_set_ne ek]; exact hp2, hx2, ht2⟩

theorem OnceInv.stay {j : Nat} (ht : th[j]? = some false) : th.set j false = th := set_same ht
end

end Go.Proofs.Ytjddfmllphcehaa
