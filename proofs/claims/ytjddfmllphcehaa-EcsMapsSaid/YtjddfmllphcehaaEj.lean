/-
  The places of a Store: what Make gives, said of lists; the whole of what a Store keeps.
-/
import Derived.Test.YtjddfmllphcehaaEi
namespace Go.Proofs.Ytjddfmllphcehaa
open Go.ChangeShapes Go.WideShapes Go.ChangeAt Go.RowKit Go.Maps
set_option maxRecDepth 100000
set_option maxHeartbeats 1000000

theorem has_iff (ps : List (Int × Bool)) (i x : Int) : hasI ps i x = true ↔ ∃ k : Nat, i = k ∧ ps[k]? = some (x, true) := by
  unfold hasI
  constructor
  · intro h
    simp only [Bool.and_eq_true, decide_eq_true_eq] at h
    obtain ⟨h0, h1⟩ := h
    obtain ⟨k, rfl⟩ := Int.eq_ofNat_of_zero_le h0
    refine ⟨k, rfl, ?_⟩
    rw [Int.toNat_natCast] at h1
    rcases hp : ps[k]? with _ | ⟨y, u⟩
    · rw [hp] at h1; cases h1
    · rw [hp] at h1
      simp at h1
      rw [h1.1, h1.2]
  · rintro ⟨k, rfl, hk⟩
    simp [hk]

/-- The next identifier, and what is left. -/
def makeS (room : Int) (ps : List (Int × Bool)) (ds : List Int) : Option ((Int × Int) × List (Int × Bool) × List Int) :=
  match ds.getLast? with
  | some d => match ps[d.toNat]? with
    | some p => some ((d, p.1 + 1), ps.set d.toNat (p.1 + 1, true), ds.dropLast)
    | none => none
  | none => if (ps.length : Int) < room then some (((ps.length : Int), 1), ps ++ [(1, true)], []) else none
structure PInv (cnt : Nat) (room : Int) (ps : List (Int × Bool)) (ds : List Int) : Prop where
  len : ps.length ≤ cnt
  dl : ds.length ≤ cnt
  rm : (ps.length : Int) ≤ room ∧ room ≤ 100000
  gen : ∀ (k : Nat) (y : Int) (u : Bool), ps[k]? = some (y, u) → 1 ≤ y ∧ y ≤ cnt
  fr : ∀ (j : Nat) (d : Int), ds[j]? = some d → ∃ (k : Nat) (y : Int), d = k ∧ ps[k]? = some (y, false)
  once : ∀ (a b : Nat) (d : Int), ds[a]? = some d → ds[b]? = some d → a = b

theorem last_split {α : Type} {l : List α} {d : α} (h : l.getLast? = some d) : l = l.dropLast ++ [d] := by
  obtain ⟨ys, rfl⟩ := List.getLast?_eq_some_iff.1 h
  simp
theorem PInv.more {cnt c : Nat} {room : Int} {ps : List (Int × Bool)} {ds : List Int} (h : PInv cnt room ps ds) (hc : cnt ≤ c) : PInv c room ps ds :=
  ⟨by have := h.len; omega, by have := h.dl; omega, h.rm, fun k y u hk => by have := h.gen k y u hk; omega, h.fr, h.once⟩

section
variable {cnt : Nat} {room : Int} {ps ps' : List (Int × Bool)} {ds ds' : List Int} {id : Int × Int}

/-- The two ways to an identifier. -/
theorem make_ways (h : PInv cnt room ps ds) (hm : makeS room ps ds = some (id, ps', ds')) :
    (∃ (k : Nat) (y : Int), ds = ds' ++ [(k : Int)] ∧ ps[k]? = some (y, false) ∧ id = ((k : Int), y + 1) ∧ ps' = ps.set k (y + 1, true)) ∨ (ds = [] ∧ ds' = [] ∧ (ps.length : Int) < room ∧ id = ((ps.length : Int), 1) ∧ ps' = ps ++ [(1, true)]) := by
  unfold makeS at hm
  rcases hd : ds.getLast? with _ | d
  · rw [hd] at hm
    have hnil : ds = [] := by simpa using hd
    simp only at hm
    split at hm
    · rename_i hlt
      injection hm with hm
      injection hm with h1 h2
      injection h2 with h2 h3
      exact .inr ⟨hnil, h3.symm, hlt, h1.symm, h2.symm⟩
    · cases hm
  · rw [hd] at hm
    have hs := last_split hd
    have hg : ds[ds.dropLast.length]? = some d := by
      conv => lhs; rw [hs]
      simp
    obtain ⟨k, y, rfl, hk⟩ := h.fr _ d hg
    simp only [Int.toNat_natCast, hk] at hm
    injection hm with hm
    injection hm with h1 h2
    injection h2 with h2 h3
    refine .inl ⟨k, y, ?_, hk, h1.symm, h2.symm⟩
    rw [← h3]
    exact hs

theorem hasI_false {i x : Int} (h : ¬ ∃ k : Nat, i = k ∧ ps[k]? = some (x, true)) : hasI ps i x = false := by
  cases hh : hasI ps i x
  · rfl
  · exact absurd ((has_iff _ _ _).1 hh) h
theorem PInv.make (h : PInv cnt room ps ds) (hm : makeS room ps ds = some (id, ps', ds')) (hc : cnt ≤ 1000) :
    PInv (cnt + 1) room ps' ds' ∧ I64 id.1 ∧ I64 id.2 ∧ hasI ps id.1 id.2 = false ∧ ∀ i x, hasI ps' i x = true ↔ hasI ps i x = true ∨ (i, x) = id := by
  have hl := h.len
  have hr := h.rm
  rcases make_ways h hm with ⟨k, y, rfl, hk, rfl, rfl⟩ | ⟨rfl, rfl, hlt, rfl, rfl⟩
  · have hkl := (List.getElem?_eq_some_iff.1 hk).1
    have hy := h.gen k y false hk
    have hdl := h.dl
    rw [List.length_append, List.length_singleton] at hdl
    refine ⟨⟨by rw [List.length_set]; omega, by omega, by rw [List.length_set]; exact hr, fun j z u hz => ?_, fun j d hd => ?_, fun a b d ha hb => ?_⟩, nat_i64 (by omega), i64_mk (by omega) (by omega), hasI_false ?_, fun i x => ?_⟩
    · rcases set_get hz with ⟨_, e, _⟩ | ⟨_, hz⟩
      · injection e with e1 e2; omega
      · have := h.gen j z u hz; omega
    · have hdl2 := (List.getElem?_eq_some_iff.1 hd).1
      have hd' : (ds' ++ [(k : Int)])[j]? = some d := by rw [List.getElem?_append_left hdl2]; exact hd
      obtain ⟨k2, y2, rfl, hk2⟩ := h.fr j d hd'
      refine ⟨k2, y2, rfl, ?_⟩
      have hne : k2 ≠ k := fun e => by
        subst e
        have := h.once j ds'.length (k2 : Int) hd' (by simp)
        omega
      rw [List.getElem?_set_ne (fun e => hne e.symm)]
      exact hk2
    · have ha2 := (List.getElem?_eq_some_iff.1 ha).1
      have hb2 := (List.getElem?_eq_some_iff.1 hb).1
      exact h.once a b d (by rw [List.getElem?_append_left ha2]; exact ha) (by rw [List.getElem?_append_left hb2]; exact hb)
    · rintro ⟨k2, e, hk2⟩
      have e : k = k2 := by omega
      subst e
      rw [hk] at hk2
      simp at hk2
    · rw [has_iff, has_iff]
      constructor
      · rintro ⟨k2, rfl, hk2⟩
        rcases set_get hk2 with ⟨rfl, e, _⟩ | ⟨_, hk2⟩
        · injection e with e1 e2; right; rw [e1]
        · exact .inl ⟨k2, rfl, hk2⟩
      · rintro (⟨k2, rfl, hk2⟩ | e)
        · have hne : k2 ≠ k := fun e => by subst e; rw [hk] at hk2; simp at hk2
          exact ⟨k2, rfl, by rw [List.getElem?_set_ne (fun e => hne e.symm)]; exact hk2⟩
        · injection e with e1 e2
          exact ⟨k, e1, by rw [List.getElem?_set_self hkl, e2]⟩
  · refine ⟨⟨by simp; omega, Nat.zero_le _, by simp; omega, fun j z u hz => ?_, fun j d hd => by simp at hd, fun a b d ha => by simp at ha⟩, nat_i64 (by omega), i64_one, hasI_false ?_, fun i x => ?_⟩
    · rcases snoc_get hz with ⟨_, hz⟩ | ⟨_, e⟩
      · have := h.gen j z u hz; omega
      · injection e with e1 e2; omega
    · rintro ⟨k2, e, hk2⟩
      have := (List.getElem?_eq_some_iff.1 hk2).1
      omega
    · rw [has_iff, has_iff]
      constructor
      · rintro ⟨k2, rfl, hk2⟩
        rcases snoc_get hk2 with ⟨_, hk2⟩ | ⟨e1, e2⟩
        · exact .inl ⟨k2, rfl, hk2⟩
        · injection e2 with e2 _; right; rw [e1, e2]
      · rintro (⟨k2, rfl, hk2⟩ | e)
        · exact ⟨k2, rfl, by rw [List.getElem?_append_left (List.getElem?_eq_some_iff.1 hk2).1]; exact hk2⟩
        · injection e with e1 e2
          exact ⟨ps.length, e1, by rw [e2]; simp⟩
theorem make_nothing (hm : makeS room ps ds = none) (h : PInv cnt room ps ds) : ds = [] ∧ room ≤ (ps.length : Int) := by
  unfold makeS at hm
  rcases hd : ds.getLast? with _ | d
  · rw [hd] at hm
    have hnil : ds = [] := by simpa using hd
    simp only at hm
    split at hm
    · cases hm
    · exact ⟨hnil, by omega⟩
  · rw [hd] at hm
    have hs := last_split hd
    have hg : ds[ds.dropLast.length]? = some d := by
      conv => lhs; rw [hs]
      simp
    obtain ⟨k, y, rfl, hk⟩ := h.fr _ d hg
    simp [hk] at hm

variable {tl : List Value} {w : World} {F : Nat → Prop} {g : Nat}
theorem make_none (hO : Own tl w F g room ps ds) (h : PInv cnt room ps ds) (hm : makeS room ps ds = none) :
    Calls Try.prog 27 #[.pointer (some ⟨g, 0, none⟩)] w fun e w' => e = .returned (.tuple #[.agg #[.int .i64 0, .int .i64 0], .int .i64 10]) ∧ Touch NoB w w' := by
  obtain ⟨rfl, hr⟩ := make_nothing hm h
  exact make_full g room ps F w hO hr
theorem ext_self {F : Nat → Prop} {w w' : World} : ∀ k, F k → Ext F w w' k := fun _ h => .inl h
theorem make_some (hO : Own tl w F g room ps ds) (hF : InW w 0 F) (h : PInv cnt room ps ds) (hm : makeS room ps ds = some (id, ps', ds')) (hc : cnt ≤ 1000) :
    Calls Try.prog 27 #[.pointer (some ⟨g, 0, none⟩)] w fun e w' => e = .returned (.tuple #[.agg #[.int .i64 id.1, .int .i64 id.2], .int .i64 0]) ∧ Own tl w' (Ext F w w') g room ps' ds' ∧ Touch F w w' := by
  rcases make_ways h hm with ⟨k, y, rfl, hk, rfl, rfl⟩ | ⟨rfl, rfl, hlt, rfl, rfl⟩
  · have hy := h.gen k y false hk
    exact (make_pop g k room y false ps ds' F w hO hF hk (by omega) (by omega)).mono fun e w' ⟨a, b, c⟩ => ⟨a, b.more ext_self, c⟩
  · exact make_new g room ps F w hO hF hlt h.rm.2
end

/-- What a Store keeps. -/
structure SInv (cnt : Nat) (room tables : Int) (ps : List (Int × Bool)) (ds : List Int) (ts : List Ar) (H : DataW Unit) (nh : Nat) : Prop where
  t : TInv cnt ts H nh
  p : PInv cnt room ps ds
  link : ∀ i x, hasI ps i x = true ↔ InT ts (i, x)
  len : ts.length ≤ cnt
  lim : (ts.length : Int) ≤ tables ∧ tables ≤ 1000
theorem SInv.more {cnt c : Nat} {room tables : Int} {ps : List (Int × Bool)} {ds : List Int} {ts : List Ar} {H : DataW Unit} {nh : Nat} (h : SInv cnt room tables ps ds ts H nh) (hc : cnt ≤ c) : SInv c room tables ps ds ts H nh :=
  ⟨h.t.more hc, h.p.more hc, h.link, by have := h.len; omega, h.lim⟩
end Go.Proofs.Ytjddfmllphcehaa
