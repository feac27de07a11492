/-
  Tables as lists alone: what an entity more does to masks and queries; the cells of a mask.
-/
import Derived.Test.YticekldgjlihmaaEm
namespace Go.Proofs.Yticekldgjlihmaa
open Go.ChangeShapes Go.WideShapes Go.ChangeAt Go.RowKit Go.Maps
set_option maxRecDepth 100000
set_option maxHeartbeats 400000

/-- The masks ascend. -/
def SortB (bs : List Tb) : Prop := ∀ (i j : Nat) (a b : Tb), i < j → bs[i]? = some a → bs[j]? = some b → a.m < b.m
theorem St.sorted {w : World} {F : Nat → Prop} {cnt g : Nat} {room tables : Int} {ps : List (Int × Bool)} {ds : List Int} {bs : List Tb} (h : St w F cnt g room tables ps ds bs) : SortB bs := by
  obtain ⟨φ, ts, H, nh, va, bh, h1, h2, h3, h4⟩ := h
  intro i j a b hij ha hb
  rw [← h3, List.getElem?_map] at ha hb
  rcases hr : ts[i]? with _ | r
  · rw [hr] at ha; cases ha
  · rcases hq : ts[j]? with _ | q
    · rw [hq] at hb; cases hb
    · rw [hr] at ha; rw [hq] at hb
      injection ha with ha; injection hb with hb
      subst ha hb
      exact h1.asc i j _ _ hij (by rw [am_get, hr]; rfl) (by rw [am_get, hq]; rfl)
theorem St.mask {w : World} {F : Nat → Prop} {cnt g : Nat} {room tables : Int} {ps : List (Int × Bool)} {ds : List Int} {bs : List Tb} (h : St w F cnt g room tables ps ds bs) {j : Nat} {b : Tb} (hb : bs[j]? = some b) : 0 ≤ b.m ∧ b.m < 65536 := by
  obtain ⟨φ, ts, H, nh, va, bh, h1, h2, h3, h4⟩ := h
  rw [← h3, List.getElem?_map] at hb
  rcases hr : ts[j]? with _ | r
  · rw [hr] at hb; cases hb
  · rw [hr] at hb; injection hb with hb; subst hb; exact h1.m0 j r hr
theorem posB_le (bs : List Tb) (m : Int) : posB bs m ≤ bs.length := List.countP_le_length
theorem pos_find {bs : List Tb} (hs : SortB bs) {j : Nat} {b : Tb} (hj : bs[j]? = some b) : posB bs b.m = j := by
  induction bs generalizing j with
  | nil => simp at hj
  | cons a bs ih =>
    have hs' : SortB bs := fun i k x y hik hx hy => hs (i + 1) (k + 1) x y (by omega) (by simpa using hx) (by simpa using hy)
    cases j with
    | zero =>
      simp at hj
      subst hj
      unfold posB
      rw [List.countP_cons_of_neg (by simp), List.countP_eq_zero]
      intro x hx
      obtain ⟨t, ht, rfl⟩ := List.getElem_of_mem hx
      have := hs 0 (t + 1) a bs[t] (by omega) rfl (by simp [List.getElem?_eq_getElem ht])
      simp
      omega
    | succ j =>
      have hj' : bs[j]? = some b := by simpa using hj
      have := hs 0 (j + 1) a b (by omega) rfl hj
      have h2 := ih hs' hj'
      unfold posB at h2 ⊢
      rw [List.countP_cons_of_pos (by simpa using this), h2]
theorem hasB_iff {bs : List Tb} (hs : SortB bs) (m : Int) : hasB bs m = true ↔ m ∈ masksB bs := by
  unfold masksB
  rw [List.mem_map]
  constructor
  · intro h
    unfold hasB at h
    rcases hb : bs[posB bs m]? with _ | b
    · rw [hb] at h; cases h
    · rw [hb] at h
      exact ⟨b, List.mem_of_getElem? hb, by simpa using h⟩
  · rintro ⟨b, hb, rfl⟩
    obtain ⟨j, hj, e⟩ := List.getElem_of_mem hb
    have hj' : bs[j]? = some b := by rw [List.getElem?_eq_getElem hj, e]
    unfold hasB
    rw [pos_find hs hj', hj']
    simp

theorem open_at (bs : List Tb) (m : Int) : ∃ b, (openB bs m)[posB bs m]? = some b ∧ b.m = m ∧ ((hasB bs m = true ∧ bs[posB bs m]? = some b) ∨ (hasB bs m = false ∧ b = ⟨m, [], fun _ => []⟩)) := by
  unfold openB
  cases hh : hasB bs m
  · rw [if_neg (by decide)]
    exact ⟨_, insT_at _ (posB_le _ _), rfl, .inr ⟨rfl, rfl⟩⟩
  · rw [if_pos rfl]
    have h := hh
    unfold hasB at h
    rcases hb : bs[posB bs m]? with _ | b
    · rw [hb] at h; cases h
    · rw [hb] at h
      exact ⟨b, rfl, by simpa using h, .inl ⟨rfl, rfl⟩⟩
theorem open_length (bs : List Tb) (m : Int) : (openB bs m).length = if hasB bs m = true then bs.length else bs.length + 1 := by
  unfold openB
  split
  · rfl
  · exact insT_length _ _ _ (posB_le _ _)
theorem enter_eq (bs : List Tb) (m : Int) (p : Int × Int) (cl : List (Int × Int)) : ∃ b, (openB bs m)[posB bs m]? = some b ∧ b.m = m ∧ enterB bs m p cl = (openB bs m).set (posB bs m) (addB p cl b) := by
  obtain ⟨b, h1, h2, _⟩ := open_at bs m
  refine ⟨b, h1, h2, ?_⟩
  unfold enterB modB
  rw [h1]
theorem enter_length (bs : List Tb) (m : Int) (p : Int × Int) (cl : List (Int × Int)) : (enterB bs m p cl).length = if hasB bs m = true then bs.length else bs.length + 1 := by
  obtain ⟨b, _, _, h⟩ := enter_eq bs m p cl
  rw [h, List.length_set, open_length]
theorem open_masks (bs : List Tb) (m x : Int) : x ∈ masksB (openB bs m) ↔ x ∈ masksB bs ∨ x = m := by
  unfold openB
  cases hh : hasB bs m
  · rw [if_neg (by decide)]
    unfold masksB insT
    rw [List.map_append, List.map_cons, List.mem_append, List.mem_cons]
    rw [show x ∈ List.map (fun b => b.m) bs ↔ x ∈ List.map (fun b => b.m) (bs.take (posB bs m)) ∨ x ∈ List.map (fun b => b.m) (bs.drop (posB bs m)) from by rw [← List.mem_append, ← List.map_append, List.take_append_drop]]
    constructor
    · rintro (a | a | a)
      · exact .inl (.inl a)
      · exact .inr a
      · exact .inl (.inr a)
    · rintro ((a | a) | a)
      · exact .inl a
      · exact .inr (.inr a)
      · exact .inr (.inl a)
  · rw [if_pos rfl]
    constructor
    · exact .inl
    · rintro (a | rfl)
      · exact a
      · obtain ⟨b, _, h2, ⟨_, h3⟩ | ⟨h3, _⟩⟩ := open_at bs x
        · unfold masksB
          rw [List.mem_map]
          exact ⟨b, List.mem_of_getElem? h3, h2⟩
        · rw [hh] at h3; cases h3
theorem enter_masks (bs : List Tb) (m x : Int) (p : Int × Int) (cl : List (Int × Int)) : x ∈ masksB (enterB bs m p cl) ↔ x ∈ masksB bs ∨ x = m := by
  obtain ⟨b, h1, _, h⟩ := enter_eq bs m p cl
  rw [← open_masks, h]
  have e : masksB ((openB bs m).set (posB bs m) (addB p cl b)) = masksB (openB bs m) := by
    unfold masksB
    rw [List.map_set]
    exact set_same (by rw [List.getElem?_map, h1]; rfl)
  rw [e]

theorem query_append (all nn : Int) (a b : List Tb) : queryB all nn (a ++ b) = queryB all nn a ++ queryB all nn b := by simp [queryB, List.filter_append]
theorem query_cons (all nn : Int) (b : Tb) (l : List Tb) : queryB all nn (b :: l) = (if wantM all nn b.m = true then b.ids else []) ++ queryB all nn l := by
  unfold queryB
  by_cases h : wantM all nn b.m = true
  · rw [List.filter_cons, if_pos h, if_pos h, List.flatMap_cons]
  · rw [List.filter_cons, if_neg h, if_neg h, List.nil_append]
theorem split_at {α : Type} {l : List α} {k : Nat} {a : α} (h : l[k]? = some a) : l = l.take k ++ a :: l.drop (k + 1) := by
  obtain ⟨hk, rfl⟩ := List.getElem?_eq_some_iff.1 h
  rw [List.getElem_cons_drop, List.take_append_drop]
theorem set_split {α : Type} {l : List α} {k : Nat} {a : α} (h : l[k]? = some a) (x : α) : l.set k x = l.take k ++ x :: l.drop (k + 1) := by
  have hk := (List.getElem?_eq_some_iff.1 h).1
  rw [List.set_eq_take_append_cons_drop, if_pos hk]
/-- What a query tells has one entity more, if its table is asked for. -/
theorem enter_query (all nn : Int) (bs : List Tb) (m : Int) (p : Int × Int) (cl : List (Int × Int)) : (queryB all nn (enterB bs m p cl)).Perm (queryB all nn bs ++ (if wantM all nn m = true then [p] else [])) := by
  obtain ⟨b, h1, h2, h⟩ := enter_eq bs m p cl
  have hopen : queryB all nn (openB bs m) = queryB all nn bs := by
    unfold openB
    split
    · rfl
    · unfold insT
      rw [query_append, query_cons]
      rw [show (if wantM all nn (Tb.m ⟨m, [], fun _ => []⟩) = true then (Tb.ids ⟨m, [], fun _ => []⟩) else []) = [] from by split <;> rfl, List.nil_append, ← query_append, List.take_append_drop]
  rw [h, set_split h1, ← hopen]
  conv => rhs; rw [split_at h1]
  rw [query_append, query_cons, query_append, query_cons]
  have e : (addB p cl b).m = m := h2
  rw [e, h2]
  by_cases hw : wantM all nn m = true
  · rw [if_pos hw, if_pos hw, if_pos hw]
    show (queryB all nn ((openB bs m).take (posB bs m)) ++ ((b.ids ++ [p]) ++ queryB all nn ((openB bs m).drop (posB bs m + 1)))).Perm _
    rw [List.append_assoc, List.append_assoc]
    refine List.Perm.append_left _ ?_
    rw [List.append_assoc]
    refine List.Perm.append_left _ ?_
    exact List.perm_append_comm
  · rw [if_neg hw, if_neg hw, if_neg hw, List.append_nil]

/-- The cells of mask m below k, each with the value v. -/
def bitC (m v : Int) (k : Nat) : List (Int × Int) := ((List.range k).filter (bitB m)).map (fun (d : Nat) => ((d : Int), v))
theorem bitC_zero (m v : Int) : bitC m v 0 = [] := rfl
theorem bitC_yes {m v : Int} {k : Nat} (h : bitB m k = true) : bitC m v (k + 1) = bitC m v k ++ [((k : Int), v)] := by simp [bitC, List.range_succ, List.filter_append, h]
theorem bitC_no {m v : Int} {k : Nat} (h : bitB m k = false) : bitC m v (k + 1) = bitC m v k := by simp [bitC, List.range_succ, List.filter_append, h]
theorem bitC_length (m v : Int) (k : Nat) : (bitC m v k).length ≤ k := by
  unfold bitC
  rw [List.length_map]
  have := List.length_filter_le (bitB m) (List.range k)
  simpa using this
theorem bitC_mask (m v : Int) (k : Nat) (hk : k ≤ 16) : ∃ x, maskO (bitC m v k) = some x ∧ 0 ≤ x ∧ x < 65536 ∧ ∀ c, c < 16 → bitB x c = (bitB m c && decide (c < k)) := by
  induction k with
  | zero => exact ⟨0, rfl, by decide, by decide, fun c _ => by rw [bitB_zero]; simp⟩
  | succ k ih =>
    obtain ⟨x, h1, h2, h3, h4⟩ := ih (by omega)
    cases hb : bitB m k
    · refine ⟨x, by rw [bitC_no hb]; exact h1, h2, h3, fun c hc => ?_⟩
      rw [h4 c hc]
      by_cases e : c = k
      · subst e; simp [hb]
      · congr 1
        simp
        omega
    · have hx : bitB x k = false := by rw [h4 k (by omega)]; simp
      have hr := orM_range h3 (k := k) (by omega)
      refine ⟨orM x k, ?_, hr.1, hr.2, fun c hc => ?_⟩
      · rw [bitC_yes hb, maskO_snoc, h1]
        unfold stepM
        rw [Option.bind_some, if_pos ⟨isC_nat (by omega), by simpa using hx⟩]
        simp
      · rw [orM_bit h2, h4 c hc]
        by_cases e : c = k
        · subst e; simp [hb]
        · simp [e]
          congr 1
          simp
          omega
theorem bitC_all {m : Int} (h0 : 0 ≤ m) (h1 : m < 65536) (v : Int) : maskO (bitC m v 16) = some m := by
  obtain ⟨x, e, h2, h3, h4⟩ := bitC_mask m v 16 (by omega)
  rw [e]
  congr 1
  refine bit_ext h2 h3 h0 h1 fun c hc => ?_
  rw [h4 c hc]
  simp [hc]
end Go.Proofs.Yticekldgjlihmaa
