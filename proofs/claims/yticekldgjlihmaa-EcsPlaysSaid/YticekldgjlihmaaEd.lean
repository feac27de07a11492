/-
  What archetypeOf returns, and what it leaves in memory.
-/
import Derived.Test.YticekldgjlihmaaEc
import Derived.Deep.RegionHeld3
namespace Go.Proofs.Yticekldgjlihmaa
open Go.ChangeShapes Go.WideShapes Go.ChangeAt Go.RowKit Go.Maps
set_option maxRecDepth 100000
set_option maxHeartbeats 1000000

/-- The header of the row of archetypes is another. -/
theorem Own.tail {w : World} {F : Nat → Prop} {g : Nat} {room tables : Int} {ps : List (Int × Bool)} {ds : List Int} {va vm : Value} (h : Own [.int .i64 tables, va, vm] w F g room ps ds) (v : Value) : Own [.int .i64 tables, v, vm] (w.setCell ⟨g, 4, none⟩ v) F g room ps ds := by
  obtain ⟨vp, vd, hg, hp, hd, f0, f1, f2⟩ := h
  have s : Touch (fun b => b = g) w (w.setCell ⟨g, 4, none⟩ v) := (Touch.refl (fun b => b = g) w).setCell (p := ⟨g, 4, none⟩) (.inl rfl) v
  refine ⟨vp, vd, by simpa using set_blk hg 4 v, row_touch hp s (fun k hk (e : k = g) => row_ne hp hg (by decide) (e ▸ hk)), row_touch hd s (fun k hk (e : k = g) => row_ne hd hg (by decide) (e ▸ hk)), f0, f1, f2⟩

/-- One place more in a list. -/
def insT {α : Type} (l : List α) (k : Nat) (x : α) : List α := l.take k ++ x :: l.drop k
theorem insT_length {α : Type} (l : List α) (k : Nat) (x : α) (h : k ≤ l.length) : (insT l k x).length = l.length + 1 := by simp [insT]; omega
theorem insT_lt {α : Type} {l : List α} {k j : Nat} (x : α) (h : k ≤ l.length) (hj : j < k) : (insT l k x)[j]? = l[j]? := by
  unfold insT
  rw [List.getElem?_append_left (by rw [List.length_take]; omega), List.getElem?_take, if_pos hj]
theorem insT_at {α : Type} {l : List α} {k : Nat} (x : α) (h : k ≤ l.length) : (insT l k x)[k]? = some x := by
  unfold insT
  rw [List.getElem?_append_right (by rw [List.length_take]; omega), List.length_take, Nat.min_eq_left h, Nat.sub_self]
  rfl
theorem insT_gt {α : Type} {l : List α} {k j : Nat} (x : α) (h : k ≤ l.length) (hj : k < j) : (insT l k x)[j]? = l[j - 1]? := by
  unfold insT
  rw [List.getElem?_append_right (by rw [List.length_take]; omega), List.length_take, Nat.min_eq_left h, show j - k = (j - 1 - k) + 1 from by omega, List.getElem?_cons_succ, List.getElem?_drop]
  congr 1
  omega
theorem insT_some {α : Type} {l : List α} {k j : Nat} {x y : α} (h : k ≤ l.length) (hy : (insT l k x)[j]? = some y) : (j = k ∧ y = x) ∨ (j < k ∧ l[j]? = some y) ∨ (k < j ∧ l[j - 1]? = some y) := by
  rcases Nat.lt_trichotomy j k with e | e | e
  · rw [insT_lt x h e] at hy; exact .inr (.inl ⟨e, hy⟩)
  · subst e; rw [insT_at x h] at hy; injection hy with hy; exact .inl ⟨rfl, hy.symm⟩
  · rw [insT_gt x h e] at hy; exact .inr (.inr ⟨e, hy⟩)
theorem am_ins (ts : List Ar) (k : Nat) (r : Ar) : am (insT ts k r) = insT (am ts) k (r.a, r.b.m) := by simp [am, insT, List.map_take, List.map_drop]
theorem hasL_false {l : List (Nat × Int)} {m : Int} (h : hasL l m = false) {x : Nat × Int} (hx : l[posL l m]? = some x) : x.2 ≠ m := by
  unfold hasL at h
  rw [hx] at h
  simpa using h
theorem asc_ins {l : List (Nat × Int)} (ha : Asc l) {m : Int} (h : hasL l m = false) (a : Nat) : Asc (insT l (posL l m) (a, m)) := by
  obtain ⟨s1, s2⟩ := asc_split ha m
  have hk := posL_le l m
  have s3 : ∀ (t : Nat) (x : Nat × Int), posL l m ≤ t → l[t]? = some x → m < x.2 := by
    intro t x ht hx
    have h1 := s2 t x ht hx
    rcases Nat.eq_or_lt_of_le ht with e | e
    · subst e; have := hasL_false h hx; omega
    · obtain ⟨y, hy⟩ : ∃ y, l[posL l m]? = some y := ⟨_, List.getElem?_eq_getElem (by have := (List.getElem?_eq_some_iff.1 hx).1; omega)⟩
      have h2 := s2 _ y (Nat.le_refl _) hy
      have h3 := ha _ _ _ _ e hy hx
      omega
  intro i j x y hij hx hy
  rcases insT_some hk hx with ⟨e1, rfl⟩ | ⟨e1, hx'⟩ | ⟨e1, hx'⟩ <;> rcases insT_some hk hy with ⟨e2, rfl⟩ | ⟨e2, hy'⟩ | ⟨e2, hy'⟩
  · omega
  · omega
  · exact s3 _ y (by omega) hy'
  · exact s1 _ x e1 hx'
  · exact ha _ _ _ _ hij hx' hy'
  · exact ha _ _ _ _ (by omega) hx' hy'
  · omega
  · omega
  · exact ha _ _ _ _ (by omega) hx' hy'

/-- The labels behind archetypeOf: the new table, the new archetype, the new row. -/
def newlab (φ : Nat → Int) (s a e : Nat) (m : Int) : Nat → Int := fun b => if b < s then φ b else if b = s then 5 + 2 * m else if b = a then 4 + 2 * m else if a + 2 ≤ b ∧ b < e then 2 else 0

section
variable {w w1 w3 : World} {φ : Nat → Int} {g : Nat} {room tables : Int} {ps : List (Int × Bool)} {ds : List Int} {ts : List Ar} {H : DataW Unit} {nh : Nat} {va : Value} {bh : Nat}

theorem SG.opened (h : SG w φ g room tables ps ds ts H nh va bh) {m : Int} (hm : 0 ≤ m ∧ m < 65536) (hh : hasL (am ts) m = false) (hTO : TO w1 (fun b => b = w.heap.size) w.heap.size m [] (fun _ => []) (.map []) 0) (hT : Touch NoB w w1)
    {v' : Value} (hown : w3.ownsRow 0 81 1 v' (ts.length + 1) ((pvc (am ts)).take (posL (am ts) m) ++ (.pointer (some ⟨w1.heap.size, 0, none⟩) :: (pvc (am ts)).drop (posL (am ts) m))))
    (hT3 : Touch (fun b => va.ownBlock = some b) ((w1.alloc (.cells #[.int .u16 m, .pointer (some ⟨w.heap.size, 0, none⟩)] 93)).alloc (.cells #[.pointer (some ⟨w1.heap.size, 0, none⟩)] 81)) w3)
    (hat : ∀ k, v'.ownBlock = some k → va.ownBlock = some k ∨ w1.heap.size + 2 ≤ k) :
    SG (w3.setCell ⟨g, 4, none⟩ v') (newlab φ w.heap.size w1.heap.size w3.heap.size m) g room tables ps ds (insT ts (posL (am ts) m) ⟨w1.heap.size, w.heap.size, .map [], 0, ⟨m, [], fun _ => []⟩⟩) H nh v' bh ∧ Touch (fun b => φ b ≠ 0) w (w3.setCell ⟨g, 4, none⟩ v') := by
  have hk : posL (am ts) m ≤ ts.length := by have := posL_le (am ts) m; rwa [am_length] at this
  have hgt : w.heap.size < w1.heap.size := by
    obtain ⟨_, _, _, _, x⟩ := hTO
    exact x.lt
  have hgl := h.lt
  have T12 : Touch NoB w1 ((w1.alloc (.cells #[.int .u16 m, .pointer (some ⟨w.heap.size, 0, none⟩)] 93)).alloc (.cells #[.pointer (some ⟨w1.heap.size, 0, none⟩)] 81)) := ((Touch.refl NoB w1).alloc _).alloc _
  have T02 := hT.same T12
  have hs2 := hT3.size
  simp only [World.size_alloc] at hs2
  have T03 : Touch (fun b => φ b = 2) w w3 := (T02.mono (fun _ e => e.elim)).trans hT3 (fun k e => .inl (h.rowL k e))
  have s4 : Touch (fun b => b = g) w3 (w3.setCell ⟨g, 4, none⟩ v') := (Touch.refl (fun b => b = g) w3).setCell (p := ⟨g, 4, none⟩) (.inl rfl) v'
  have hg1 : φ g = 1 := by obtain ⟨_, _, _, _, _, f0, _⟩ := h.own; exact f0
  have TA : Touch (fun b => φ b ≠ 0) w (w3.setCell ⟨g, 4, none⟩ v') := (T03.mono (fun b e => by rw [e]; decide)).trans s4 (fun b e => .inl (by rw [e, hg1]; decide))
  have old : ∀ b c, φ b = c → c ≠ 0 → newlab φ w.heap.size w1.heap.size w3.heap.size m b = c := by
    intro b c hb hc
    have := h.wf b (by rw [hb]; exact hc)
    unfold newlab
    rw [if_pos this]
    exact hb
  have T0 : ∀ c : Int, c ≠ 2 → c ≠ 1 → Dis (fun b => φ b = c) (fun b => φ b = 2 ∨ b = g) := fun c h1 h2 b hb hx => by
    rcases hx with e | e
    · exact h1 (hb.symm.trans e)
    · subst e; exact h2 (hb.symm.trans hg1)
  have T04 : Touch (fun b => φ b = 2 ∨ b = g) w (w3.setCell ⟨g, 4, none⟩ v') := (T03.mono (fun _ e => .inl e)).trans s4 (fun b e => .inl (.inr e))
  have hg3 : w3.heap.size ≤ (w3.setCell ⟨g, 4, none⟩ v').heap.size := s4.size
  have hO3 : Own [.int .i64 tables, va, .map (some bh)] w3 (fun b => φ b = 1) g room ps ds := h.own.keep T03 (lab_dis (by decide))
  obtain ⟨vp3, vd3, hblk3, _⟩ := hO3
  have hO3 : Own [.int .i64 tables, va, .map (some bh)] w3 (fun b => φ b = 1) g room ps ds := h.own.keep T03 (lab_dis (by decide))
  have hnb : ∀ b, w.heap.size ≤ b → b ≠ g := fun b hb e => by omega
  have hnv : ∀ b, w.heap.size ≤ b → va.ownBlock ≠ some b := fun b hb e => by have := row_lt h.row e; omega
  refine ⟨⟨(hO3.tail v').more (fun b hb => old b 1 hb (by decide)), ?_, ?_, ownsMap_touch h.map T04 (T0 3 (by decide) (by decide) bh h.mapL), old bh 3 h.mapL (by decide), ?_, ?_, ?_, ?_, ?_⟩, TA⟩
  · rw [insT_length _ _ _ hk, am_ins]
    have e1 : pvc (insT (am ts) (posL (am ts) m) (w1.heap.size, m)) = (pvc (am ts)).take (posL (am ts) m) ++ (.pointer (some ⟨w1.heap.size, 0, none⟩) :: (pvc (am ts)).drop (posL (am ts) m)) := by simp [pvc, insT, List.map_take, List.map_drop]
    rw [e1]
    exact row_touch hown s4 (fun k hk (e : k = g) => row_ne hown hblk3 (by decide) (e ▸ hk))
  · intro k hk2
    rcases hat k hk2 with e | e
    · exact old k 2 (h.rowL k e) (by decide)
    · have hl := row_lt hown hk2
      unfold newlab
      rw [if_neg (by omega), if_neg (by omega), if_neg (by omega), if_pos ⟨e, hl⟩]
  · intro j r hr
    rcases insT_some hk hr with ⟨_, rfl⟩ | ⟨_, hr⟩ | ⟨_, hr⟩
    · refine ⟨?_, ?_⟩
      · rw [s4.block _ (by simp; omega) (hnb _ (by simp; omega)), hT3.block _ (by simp; omega) (hnv _ (by simp; omega))]
        exact ((Touch.refl NoB _).alloc _).block _ (by simp) (fun e => e) |>.trans (alloc_blk w1 _ _ rfl)
      · unfold newlab
        rw [if_neg (by simp; omega), if_neg (by simp; omega), if_pos rfl]
    · exact ⟨(T04.block _ (blk_lt (h.arch _ r hr).1) (T0 _ (by have := h.m0 _ r hr; omega) (by have := h.m0 _ r hr; omega) r.a (h.arch _ r hr).2)).trans (h.arch _ r hr).1, old _ _ (h.arch _ r hr).2 (by have := h.m0 _ r hr; omega)⟩
    · exact ⟨(T04.block _ (blk_lt (h.arch _ r hr).1) (T0 _ (by have := h.m0 _ r hr; omega) (by have := h.m0 _ r hr; omega) r.a (h.arch _ r hr).2)).trans (h.arch _ r hr).1, old _ _ (h.arch _ r hr).2 (by have := h.m0 _ r hr; omega)⟩
  · intro j r hr
    rcases insT_some hk hr with ⟨_, rfl⟩ | ⟨_, hr⟩ | ⟨_, hr⟩
    · have t1 := (hTO.quiet T12).keep hT3 (fun b (e : b = w.heap.size) hb => hnv b (by omega) hb)
      have t2 := t1.keep s4 (fun b (e : b = w.heap.size) hb => hnb b (by omega) hb)
      refine t2.more (fun b (e : b = w.heap.size) => ?_)
      show newlab φ w.heap.size w1.heap.size w3.heap.size m b = 5 + 2 * m
      unfold newlab
      rw [if_neg (by omega), if_pos e]
    · exact ((h.tab _ r hr).keep T04 (T0 _ (by have := h.m0 _ r hr; omega) (by have := h.m0 _ r hr; omega))).more (fun b hb => old b _ hb (by have := h.m0 _ r hr; omega))
    · exact ((h.tab _ r hr).keep T04 (T0 _ (by have := h.m0 _ r hr; omega) (by have := h.m0 _ r hr; omega))).more (fun b hb => old b _ hb (by have := h.m0 _ r hr; omega))
  · intro b hb
    unfold newlab at hb
    by_cases e1 : b < w.heap.size
    · omega
    · rw [if_neg e1] at hb
      by_cases e2 : b = w.heap.size
      · omega
      · rw [if_neg e2] at hb
        by_cases e3 : b = w1.heap.size
        · omega
        · rw [if_neg e3] at hb
          by_cases e4 : w1.heap.size + 2 ≤ b ∧ b < w3.heap.size
          · omega
          · rw [if_neg e4] at hb
            exact absurd rfl hb
  · intro j r hr
    rcases insT_some hk hr with ⟨_, rfl⟩ | ⟨_, hr⟩ | ⟨_, hr⟩
    · exact hm
    · exact h.m0 _ r hr
    · exact h.m0 _ r hr
  · rw [am_ins]
    exact asc_ins h.asc hh _
end
end Go.Proofs.Yticekldgjlihmaa
