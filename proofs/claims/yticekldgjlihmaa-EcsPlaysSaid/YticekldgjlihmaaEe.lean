/-
  archetypeOf, walked.
-/
import Derived.Test.YticekldgjlihmaaEd
namespace Go.Proofs.Yticekldgjlihmaa
open Go.ChangeShapes Go.WideShapes Go.ChangeAt Go.RowKit Go.Maps
set_option maxRecDepth 100000
set_option maxHeartbeats 1000000

/-- The tables ts' are ts with one for m, which stands at j. -/
def OpenT (ts : List Ar) (m : Int) (ts' : List Ar) (j : Nat) (r : Ar) : Prop :=
  j = posL (am ts) m ∧ r.b.m = m ∧ ((hasL (am ts) m = true ∧ ts' = ts) ∨ (hasL (am ts) m = false ∧ ts' = insT ts j r ∧ r.D = .map [] ∧ r.n = 0 ∧ r.b = ⟨m, [], fun _ => []⟩))
def ArchPost (w : World) (φ : Nat → Int) (g : Nat) (room tables : Int) (ps : List (Int × Bool)) (ds : List Int) (ts : List Ar) (H : DataW Unit) (nh bh : Nat) (m : Int) (e : Ending) (w' : World) : Prop :=
  ∃ φ' ts' va' j r, e = .returned (.pointer (some ⟨r.a, 0, none⟩)) ∧ SG w' φ' g room tables ps ds ts' H nh va' bh ∧ ts'[j]? = some r ∧ OpenT ts m ts' j r ∧ Touch (fun b => φ b ≠ 0) w w' ∧ ∀ b, φ' b ≠ 0 → φ b ≠ 0 ∨ w.heap.size ≤ b

section
variable {w : World} {φ : Nat → Int} {g : Nat} {room tables : Int} {ps : List (Int × Bool)} {ds : List Int} {ts : List Ar} {H : DataW Unit} {nh : Nat} {va : Value} {bh : Nat}

theorem hasL_true {l : List (Nat × Int)} {m : Int} (h : hasL l m = true) : ∃ a, l[posL l m]? = some (a, m) := by
  unfold hasL at h
  rcases hx : l[posL l m]? with _ | ⟨a, y⟩
  · rw [hx] at h; cases h
  · rw [hx] at h
    simp at h
    subst h
    exact ⟨a, rfl⟩

theorem SG.search (h : SG w φ g room tables ps ds ts H nh va bh) (m : Int) (hl : ts.length ≤ 1000000) :
    Calls Try.prog 57 #[.pointer (some ⟨g, 0, none⟩), .int .u16 m] w fun e w' => e = .returned (.tuple #[.int .i64 (posL (am ts) m : Nat), .bool (hasL (am ts) m)]) ∧ w = w' := by
  obtain ⟨A, cap, rfl, _, _⟩ := row_any h.row
  exact search_any g A ts.length cap 0 (am ts) m w h.at4 (am_length ts) h.row h.asc hl h.masks

theorem SG.hasRoom (h : SG w φ g room tables ps ds ts H nh va bh) (m : Int) (hl : ts.length ≤ 1000000) :
    Calls Try.prog 25 #[.pointer (some ⟨g, 0, none⟩), .int .u16 m] w fun e w' => e = .returned (.bool (hasL (am ts) m || decide ((ts.length : Int) < tables))) ∧ Touch NoB w w' := by
  obtain ⟨A, cap, rfl, _, _⟩ := row_any h.row
  exact room_any g A ts.length cap 0 (am ts) m tables w h.at3 h.at4 (am_length ts) h.row h.asc hl h.masks

theorem arch_found (h : SG w φ g room tables ps ds ts H nh va bh) (m : Int) (hl : ts.length ≤ 1000000) (hh : hasL (am ts) m = true) :
    Calls Try.prog 59 #[.pointer (some ⟨g, 0, none⟩), .int .u16 m] w (ArchPost w φ g room tables ps ds ts H nh bh m) := by
  have HS := Lib.hid (h.search m hl)
  rw [hh] at HS
  obtain ⟨a, ha⟩ := hasL_true hh
  obtain ⟨r, hr, e⟩ := am_some ha
  injection e with e1 e2
  subst e1
  have hP : ArchPost w φ g room tables ps ds ts H nh bh m (.returned (.pointer (some ⟨r.a, 0, none⟩))) w := ⟨φ, ts, va, posL (am ts) m, r, rfl, h, hr, ⟨rfl, e2.symm, .inl ⟨hh, rfl⟩⟩, Touch.refl _ _, fun b hb => .inl hb⟩
  have HP := Lib.hid hP
  have hjl := (List.getElem?_eq_some_iff.1 hr).1
  obtain ⟨gv, cap, rfl, hc1, hc2, hob⟩ := row_form h.row (by omega)
  unfold maxLen at hc2
  have k4 := h.at4
  have k5 : w.cell? ⟨gv, posL (am ts) m, none⟩ = some (.pointer (some ⟨r.a, 0, none⟩)) := by rw [h.row.cellAt _ (by omega), pvc_at, ha]; rfl
  have hgl := h.lt
  have hvl := row_lt h.row hob
  obtain ⟨p, hp⟩ : ∃ p, posL (am ts) m = p := ⟨_, rfl⟩
  rw [hp] at HS k5 hjl
  obtain ⟨L, hL⟩ : ∃ L, ts.length = L := ⟨_, rfl⟩
  rw [hL] at k4 hjl hc1 hl
  clear h hh ha hr hP hob e2 hp hL
  go_enter Try.func59, Try.ntmps59
  go_wp2_with fail
  refine HS.out.mono ?_
  rintro e w' ⟨rfl, rfl⟩
  go_wp2
  go_ret
  exact HP.out

theorem pvc_one (l : List (Nat × Int)) : ∀ u ∈ pvc l, u.oneCell' = true := by
  intro u hu
  unfold pvc at hu
  obtain ⟨x, _, rfl⟩ := List.mem_map.1 hu
  rfl

theorem SG.inserted (h : SG w φ g room tables ps ds ts H nh va bh) {m : Int} (hm : 0 ≤ m ∧ m < 65536) {L p : Nat} (hL : ts.length = L) (hp : posL (am ts) m = p) (hl : L ≤ 1000000) (hh : hasL (am ts) m = false) {w1 : World} (hTO : TO w1 (fun b => b = w.heap.size) w.heap.size m [] (fun _ => []) (.map []) 0) (hT : Touch NoB w w1) :
    Calls Try.prog 72 #[va, .int .i64 p, .slice (some ⟨w1.heap.size + 1, 0, none⟩) 1 1] ((w1.alloc (.cells #[.int .u16 m, .pointer (some ⟨w.heap.size, 0, none⟩)] 93)).alloc (.cells #[.pointer (some ⟨w1.heap.size, 0, none⟩)] 81))
      fun e w3 => ∃ gv cap, e = .returned (.slice (some ⟨gv, 0, none⟩) (L + 1) cap) ∧ cap ≤ maxLen ∧ g < w3.heap.size ∧ w3.frozen? ⟨g, 4, none⟩ = false ∧ w3.cell? ⟨g, 4, none⟩ = some va ∧ gv ≠ g ∧ gv < w3.heap.size ∧ L + 1 ≤ cap ∧ w3.cell? ⟨gv, p, none⟩ = some (.pointer (some ⟨w1.heap.size, 0, none⟩)) ∧
        ArchPost w φ g room tables ps ds ts H nh bh m (.returned (.pointer (some ⟨w1.heap.size, 0, none⟩))) (w3.setCell ⟨g, 4, none⟩ (.slice (some ⟨gv, 0, none⟩) (L + 1) cap)) := by
  have hk : p ≤ L := by have := posL_le (am ts) m; rw [am_length] at this; omega
  have T12 : Touch NoB w1 ((w1.alloc (.cells #[.int .u16 m, .pointer (some ⟨w.heap.size, 0, none⟩)] 93)).alloc (.cells #[.pointer (some ⟨w1.heap.size, 0, none⟩)] 81)) := ((Touch.refl NoB w1).alloc _).alloc _
  have hs1 := hT.size
  have hrow := h.row
  rw [hL] at hrow
  refine (insert_any va L p (w1.heap.size + 1) (pvc (am ts)) (.pointer (some ⟨w1.heap.size, 0, none⟩)) _ (row_touch hrow (hT.same T12) (fun _ _ x => x)) (alloc_blk _ _ _ (by simp)) (fun e => by have := row_lt h.row e; omega) rfl (pvc_one _) hl hk).mono ?_
  rintro e w3 ⟨v', rfl, hown, hT3, hat⟩
  obtain ⟨gv, cap, rfl, hc1, hc2, hob⟩ := row_form hown (by omega)
  have hlen : (pvc (am ts)).length = L := by rw [pvc_length, am_length]; omega
  have hgb : ∃ vp vd, w3.heap[g]? = some (.cells ([Value.int .i64 room, vp, vd, .int .i64 tables, va, .map (some bh)]).toArray 64 (0, 0)) := by
    obtain ⟨vp, vd, hg, hp2, hd2, f0, _⟩ := h.own
    refine ⟨vp, vd, ?_⟩
    rw [hT3.block g (by simp; have := blk_lt hg; omega) (fun e => row_ne h.row hg (by decide) e), T12.block g (by have := blk_lt hg; omega) (fun e => e), hT.block g (blk_lt hg) (fun e => e)]
    exact hg
  obtain ⟨vp, vd, hgb⟩ := hgb
  have hgv : gv ≠ g := fun e => row_ne hown hgb (by decide) (by rw [← e]; rfl)
  have hS := h.opened hm hh hTO hT (by rw [hL, hp]; exact hown) hT3 (fun k hk => (hat k hk).elim .inl (fun e => .inr (by simpa using e)))
  refine ⟨gv, cap, rfl, hc2, blk_lt hgb, free_blk hgb 4, cell_blk hgb 4, hgv, row_lt hown hob, hc1, ?_, ?_⟩
  · rw [hown.cellAt p (by omega), List.getElem?_append_right (by rw [List.length_take]; omega), List.length_take, Nat.min_eq_left (by omega), Nat.sub_self]
    rfl
  · refine ⟨_, _, _, p, ⟨w1.heap.size, w.heap.size, .map [], 0, ⟨m, [], fun _ => []⟩⟩, rfl, hS.1, ?_, ⟨hp.symm, rfl, .inr ⟨hh, by rw [hp], rfl, rfl, rfl⟩⟩, hS.2, fun b hb => ?_⟩
    · rw [hp]
      exact insT_at _ (by omega)
    · unfold newlab at hb
      by_cases e1 : b < w.heap.size
      · rw [if_pos e1] at hb; exact .inl hb
      · right; omega

theorem arch_new (h : SG w φ g room tables ps ds ts H nh va bh) (m : Int) (hm : 0 ≤ m ∧ m < 65536) (hl : ts.length ≤ 1000000) (hh : hasL (am ts) m = false) :
    Calls Try.prog 59 #[.pointer (some ⟨g, 0, none⟩), .int .u16 m] w (ArchPost w φ g room tables ps ds ts H nh bh m) := by
  have HS := Lib.hid (h.search m hl)
  rw [hh] at HS
  have hk : posL (am ts) m ≤ ts.length := by have := posL_le (am ts) m; rwa [am_length] at this
  have HG := Lib.hid h
  have hk4 := h.at4
  have hgl := h.lt
  have HH := Lib.hid hh
  obtain ⟨p, hp⟩ : ∃ p, posL (am ts) m = p := ⟨_, rfl⟩
  obtain ⟨L, hL⟩ : ∃ L, ts.length = L := ⟨_, rfl⟩
  rw [hp] at HS hk
  rw [hL] at hk hl
  have HP := Lib.hid hp
  have HL := Lib.hid hL
  clear h hh hp hL
  go_enter Try.func59, Try.ntmps59
  go_wp2_with fail
  refine HS.out.mono ?_
  rintro e w' ⟨rfl, rfl⟩
  go_wp2_with fail
  go_region_law
    (first | (go_simp; go_at_call 73; refine (tnew_any m _).mono ?_; rintro e w1 ⟨rfl, hTO, hT⟩
              have hT1 := Touch.same ((Touch.refl NoB w).drew) hT
              have hk4 : w1.cell? ⟨g, 4, none⟩ = some va := (hT1.cell hgl (fun e => e)).trans hk4
              have hgl1 : g < w1.heap.size := Nat.lt_of_lt_of_le hgl hT1.size
              have HTO := Lib.hid hTO; have HT1 := Lib.hid hT1; clear hTO hT hT1)
           | (go_simp; go_at_call 72
              refine (HG.out.inserted hm HL.out HP.out hl HH.out HTO.out HT1.out).mono ?_
              rintro e w3 ⟨gv, cap, rfl, hcap, hl3, hz3, hk4, hne, hvl, hc1, hkp, hP⟩
              unfold maxLen at hcap
              have HQ := Lib.hid hP
              clear hP))
  all_goals
    go_wp2
    go_ret
    exact HQ.out

theorem arch_any (h : SG w φ g room tables ps ds ts H nh va bh) (m : Int) (hm : 0 ≤ m ∧ m < 65536) (hl : ts.length ≤ 1000000) :
    Calls Try.prog 59 #[.pointer (some ⟨g, 0, none⟩), .int .u16 m] w (ArchPost w φ g room tables ps ds ts H nh bh m) := by
  cases hh : hasL (am ts) m
  · exact arch_new h m hm hl hh
  · exact arch_found h m hl hh
end
end Go.Proofs.Yticekldgjlihmaa
