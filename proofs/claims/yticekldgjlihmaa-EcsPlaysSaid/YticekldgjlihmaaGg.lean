/-
  Despawn of the document's own Store; what its parts leave.
-/
import Derived.Test.YticekldgjlihmaaGf
namespace Go.Proofs.Yticekldgjlihmaa
open Go.ChangeShapes Go.WideShapes Go.ChangeAt Go.RowKit Go.Maps
set_option maxRecDepth 100000
set_option maxHeartbeats 2000000

section
variable {w w' w0 W : World} {φ : Nat → Int} {g gi : Nat} {room most : Int} {ps ps' : List (Int × Bool)} {ds ds' : List Int} {ts : List RTb} {vl : Value} {m0 : Int}
theorem rm_set {j : Nat} {x : RTb} (hx : ts[j]? = some x) (l : List Rw) : rm (ts.set j ⟨x.g, x.m, l⟩) = rm ts := by
  unfold rm
  rw [List.map_set]
  refine List.ext_getElem? fun i => ?_
  rw [List.getElem?_set]
  by_cases e : j = i
  · subst e
    rw [if_pos rfl, if_pos (by rw [List.length_map]; exact (List.getElem?_eq_some_iff.1 hx).1), List.getElem?_map, hx]
    rfl
  · rw [if_neg e]
/-- A call on the j-th table that makes no block of its own. -/
theorem RSG.putTab0 (h : RSG w φ g gi room most ps ds ts vl) {j : Nat} {x : RTb} (hx : ts[j]? = some x) (t : Touch (fun b => φ b = 4 + x.m) w w') {l : List Rw} (ho : RT w' (fun b => φ b = 4 + x.m) x.g x.m l) : RSG w' φ g gi room most ps ds (ts.set j ⟨x.g, x.m, l⟩) vl := by
  have hmx := h.m0 j x hx
  have hrm := rm_set hx l
  refine ⟨(t.block g (blk_lt h.blk) (fun e => by have := h.l1; omega)).trans h.blk, h.l1, h.own.keep t (fun b (h1 : φ b = 2) (h2 : φ b = 4 + x.m) => by omega), ?_, h.rowL, fun i y hy => ?_, fun i y hy => ?_, fun b hb => Nat.lt_of_lt_of_le (h.wf b hb) t.size, by rw [hrm]; exact h.asc⟩
  · rw [hrm, List.length_set]
    exact row_touch h.row t (fun k hk e => by have := h.rowL k hk; omega)
  · rcases set_get hy with ⟨rfl, rfl, _⟩ | ⟨hne, hy⟩
    · exact ho
    · have hm := h.m0 i y hy
      have hd : y.m ≠ x.m := by
        intro e
        have h1 : (rm ts)[i]? = some (y.g, y.m) := by rw [rm_get, hy]; rfl
        have h2 : (rm ts)[j]? = some (x.g, x.m) := by rw [rm_get, hx]; rfl
        rcases Nat.lt_trichotomy i j with h5 | h' | h'
        · have := h.asc i j _ _ h5 h1 h2; simp at this; omega
        · exact hne h'
        · have := h.asc j i _ _ h' h2 h1; simp at this; omega
      exact (h.tab i y hy).keep t (fun b (h1 : φ b = 4 + y.m) (h2 : φ b = 4 + x.m) => by omega)
  · rcases set_get hy with ⟨rfl, rfl, _⟩ | ⟨hne, hy⟩
    · exact hmx
    · exact h.m0 i y hy
theorem cutR (ts : List RTb) (j : Nat) (t : RTb) (k : Nat) : (ts.set j ⟨t.g, t.m, cutAt noRow t.l k⟩).map RTb.b = (ts.map RTb.b).set j (cutB t.b k) := by
  rw [List.map_set]
  congr 1
  unfold RTb.b cutB
  simp only
  rw [cols_rem, ids_rem]
theorem setR (ts : List RTb) (j : Nat) {t : RTb} {k c : Nat} {p : Rw} (hp : t.l[k]? = some p) (hc : c < 16) (hb : bitB t.m c = true) (v : Int) : (ts.set j ⟨t.g, t.m, t.l.set k (p.1, valAt p.2 c v)⟩).map RTb.b = (ts.map RTb.b).set j (setB t.b k c v) := by
  rw [List.map_set]
  congr 1
  unfold RTb.b setB
  simp only
  rw [cols_set hp hc hb, List.map_set, set_same (by rw [List.getElem?_map, hp]; rfl)]
theorem relab_or {c : Int} : ∀ b, relab φ w w' c b ≠ 0 → φ b ≠ 0 ∨ w.heap.size ≤ b := by
  intro b hb
  unfold relab at hb
  split at hb
  · exact .inr (by omega)
  · exact .inl hb
theorem rs_drop (h : RSG w0 φ g gi room most ps ds ts vl) (hW : Touch NoB w0 W) {q : Nat} {x : Int} (hq : ps[q]? = some (x, true)) (hdl : ds.length < 1000000000) :
    Calls Try.prog 35 #[.pointer (some ⟨gi, 0, none⟩), .agg #[.int .i64 q, .int .i64 x]] W fun e w' => e = .returned (.int .i64 0) ∧ (∃ φ', RSG w' φ' g gi room most (ps.set q (x, false)) (ds ++ [(q : Int)]) ts vl ∧ ∀ b, φ' b ≠ 0 → φ b ≠ 0 ∨ w0.heap.size ≤ b) ∧ Touch (fun b => φ b = 2) w0 w' := by
  have h1 := h.quiet hW
  refine (rdrop_yes gi q room x ps ds _ W h1.own (fun b (hb : φ b = 2) => ⟨Nat.zero_le _, h1.wf b (by omega)⟩) hq hdl).mono ?_
  rintro e w' ⟨rfl, ho, hT⟩
  refine ⟨rfl, ⟨_, h1.putIds hT ho, fun b hb => ?_⟩, (hW.mono (fun _ e => e.elim)).trans hT (fun b e => .inl e)⟩
  rcases relab_or b hb with h | h
  · exact .inl h
  · exact .inr (Nat.le_trans hW.size h)
theorem rs_remove (h : RSG w0 φ g gi room most ps ds ts vl) (hW : Touch NoB w0 W) {j k : Nat} {t : RTb} (ht : ts[j]? = some t) (hk : k < t.l.length) (hl : t.l.length < 1000000) :
    Calls Try.prog 37 #[.pointer (some ⟨t.g, 0, none⟩), .int .i64 k] W fun e w' => ∃ v, e = .returned (.tuple #[v, .bool true]) ∧ w'.ownsRow W.heap.size 32 2 v (outI t.b.m t.b.cf k 16).length (idc (outI t.b.m t.b.cf k 16)) ∧ (∃ ts', RSG w' φ g gi room most ps ds ts' vl ∧ ts'.map RTb.b = (ts.map RTb.b).set j (cutB t.b k)) ∧ Touch (fun b => φ b = 4 + t.m) w0 w' ∧ Touch (fun b => φ b = 4 + t.m) W w' := by
  have h1 := h.quiet hW
  have hm := h1.m0 j t ht
  obtain ⟨p, hp⟩ : ∃ p, t.l[k]? = some p := ⟨_, List.getElem?_eq_getElem hk⟩
  obtain ⟨M, hM⟩ : ∃ M, t.l.length = M + 1 := ⟨t.l.length - 1, by omega⟩
  obtain ⟨q, hq⟩ : ∃ q, t.l[M]? = some q := ⟨_, List.getElem?_eq_getElem (by omega)⟩
  refine (rtremove_yes t.g k M t.m p q t.l _ W (h1.tab j t ht) (fun b (hb : φ b = 4 + t.m) => ⟨Nat.zero_le _, h1.wf b (by omega)⟩) hm.1 hm.2 hM hl hp hq).mono ?_
  rintro e w' ⟨v, rfl, hr, ho, hT⟩
  refine ⟨v, rfl, ?_, ⟨_, h1.putTab0 ht hT ho, cutR ts j t k⟩, (hW.mono (fun _ e => e.elim)).trans hT (fun b e => .inl e), hT⟩
  rw [show outI t.b.m t.b.cf k 16 = outR t.m p from cols_out hp]
  exact hr
theorem rs_set (h : RSG w0 φ g gi room most ps ds ts vl) (hW : Touch NoB w0 W) {j k c : Nat} {t : RTb} (ht : ts[j]? = some t) (hk : k < t.l.length) (hc : c < 16) (hb : bitB t.m c = true) (v : Int) :
    Calls Try.prog 45 #[.pointer (some ⟨t.g, 0, none⟩), .int .i64 k, .int .i64 c, .int .i64 v] W fun e w' => e = .returned (.bool true) ∧ (∃ ts', RSG w' φ g gi room most ps ds ts' vl ∧ ts'.map RTb.b = (ts.map RTb.b).set j (setB t.b k c v)) ∧ Touch (fun b => φ b = 4 + t.m) w0 w' := by
  have h1 := h.quiet hW
  have hm := h1.m0 j t ht
  obtain ⟨p, hp⟩ : ∃ p, t.l[k]? = some p := ⟨_, List.getElem?_eq_getElem hk⟩
  refine (rtset_yes t.g k c t.m v p t.l _ W (h1.tab j t ht) hm.1 hm.2 hp hc hb).mono ?_
  rintro e w' ⟨rfl, ho, hT⟩
  exact ⟨rfl, ⟨_, h1.putTab0 ht hT ho, setR ts j hp hc hb v⟩, (hW.mono (fun _ e => e.elim)).trans hT (fun b e => .inl e)⟩
end

section
variable {w : World} {F : Nat → Prop} {g : Nat} {room most : Int} {ps : List (Int × Bool)} {ds : List Int} {bs : List Tb}
theorem rdespawn_stale (h : RSt w F g room most ps ds bs) (i x : Int) (hn : hasI ps i x = false) :
    Calls Try.prog 11 #[.pointer (some ⟨g, 0, none⟩), .agg #[.int .i64 i, .int .i64 x]] w fun e w' => e = .returned (.int .i64 11) ∧ Touch NoB w w' := by
  obtain ⟨φ, gi, ts, vl, h1, h2, h3⟩ := h
  have H1 := Lib.hid h1
  have HN := Lib.hid hn
  clear h1 h2 h3 hn
  go_enter Try.func11, Try.ntmps11
  go_wp2
  have hid := alloc_blk w #[.int .i64 i, .int .i64 x] 30 rfl
  have hcg : (w.alloc (.cells #[.int .i64 i, .int .i64 x] 30)).cell? ⟨g, 0, none⟩ = some (.pointer (some ⟨gi, 0, none⟩)) := (H1.out.quiet ((Touch.refl NoB w).alloc _)).c0
  have i0 : (w.alloc (.cells #[.int .i64 i, .int .i64 x] 30)).cell? ⟨w.heap.size, 0, none⟩ = some (.int .i64 i) := cell_blk hid 0
  have i1 : (w.alloc (.cells #[.int .i64 i, .int .i64 x] 30)).cell? ⟨w.heap.size, 1, none⟩ = some (.int .i64 x) := cell_blk hid 1
  clear hid
  go_region_held3 (fun w' => w'.cell? ⟨g, 0, none⟩ = some (.pointer (some ⟨gi, 0, none⟩)) ∧ w'.cell? ⟨w.heap.size, 0, none⟩ = some (.int .i64 i) ∧ w'.cell? ⟨w.heap.size, 1, none⟩ = some (.int .i64 x)) (first | exact ⟨hcg, i0, i1⟩ | exact ⟨hk0, hk1, hk2⟩ | go_keep)
    (first | (go_at_call 35; refine (rdrop_no gi room i x ps ds _ _ ((H1.out.quiet ((Touch.refl NoB w).alloc (.cells #[.int .i64 i, .int .i64 x] 30))).quiet (by repeat (first | with_reducible exact Touch.refl _ _ | with_reducible refine Touch.alloc ?_ _ | with_reducible refine Touch.drewN ?_ _ | with_reducible refine Touch.drew ?_))).own HN.out).mono ?_; rintro e w6 ⟨rfl, hT6⟩; have hq : Touch NoB (w.alloc (.cells #[.int .i64 i, .int .i64 x] 30)) w6 := Touch.same (by repeat (first | with_reducible exact Touch.refl _ _ | with_reducible refine Touch.alloc ?_ _ | with_reducible refine Touch.drewN ?_ _ | with_reducible refine Touch.drew ?_)) hT6; have hk0 := (Touch.cell hq (p := ⟨g, 0, none⟩) (by have := H1.out.lt; simp; omega) (fun e => e)).trans hcg; have hk1 := (Touch.cell hq (p := ⟨w.heap.size, 0, none⟩) (by simp) (fun e => e)).trans i0; have hk2 := (Touch.cell hq (p := ⟨w.heap.size, 1, none⟩) (by simp) (fun e => e)).trans i1; have HT6 := Lib.hid (((Touch.refl NoB w).alloc _).same hq); clear hT6 hq))
  all_goals
    go_wp2
    go_ret
    exact ⟨rfl, HT6.out.same (by repeat (first | with_reducible exact Touch.refl _ _ | with_reducible refine Touch.alloc ?_ _ | with_reducible refine Touch.drewN ?_ _ | with_reducible refine Touch.drew ?_))⟩
theorem rdespawn_in (h : RSt w F g room most ps ds bs) (hu : UniqB bs) (hll : ∀ b ∈ bs, b.ids.length < 1000000) (hdl : ds.length < 1000000000) (q : Nat) (x : Int) (hq : ps[q]? = some (x, true)) {j k : Nat} {b : Tb} (hb : bs[j]? = some b) (hk : b.ids[k]? = some ((q : Int), x)) :
    Calls Try.prog 11 #[.pointer (some ⟨g, 0, none⟩), .agg #[.int .i64 q, .int .i64 x]] w fun e w' => e = .returned (.int .i64 0) ∧ RSt w' (Ext F w w') g room most (ps.set q (x, false)) (ds ++ [(q : Int)]) (bs.set j (cutB b k)) ∧ Touch F w w' := by
  obtain ⟨φ, gi, ts, vl, h1, h2, h3⟩ := h
  have hlb := hll b (List.mem_of_getElem? hb)
  obtain ⟨t, ht, rfl⟩ := rat h2 hb
  subst h2
  have hk' : (t.l.map Prod.fst)[k]? = some ((q : Int), x) := hk
  have hkl : k < t.l.length := by have := (List.getElem?_eq_some_iff.1 hk').1; simpa using this
  have hl : t.l.length < 1000000 := by have h' : (t.l.map Prod.fst).length < 1000000 := hlb; simpa using h'
  have hz : φ w.heap.size = 0 := by
    by_cases e : φ w.heap.size = 0
    · exact e
    · exact absurd (h1.wf _ e) (Nat.lt_irrefl _)
  have H1 := Lib.hid h1
  have HQ := Lib.hid (And.intro hq (And.intro hdl (And.intro h3 hz)))
  have HU := Lib.hid (And.intro hu (And.intro ht (And.intro hk' (And.intro hkl hl))))
  clear h1 h3 hq hdl hu hb hk hk' hkl hl ht hll hlb hz
  obtain ⟨i, hi⟩ : ∃ i : Int, (q : Int) = i := ⟨_, rfl⟩
  have HI := Lib.hid hi
  rw [hi]
  clear hi
  go_enter Try.func11, Try.ntmps11
  go_wp2
  have hid := alloc_blk w #[.int .i64 i, .int .i64 x] 30 rfl
  have hcg : (w.alloc (.cells #[.int .i64 i, .int .i64 x] 30)).cell? ⟨g, 0, none⟩ = some (.pointer (some ⟨gi, 0, none⟩)) := (H1.out.quiet ((Touch.refl NoB w).alloc _)).c0
  have i0 : (w.alloc (.cells #[.int .i64 i, .int .i64 x] 30)).cell? ⟨w.heap.size, 0, none⟩ = some (.int .i64 i) := cell_blk hid 0
  have i1 : (w.alloc (.cells #[.int .i64 i, .int .i64 x] 30)).cell? ⟨w.heap.size, 1, none⟩ = some (.int .i64 x) := cell_blk hid 1
  clear hid
  have hD0 : (∀ W, Touch NoB (w.alloc (.cells #[.int .i64 i, .int .i64 x] 30)) W → Calls Try.prog 35 #[.pointer (some ⟨gi, 0, none⟩), .agg #[.int .i64 i, .int .i64 x]] W fun e w6 => e = .returned (.int .i64 0) ∧ (∃ φ', RSG w6 φ' g gi room most (ps.set q (x, false)) (ds ++ [i]) ts vl ∧ ∀ b, φ' b ≠ 0 → φ b ≠ 0 ∨ (w.alloc (.cells #[.int .i64 i, .int .i64 x] 30)).heap.size ≤ b) ∧ Touch (fun b => φ b = 2) (w.alloc (.cells #[.int .i64 i, .int .i64 x] 30)) w6) := fun W hW => by
    rw [← HI.out]
    exact rs_drop (by rw [HI.out]; exact H1.out.quiet ((Touch.refl NoB w).alloc _)) (by rw [HI.out]; exact hW) HQ.out.1 HQ.out.2.1
  have hD := Lib.hid hD0
  clear hD0
  go_region_held3 (fun w' => w'.cell? ⟨g, 0, none⟩ = some (.pointer (some ⟨gi, 0, none⟩)) ∧ w'.cell? ⟨w.heap.size, 0, none⟩ = some (.int .i64 i) ∧ w'.cell? ⟨w.heap.size, 1, none⟩ = some (.int .i64 x)) (first | exact ⟨hcg, i0, i1⟩ | exact ⟨hk0, hk1, hk2⟩ | go_keep)
    (first | (go_at_call 35; refine (hD.out _ (by repeat (first | with_reducible exact Touch.refl _ _ | with_reducible refine Touch.alloc ?_ _ | with_reducible refine Touch.drewN ?_ _ | with_reducible refine Touch.drew ?_))).mono ?_; rintro e w6 ⟨rfl, hR6, hT6⟩; have hk0 := (Touch.cell hT6 (p := ⟨g, 0, none⟩) (by have := H1.out.lt; simp; omega) (fun (e : φ g = 2) => by have := H1.out.l1; omega)).trans hcg; have hk1 := (Touch.cell hT6 (p := ⟨w.heap.size, 0, none⟩) (by simp) (fun (e : φ w.heap.size = 2) => by have := HQ.out.2.2.2; omega)).trans i0; have hk2 := (Touch.cell hT6 (p := ⟨w.heap.size, 1, none⟩) (by simp) (fun (e : φ w.heap.size = 2) => by have := HQ.out.2.2.2; omega)).trans i1; have hl6 : w.heap.size < w6.heap.size := Nat.lt_of_lt_of_le (by simp) (Touch.size hT6); have HT6 := Lib.hid hT6; have HR6 := Lib.hid hR6; clear hT6 hR6))
  all_goals
    obtain ⟨φ6, h6, hi6⟩ := HR6.out
    have H6 := Lib.hid h6
    have HI6 := Lib.hid hi6
    clear h6 hi6
    go_wp2_with fail
    refine (rs_of (H6.out.quiet (by repeat (first | with_reducible exact Touch.refl _ _ | with_reducible refine Touch.alloc ?_ _ | with_reducible refine Touch.drewN ?_ _ | with_reducible refine Touch.drew ?_))) HU.out.1 HU.out.2.1 (by rw [← HI.out]; exact HU.out.2.2.1)).mono ?_
    rintro e w7 ⟨rfl, hT7⟩
    have HT7 := Lib.hid (Touch.same (by repeat (first | with_reducible exact Touch.refl _ _ | with_reducible refine Touch.alloc ?_ _ | with_reducible refine Touch.drewN ?_ _ | with_reducible refine Touch.drew ?_)) hT7 : Touch NoB w6 w7)
    clear hT7
    go_wp2_with fail
    refine (rs_remove H6.out (HT7.out.same (by repeat (first | with_reducible exact Touch.refl _ _ | with_reducible refine Touch.alloc ?_ _ | with_reducible refine Touch.drewN ?_ _ | with_reducible refine Touch.drew ?_))) HU.out.2.1 HU.out.2.2.2.1 HU.out.2.2.2.2).mono ?_
    rintro e w8 ⟨v, rfl, _, ⟨ts8, h8, hm8⟩, hT8, _⟩
    have H8 := Lib.hid (And.intro h8 (And.intro hm8 hT8))
    clear h8 hm8 hT8
    go_wp2
    go_ret
    have hs6 := HT6.out.size
    have hs8 := H8.out.2.2.size
    have hT : Touch F w w8 := (((Touch.refl F w).alloc (.cells #[.int .i64 i, .int .i64 x] 30)).trans HT6.out (fun b (e : φ b = 2) => .inl (HQ.out.2.2.1 b (by omega)))).trans H8.out.2.2 (fun b (e : φ6 b = 4 + t.m) => by
      have hm := H1.out.m0 _ _ HU.out.2.1
      rcases HI6.out b (by omega) with h | h
      · exact .inl (HQ.out.2.2.1 b h)
      · exact .inr (by simp at h; omega))
    refine ⟨rfl, ⟨φ6, gi, ts8, vl, H8.out.1, H8.out.2.1, fun b hb => ?_⟩, hT⟩
    rcases HI6.out b hb with h | h
    · exact .inl (HQ.out.2.2.1 b h)
    · exact .inr ⟨by simp at h; omega, H8.out.1.wf b hb⟩
end
end Go.Proofs.Yticekldgjlihmaa
