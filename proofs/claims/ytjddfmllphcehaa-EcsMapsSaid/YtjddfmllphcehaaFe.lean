/-
  EcsMaps: its memory: the Store, and the four lists beside it.
-/
import Derived.Test.YtjddfmllphcehaaFd
import Derived.Test.YtjddfmllphcehaaEo
namespace Go.Proofs.Ytjddfmllphcehaa
open Go.ChangeShapes Go.WideShapes Go.ChangeAt Go.RowKit Go.Maps
set_option maxRecDepth 100000
set_option maxHeartbeats 400000

/-- The cells of a row of arrays of sixteen ints. -/
def vc (vs : List (List Int)) : List Value := vs.flatMap fun l => l.map (Value.int .i64)
def Six (vs : List (List Int)) : Prop := ∀ (k : Nat) (l : List Int), vs[k]? = some l → l.length = 16
theorem Six.tl {a : List Int} {vs : List (List Int)} (h : Six (a :: vs)) : a.length = 16 ∧ Six vs := ⟨h 0 a rfl, fun k l e => h (k + 1) l (by simpa using e)⟩
theorem vc_length {vs : List (List Int)} (h : Six vs) : (vc vs).length = vs.length * 16 := by
  induction vs with
  | nil => rfl
  | cons a vs ih =>
    have e := ih h.tl.2
    unfold vc at e ⊢
    rw [List.flatMap_cons, List.length_append, List.length_map, h.tl.1, e, List.length_cons]
    omega
theorem vc_cons (a : List Int) (vs : List (List Int)) : vc (a :: vs) = a.map (Value.int .i64) ++ vc vs := rfl
theorem vc_at {vs : List (List Int)} (h : Six vs) {k c : Nat} {l : List Int} (hk : vs[k]? = some l) (hc : c < 16) : (vc vs)[k * 16 + c]? = some (.int .i64 (l.getD c 0)) := by
  induction vs generalizing k with
  | nil => simp at hk
  | cons a vs ih =>
    rw [vc_cons]
    cases k with
    | zero =>
      simp at hk
      subst hk
      have h1 := h.tl.1
      rw [List.getElem?_append_left (by simp; omega), List.getElem?_map, List.getD_eq_getElem?_getD]
      rw [show 0 * 16 + c = c from by omega, List.getElem?_eq_getElem (by omega)]
      rfl
    | succ k =>
      simp at hk
      have h1 := h.tl.1
      rw [List.getElem?_append_right (by simp; omega), List.length_map, h1, show (k + 1) * 16 + c - 16 = k * 16 + c from by omega]
      exact ih h.tl.2 hk
theorem vc_snoc (vs : List (List Int)) (l : List Int) : vc (vs ++ [l]) = vc vs ++ l.map (Value.int .i64) := by simp [vc]
theorem vc_set {vs : List (List Int)} (h : Six vs) {k c : Nat} {l : List Int} (hk : vs[k]? = some l) (hc : c < 16) (v : Int) : vc (vs.set k (l.set c v)) = (vc vs).set (k * 16 + c) (.int .i64 v) := by
  induction vs generalizing k with
  | nil => simp at hk
  | cons a vs ih =>
    have h1 := h.tl.1
    cases k with
    | zero =>
      simp at hk
      subst hk
      rw [List.set_cons_zero, vc_cons, vc_cons, show 0 * 16 + c = c from by omega, List.set_append, if_pos (by simp; omega), List.map_set]
    | succ k =>
      simp at hk
      rw [List.set_cons_succ, vc_cons, vc_cons, ih h.tl.2 hk, List.set_append, if_neg (by simp; omega), List.length_map, h1, show (k + 1) * 16 + c - 16 = k * 16 + c from by omega]
theorem mc_set (l : List Int) (j : Nat) (m : Int) : mc (l.set j m) = (mc l).set j (.int .u16 m) := by simp [mc, List.map_set]

/-- The Store, and what the lists say of it. -/
def MS (w : World) (F : Nat → Prop) (cnt g : Nat) (md : List (Int × Int)) (th : List Bool) (ms : List Int) (vs : List (List Int)) : Prop :=
  ∃ ps ds bs, St w F cnt g 100 1000 ps ds bs ∧ MInv 100 ps ds bs md th ms vs

section
variable {B : Nat} {w w' : World} {F G : Nat → Prop} {cnt g : Nat} {md : List (Int × Int)} {th : List Bool} {ms : List Int} {vs : List (List Int)}
theorem MS.quiet (h : MS w F cnt g md th ms vs) (t : Touch NoB w w') : MS w' F cnt g md th ms vs := by
  obtain ⟨ps, ds, bs, h1, h2⟩ := h
  exact ⟨ps, ds, bs, h1.quiet t, h2⟩
theorem MS.keep (h : MS w F cnt g md th ms vs) (t : Touch G w w') (d : Dis F G) : MS w' F cnt g md th ms vs := by
  obtain ⟨ps, ds, bs, h1, h2⟩ := h
  exact ⟨ps, ds, bs, h1.keep t d, h2⟩
theorem MS.more {c : Nat} (h : MS w F cnt g md th ms vs) (hc : cnt ≤ c) : MS w F c g md th ms vs := by
  obtain ⟨ps, ds, bs, h1, h2⟩ := h
  exact ⟨ps, ds, bs, h1.more (fun _ e => e) hc, h2⟩
theorem MS.ml (h : MS w F cnt g md th ms vs) : ms.length = md.length := by obtain ⟨ps, ds, bs, h1, h2⟩ := h; exact h2.ml
theorem MS.vl (h : MS w F cnt g md th ms vs) : vs.length = md.length := by obtain ⟨ps, ds, bs, h1, h2⟩ := h; exact h2.vl
theorem MS.tl (h : MS w F cnt g md th ms vs) : th.length = md.length := by obtain ⟨ps, ds, bs, h1, h2⟩ := h; exact h2.tl
theorem MS.six (h : MS w F cnt g md th ms vs) : Six vs := by obtain ⟨ps, ds, bs, h1, h2⟩ := h; exact h2.six
theorem MS.rng (h : MS w F cnt g md th ms vs) {k : Nat} {m : Int} (e : ms[k]? = some m) : 0 ≤ m ∧ m < 65536 := by obtain ⟨ps, ds, bs, h1, h2⟩ := h; exact h2.rng k m e

theorem ms_despawn (h : MS w F cnt g md th ms vs) (hc : cnt ≤ 900) {a : Nat} {i x : Int} {u : Bool} (ha : md[a]? = some (i, x)) (ht : th[a]? = some u) :
    Calls Try.prog 11 #[.pointer (some ⟨g, 0, none⟩), .agg #[.int .i64 i, .int .i64 x]] w fun e w' => ∃ z, e = .returned (.int .i64 z) ∧ ((z == 0) != u) = false ∧ MS w' (Ext F w w') (cnt + 2) g md (th.set a false) ms vs ∧ Touch F w w' := by
  obtain ⟨ps, ds, bs, h1, h2⟩ := h
  refine (despawn_maps h1 h2 hc ha ht).mono ?_
  rintro e w' ⟨z, ps', ds', bs', rfl, hz, hS, hM, hT⟩
  refine ⟨z, rfl, ?_, ⟨ps', ds', bs', hS, hM⟩, hT⟩
  cases u <;> simp_all
theorem ms_put (h : MS w F cnt g md th ms vs) (hc : cnt ≤ 900) {a c : Nat} {i x m v : Int} {l : List Int} {u : Bool} (ha : md[a]? = some (i, x)) (ht : th[a]? = some u) (hm : ms[a]? = some m) (hl : vs[a]? = some l) (hc16 : c < 16) :
    Calls Try.prog 13 #[.pointer (some ⟨g, 0, none⟩), .agg #[.int .i64 i, .int .i64 x], .agg #[.int .i64 c, .int .i64 v]] w fun e w' => ∃ z, e = .returned (.int .i64 z) ∧ ((z == 0) != u) = false ∧ MS w' (Ext F w w') (cnt + 2) g md th (if u = true then ms.set a (orM m c) else ms) (if u = true then vs.set a (l.set c v) else vs) ∧ Touch F w w' := by
  obtain ⟨ps, ds, bs, h1, h2⟩ := h
  refine (put_maps h1 h2 hc ha ht hm hl hc16).mono ?_
  rintro e w' ⟨z, bs', rfl, hz, hS, hM, hT⟩
  refine ⟨z, rfl, ?_, ⟨ps, ds, bs', hS, hM⟩, hT⟩
  cases u <;> simp_all
theorem ms_take (h : MS w F cnt g md th ms vs) (hc : cnt ≤ 900) {a c : Nat} {i x m : Int} {l : List Int} {u : Bool} (ha : md[a]? = some (i, x)) (ht : th[a]? = some u) (hm : ms[a]? = some m) (hl : vs[a]? = some l) (hc16 : c < 16) :
    Calls Try.prog 15 #[.pointer (some ⟨g, 0, none⟩), .agg #[.int .i64 i, .int .i64 x], .int .i64 c] w fun e w' => ∃ y z, e = .returned (.tuple #[.int .i64 y, .int .i64 z]) ∧ ((z == 0) != (u && bitB m c)) = false ∧ MS w' (Ext F w w') (cnt + 2) g md th (if u = true then ms.set a (clM m c) else ms) vs ∧ Touch F w w' := by
  obtain ⟨ps, ds, bs, h1, h2⟩ := h
  refine (take_maps h1 h2 hc ha ht hm hl hc16).mono ?_
  rintro e w' ⟨y, z, bs', rfl, hz, hS, hM, hT⟩
  refine ⟨y, z, rfl, ?_, ⟨ps, ds, bs', hS, hM⟩, hT⟩
  cases hb : (u && bitB m c) <;> simp_all
theorem ms_get (h : MS w F cnt g md th ms vs) (hc : cnt ≤ 900) {a c : Nat} {i x m : Int} {l : List Int} {u : Bool} (ha : md[a]? = some (i, x)) (ht : th[a]? = some u) (hm : ms[a]? = some m) (hl : vs[a]? = some l) (hc16 : c < 16) :
    Calls Try.prog 17 #[.pointer (some ⟨g, 0, none⟩), .agg #[.int .i64 i, .int .i64 x], .int .i64 c] w fun e w' => ∃ y z, e = .returned (.tuple #[.int .i64 y, .int .i64 z]) ∧ ((z == 0) != (u && bitB m c)) = false ∧ (u = true → bitB m c = true → y = l.getD c 0) ∧ Touch NoB w w' := by
  obtain ⟨ps, ds, bs, h1, h2⟩ := h
  refine (get_maps h1 h2 hc ha ht hm hl hc16).mono ?_
  rintro e w' ⟨y, z, rfl, hz, hy, hT⟩
  refine ⟨y, z, rfl, ?_, fun hu hb => hy (hz.2 (by rw [hu, hb]; rfl)), hT⟩
  cases hb : (u && bitB m c) <;> simp_all
theorem ms_spawn (h : MS w F cnt g md th ms vs) (hc : cnt ≤ 900) (hr : md.length < 100) :
    Calls Try.prog 8 #[.pointer (some ⟨g, 0, none⟩), .slice none 0 0] w fun e w' => ∃ i x, e = .returned (.tuple #[.agg #[.int .i64 i, .int .i64 x], .int .i64 0]) ∧ MS w' (Ext F w w') (cnt + 1) g (md ++ [(i, x)]) (th ++ [true]) (ms ++ [0]) (vs ++ [List.replicate 16 0]) ∧ Touch F w w' := by
  obtain ⟨ps, ds, bs, h1, h2⟩ := h
  refine (spawn_maps h1 h2 hc hr).mono ?_
  rintro e w' ⟨⟨i, x⟩, ps', ds', bs', rfl, hS, hM, hT⟩
  exact ⟨i, x, rfl, ⟨ps', ds', bs', hS, hM⟩, hT⟩
end

/-- The four lists in memory, apart from F. -/
structure MR (B : Nat) (w : World) (F : Nat → Prop) (n5 n6 n7 n8 : Nat) (v5 v6 v7 v8 : Value) (x5 x6 x7 x8 : List Value) : Prop where
  inw : InW w B F
  hb : B ≤ w.heap.size
  r5 : w.ownsRow B 30 2 v5 n5 x5
  r6 : w.ownsRow B 4 1 v6 n6 x6
  r7 : w.ownsRow B 34 1 v7 n7 x7
  r8 : w.ownsRow B 57 16 v8 n8 x8
  f5 : ∀ b, v5.ownBlock = some b → ¬ F b
  f6 : ∀ b, v6.ownBlock = some b → ¬ F b
  f7 : ∀ b, v7.ownBlock = some b → ¬ F b
  f8 : ∀ b, v8.ownBlock = some b → ¬ F b

section
variable {B : Nat} {w w' : World} {F : Nat → Prop} {n5 n6 n7 n8 : Nat} {v5 v6 v7 v8 : Value} {x5 x6 x7 x8 : List Value}
theorem MR.quiet (h : MR B w F n5 n6 n7 n8 v5 v6 v7 v8 x5 x6 x7 x8) (t : Touch NoB w w') : MR B w' F n5 n6 n7 n8 v5 v6 v7 v8 x5 x6 x7 x8 :=
  ⟨h.inw.more t.size, Nat.le_trans h.hb t.size, row_touch h.r5 t (fun _ _ e => e), row_touch h.r6 t (fun _ _ e => e), row_touch h.r7 t (fun _ _ e => e), row_touch h.r8 t (fun _ _ e => e), h.f5, h.f6, h.f7, h.f8⟩
theorem ext_no {v : Value} {e : TypeId} {s n : Nat} {x : List Value} (hr : w.ownsRow B e s v n x) (hf : ∀ b, v.ownBlock = some b → ¬ F b) : ∀ b, v.ownBlock = some b → ¬ Ext F w w' b := by
  rintro b hb (f | f)
  · exact hf b hb f
  · have := row_lt hr hb; omega
theorem MR.call (h : MR B w F n5 n6 n7 n8 v5 v6 v7 v8 x5 x6 x7 x8) (t : Touch F w w') : MR B w' (Ext F w w') n5 n6 n7 n8 v5 v6 v7 v8 x5 x6 x7 x8 :=
  ⟨h.inw.ext t.size h.hb, Nat.le_trans h.hb t.size, row_touch h.r5 t h.f5, row_touch h.r6 t h.f6, row_touch h.r7 t h.f7, row_touch h.r8 t h.f8, ext_no h.r5 h.f5, ext_no h.r6 h.f6, ext_no h.r7 h.f7, ext_no h.r8 h.f8⟩
theorem at_no {v v' : Value} (hi : InW w B F) (hf : ∀ b, v.ownBlock = some b → ¬ F b) (ha : v'.ownBlock = v.ownBlock ∨ v'.ownBlock = some w.heap.size) : ∀ b, v'.ownBlock = some b → ¬ F b := by
  intro b hb f
  rcases ha with e | e
  · rw [e] at hb; exact hf b hb f
  · rw [e] at hb; injection hb with hb; have := hi b f; omega
theorem own_touch {v : Value} (hg : w.grownBy w' v.ownBlock) : Touch (fun b => v.ownBlock = some b) w w' := (Touch.refl _ w).grown hg (fun _ e => .inl e)

theorem MR.app5 (h : MR B w F n5 n6 n7 n8 v5 v6 v7 v8 x5 x6 x7 x8) {n : Nat} {v : Value} {x : List Value} (ho : w'.ownsRow B 30 2 v n x) (hg : w.grownBy w' v5.ownBlock) (ha : v.ownBlock = v5.ownBlock ∨ v.ownBlock = some w.heap.size) :
    MR B w' F n n6 n7 n8 v v6 v7 v8 x x6 x7 x8 :=
  have t := own_touch hg
  ⟨h.inw.more t.size, Nat.le_trans h.hb t.size, ho, row_touch h.r6 t (fun _ a b => row_row_ne h.r6 h.r5 (by decide) a b), row_touch h.r7 t (fun _ a b => row_row_ne h.r7 h.r5 (by decide) a b), row_touch h.r8 t (fun _ a b => row_row_ne h.r8 h.r5 (by decide) a b), at_no h.inw h.f5 ha, h.f6, h.f7, h.f8⟩
theorem MR.app6 (h : MR B w F n5 n6 n7 n8 v5 v6 v7 v8 x5 x6 x7 x8) {n : Nat} {v : Value} {x : List Value} (ho : w'.ownsRow B 4 1 v n x) (hg : w.grownBy w' v6.ownBlock) (ha : v.ownBlock = v6.ownBlock ∨ v.ownBlock = some w.heap.size) :
    MR B w' F n5 n n7 n8 v5 v v7 v8 x5 x x7 x8 :=
  have t := own_touch hg
  ⟨h.inw.more t.size, Nat.le_trans h.hb t.size, row_touch h.r5 t (fun _ a b => row_row_ne h.r5 h.r6 (by decide) a b), ho, row_touch h.r7 t (fun _ a b => row_row_ne h.r7 h.r6 (by decide) a b), row_touch h.r8 t (fun _ a b => row_row_ne h.r8 h.r6 (by decide) a b), h.f5, at_no h.inw h.f6 ha, h.f7, h.f8⟩
theorem MR.app7 (h : MR B w F n5 n6 n7 n8 v5 v6 v7 v8 x5 x6 x7 x8) {n : Nat} {v : Value} {x : List Value} (ho : w'.ownsRow B 34 1 v n x) (hg : w.grownBy w' v7.ownBlock) (ha : v.ownBlock = v7.ownBlock ∨ v.ownBlock = some w.heap.size) :
    MR B w' F n5 n6 n n8 v5 v6 v v8 x5 x6 x x8 :=
  have t := own_touch hg
  ⟨h.inw.more t.size, Nat.le_trans h.hb t.size, row_touch h.r5 t (fun _ a b => row_row_ne h.r5 h.r7 (by decide) a b), row_touch h.r6 t (fun _ a b => row_row_ne h.r6 h.r7 (by decide) a b), ho, row_touch h.r8 t (fun _ a b => row_row_ne h.r8 h.r7 (by decide) a b), h.f5, h.f6, at_no h.inw h.f7 ha, h.f8⟩
theorem MR.app8 (h : MR B w F n5 n6 n7 n8 v5 v6 v7 v8 x5 x6 x7 x8) {n : Nat} {v : Value} {x : List Value} (ho : w'.ownsRow B 57 16 v n x) (hg : w.grownBy w' v8.ownBlock) (ha : v.ownBlock = v8.ownBlock ∨ v.ownBlock = some w.heap.size) :
    MR B w' F n5 n6 n7 n v5 v6 v7 v x5 x6 x7 x :=
  have t := own_touch hg
  ⟨h.inw.more t.size, Nat.le_trans h.hb t.size, row_touch h.r5 t (fun _ a b => row_row_ne h.r5 h.r8 (by decide) a b), row_touch h.r6 t (fun _ a b => row_row_ne h.r6 h.r8 (by decide) a b), row_touch h.r7 t (fun _ a b => row_row_ne h.r7 h.r8 (by decide) a b), ho, h.f5, h.f6, h.f7, at_no h.inw h.f8 ha⟩
theorem setq_touch (w : World) (gq j : Nat) (n cap : Nat) (u : Value) : Touch (fun b => (Value.slice (some ⟨gq, 0, none⟩) n cap).ownBlock = some b) w (w.setCell ⟨gq, j, none⟩ u) := Touch.setCell (F := fun b => (Value.slice (some ⟨gq, 0, none⟩) n cap).ownBlock = some b) (p := ⟨gq, j, none⟩) (Touch.refl _ w) (.inl rfl) u
theorem MR.set6 {gq cap : Nat} (h : MR B w F n5 n6 n7 n8 v5 (.slice (some ⟨gq, 0, none⟩) n6 cap) v7 v8 x5 x6 x7 x8) (j : Nat) (u : Value) :
    MR B (w.setCell ⟨gq, j, none⟩ u) F n5 n6 n7 n8 v5 (.slice (some ⟨gq, 0, none⟩) n6 cap) v7 v8 x5 (x6.set j u) x7 x8 :=
  have t := setq_touch w gq j n6 cap u
  ⟨h.inw.more t.size, Nat.le_trans h.hb t.size, row_touch h.r5 t (fun _ a b => row_row_ne h.r5 h.r6 (by decide) a b), (h.r6.stored j u).1, row_touch h.r7 t (fun _ a b => row_row_ne h.r7 h.r6 (by decide) a b), row_touch h.r8 t (fun _ a b => row_row_ne h.r8 h.r6 (by decide) a b), h.f5, h.f6, h.f7, h.f8⟩
theorem MR.set7 {gq cap : Nat} (h : MR B w F n5 n6 n7 n8 v5 v6 (.slice (some ⟨gq, 0, none⟩) n7 cap) v8 x5 x6 x7 x8) (j : Nat) (u : Value) :
    MR B (w.setCell ⟨gq, j, none⟩ u) F n5 n6 n7 n8 v5 v6 (.slice (some ⟨gq, 0, none⟩) n7 cap) v8 x5 x6 (x7.set j u) x8 :=
  have t := setq_touch w gq j n7 cap u
  ⟨h.inw.more t.size, Nat.le_trans h.hb t.size, row_touch h.r5 t (fun _ a b => row_row_ne h.r5 h.r7 (by decide) a b), row_touch h.r6 t (fun _ a b => row_row_ne h.r6 h.r7 (by decide) a b), (h.r7.stored j u).1, row_touch h.r8 t (fun _ a b => row_row_ne h.r8 h.r7 (by decide) a b), h.f5, h.f6, h.f7, h.f8⟩
theorem MR.set8 {gq cap : Nat} (h : MR B w F n5 n6 n7 n8 v5 v6 v7 (.slice (some ⟨gq, 0, none⟩) n8 cap) x5 x6 x7 x8) (j : Nat) (u : Value) :
    MR B (w.setCell ⟨gq, j, none⟩ u) F n5 n6 n7 n8 v5 v6 v7 (.slice (some ⟨gq, 0, none⟩) n8 cap) x5 x6 x7 (x8.set j u) :=
  have t := setq_touch w gq j n8 cap u
  ⟨h.inw.more t.size, Nat.le_trans h.hb t.size, row_touch h.r5 t (fun _ a b => row_row_ne h.r5 h.r8 (by decide) a b), row_touch h.r6 t (fun _ a b => row_row_ne h.r6 h.r8 (by decide) a b), row_touch h.r7 t (fun _ a b => row_row_ne h.r7 h.r8 (by decide) a b), (h.r8.stored j u).1, h.f5, h.f6, h.f7, h.f8⟩
end
theorem dis_own {F : Nat → Prop} {v : Value} (hf : ∀ b, v.ownBlock = some b → ¬ F b) : Dis F (fun b => v.ownBlock = some b) := fun b h1 h2 => hf b h2 h1

/-- The Store, the four lists, and nothing else changed since w. -/
def MB (w wr : World) (F : Nat → Prop) (cnt g n5 n6 n7 n8 : Nat) (v5 v6 v7 v8 : Value) (x5 x6 x7 x8 : List Value) (md : List (Int × Int)) (th : List Bool) (ms : List Int) (vs : List (List Int)) : Prop :=
  MS wr F cnt g md th ms vs ∧ MR w.heap.size wr F n5 n6 n7 n8 v5 v6 v7 v8 x5 x6 x7 x8 ∧ Touch NoB w wr
section
variable {w wr w' : World} {F : Nat → Prop} {cnt c g n5 n6 n7 n8 : Nat} {v5 v6 v7 v8 : Value} {x5 x6 x7 x8 : List Value} {md md' : List (Int × Int)} {th th' : List Bool} {ms ms' : List Int} {vs vs' : List (List Int)}
theorem MB.quiet (h : MB w wr F cnt g n5 n6 n7 n8 v5 v6 v7 v8 x5 x6 x7 x8 md th ms vs) (t : Touch NoB wr w') : MB w w' F cnt g n5 n6 n7 n8 v5 v6 v7 v8 x5 x6 x7 x8 md th ms vs :=
  ⟨h.1.quiet t, h.2.1.quiet t, h.2.2.same t⟩
theorem MB.call (h : MB w wr F cnt g n5 n6 n7 n8 v5 v6 v7 v8 x5 x6 x7 x8 md th ms vs) (hM : MS w' (Ext F wr w') c g md' th' ms' vs') (t : Touch F wr w') : MB w w' (Ext F wr w') c g n5 n6 n7 n8 v5 v6 v7 v8 x5 x6 x7 x8 md' th' ms' vs' :=
  ⟨hM, h.2.1.call t, h.2.2.trans t (fun x e => .inr (h.2.1.inw x e).1)⟩
theorem MB.app5 (h : MB w wr F cnt g n5 n6 n7 n8 v5 v6 v7 v8 x5 x6 x7 x8 md th ms vs) {n : Nat} {v : Value} {x : List Value} (ho : w'.ownsRow w.heap.size 30 2 v n x) (hg : wr.grownBy w' v5.ownBlock) (ha : v.ownBlock = v5.ownBlock ∨ v.ownBlock = some wr.heap.size) :
    MB w w' F cnt g n n6 n7 n8 v v6 v7 v8 x x6 x7 x8 md th ms vs :=
  ⟨h.1.keep (own_touch hg) (dis_own h.2.1.f5), h.2.1.app5 ho hg ha, h.2.2.trans (own_touch hg) (fun x e => .inr (h.2.1.r5.lt x e).1)⟩
theorem MB.app6 (h : MB w wr F cnt g n5 n6 n7 n8 v5 v6 v7 v8 x5 x6 x7 x8 md th ms vs) {n : Nat} {v : Value} {x : List Value} (ho : w'.ownsRow w.heap.size 4 1 v n x) (hg : wr.grownBy w' v6.ownBlock) (ha : v.ownBlock = v6.ownBlock ∨ v.ownBlock = some wr.heap.size) :
    MB w w' F cnt g n5 n n7 n8 v5 v v7 v8 x5 x x7 x8 md th ms vs :=
  ⟨h.1.keep (own_touch hg) (dis_own h.2.1.f6), h.2.1.app6 ho hg ha, h.2.2.trans (own_touch hg) (fun x e => .inr (h.2.1.r6.lt x e).1)⟩
theorem MB.app7 (h : MB w wr F cnt g n5 n6 n7 n8 v5 v6 v7 v8 x5 x6 x7 x8 md th ms vs) {n : Nat} {v : Value} {x : List Value} (ho : w'.ownsRow w.heap.size 34 1 v n x) (hg : wr.grownBy w' v7.ownBlock) (ha : v.ownBlock = v7.ownBlock ∨ v.ownBlock = some wr.heap.size) :
    MB w w' F cnt g n5 n6 n n8 v5 v6 v v8 x5 x6 x x8 md th ms vs :=
  ⟨h.1.keep (own_touch hg) (dis_own h.2.1.f7), h.2.1.app7 ho hg ha, h.2.2.trans (own_touch hg) (fun x e => .inr (h.2.1.r7.lt x e).1)⟩
theorem MB.app8 (h : MB w wr F cnt g n5 n6 n7 n8 v5 v6 v7 v8 x5 x6 x7 x8 md th ms vs) {n : Nat} {v : Value} {x : List Value} (ho : w'.ownsRow w.heap.size 57 16 v n x) (hg : wr.grownBy w' v8.ownBlock) (ha : v.ownBlock = v8.ownBlock ∨ v.ownBlock = some wr.heap.size) :
    MB w w' F cnt g n5 n6 n7 n v5 v6 v7 v x5 x6 x7 x md th ms vs :=
  ⟨h.1.keep (own_touch hg) (dis_own h.2.1.f8), h.2.1.app8 ho hg ha, h.2.2.trans (own_touch hg) (fun x e => .inr (h.2.1.r8.lt x e).1)⟩
theorem MB.set6 {gq cap : Nat} (h : MB w wr F cnt g n5 n6 n7 n8 v5 (.slice (some ⟨gq, 0, none⟩) n6 cap) v7 v8 x5 x6 x7 x8 md th ms vs) (j : Nat) (u : Value) :
    MB w (wr.setCell ⟨gq, j, none⟩ u) F cnt g n5 n6 n7 n8 v5 (.slice (some ⟨gq, 0, none⟩) n6 cap) v7 v8 x5 (x6.set j u) x7 x8 md th ms vs :=
  ⟨h.1.keep (setq_touch wr gq j n6 cap u) (dis_own h.2.1.f6), h.2.1.set6 j u, h.2.2.trans (setq_touch wr gq j n6 cap u) (fun x e => .inr (h.2.1.r6.lt x e).1)⟩
theorem MB.set7 {gq cap : Nat} (h : MB w wr F cnt g n5 n6 n7 n8 v5 v6 (.slice (some ⟨gq, 0, none⟩) n7 cap) v8 x5 x6 x7 x8 md th ms vs) (j : Nat) (u : Value) :
    MB w (wr.setCell ⟨gq, j, none⟩ u) F cnt g n5 n6 n7 n8 v5 v6 (.slice (some ⟨gq, 0, none⟩) n7 cap) v8 x5 x6 (x7.set j u) x8 md th ms vs :=
  ⟨h.1.keep (setq_touch wr gq j n7 cap u) (dis_own h.2.1.f7), h.2.1.set7 j u, h.2.2.trans (setq_touch wr gq j n7 cap u) (fun x e => .inr (h.2.1.r7.lt x e).1)⟩
theorem MB.set8 {gq cap : Nat} (h : MB w wr F cnt g n5 n6 n7 n8 v5 v6 v7 (.slice (some ⟨gq, 0, none⟩) n8 cap) x5 x6 x7 x8 md th ms vs) (j : Nat) (u : Value) :
    MB w (wr.setCell ⟨gq, j, none⟩ u) F cnt g n5 n6 n7 n8 v5 v6 v7 (.slice (some ⟨gq, 0, none⟩) n8 cap) x5 x6 x7 (x8.set j u) md th ms vs :=
  ⟨h.1.keep (setq_touch wr gq j n8 cap u) (dis_own h.2.1.f8), h.2.1.set8 j u, h.2.2.trans (setq_touch wr gq j n8 cap u) (fun x e => .inr (h.2.1.r8.lt x e).1)⟩
end
section
variable {w wr : World} {F : Nat → Prop} {cnt g n q cap a : Nat} {v5 v6 v7 v8 : Value} {md : List (Int × Int)} {th xb : List Bool} {ms xm : List Int} {vs xv : List (List Int)} {x5 x6 x7 x8 : List Value} {n5 n6 n7 n8 : Nat} {xd : List (Int × Int)}
theorem MB.c5 {i x : Int} (h : MB w wr F cnt g n n6 n7 n8 (.slice (some ⟨q, 0, none⟩) n cap) v6 v7 v8 (idc xd) x6 x7 x8 md th ms vs) (ha : xd[a]? = some (i, x)) (hn : a < n) : wr.cell? ⟨q, a * 2, none⟩ = some (.int .i64 i) ∧ wr.cell? ⟨q, a * 2 + 1, none⟩ = some (.int .i64 x) ∧ q < wr.heap.size := by
  refine ⟨?_, ?_, row_lt h.2.1.r5 rfl⟩
  · rw [h.2.1.r5.cellAt (a * 2) (by omega), idc_at0, ha]; rfl
  · rw [h.2.1.r5.cellAt (a * 2 + 1) (by omega), idc_at1, ha]; rfl
theorem MB.c6 {u : Bool} (h : MB w wr F cnt g n5 n n7 n8 v5 (.slice (some ⟨q, 0, none⟩) n cap) v7 v8 x5 (bc xb) x7 x8 md th ms vs) (ha : xb[a]? = some u) (hn : a < n) : wr.cell? ⟨q, a, none⟩ = some (.bool u) ∧ wr.frozen? ⟨q, a, none⟩ = false ∧ q < wr.heap.size := by
  refine ⟨?_, h.2.1.r6.frozenAt a, row_lt h.2.1.r6 rfl⟩
  rw [h.2.1.r6.cellAt a (by omega), bc_at, ha]; rfl
theorem MB.c7 {m : Int} (h : MB w wr F cnt g n5 n6 n n8 v5 v6 (.slice (some ⟨q, 0, none⟩) n cap) v8 x5 x6 (mc xm) x8 md th ms vs) (ha : xm[a]? = some m) (hn : a < n) : wr.cell? ⟨q, a, none⟩ = some (.int .u16 m) ∧ wr.frozen? ⟨q, a, none⟩ = false ∧ q < wr.heap.size := by
  refine ⟨?_, h.2.1.r7.frozenAt a, row_lt h.2.1.r7 rfl⟩
  rw [h.2.1.r7.cellAt a (by omega), mc_at, ha]; rfl
theorem MB.c8 {l : List Int} {c : Nat} (h : MB w wr F cnt g n5 n6 n7 n v5 v6 v7 (.slice (some ⟨q, 0, none⟩) n cap) x5 x6 x7 (vc xv) md th ms vs) (h16 : Six xv) (ha : xv[a]? = some l) (hn : a < n) (hc : c < 16) : wr.cell? ⟨q, a * 16 + c, none⟩ = some (.int .i64 (l.getD c 0)) ∧ wr.frozen? ⟨q, a * 16 + c, none⟩ = false ∧ q < wr.heap.size := by
  refine ⟨?_, h.2.1.r8.frozenAt _, row_lt h.2.1.r8 rfl⟩
  rw [h.2.1.r8.cellAt (a * 16 + c) (by omega), vc_at h16 ha hc]
end

theorem info_arr : (Try.prog.info? 57).map (fun i => (i.zero, i.size, i.bytes)) = some (some (.agg #[.int .i64 0, .int .i64 0, .int .i64 0, .int .i64 0, .int .i64 0, .int .i64 0, .int .i64 0, .int .i64 0, .int .i64 0, .int .i64 0, .int .i64 0, .int .i64 0, .int .i64 0, .int .i64 0, .int .i64 0, .int .i64 0]), 16, 128) := by kernel_rfl
end Go.Proofs.Ytjddfmllphcehaa
