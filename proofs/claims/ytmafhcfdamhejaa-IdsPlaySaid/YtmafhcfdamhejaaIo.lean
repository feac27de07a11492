/-
  What IdsPlay keeps: the lists, and the memory of its two Ids, of the document's own Ids, of the row of what was made and of the identifiers at hand; Make, Drop, Has and All as it meets them.
-/
import Derived.Test.YtmafhcfdamhejaaIl
namespace Go.Proofs.Ytmafhcfdamhejaa
open Go.ChangeShapes Go.WideShapes Go.ChangeAt Go.RowKit

/-- Places and dropped ones that fit each other; no generation is above K. -/
structure PInv (room : Int) (ps : List (Int × Bool)) (ds : List Int) (K : Nat) : Prop where
  len : (ps.length : Int) ≤ room
  cnt : (allI 0 ps).length + ds.length = ps.length
  fr : ∀ d ∈ ds, ∃ (k : Nat) (y : Int), d = k ∧ ps[k]? = some (y, false)
  nd : ds.Nodup
  gen : ∀ (k : Nat) (y : Int) (u : Bool), ps[k]? = some (y, u) → 0 ≤ y ∧ y ≤ K

theorem pinv_start (room : Int) (h : 0 ≤ room) : PInv room [] [] 0 := ⟨by simpa using h, rfl, by simp, List.nodup_nil, by simp⟩

section
variable {room : Int} {ps : List (Int × Bool)} {ds : List Int} {K : Nat}
theorem PInv.more (h : PInv room ps ds K) {K' : Nat} (hK : K ≤ K') : PInv room ps ds K' := ⟨h.len, h.cnt, h.fr, h.nd, fun k y u hp => by have := h.gen k y u hp; omega⟩

theorem PInv.pop {k : Nat} (h : PInv room ps (ds ++ [(k : Int)]) K) : ∃ y, ps[k]? = some (y, false) ∧ 0 ≤ y ∧ y ≤ K ∧ PInv room (ps.set k (y + 1, true)) ds (K + 1) := by
  obtain ⟨k', y, hk, hy⟩ := h.fr k (by simp)
  obtain rfl : k = k' := by omega
  obtain ⟨g1, g2⟩ := h.gen k y false hy
  have hkl : k < ps.length := (List.getElem?_eq_some_iff.1 hy).1
  have hup := all_set_up 0 ps k y (y + 1) hy
  have hc := h.cnt
  rw [List.length_append, List.length_singleton] at hc
  have hnd := List.nodup_append.1 h.nd
  refine ⟨y, hy, g1, g2, by simpa using h.len, by rw [hup, List.length_set]; omega, ?_, hnd.1, ?_⟩
  · intro d hd
    obtain ⟨k2, y2, e, hp⟩ := h.fr d (List.mem_append_left _ hd)
    refine ⟨k2, y2, e, ?_⟩
    rw [List.getElem?_set_ne]
    · exact hp
    · rintro rfl
      exact hnd.2.2 d hd (k : Int) (by simp) e
  · intro k2 y2 u2 hp
    by_cases e : k = k2
    · subst e
      rw [List.getElem?_set_self hkl] at hp
      injection hp with hp
      injection hp with hp1 hp2
      omega
    · rw [List.getElem?_set_ne e] at hp
      have := h.gen k2 y2 u2 hp
      omega

theorem PInv.new (h : PInv room ps [] K) (hr : (ps.length : Int) < room) : PInv room (ps ++ [(1, true)]) [] (K + 1) := by
  have hc := h.cnt
  rw [List.length_nil] at hc
  have hup : (allI 0 (ps ++ [(1, true)])).length = (allI 0 ps).length + 1 := by rw [all_snoc, List.length_append]; rfl
  refine ⟨by simp; omega, by rw [hup]; simp; omega, by simp, List.nodup_nil, ?_⟩
  intro k y u hp
  rcases get_snoc hp with hp | ⟨_, e⟩
  · have := h.gen k y u hp; omega
  · injection e with e1 e2; omega

theorem PInv.drop (h : PInv room ps ds K) {k : Nat} {x : Int} (hp : ps[k]? = some (x, true)) : PInv room (ps.set k (x, false)) (ds ++ [(k : Int)]) K := by
  have hkl : k < ps.length := (List.getElem?_eq_some_iff.1 hp).1
  have hdn := all_set_down 0 ps k x x hp
  have hc := h.cnt
  refine ⟨by simpa using h.len, by rw [List.length_set, List.length_append, List.length_singleton]; omega, ?_, ?_, ?_⟩
  · intro d hd
    rcases List.mem_append.1 hd with hd | hd
    · obtain ⟨k2, y2, e, hp2⟩ := h.fr d hd
      refine ⟨k2, y2, e, ?_⟩
      rw [List.getElem?_set_ne]
      · exact hp2
      · rintro rfl
        rw [hp] at hp2
        injection hp2 with hp2
        injection hp2 with _ hp2
        cases hp2
    · obtain rfl : d = (k : Int) := by simpa using hd
      exact ⟨k, x, rfl, List.getElem?_set_self hkl⟩
  · refine List.nodup_append.2 ⟨h.nd, by simp, ?_⟩
    intro a ha b hb e
    obtain rfl : b = (k : Int) := by simpa using hb
    subst e
    obtain ⟨k2, y2, e, hp2⟩ := h.fr _ ha
    obtain rfl : k = k2 := by omega
    rw [hp] at hp2
    injection hp2 with hp2
    injection hp2 with _ hp2
    cases hp2
  · intro k2 y2 u2 hp2
    by_cases e : k = k2
    · subst e
      rw [List.getElem?_set_self hkl] at hp2
      injection hp2 with hp2
      injection hp2 with hp3 hp4
      have := h.gen k x true hp
      omega
    · rw [List.getElem?_set_ne e] at hp2
      exact h.gen k2 y2 u2 hp2
end

/-- The memory of IdsPlay, from block B on: s (ps, ds), o (po), r (pr, dr), the row of what was made (v9), and identifiers in blocks of their own (xs). -/
structure PlayAt (B : Nat) (w : World) (gs go gr : Nat) (room : Int) (ps : List (Int × Bool)) (ds : List Int) (po : List (Int × Bool)) (pr : List (Int × Bool)) (dr : List Int) (md : List (Int × Int)) (v9 : Value) (xs : List (Nat × Int × Int)) (Fs Fo Fr : Nat → Prop) : Prop where
  s : Own w Fs gs room ps ds
  o : Own w Fo go 7 po []
  r : ROwn w Fr gr room pr dr
  m : w.ownsRow B 30 2 v9 md.length (idc md)
  id : ∀ q ∈ xs, w.heap[q.1]? = some (.cells #[.int .i64 q.2.1, .int .i64 q.2.2] 30 (0, 0))
  is : InW w B Fs
  io : InW w B Fo
  ir : InW w B Fr
  so : Dis Fs Fo
  sr : Dis Fs Fr
  or : Dis Fo Fr
  ms : ∀ b, v9.ownBlock = some b → ¬ Fs b
  mo : ∀ b, v9.ownBlock = some b → ¬ Fo b
  mr : ∀ b, v9.ownBlock = some b → ¬ Fr b
  gs_ : ∀ q ∈ xs, ¬ Fs q.1
  go_ : ∀ q ∈ xs, ¬ Fo q.1
  gr_ : ∀ q ∈ xs, ¬ Fr q.1
  gm_ : ∀ q ∈ xs, v9.ownBlock ≠ some q.1
  size : B ≤ w.heap.size
def PlayMem (B : Nat) (w : World) (gs go gr : Nat) (room : Int) (ps : List (Int × Bool)) (ds : List Int) (po : List (Int × Bool)) (pr : List (Int × Bool)) (dr : List Int) (md : List (Int × Int)) (v9 : Value) (xs : List (Nat × Int × Int)) : Prop :=
  ∃ Fs Fo Fr, PlayAt B w gs go gr room ps ds po pr dr md v9 xs Fs Fo Fr

section
variable {B : Nat} {w w' : World} {gs go gr : Nat} {room : Int} {ps : List (Int × Bool)} {ds : List Int} {po : List (Int × Bool)} {pr : List (Int × Bool)} {dr : List Int} {md : List (Int × Int)} {v9 : Value} {xs : List (Nat × Int × Int)} {Fs Fo Fr : Nat → Prop}

theorem PlayMem.quiet (h : PlayMem B w gs go gr room ps ds po pr dr md v9 xs) (t : Touch NoB w w') : PlayMem B w' gs go gr room ps ds po pr dr md v9 xs := by
  obtain ⟨Fs, Fo, Fr, a⟩ := h
  exact ⟨Fs, Fo, Fr, a.s.keep t (fun _ _ e => e), a.o.keep t (fun _ _ e => e), a.r.keep t (fun _ _ e => e), row_touch a.m t (fun _ _ e => e), fun q hq => (t.block q.1 (blk_lt (a.id q hq)) (fun e => e)).trans (a.id q hq), a.is.more t.size, a.io.more t.size, a.ir.more t.size, a.so, a.sr, a.or, a.ms, a.mo, a.mr, a.gs_, a.go_, a.gr_, a.gm_, Nat.le_trans a.size t.size⟩

theorem notExt {F : Nat → Prop} {b : Nat} (h : ¬ F b) (hb : b < w.heap.size) : ¬ Ext F w w' b := by
  rintro (e | ⟨e, _⟩)
  · exact h e
  · omega

/-- s has changed, nothing else. -/
theorem PlayAt.stepS (a : PlayAt B w gs go gr room ps ds po pr dr md v9 xs Fs Fo Fr) {ps' : List (Int × Bool)} {ds' : List Int} (hO : Own w' (Ext Fs w w') gs room ps' ds') (t : Touch Fs w w') :
    PlayMem B w' gs go gr room ps' ds' po pr dr md v9 xs :=
  ⟨Ext Fs w w', Fo, Fr, hO, a.o.keep t a.so.symm, a.r.keep t a.sr.symm, row_touch a.m t a.ms, fun q hq => (t.block q.1 (blk_lt (a.id q hq)) (a.gs_ q hq)).trans (a.id q hq), a.is.ext t.size a.size, a.io.more t.size, a.ir.more t.size, a.so.ext a.io, a.sr.ext a.ir, a.or,
    fun b hb => notExt (a.ms b hb) (row_lt a.m hb), a.mo, a.mr, fun q hq => notExt (a.gs_ q hq) (blk_lt (a.id q hq)), a.go_, a.gr_, a.gm_, Nat.le_trans a.size t.size⟩
theorem PlayAt.stepO (a : PlayAt B w gs go gr room ps ds po pr dr md v9 xs Fs Fo Fr) {po' : List (Int × Bool)} (hO : Own w' (Ext Fo w w') go 7 po' []) (t : Touch Fo w w') :
    PlayMem B w' gs go gr room ps ds po' pr dr md v9 xs :=
  ⟨Fs, Ext Fo w w', Fr, a.s.keep t a.so, hO, a.r.keep t a.or.symm, row_touch a.m t a.mo, fun q hq => (t.block q.1 (blk_lt (a.id q hq)) (a.go_ q hq)).trans (a.id q hq), a.is.more t.size, a.io.ext t.size a.size, a.ir.more t.size, a.so.ext' a.is, a.sr, a.or.ext a.ir,
    a.ms, fun b hb => notExt (a.mo b hb) (row_lt a.m hb), a.mr, a.gs_, fun q hq => notExt (a.go_ q hq) (blk_lt (a.id q hq)), a.gr_, a.gm_, Nat.le_trans a.size t.size⟩
theorem PlayAt.stepR (a : PlayAt B w gs go gr room ps ds po pr dr md v9 xs Fs Fo Fr) {pr' : List (Int × Bool)} {dr' : List Int} (hO : ROwn w' (Ext Fr w w') gr room pr' dr') (t : Touch Fr w w') :
    PlayMem B w' gs go gr room ps ds po pr' dr' md v9 xs :=
  ⟨Fs, Fo, Ext Fr w w', a.s.keep t a.sr, a.o.keep t a.or, hO, row_touch a.m t a.mr, fun q hq => (t.block q.1 (blk_lt (a.id q hq)) (a.gr_ q hq)).trans (a.id q hq), a.is.more t.size, a.io.more t.size, a.ir.ext t.size a.size, a.so, a.sr.ext' a.is, a.or.ext' a.io,
    a.ms, a.mo, fun b hb => notExt (a.mr b hb) (row_lt a.m hb), a.gs_, a.go_, fun q hq => notExt (a.gr_ q hq) (blk_lt (a.id q hq)), a.gm_, Nat.le_trans a.size t.size⟩
end

/-- What a call leaves: its answer, the memory, and nothing below B changed. -/
def PlayPost (B : Nat) (w : World) (v : Value) (M : World → Prop) (e : Ending) (w' : World) : Prop := e = .returned v ∧ M w' ∧ Below B w w'

section
variable {room : Int} {ps : List (Int × Bool)} {ds : List Int} {K : Nat}

/-- Make of s and Make of r, from one state: one answer and one state behind both. -/
theorem play_make (h : PInv room ps ds K) (hr : room ≤ 100000) (hK : K < 1000000) :
    ∃ (i1 x1 e1 : Int) (ps1 : List (Int × Bool)) (ds1 : List Int), (e1 = 0 ∨ e1 = 10) ∧ PInv room ps1 ds1 (K + 1) ∧
      (∀ (B : Nat) (w : World) (gs go gr : Nat) (po pr : List (Int × Bool)) (dr : List Int) (md : List (Int × Int)) (v9 : Value) (xs : List (Nat × Int × Int)), PlayMem B w gs go gr room ps ds po pr dr md v9 xs →
        Calls Try.prog 10 #[.pointer (some ⟨gs, 0, none⟩)] w (PlayPost B w (.tuple #[.agg #[.int .i64 i1, .int .i64 x1], .int .i64 e1]) fun w' => PlayMem B w' gs go gr room ps1 ds1 po pr dr md v9 xs)) ∧
      (∀ (B : Nat) (w : World) (gs go gr : Nat) (po pq : List (Int × Bool)) (dq : List Int) (md : List (Int × Int)) (v9 : Value) (xs : List (Nat × Int × Int)), PlayMem B w gs go gr room pq dq po ps ds md v9 xs →
        Calls Try.prog 14 #[.pointer (some ⟨gr, 0, none⟩)] w (PlayPost B w (.tuple #[.agg #[.int .i64 i1, .int .i64 x1], .int .i64 e1]) fun w' => PlayMem B w' gs go gr room pq dq po ps1 ds1 md v9 xs)) := by
  rcases List.eq_nil_or_concat ds with rfl | ⟨ds0, d, hds⟩
  · by_cases hq : (ps.length : Int) < room
    · refine ⟨ps.length, 1, 0, _, _, .inl rfl, h.new hq, ?_, ?_⟩
      · rintro B w gs go gr po pr dr md v9 xs ⟨Fs, Fo, Fr, a⟩
        refine (make_new gs room ps Fs w a.s a.is.zero hq hr).mono ?_
        rintro e w' ⟨rfl, hO, hT⟩
        exact ⟨rfl, a.stepS hO hT, hT.grow (fun b hb => (a.is b hb).1) a.size⟩
      · rintro B w gs go gr po pq dq md v9 xs ⟨Fs, Fo, Fr, a⟩
        refine (rmake_new gr room ps Fr w a.r a.ir.zero hq hr).mono ?_
        rintro e w' ⟨rfl, hO, hT⟩
        exact ⟨rfl, a.stepR hO hT, hT.grow (fun b hb => (a.ir b hb).1) a.size⟩
    · refine ⟨0, 0, 10, ps, [], .inr rfl, h.more (by omega), ?_, ?_⟩
      · rintro B w gs go gr po pr dr md v9 xs hM
        obtain ⟨Fs, Fo, Fr, a⟩ := hM
        refine (make_full gs room ps Fs w a.s (by omega)).mono ?_
        rintro e w' ⟨rfl, hT⟩
        exact ⟨rfl, PlayMem.quiet ⟨Fs, Fo, Fr, a⟩ hT, hT.grow (fun b hb => hb.elim) a.size⟩
      · rintro B w gs go gr po pq dq md v9 xs hM
        obtain ⟨Fs, Fo, Fr, a⟩ := hM
        refine (rmake_full gr room ps Fr w a.r (by omega)).mono ?_
        rintro e w' ⟨rfl, hT⟩
        exact ⟨rfl, PlayMem.quiet ⟨Fs, Fo, Fr, a⟩ hT, hT.grow (fun b hb => hb.elim) a.size⟩
  · rw [List.concat_eq_append] at hds
    subst hds
    obtain ⟨k, y0, rfl, _⟩ := h.fr d (by simp)
    obtain ⟨y, b1, b2, b3, hI⟩ := h.pop
    refine ⟨k, y + 1, 0, _, _, .inl rfl, hI, ?_, ?_⟩
    · rintro B w gs go gr po pr dr md v9 xs ⟨Fs, Fo, Fr, a⟩
      refine (make_pop gs k room y false ps ds0 Fs w a.s a.is.zero b1 b2 (by omega)).mono ?_
      rintro e w' ⟨rfl, hO, hT⟩
      exact ⟨rfl, a.stepS (hO.more (fun _ e => .inl e)) hT, hT.grow (fun b hb => (a.is b hb).1) a.size⟩
    · rintro B w gs go gr po pq dq md v9 xs ⟨Fs, Fo, Fr, a⟩
      refine (rmake_pop gr k room y false ps ds0 Fr w a.r a.ir.zero b1 b2 (by omega)).mono ?_
      rintro e w' ⟨rfl, hO, hT⟩
      exact ⟨rfl, a.stepR (hO.more (fun _ e => .inl e)) hT, hT.grow (fun b hb => (a.ir b hb).1) a.size⟩

/-- Drop of s and Drop of r, from one state, of one identifier. -/
theorem play_drop (h : PInv room ps ds K) (hr : room ≤ 100000) (i1 x1 : Int) :
    ∃ (e1 : Int) (ps1 : List (Int × Bool)) (ds1 : List Int), PInv room ps1 ds1 K ∧
      (∀ (B : Nat) (w : World) (gs go gr : Nat) (po pr : List (Int × Bool)) (dr : List Int) (md : List (Int × Int)) (v9 : Value) (xs : List (Nat × Int × Int)), PlayMem B w gs go gr room ps ds po pr dr md v9 xs →
        Calls Try.prog 12 #[.pointer (some ⟨gs, 0, none⟩), .agg #[.int .i64 i1, .int .i64 x1]] w (PlayPost B w (.int .i64 e1) fun w' => PlayMem B w' gs go gr room ps1 ds1 po pr dr md v9 xs)) ∧
      (∀ (B : Nat) (w : World) (gs go gr : Nat) (po pq : List (Int × Bool)) (dq : List Int) (md : List (Int × Int)) (v9 : Value) (xs : List (Nat × Int × Int)), PlayMem B w gs go gr room pq dq po ps ds md v9 xs →
        Calls Try.prog 13 #[.pointer (some ⟨gr, 0, none⟩), .agg #[.int .i64 i1, .int .i64 x1]] w (PlayPost B w (.int .i64 e1) fun w' => PlayMem B w' gs go gr room pq dq po ps1 ds1 md v9 xs)) := by
  have hc := h.cnt
  have hl := h.len
  rcases hh : hasI ps i1 x1
  · refine ⟨11, ps, ds, h, ?_, ?_⟩
    · rintro B w gs go gr po pr dr md v9 xs hM
      obtain ⟨Fs, Fo, Fr, a⟩ := hM
      refine (drop_no gs room i1 x1 ps ds Fs w a.s hh).mono ?_
      rintro e w' ⟨rfl, hT⟩
      exact ⟨rfl, PlayMem.quiet ⟨Fs, Fo, Fr, a⟩ hT, hT.grow (fun b hb => hb.elim) a.size⟩
    · rintro B w gs go gr po pq dq md v9 xs hM
      obtain ⟨Fs, Fo, Fr, a⟩ := hM
      refine (rdrop_no gr room i1 x1 ps ds Fr w a.r hh).mono ?_
      rintro e w' ⟨rfl, hT⟩
      exact ⟨rfl, PlayMem.quiet ⟨Fs, Fo, Fr, a⟩ hT, hT.grow (fun b hb => hb.elim) a.size⟩
  · obtain ⟨k, rfl, hp⟩ : ∃ k : Nat, i1 = k ∧ ps[k]? = some (x1, true) := by
      unfold hasI at hh
      rw [Bool.and_eq_true] at hh
      obtain ⟨h0, h1⟩ := hh
      obtain ⟨k, rfl⟩ := Int.eq_ofNat_of_zero_le (by simpa using h0)
      refine ⟨k, rfl, ?_⟩
      rw [Int.toNat_natCast] at h1
      rcases hg : ps[k]? with _ | ⟨y, u⟩
      · rw [hg] at h1; simp at h1
      · rw [hg] at h1
        simp at h1
        rw [h1.1, h1.2]
    refine ⟨0, _, _, h.drop hp, ?_, ?_⟩
    · rintro B w gs go gr po pr dr md v9 xs ⟨Fs, Fo, Fr, a⟩
      refine (drop_yes gs k room x1 ps ds Fs w a.s a.is.zero hp (by omega)).mono ?_
      rintro e w' ⟨rfl, hO, hT⟩
      exact ⟨rfl, a.stepS hO hT, hT.grow (fun b hb => (a.is b hb).1) a.size⟩
    · rintro B w gs go gr po pq dq md v9 xs ⟨Fs, Fo, Fr, a⟩
      refine (rdrop_yes gr k room x1 ps ds Fr w a.r a.ir.zero hp (by omega)).mono ?_
      rintro e w' ⟨rfl, hO, hT⟩
      exact ⟨rfl, a.stepR hO hT, hT.grow (fun b hb => (a.ir b hb).1) a.size⟩
end

section
variable {B : Nat} {w : World} {gs go gr : Nat} {room : Int} {ps : List (Int × Bool)} {ds : List Int} {po : List (Int × Bool)} {pr : List (Int × Bool)} {dr : List Int} {md : List (Int × Int)} {v9 : Value} {xs : List (Nat × Int × Int)}

/-- What Make of the other Ids leaves. -/
def OtherPost (B : Nat) (w : World) (M : List (Int × Bool) → World → Prop) (e : Ending) (w' : World) : Prop := ∃ v po', e = .returned v ∧ M po' w' ∧ Below B w w'
theorem play_other (h : PlayMem B w gs go gr room ps ds po pr dr md v9 xs) :
    Calls Try.prog 10 #[.pointer (some ⟨go, 0, none⟩)] w (OtherPost B w fun po' w' => PlayMem B w' gs go gr room ps ds po' pr dr md v9 xs) := by
  obtain ⟨Fs, Fo, Fr, a⟩ := h
  by_cases hq : (po.length : Int) < 7
  · refine (make_new go 7 po Fo w a.o a.io.zero hq (by decide)).mono ?_
    rintro e w' ⟨rfl, hO, hT⟩
    exact ⟨_, _, rfl, a.stepO hO hT, hT.grow (fun b hb => (a.io b hb).1) a.size⟩
  · refine (make_full go 7 po Fo w a.o (by omega)).mono ?_
    rintro e w' ⟨rfl, hT⟩
    exact ⟨_, po, rfl, PlayMem.quiet ⟨Fs, Fo, Fr, a⟩ hT, hT.grow (fun b hb => hb.elim) a.size⟩

theorem play_has (h : PlayMem B w gs go gr room ps ds po pr dr md v9 xs) (i1 x1 : Int) :
    Calls Try.prog 15 #[.pointer (some ⟨gs, 0, none⟩), .agg #[.int .i64 i1, .int .i64 x1]] w fun e w' => e = .returned (.bool (hasI ps i1 x1)) ∧ Touch NoB w w' := by
  obtain ⟨Fs, Fo, Fr, a⟩ := h
  exact has_any gs room i1 x1 ps ds Fs w a.s
theorem play_rhas (h : PlayMem B w gs go gr room ps ds po pr dr md v9 xs) (i1 x1 : Int) :
    Calls Try.prog 16 #[.pointer (some ⟨gr, 0, none⟩), .agg #[.int .i64 i1, .int .i64 x1]] w fun e w' => e = .returned (.bool (hasI pr i1 x1)) ∧ Touch NoB w w' := by
  obtain ⟨Fs, Fo, Fr, a⟩ := h
  exact rhas_any gr room i1 x1 pr dr Fr w a.r
theorem play_all (h : PlayMem B w gs go gr room ps ds po pr dr md v9 xs) (hdp : ds.length ≤ ps.length) (hpl : ps.length ≤ 100000) :
    Calls Try.prog 18 #[.pointer (some ⟨gs, 0, none⟩)] w (AllPost w (allI 0 ps)) := by
  obtain ⟨Fs, Fo, Fr, a⟩ := h
  exact all_any gs room ps ds Fs w a.s hdp hpl
theorem play_rall (h : PlayMem B w gs go gr room ps ds po pr dr md v9 xs) (hpl : pr.length ≤ 100000) :
    Calls Try.prog 19 #[.pointer (some ⟨gr, 0, none⟩)] w (AllPost w (allI 0 pr)) := by
  obtain ⟨Fs, Fo, Fr, a⟩ := h
  exact rall_any gr room pr dr Fr w a.r hpl
end

end Go.Proofs.Ytmafhcfdamhejaa
