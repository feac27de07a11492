/-
  Make, Drop and Has, as IdsOnce meets them: beside the row of what was made and the row of bools.
-/
import Derived.Test.YtmafhcfdamhejaaIg
namespace Go.Proofs.Ytmafhcfdamhejaa
open Go.ChangeShapes Go.WideShapes Go.ChangeAt Go.RowKit

/-- The cells of a row of bools. -/
def bc (th : List Bool) : List Value := th.map Value.bool
theorem bc_length (th : List Bool) : (bc th).length = th.length * 1 := by simp [bc]
theorem bc_at (th : List Bool) (j : Nat) : (bc th)[j]? = (th[j]?).map Value.bool := by simp [bc]
theorem bc_set (th : List Bool) (j : Nat) (b : Bool) : bc (th.set j b) = (bc th).set j (.bool b) := by simp [bc, List.map_set]
theorem bc_snoc (th : List Bool) (b : Bool) : bc (th ++ [b]) = bc th ++ [.bool b] := by simp [bc]

/-- The memory of IdsOnce: the Ids at g, the row of what was made (v7), the row of bools (v8), all from block B on. -/
def OnceMem (B : Nat) (w : World) (g : Nat) (room : Int) (ps : List (Int × Bool)) (ds : List Int) (md : List (Int × Int)) (th : List Bool) (v7 v8 : Value) : Prop :=
  ∃ F, Own w F g room ps ds ∧ InW w B F ∧ w.ownsRow B 30 2 v7 md.length (idc md) ∧ w.ownsRow B 4 1 v8 th.length (bc th) ∧ (∀ b, v7.ownBlock = some b → ¬ F b) ∧ ∀ b, v8.ownBlock = some b → ¬ F b

section
variable {B : Nat} {w w' : World} {g : Nat} {room : Int} {ps : List (Int × Bool)} {ds : List Int} {md : List (Int × Int)} {th : List Bool} {v7 v8 : Value}

theorem OnceMem.quiet (h : OnceMem B w g room ps ds md th v7 v8) (t : Touch NoB w w') : OnceMem B w' g room ps ds md th v7 v8 := by
  obtain ⟨F, h1, h2, h3, h4, h5, h6⟩ := h
  exact ⟨F, h1.keep t (fun _ _ x => x), h2.more t.size, row_touch h3 t (fun _ _ x => x), row_touch h4 t (fun _ _ x => x), h5, h6⟩
theorem OnceMem.size (h : OnceMem B w g room ps ds md th v7 v8) : B ≤ w.heap.size := by
  obtain ⟨F, ⟨vp, vd, hg, hp, hd, f0, f1, f2⟩, h2, _⟩ := h
  have := h2 g f0
  omega

theorem ext_mem {F : Nat → Prop} {ps' : List (Int × Bool)} {ds' : List Int} (hO : Own w' (Ext F w w') g room ps' ds') (hT : Touch F w w') (h2 : InW w B F) (hB : B ≤ w.heap.size)
    (h3 : w.ownsRow B 30 2 v7 md.length (idc md)) (h4 : w.ownsRow B 4 1 v8 th.length (bc th)) (h5 : ∀ b, v7.ownBlock = some b → ¬ F b) (h6 : ∀ b, v8.ownBlock = some b → ¬ F b) :
    OnceMem B w' g room ps' ds' md th v7 v8 := by
  refine ⟨Ext F w w', hO, h2.ext hT.size hB, row_touch h3 hT h5, row_touch h4 hT h6, ?_, ?_⟩
  · rintro b hb (x | ⟨x, _⟩)
    · exact h5 b hb x
    · have := row_lt h3 hb; omega
  · rintro b hb (x | ⟨x, _⟩)
    · exact h6 b hb x
    · have := row_lt h4 hb; omega

/-- What Make leaves where there is room. -/
def MadePost (B : Nat) (w : World) (g : Nat) (room : Int) (ps : List (Int × Bool)) (md : List (Int × Int)) (th : List Bool) (v7 v8 : Value) (e : Ending) (w' : World) : Prop :=
  ∃ (i1 x1 : Int) (ps1 : List (Int × Bool)) (ds1 : List Int), e = .returned (.tuple #[.agg #[.int .i64 i1, .int .i64 x1], .int .i64 0]) ∧ OnceInv room ps1 ds1 (md ++ [(i1, x1)]) (th ++ [true]) ∧
    (∀ j : Nat, md[j]? ≠ some (i1, x1)) ∧ (allI 0 ps1).length = (allI 0 ps).length + 1 ∧ OnceMem B w' g room ps1 ds1 md th v7 v8 ∧ Below B w w'

theorem once_make (hI : OnceInv room ps ds md th) (hM : OnceMem B w g room ps ds md th v7 v8) (hr : ((allI 0 ps).length : Int) < room) (hm : room ≤ 100000) (hmd : md.length < 1000000) :
    Calls Try.prog 10 #[.pointer (some ⟨g, 0, none⟩)] w (MadePost B w g room ps md th v7 v8) := by
  have hB := hM.size
  obtain ⟨F, h1, h2, h3, h4, h5, h6⟩ := hM
  rcases List.eq_nil_or_concat ds with rfl | ⟨ds0, d, hds⟩
  · have hc := hI.cnt
    rw [List.length_nil] at hc
    obtain ⟨a1, a2, a3, _⟩ := hI.new (by omega)
    refine (make_new g room ps F w h1 h2.zero (by omega) hm).mono ?_
    rintro e w' ⟨rfl, hO, hT⟩
    exact ⟨_, _, _, _, rfl, a1, a2, a3, ext_mem hO hT h2 hB h3 h4 h5 h6, hT.grow (fun b hb => (h2 b hb).1) hB⟩
  · rw [List.concat_eq_append] at hds
    subst hds
    obtain ⟨k, y0, rfl, _⟩ := hI.fr d (by simp)
    obtain ⟨y, b1, b2, b3, a1, a2, a3, _⟩ := hI.pop
    refine (make_pop g k room y false ps ds0 F w h1 h2.zero b1 b2 (by omega)).mono ?_
    rintro e w' ⟨rfl, hO, hT⟩
    exact ⟨_, _, _, _, rfl, a1, a2, a3, ext_mem (hO.more (fun _ x => .inl x)) hT h2 hB h3 h4 h5 h6, hT.grow (fun b hb => (h2 b hb).1) hB⟩

theorem once_full (hI : OnceInv room ps ds md th) (hM : OnceMem B w g room ps ds md th v7 v8) (hr : ¬ ((allI 0 ps).length : Int) < room) :
    Calls Try.prog 10 #[.pointer (some ⟨g, 0, none⟩)] w fun e w' => e = .returned (.tuple #[.agg #[.int .i64 0, .int .i64 0], .int .i64 10]) ∧ Touch NoB w w' := by
  obtain ⟨F, h1, _⟩ := hM
  have hc := hI.cnt
  have hl := hI.len
  have : ds = [] := List.eq_nil_of_length_eq_zero (by omega)
  subst this
  exact make_full g room ps F w h1 (by omega)

/-- What Drop leaves, of one that is there. -/
def DropPost (B : Nat) (w : World) (g : Nat) (room : Int) (ps : List (Int × Bool)) (md : List (Int × Int)) (th : List Bool) (j : Nat) (v7 v8 : Value) (e : Ending) (w' : World) : Prop :=
  ∃ (ps1 : List (Int × Bool)) (ds1 : List Int), e = .returned (.int .i64 0) ∧ OnceInv room ps1 ds1 md (th.set j false) ∧ (allI 0 ps1).length + 1 = (allI 0 ps).length ∧ OnceMem B w' g room ps1 ds1 md th v7 v8 ∧ Below B w w'

theorem once_drop {j : Nat} {i x : Int} (hI : OnceInv room ps ds md th) (hM : OnceMem B w g room ps ds md th v7 v8) (hj : md[j]? = some (i, x)) (ht : th[j]? = some true) (hm : room ≤ 100000) :
    Calls Try.prog 12 #[.pointer (some ⟨g, 0, none⟩), .agg #[.int .i64 i, .int .i64 x]] w (DropPost B w g room ps md th j v7 v8) := by
  have hB := hM.size
  obtain ⟨F, h1, h2, h3, h4, h5, h6⟩ := hM
  obtain ⟨k, rfl, hp, a1, a2⟩ := hI.drop hj ht
  have hc := hI.cnt
  have hl := hI.len
  refine (drop_yes g k room x ps ds F w h1 h2.zero hp (by omega)).mono ?_
  rintro e w' ⟨rfl, hO, hT⟩
  exact ⟨_, _, rfl, a1, a2, ext_mem hO hT h2 hB h3 h4 h5 h6, hT.grow (fun b hb => (h2 b hb).1) hB⟩

theorem once_stale {j : Nat} {i x : Int} (hI : OnceInv room ps ds md th) (hM : OnceMem B w g room ps ds md th v7 v8) (hj : md[j]? = some (i, x)) (ht : th[j]? = some false) :
    Calls Try.prog 12 #[.pointer (some ⟨g, 0, none⟩), .agg #[.int .i64 i, .int .i64 x]] w fun e w' => e = .returned (.int .i64 11) ∧ Touch NoB w w' := by
  obtain ⟨F, h1, _⟩ := hM
  obtain ⟨b, hb, hh⟩ := hI.has hj
  rw [ht] at hb
  injection hb with hb
  subst hb
  exact drop_no g room i x ps ds F w h1 hh

theorem once_has {j : Nat} {i x : Int} {b : Bool} (hI : OnceInv room ps ds md th) {th' : List Bool} (hM : OnceMem B w g room ps ds md th' v7 v8) (hj : md[j]? = some (i, x)) (ht : th[j]? = some b) :
    Calls Try.prog 15 #[.pointer (some ⟨g, 0, none⟩), .agg #[.int .i64 i, .int .i64 x]] w fun e w' => e = .returned (.bool b) ∧ Touch NoB w w' := by
  obtain ⟨F, h1, _⟩ := hM
  obtain ⟨b', hb, hh⟩ := hI.has hj
  rw [ht] at hb
  injection hb with hb
  subst hb
  rw [← hh]
  exact has_any g room i x ps ds F w h1
end

theorem info_bool : (Try.prog.info? 4).map (fun i => (i.zero, i.size, i.bytes)) = some (some (.bool false), 1, 1) := by kernel_rfl

/-- What holds at the head of the loop of IdsOnce. -/
def OnceRel (w : World) (g : Nat) (room : Int) (N : Nat) (v7 v8 v9 i : Value) (wr : World) : Prop :=
  ∃ k : Nat, k ≤ N ∧ i = .int .i64 k ∧ ∃ (ps : List (Int × Bool)) (ds : List Int) (md : List (Int × Int)) (th : List Bool), OnceInv room ps ds md th ∧ md.length ≤ k ∧ v9 = .int .i64 ((allI 0 ps).length : Nat) ∧
    OnceMem w.heap.size wr g room ps ds md th v7 v8 ∧ Touch NoB w wr


section
variable {B : Nat} {w w' : World} {g : Nat} {room : Int} {ps : List (Int × Bool)} {ds : List Int} {md : List (Int × Int)} {th : List Bool} {v7 v8 : Value}
/-- One more was made: the row of what was made has grown. -/
theorem OnceMem.app7 (h : OnceMem B w g room ps ds md th v7 v8) (t : Touch (fun b => v7.ownBlock = some b) w w') {md' : List (Int × Int)} {v : Value} (ho : w'.ownsRow B 30 2 v md'.length (idc md'))
    (ha : ∀ b, v.ownBlock = some b → v7.ownBlock = some b ∨ w.heap.size ≤ b) : OnceMem B w' g room ps ds md' th v v8 := by
  obtain ⟨F, h1, h2, h3, h4, h5, h6⟩ := h
  refine ⟨F, h1.keep t (fun b hf hb => h5 b hb hf), h2.more t.size, ho, row_touch h4 t (fun b hb hx => row_row_ne h4 h3 (by decide) hb hx), ?_, h6⟩
  intro b hb hf
  rcases ha b hb with x | x
  · exact h5 b x hf
  · have := (h2 b hf).2; omega
/-- The row of bools has grown, or one of its cells was written. -/
theorem OnceMem.app8 (h : OnceMem B w g room ps ds md th v7 v8) (t : Touch (fun b => v8.ownBlock = some b) w w') {th' : List Bool} {v : Value} (ho : w'.ownsRow B 4 1 v th'.length (bc th'))
    (ha : ∀ b, v.ownBlock = some b → v8.ownBlock = some b ∨ w.heap.size ≤ b) : OnceMem B w' g room ps ds md th' v7 v := by
  obtain ⟨F, h1, h2, h3, h4, h5, h6⟩ := h
  refine ⟨F, h1.keep t (fun b hf hb => h6 b hb hf), h2.more t.size, row_touch h3 t (fun b hb hx => row_row_ne h3 h4 (by decide) hb hx), ho, h5, ?_⟩
  intro b hb hf
  rcases ha b hb with x | x
  · exact h6 b x hf
  · have := (h2 b hf).2; omega
theorem OnceMem.row7 (h : OnceMem B w g room ps ds md th v7 v8) : w.ownsRow B 30 2 v7 md.length (idc md) := by
  obtain ⟨_, _, _, h3, _⟩ := h; exact h3
theorem OnceMem.row8 (h : OnceMem B w g room ps ds md th v7 v8) : w.ownsRow B 4 1 v8 th.length (bc th) := by
  obtain ⟨_, _, _, _, h4, _⟩ := h; exact h4
end

/-- The world of a loop that only draws. -/
def DrawRel (W : World) (L : Nat) (j : Value) (wq : World) : Prop := ∃ q c : Nat, c ≤ L ∧ j = .int .i64 c ∧ wq = W.drewN q

/-- What holds behind the call of Make in a round of IdsOnce. -/
def OnceMid (w : World) (g : Nat) (room : Int) (k : Nat) (v7 v8 v9 : Value) (ws : World) : Prop :=
  ∃ (cx : Nat) (ps : List (Int × Bool)) (ds : List Int) (md : List (Int × Int)) (th : List Bool), OnceInv room ps ds md th ∧ md.length ≤ k + 1 ∧ v9 = .int .i64 cx ∧ (allI 0 ps).length = cx ∧ OnceMem w.heap.size ws g room ps ds md th v7 v8 ∧ Touch NoB w ws


theorem and_low (z : Int) : 0 ≤ bits .and .i64 z 1023 ∧ bits .and .i64 z 1023 ≤ 1023 := by
  have h : bits .and .i64 z 1023 = IntKind.i64.wrap ((BitVec.ofInt 64 z &&& BitVec.ofInt 64 1023).toNat : Int) := rfl
  have h2 : (BitVec.ofInt 64 z).toNat &&& (BitVec.ofInt 64 1023).toNat ≤ (BitVec.ofInt 64 1023).toNat := Nat.and_le_right
  have h3 : (BitVec.ofInt 64 1023).toNat = 1023 := by decide
  rw [h, BitVec.toNat_and, IntKind.wrap_i64]
  omega
theorem mod_low (z : Int) (L : Nat) : ∃ kk : Nat, (bits .and .i64 z 1023).tmod ((L : Int) + 1) = kk ∧ kk ≤ L := by
  obtain ⟨h1, _⟩ := and_low z
  obtain ⟨a, ha⟩ := Int.eq_ofNat_of_zero_le h1
  refine ⟨a % (L + 1), ?_, by have := Nat.mod_lt a (show 0 < L + 1 by omega); omega⟩
  rw [ha, show ((L : Int) + 1) = ((L + 1 : Nat) : Int) from rfl, Int.ofNat_tmod]

theorem quiet_num {P : Program} {f : FuncId} {args : Array Value} {w : World} {n : Nat} {v : Value}
    (h : Calls P f args (w.drewN n) fun e w' => e = .returned v ∧ w.drewN n = w') : Calls P f args (w.drewN n) fun e w'' => e = .returned v ∧ ∃ m, w'' = w.drewN m :=
  h.mono fun _ _ ⟨he, hm⟩ => ⟨he, n, hm.symm⟩

/-- The worlds of the last loop of a round: nothing that was there changes. -/
def QuietRel (W : World) (L : Nat) (j : Value) (wq : World) : Prop := ∃ c : Nat, c ≤ L ∧ j = .int .i64 c ∧ Touch NoB W wq


/-- A cell of the row of bools is written. -/
theorem OnceMem.store {B : Nat} {w : World} {g : Nat} {room : Int} {ps : List (Int × Bool)} {ds : List Int} {md : List (Int × Int)} {th : List Bool} {v7 : Value} {gt L cap : Nat}
    (h : OnceMem B w g room ps ds md th v7 (.slice (some ⟨gt, 0, none⟩) L cap)) (hL : th.length = L) (j : Nat) (b : Bool) : OnceMem B (w.setCell ⟨gt, j, none⟩ (.bool b)) g room ps ds md (th.set j b) v7 (.slice (some ⟨gt, 0, none⟩) L cap) := by
  have r8 := h.row8
  rw [hL] at r8
  refine h.app8 (Touch.setCell (F := fun b => (Value.slice (some ⟨gt, 0, none⟩) L cap).ownBlock = some b) (p := ⟨gt, j, none⟩) (Touch.refl _ w) (.inl rfl) (.bool b)) ?_ (fun b hb => .inl hb)
  rw [List.length_set, hL, bc_set]
  exact (r8.stored j (.bool b)).1

end Go.Proofs.Ytmafhcfdamhejaa
