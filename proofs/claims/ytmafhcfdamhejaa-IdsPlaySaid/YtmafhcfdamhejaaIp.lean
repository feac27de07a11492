/-
  What IdsPlay's own steps leave of its memory: a new identifier in a block of its own, a store into it, an append to what was made.
-/
import Derived.Test.YtmafhcfdamhejaaIo
namespace Go.Proofs.Ytmafhcfdamhejaa
open Go.ChangeShapes Go.WideShapes Go.ChangeAt Go.RowKit

section
variable {B : Nat} {w w' : World} {gs go gr : Nat} {room : Int} {ps : List (Int × Bool)} {ds : List Int} {po : List (Int × Bool)} {pr : List (Int × Bool)} {dr : List Int} {md : List (Int × Int)} {v9 : Value} {xs : List (Nat × Int × Int)}

theorem PlayMem.forget (h : PlayMem B w gs go gr room ps ds po pr dr md v9 xs) {ys : List (Nat × Int × Int)} (hy : ∀ q ∈ ys, q ∈ xs) : PlayMem B w gs go gr room ps ds po pr dr md v9 ys := by
  obtain ⟨Fs, Fo, Fr, a⟩ := h
  exact ⟨Fs, Fo, Fr, a.s, a.o, a.r, a.m, fun q hq => a.id q (hy q hq), a.is, a.io, a.ir, a.so, a.sr, a.or, a.ms, a.mo, a.mr, fun q hq => a.gs_ q (hy q hq), fun q hq => a.go_ q (hy q hq), fun q hq => a.gr_ q (hy q hq), fun q hq => a.gm_ q (hy q hq), a.size⟩

/-- A new block with an identifier. -/
theorem PlayMem.box (h : PlayMem B w gs go gr room ps ds po pr dr md v9 xs) (i x : Int) :
    PlayMem B (w.alloc (.cells #[.int .i64 i, .int .i64 x] 30)) gs go gr room ps ds po pr dr md v9 ((w.heap.size, i, x) :: xs) := by
  obtain ⟨Fs0, Fo0, Fr0, a0⟩ := h
  have t := ((Touch.refl NoB w).alloc (.cells #[.int .i64 i, .int .i64 x] 30))
  refine ⟨Fs0, Fo0, Fr0, a0.s.keep t (fun _ _ e => e), a0.o.keep t (fun _ _ e => e), a0.r.keep t (fun _ _ e => e), row_touch a0.m t (fun _ _ e => e), ?_, a0.is.more t.size, a0.io.more t.size, a0.ir.more t.size, a0.so, a0.sr, a0.or, a0.ms, a0.mo, a0.mr, ?_, ?_, ?_, ?_, Nat.le_trans a0.size t.size⟩
  · intro q hq
    rcases List.mem_cons.1 hq with rfl | hq
    · exact alloc_blk w _ _ rfl
    · exact (t.block q.1 (blk_lt (a0.id q hq)) (fun e => e)).trans (a0.id q hq)
  · intro q hq
    rcases List.mem_cons.1 hq with rfl | hq
    · intro e; have := (a0.is _ e).2; simp at this
    · exact a0.gs_ q hq
  · intro q hq
    rcases List.mem_cons.1 hq with rfl | hq
    · intro e; have := (a0.io _ e).2; simp at this
    · exact a0.go_ q hq
  · intro q hq
    rcases List.mem_cons.1 hq with rfl | hq
    · intro e; have := (a0.ir _ e).2; simp at this
    · exact a0.gr_ q hq
  · intro q hq
    rcases List.mem_cons.1 hq with rfl | hq
    · intro e; have := row_lt a0.m e; simp at this
    · exact a0.gm_ q hq

/-- Another identifier in the one block of its own. -/
theorem PlayMem.put {g : Nat} {i x : Int} (h : PlayMem B w gs go gr room ps ds po pr dr md v9 [(g, i, x)]) (i' x' : Int) :
    PlayMem B ((w.setCell ⟨g, 0, none⟩ (.int .i64 i')).setCell ⟨g, 1, none⟩ (.int .i64 x')) gs go gr room ps ds po pr dr md v9 [(g, i', x')] := by
  obtain ⟨Fs, Fo, Fr, a⟩ := h
  have m0 : (g, i, x) ∈ [(g, i, x)] := List.mem_singleton.2 rfl
  have hg := a.id _ m0
  have t : Touch (fun b => b = g) w ((w.setCell ⟨g, 0, none⟩ (.int .i64 i')).setCell ⟨g, 1, none⟩ (.int .i64 x')) :=
    (((Touch.refl (fun b => b = g) w).setCell (p := ⟨g, 0, none⟩) (.inl rfl) _).setCell (p := ⟨g, 1, none⟩) (.inl rfl) _)
  have ns : Dis Fs (fun b => b = g) := fun b hb e => a.gs_ _ m0 (by subst e; exact hb)
  have no : Dis Fo (fun b => b = g) := fun b hb e => a.go_ _ m0 (by subst e; exact hb)
  have nr : Dis Fr (fun b => b = g) := fun b hb e => a.gr_ _ m0 (by subst e; exact hb)
  refine ⟨Fs, Fo, Fr, a.s.keep t ns, a.o.keep t no, a.r.keep t nr, row_touch a.m t (fun k hk e => a.gm_ _ m0 (by subst e; exact hk)), ?_, a.is.more t.size, a.io.more t.size, a.ir.more t.size, a.so, a.sr, a.or, a.ms, a.mo, a.mr, ?_, ?_, ?_, ?_, Nat.le_trans a.size t.size⟩
  · intro q hq
    rw [List.mem_singleton] at hq
    subst hq
    have h1 := set_blk (set_blk hg 0 (.int .i64 i')) 1 (.int .i64 x')
    simpa using h1
  · intro q hq; rw [List.mem_singleton] at hq; subst hq; exact a.gs_ (g, i, x) m0
  · intro q hq; rw [List.mem_singleton] at hq; subst hq; exact a.go_ (g, i, x) m0
  · intro q hq; rw [List.mem_singleton] at hq; subst hq; exact a.gr_ (g, i, x) m0
  · intro q hq; rw [List.mem_singleton] at hq; subst hq; exact a.gm_ (g, i, x) m0

/-- An append to the row of what was made. -/
theorem PlayMem.app (h : PlayMem B w gs go gr room ps ds po pr dr md v9 xs) {md' : List (Int × Int)} {v : Value} (t : Touch (fun b => v9.ownBlock = some b) w w') (hr : w'.ownsRow B 30 2 v md'.length (idc md'))
    (hat : ∀ b, v.ownBlock = some b → v9.ownBlock = some b ∨ w.heap.size ≤ b) : PlayMem B w' gs go gr room ps ds po pr dr md' v xs := by
  obtain ⟨Fs, Fo, Fr, a⟩ := h
  refine ⟨Fs, Fo, Fr, a.s.keep t (fun b hb e => a.ms b e hb), a.o.keep t (fun b hb e => a.mo b e hb), a.r.keep t (fun b hb e => a.mr b e hb), hr, ?_, a.is.more t.size, a.io.more t.size, a.ir.more t.size, a.so, a.sr, a.or, ?_, ?_, ?_, a.gs_, a.go_, a.gr_, ?_, Nat.le_trans a.size t.size⟩
  · exact fun q hq => (t.block q.1 (blk_lt (a.id q hq)) (a.gm_ q hq)).trans (a.id q hq)
  · intro b hb e
    rcases hat b hb with x | x
    · exact a.ms b x e
    · have := (a.is b e).2; omega
  · intro b hb e
    rcases hat b hb with x | x
    · exact a.mo b x e
    · have := (a.io b e).2; omega
  · intro b hb e
    rcases hat b hb with x | x
    · exact a.mr b x e
    · have := (a.ir b e).2; omega
  · intro q hq e
    rcases hat _ e with x | x
    · exact a.gm_ q hq x
    · have := blk_lt (a.id q hq); omega

theorem PlayMem.row (h : PlayMem B w gs go gr room ps ds po pr dr md v9 xs) : w.ownsRow B 30 2 v9 md.length (idc md) := by
  obtain ⟨Fs, Fo, Fr, a⟩ := h
  exact a.m
theorem PlayMem.blk (h : PlayMem B w gs go gr room ps ds po pr dr md v9 xs) {g : Nat} {i x : Int} (hq : (g, i, x) ∈ xs) : w.heap[g]? = some (.cells #[.int .i64 i, .int .i64 x] 30 (0, 0)) := by
  obtain ⟨Fs, Fo, Fr, a⟩ := h
  exact a.id _ hq
theorem PlayMem.size (h : PlayMem B w gs go gr room ps ds po pr dr md v9 xs) : B ≤ w.heap.size := by
  obtain ⟨Fs, Fo, Fr, a⟩ := h
  exact a.size
theorem PlayMem.rows (h : PlayMem B w gs go gr room ps ds po pr dr md v9 xs) : gs < w.heap.size ∧ gr < w.heap.size ∧ go < w.heap.size := by
  obtain ⟨Fs, Fo, Fr, a⟩ := h
  obtain ⟨_, _, h1, _⟩ := a.s
  obtain ⟨_, _, _, h2, _⟩ := a.r
  obtain ⟨_, _, h3, _⟩ := a.o
  exact ⟨blk_lt h1, blk_lt h2, blk_lt h3⟩
end

/-- The memory as the law begins. -/
theorem play_start (w : World) (R : Int) :
    PlayMem w.heap.size (((w.alloc (.cells #[.int .i64 R, .slice none 0 0, .slice none 0 0] 73)).alloc (.cells #[.int .i64 7, .slice none 0 0, .slice none 0 0] 73)).alloc (.cells #[.int .i64 R, .slice none 0 0, .slice none 0 0, .slice none 0 0] 76))
      w.heap.size (w.heap.size + 1) (w.heap.size + 1 + 1) R [] [] [] [] [] [] (.slice none 0 0) [] := by
  have h1 := own_new w R
  have h2 := own_new (w.alloc (.cells #[.int .i64 R, .slice none 0 0, .slice none 0 0] 73)) 7
  have h3 := rown_new ((w.alloc (.cells #[.int .i64 R, .slice none 0 0, .slice none 0 0] 73)).alloc (.cells #[.int .i64 7, .slice none 0 0, .slice none 0 0] 73)) R
  simp only [World.size_alloc] at h2 h3
  refine ⟨_, _, _, (h1.alloc _).alloc _, h2.alloc _, h3, World.ownsRow_nil _ _ _ _, by simp, ?_, ?_, ?_, ?_, ?_, ?_, by simp [Value.ownBlock], by simp [Value.ownBlock], by simp [Value.ownBlock], by simp, by simp, by simp, by simp, by simp; omega⟩
  · rintro b rfl; simp; omega
  · rintro b rfl; simp
  · rintro b rfl; simp; omega
  · rintro b rfl e; omega
  · rintro b rfl e; omega
  · rintro b rfl e; omega

/-- What holds at the head of IdsPlay's loop. -/
def PlayRel (w : World) (B N gs go gr : Nat) (room : Int) (v9 i : Value) (wr : World) : Prop :=
  ∃ k : Nat, k ≤ N ∧ i = .int .i64 k ∧ ∃ ps ds po md, PInv room ps ds k ∧ md.length ≤ k ∧ PlayMem B wr gs go gr room ps ds po ps ds md v9 [] ∧ Touch NoB w wr
/-- What holds behind the choice of the identifier: the one block of its own. -/
def PlayMid (w : World) (B gs go gr g : Nat) (room : Int) (ps : List (Int × Bool)) (ds : List Int) (po : List (Int × Bool)) (md : List (Int × Int)) (v9 v : Value) (wr : World) : Prop :=
  ∃ i x, v = v9 ∧ PlayMem B wr gs go gr room ps ds po ps ds md v9 [(g, i, x)] ∧ Touch NoB w wr
/-- What holds behind the call of Drop or of Make. -/
def PlayEnd (w : World) (B gs go gr g k : Nat) (room : Int) (i x : Int) (v9 : Value) (wr : World) : Prop :=
  ∃ ps ds po md, PInv room ps ds (k + 1) ∧ md.length ≤ k + 1 ∧ PlayMem B wr gs go gr room ps ds po ps ds md v9 [(g, i, x)] ∧ Touch NoB w wr

/-- The j-th element of the list of calls: Drop, Made, Id.Index, Id.Gen, At. -/
def ActAt (w : World) (b off j : Nat) (dr mk : Bool) (i x n : Int) : Prop :=
  w.cell? ⟨b, off + j * 5, none⟩ = some (.bool dr) ∧ w.cell? ⟨b, off + j * 5 + 1, none⟩ = some (.bool mk) ∧ w.cell? ⟨b, off + j * 5 + 2, none⟩ = some (.int .i64 i) ∧ w.cell? ⟨b, off + j * 5 + 3, none⟩ = some (.int .i64 x) ∧ w.cell? ⟨b, off + j * 5 + 4, none⟩ = some (.int .i64 n)

theorem touch_below {F : Nat → Prop} {w a b : World} {B : Nat} (h : Touch F w a) (k : Below B a b) (hB : w.heap.size ≤ B) : Touch F w b :=
  h.trans (G := fun x => B ≤ x) ⟨k.os, k.tape, k.output, k.size, fun x _ hx => k.block x (by omega)⟩ (fun x hx => .inr (by omega))
end Go.Proofs.Ytmafhcfdamhejaa
