/-
  The document's own token, said of lists: a number, a sign; what signs returns. Conditions: those that each theorem names.
-/
import Derived.Test.YtbikpbmknneabaaGreatZs29
import Derived.Test.YtbikpbmknneabaaGreatZs8
section
namespace Go.Proofs.YtbikpbmknneabaaGreat
open Go.ChangeShapes Go.WideShapes Go.ChangeAt Go.RowKit
set_option maxRecDepth 100000
set_option maxHeartbeats 4000000

/-- A number, or none, by the run of letters and digits. -/
theorem tok_word {b : Bs} {a k : Nat} {c : UInt8} (h : b[a]? = some c) (hl : bD c = true) (hr : Run bW b a k) (he : ∀ d, b[k]? = some d → bW d = false) :
    tokL a (b.drop a) = if (cut b a k).all bD = true ∧ valL (cut b a k) ≤ 9223372036854775807 ∧ ¬ (c.toNat = 48 ∧ 1 < k - a) then some (⟨3, valL (cut b a k), a, []⟩, k - a) else none := by
  have hw := hr.end he
  have hn := hr.len
  rw [drop_at h] at hw
  rw [drop_at h]
  rw [tokL]
  rw [if_pos hl, hw, ← drop_at h]
  unfold cut
  rw [hn]
theorem cut_succ {b : Bs} {a i : Nat} {d : UInt8} (ha : a ≤ i) (h : b[i]? = some d) : cut b a (i + 1) = cut b a i ++ [d] := by
  unfold cut
  have e : (b.drop a)[i - a]? = some d := by rw [List.getElem?_drop, show a + (i - a) = i from by omega]; exact h
  rw [show i + 1 - a = (i - a) + 1 from by omega, List.take_add_one, e]
  rfl
theorem cut_same (b : Bs) (a : Nat) : cut b a a = [] := by unfold cut; simp
theorem cut_more {b : Bs} {a i k : Nat} (h1 : a ≤ i) (h2 : i ≤ k) : cut b a k = cut b a i ++ cut b i k := by
  unfold cut
  rw [show k - a = (i - a) + (k - i) from by omega, List.take_add, List.drop_drop, show a + (i - a) = i from by omega]
theorem val_more (x y : Bs) : valL x ≤ valL (x ++ y) := by
  have : valL (x ++ y) = fold10 (valL x) y := by unfold valL fold10; rw [List.foldl_append]
  rw [this]
  exact fold_ge y _

/-- The signs, in the document's order. -/
def sgS : List Bs := [[58, 61], [60, 61], [62, 61], [61, 61], [123], [125], [40], [41], [59], [58], [61], [60], [43], [45], [42], [47], [44], [39]]
def tstB (n : Nat) (q : Bool) (l : Bs) : Bool := match l with
  | [x] => n == x.toNat
  | [x, _] => n == x.toNat && q
  | _ => false
def sgnB (n : Nat) (q : Bool) : Nat :=
  if (n = 58 ∨ n = 60 ∨ n = 62 ∨ n = 61) ∧ q = true then 2
  else if n = 123 ∨ n = 125 ∨ n = 40 ∨ n = 41 ∨ n = 59 ∨ n = 58 ∨ n = 61 ∨ n = 60 ∨ n = 43 ∨ n = 45 ∨ n = 42 ∨ n = 47 ∨ n = 44 ∨ n = 39 then 1 else 0
theorem sgn_tab : ∀ n, n < 256 → ∀ q : Bool, (sgS.find? (tstB n q)).map List.length = (if sgnB n q = 0 then none else some (sgnB n q)) := by decide +kernel
theorem eqB_nat (x y : UInt8) : (x == y) = (x.toNat == y.toNat) := by
  rw [Bool.eq_iff_iff, beq_iff_eq, beq_iff_eq]
  exact ⟨fun h => by rw [h], fun h => UInt8.toNat_inj.1 h⟩
theorem beg_tst {b : Bs} {a : Nat} {c : UInt8} (h : b[a]? = some c) : ∀ l ∈ sgS, begB b a l = tstB c.toNat (equal1 (b.drop (a + 1))) l := by
  have h1 : ∀ x : UInt8, begB b a [x] = (c.toNat == x.toNat) := fun x => by
    unfold begB cut
    rw [show a + ([x] : Bs).length - a = 1 from by simp, drop_at h, List.take_succ_cons, List.take_zero, ← eqB_nat, Bool.eq_iff_iff]
    simp
  have h2 : ∀ x : UInt8, begB b a [x, 61] = (c.toNat == x.toNat && equal1 (b.drop (a + 1))) := fun x => by
    unfold begB cut
    rw [show a + ([x, 61] : Bs).length - a = 2 from by simp, drop_at h, List.take_succ_cons, ← eqB_nat]
    cases b.drop (a + 1) with
    | nil => simp [equal1]
    | cons d r =>
      simp only [List.take_succ_cons, List.take_zero, equal1]
      have e : decide (d.toNat = 61) = (d == 61) := by
        rw [eqB_nat]; rw [Bool.eq_iff_iff]; simp
      rw [e, Bool.eq_iff_iff]
      simp
  intro l hl
  simp only [sgS, List.mem_cons, List.not_mem_nil, or_false] at hl
  rcases hl with rfl | rfl | rfl | rfl | rfl | rfl | rfl | rfl | rfl | rfl | rfl | rfl | rfl | rfl | rfl | rfl | rfl | rfl
  all_goals first | exact h2 _ | exact h1 _
theorem sgn_b (c : UInt8) (r : Bs) : sgnL c r = sgnB c.toNat (equal1 r) := rfl
/-- The first sign that stands here, if any, is the sign that the lexer on lists finds. -/
theorem sign_first {b : Bs} {a : Nat} {c : UInt8} (h : b[a]? = some c) (h1 : bL c = false) (h2 : bD c = false) {i : Nat} {l : Bs} (hi : sgS[i]? = some l) (hyes : begB b a l = true) (hno : ∀ (j : Nat) (m : Bs), j < i → sgS[j]? = some m → begB b a m = false) :
    tokL a (b.drop a) = some (⟨4, 0, a, l⟩, l.length) := by
  have ht := sgn_tab c.toNat (by have := c.toNat_lt; omega) (equal1 (b.drop (a + 1)))
  have hf : sgS.find? (tstB c.toNat (equal1 (b.drop (a + 1)))) = some l := by
    rw [List.find?_eq_some_iff_getElem]
    obtain ⟨hil, hie⟩ := List.getElem?_eq_some_iff.1 hi
    refine ⟨by rw [← beg_tst h l (List.mem_of_getElem? hi)]; exact hyes, i, hil, hie, fun j hj => ?_⟩
    have hjl : j < sgS.length := by omega
    have := hno j sgS[j] hj (List.getElem?_eq_getElem hjl)
    rw [beg_tst h _ (List.getElem_mem hjl)] at this
    simp [this]
  rw [hf, ← sgn_b] at ht
  rw [tok_sign h h1 h2]
  have hlpos : l.length ≠ 0 := by
    have : ∀ x ∈ sgS, x.length ≠ 0 := by decide
    exact this l (List.mem_of_getElem? hi)
  by_cases e : sgnL c (b.drop (a + 1)) = 0
  · rw [if_pos e] at ht; cases ht
  · rw [if_neg e] at ht ⊢
    simp only [Option.map_some, Option.some.injEq] at ht
    rw [← ht]
    have : cut b a (a + l.length) = l := beq_iff_eq.1 hyes
    rw [this]
theorem sign_none {b : Bs} {a : Nat} {c : UInt8} (h : b[a]? = some c) (h1 : bL c = false) (h2 : bD c = false) (hno : ∀ (j : Nat) (m : Bs), sgS[j]? = some m → begB b a m = false) : tokL a (b.drop a) = none := by
  have ht := sgn_tab c.toNat (by have := c.toNat_lt; omega) (equal1 (b.drop (a + 1)))
  have hf : sgS.find? (tstB c.toNat (equal1 (b.drop (a + 1)))) = none := by
    rw [List.find?_eq_none]
    intro x hx
    obtain ⟨j, hj⟩ := List.mem_iff_getElem?.1 hx
    rw [← beg_tst h x hx, hno j x hj]
    simp
  rw [hf, ← sgn_b] at ht
  rw [tok_sign h h1 h2]
  by_cases e : sgnL c (b.drop (a + 1)) = 0
  · rw [if_pos e]
  · rw [if_neg e] at ht; cases ht

def sgA : Array Value := (sgS.map fun b => Value.string (bs b)).toArray
theorem sgS_len : sgS.length = 18 := by decide
theorem signs_any' (w : World) : Calls Tryz.prog 59 #[] w fun e w' => ∃ g, e = .returned (.slice (some ⟨g, 0, none⟩) 18 18) ∧ (w.heap.size ≤ g ∧ g < w'.heap.size) ∧ (∀ (j : Nat) (l : Bs), sgS[j]? = some l → w'.cell? ⟨g, j, none⟩ = some (.string (bs l))) ∧ Touch NoB w w' := by
  go_enter Tryz.func59, Tryz.ntmps59
  go_wp2
  go_ret
  refine ⟨_, rfl, ⟨Nat.le_refl _, by simp⟩, fun j l hj => ?_, (Touch.refl _ _).alloc _⟩
  show (w.alloc (.cells sgA 9 (0, 0))).cell? _ = _
  rw [cell_of_row _ _ _ _ _ _ (heap_alloc_new w (.cells sgA 9 (0, 0)))]
  unfold sgA
  rw [List.getElem?_toArray, List.getElem?_map, hj]
  rfl
end Go.Proofs.YtbikpbmknneabaaGreat
end
/-
  The document's own token, where a digit begins it: a number, or none. Conditions: at most 65536 bytes.
-/
section
namespace Go.Proofs.YtbikpbmknneabaaGreat
open Go.ChangeShapes Go.WideShapes Go.ChangeAt Go.RowKit
set_option maxRecDepth 100000
set_option maxHeartbeats 4000000

/-- What the document's own token returns. -/
def TnPost (w : World) (b : Bs) (a : Nat) (e : Ending) (w' : World) : Prop := Touch NoB w w' ∧ match tokL a (b.drop a) with
  | none => ∃ (x0 x1 x2 : Int) (x3 : ByteArray), e = .returned (.tuple #[.agg #[.int .i64 x0, .int .i64 x1, .int .i64 x2, .string x3], .int .i64 a, .int .i64 2])
  | some (t, k) => e = .returned (.tuple #[.agg #[.int .i64 t.kd, .int .i64 t.n, .int .i64 t.pl, .string (bs t.tx)], .int .i64 (a + k : Nat), .int .i64 0])
def TnRel (b : Bs) (a : Nat) (w1 : World) (v8 : Value) (wr : World) : Prop := ∃ k : Nat, Run bW b a k ∧ v8 = .int .i64 k ∧ wr = w1
def TdRel (b : Bs) (a k : Nat) (w1 : World) (v10 v11 : Value) (wr : World) : Prop := ∃ i : Nat, i ≤ k ∧ Run bD b a i ∧ valL (cut b a i) ≤ 9223372036854775807 ∧ v10 = .int .i64 (valL (cut b a i)) ∧ v11 = .int .i64 i ∧ wr = w1
def TsRel (b : Bs) (a : Nat) (w1 : World) (v13 : Value) (wr : World) : Prop := ∃ i : Nat, i ≤ 18 ∧ v13 = .int .i64 i ∧ (∀ (j : Nat) (m : Bs), j < i → sgS[j]? = some m → begB b a m = false) ∧ wr = w1

theorem token_digit {A : Option Addr} {n cap : Nat} {b : Bs} {w : World} (hn : b.length = n) (hcap : n ≤ cap) (hmax : n ≤ 65536) (hb : BAt w A b) {a : Nat} (ha : a < n) {c : UInt8} (hc : b[a]? = some c) (hD : bD c = true) :
    Calls Tryz.prog 31 #[.slice A n cap, .int .i64 a] w (TnPost w b a) := by
  have _ := hcap
  obtain ⟨blk, off, rfl, hblk, -, hcells⟩ := bat_at hb (by rw [hn]; exact ha)
  have hca := hcells a c hc
  have HCells := Lib.hid hcells
  have HN := Lib.hid hn
  have HC := Lib.hid hc
  have HB := Lib.hid hb
  have HD := Lib.hid hD
  clear hD
  have HRL := Lib.hid (fun c w => rletter_any c w)
  have HRD := Lib.hid (fun c w => rdigit_any c w)
  clear hn hb hcells
  obtain ⟨x, hx⟩ : ∃ x, (c.toNat : Int) = x := ⟨_, rfl⟩
  rw [hx] at hca
  have HX := Lib.hid hx
  clear hx hc
  go_enter Tryz.func31, Tryz.ntmps31
  go_upto_region 1 with fail
  have hb4 := alloc_blk w #[.int .i64 0, .int .i64 0, .int .i64 0, .string ⟨#[]⟩] 52 rfl
  obtain ⟨W1, hW1⟩ : ∃ W1, w.alloc (.cells #[.int .i64 0, .int .i64 0, .int .i64 0, .string ⟨#[]⟩] 52) = W1 := ⟨_, rfl⟩
  have hT1 : Touch NoB w W1 := by rw [← hW1]; exact (Touch.refl _ _).alloc _
  obtain ⟨N4, hN4⟩ : ∃ N4, w.heap.size = N4 := ⟨_, rfl⟩
  rw [hN4, hW1] at hb4
  rw [hN4, hW1]
  have hca1 : W1.cell? ⟨blk, off + a, none⟩ = some (.int .u8 x) := (hT1.cell (p := ⟨blk, off + a, none⟩) hblk (fun x => x)).trans hca
  have HC1 := Lib.hid (fun (i : Nat) (d : UInt8) (hd : b[i]? = some d) => (hT1.cell (p := ⟨blk, off + i, none⟩) hblk (fun x => x)).trans (HCells.out i d hd))
  have hl1 : blk < W1.heap.size := Nat.lt_of_lt_of_le hblk hT1.size
  have hbn : blk < N4 := by omega
  have HN4 : w.heap.size ≤ N4 := by omega
  have HB4 := Lib.hid hb4
  have HT1 := Lib.hid hT1
  clear hW1 hN4 hca hb4 hT1
  go_wp2
  go_loopw [8] (fun v8 wr => TnRel b a W1 v8 wr) (fun v8 _ => n - (intOf v8).toNat)
  case atStart => exact ⟨a, Run.start _ (by rw [HN.out]; omega), rfl, rfl⟩
  case round =>
    obtain ⟨k, hrun, rfl, hwr⟩ := hrel
    subst hwr
    have hk : k ≤ n := by rw [← HN.out]; exact hrun.2.1
    have HRun := Lib.hid hrun
    have hak : a ≤ k := hrun.1
    clear hrun
    by_cases hgo : ∃ d, b[k]? = some d ∧ bW d = true
    · obtain ⟨d, hd, hdw⟩ := hgo
      have hlt : k < n := by rw [← HN.out]; exact (List.getElem?_eq_some_iff.1 hd).1
      have hcd := HC1.out k d hd
      have HP := Lib.hid (fun W => rletter_any (d.toNat : Int) W)
      rw [show okB (d.toNat : Int) = true from by rw [okB_b]; exact hdw] at HP
      have HD := Lib.hid (And.intro hd hdw)
      obtain ⟨y, hy⟩ : ∃ y, (d.toNat : Int) = y := ⟨_, rfl⟩
      rw [hy] at hcd HP
      clear hy hd hdw
      go_wp2_with fail
      refine (HP.out _).mono ?_
      rintro e w' ⟨rfl, rfl⟩
      go_wp2
      go_roundw
      case rel => exact ⟨k + 1, HRun.out.next HD.out.1 HD.out.2, by go_num, rfl⟩
      case measure => simp [intOf]; omega
    · have he : ∀ d, b[k]? = some d → bW d = false := fun d hd => by
        cases hw : bW d
        · rfl
        · exact absurd ⟨d, hd, hw⟩ hgo
      have HEnd := Lib.hid he
      have HG := Lib.hid hgo
      clear he hgo
      have hways : (k < n ∧ ∃ y, wr.cell? ⟨blk, off + k, none⟩ = some (.int .u8 y) ∧ okB y = false) ∨ k = n := by
        rcases Nat.lt_or_ge k n with h | h
        · obtain ⟨d, hd⟩ : ∃ d, b[k]? = some d := ⟨b[k]'(by rw [HN.out]; exact h), List.getElem?_eq_getElem _⟩
          exact .inl ⟨h, _, HC1.out k d hd, by rw [okB_b]; exact HEnd.out d hd⟩
        · exact .inr (by omega)
      rcases hways with hways | hkn
      all_goals
        first
        | (obtain ⟨hlt, y, hcy, hoy⟩ := hways
           have HP := Lib.hid (fun W => rletter_any y W)
           rw [hoy] at HP
           clear hoy
           go_wp2_with fail
           refine (HP.out _).mono ?_
           rintro e w' ⟨rfl, rfl⟩
           clear HP hcy hlt)
        | (have hd : decide ((k : Int) < (n : Int)) = false := by simp; omega
           have hnk : ¬ k < n := by omega
           clear hkn)
      all_goals
        go_upto_region 6 with fail
        have hb9 := alloc_blk wr #[.int .i64 0, .int .i64 0, .int .i64 a, .string ⟨#[]⟩] 52 rfl
        obtain ⟨W2, hW2⟩ : ∃ W2, wr.alloc (.cells #[.int .i64 0, .int .i64 0, .int .i64 a, .string ⟨#[]⟩] 52) = W2 := ⟨_, rfl⟩
        have hT2 : Touch NoB wr W2 := by rw [← hW2]; exact (Touch.refl _ _).alloc _
        have h4l := blk_lt HB4.out
        have hb4 := (hT2.block _ h4l (fun x => x)).trans HB4.out
        obtain ⟨N9, hN9⟩ : ∃ N9, wr.heap.size = N9 := ⟨_, rfl⟩
        have h49 : N4 ≠ N9 := by omega
        have h94 : N9 ≠ N4 := by omega
        have HN9 : w.heap.size ≤ N9 := by omega
        rw [hN9, hW2] at hb9
        rw [hN9, hW2]
        have HT2 := Lib.hid (HT1.out.same hT2)
        have HC2 := Lib.hid (fun (i : Nat) (d : UInt8) (hd : b[i]? = some d) => (hT2.cell (p := ⟨blk, off + i, none⟩) hl1 (fun x => x)).trans (HC1.out i d hd))
        have c0 := cell_blk hb9 0
        have c1 := cell_blk hb9 1
        have c2 := cell_blk hb9 2
        have c3 := cell_blk hb9 3
        have f0 := free_blk hb9 0
        have f1 := free_blk hb9 1
        have f2 := free_blk hb9 2
        have f3 := free_blk hb9 3
        have r0 := cell_blk hb4 0
        have r1 := cell_blk hb4 1
        have r2 := cell_blk hb4 2
        have r3 := cell_blk hb4 3
        have g0 := free_blk hb4 0
        have g1 := free_blk hb4 1
        have g2 := free_blk hb4 2
        have g3 := free_blk hb4 3
        have p9l := blk_lt hb9
        have p4l := blk_lt hb4
        have HB9 := Lib.hid hb9
        have HB42 := Lib.hid hb4
        clear hb4 hb9 hW2 hT2 hN9 h4l
        have HPD := Lib.hid (fun w => HRD.out x w)
        rw [show digB x = true from by rw [← HX.out, digB_b]; exact HD.out] at HPD
        go_wp2_with fail
        refine (HPD.out _).mono ?_
        rintro e w' ⟨rfl, rfl⟩
        go_wp2
        go_loopw [10, 11] (fun v10 v11 wr => TdRel b a k W2 v10 v11 wr) (fun _ v11 _ => k - (intOf v11).toNat)
        case atStart => exact ⟨a, hak, Run.start _ (by rw [HN.out]; omega), by rw [cut_same]; decide, by rw [cut_same]; rfl, rfl, rfl⟩
        case round =>
          obtain ⟨i, hik, hrun2, hval, rfl, rfl, hwr⟩ := hrel
          subst hwr
          have hai : a ≤ i := hrun2.1
          have HR2 := Lib.hid hrun2
          clear hrun2
          have hkb : k ≤ n := by rw [← HN.out]; exact HRun.out.2.1
          by_cases hlt2 : i < k
          · obtain ⟨d, hd⟩ : ∃ d, b[i]? = some d := ⟨b[i]'(by rw [HN.out]; omega), List.getElem?_eq_getElem _⟩
            have hcd := HC2.out i d hd
            have HD2 := Lib.hid hd
            have hbd : bD d = decide (48 ≤ d.toNat ∧ d.toNat ≤ 57) := rfl
            have hdb := digB_b d
            obtain ⟨y, hy⟩ : ∃ y, (d.toNat : Int) = y := ⟨_, rfl⟩
            rw [hy] at hcd hdb
            have HY := Lib.hid hy
            have HPD2 := Lib.hid (fun w => HRD.out y w)
            clear hd hy
            cases hbv : bD d
            · rw [hdb, hbv] at HPD2
              have HNo : Hid (tokL a (b.drop a) = none) := Lib.hid (by
                rw [tok_word HC.out HD.out HRun.out HEnd.out, if_neg]
                rintro ⟨h1, -⟩
                rw [List.all_eq_true] at h1
                have hmem : d ∈ cut b a k := by
                  rw [cut_more (i := i + 1) (by omega) (by omega), cut_succ hai HD2.out]
                  simp
                have := h1 d hmem
                rw [hbv] at this
                cases this)
              clear hbv hbd hdb
              go_wp2_with fail
              refine (HPD2.out _).mono ?_
              rintro e w' ⟨rfl, rfl⟩
              go_wp2
              have hz := set4 HB42.out (.int .i64 0) (.int .i64 0) (.int .i64 a) (.string ⟨#[]⟩)
              have d0 := cell_blk hz 0
              have d1 := cell_blk hz 1
              have d2 := cell_blk hz 2
              have d3 := cell_blk hz 3
              exact bodyPost_ret (v := .tuple #[.agg #[.int .i64 0, .int .i64 0, .int .i64 a, .string ⟨#[]⟩], .int .i64 a, .int .i64 2]) (by simp [results, Tryz.results31, go_sem, d0, d1, d2, d3]) rfl ⟨touch4 HT2.out (.inr HN4) _ _ _ _, by rw [HNo.out]; exact ⟨_, _, _, _, rfl⟩⟩
            · rw [hdb, hbv] at HPD2
              have hdd : 48 ≤ d.toNat ∧ d.toNat ≤ 57 := by rw [hbv] at hbd; exact of_decide_eq_true hbd.symm
              obtain ⟨dd, hdq⟩ : ∃ dd, d.toNat - 48 = dd := ⟨_, rfl⟩
              have hyd : y = 48 + (dd : Int) := by have := HY.out; omega
              have hd9 : dd ≤ 9 := by omega
              have hsn : valL (cut b a (i + 1)) = 10 * valL (cut b a i) + dd := by rw [cut_succ hai HD2.out, val_snoc, hdq]
              have HBV := Lib.hid hbv
              obtain ⟨v, hv⟩ : ∃ v, valL (cut b a i) = v := ⟨_, rfl⟩
              rw [hv] at hval hsn ⊢
              have HSN := Lib.hid hsn
              clear hbd hdb hbv hdd hdq hv hsn
              have e1 : IntKind.u8.wrap (y - 48) = (dd : Int) := by
                rw [hyd, show 48 + (dd : Int) - 48 = (dd : Int) from by omega]
                simp only [IntKind.wrap, IntKind.signed, IntKind.bits]
                first | omega | (simp; omega)
              have e2 : IntKind.i64.wrap (dd : Int) = (dd : Int) := IntWalk.i64_in _ (by omega)
              obtain ⟨mx, hmx⟩ : ∃ mx, 9223372036854775807 - dd = mx := ⟨_, rfl⟩
              have e3 : IntKind.i64.wrap (9223372036854775807 - (dd : Int)) = (mx : Int) := by
                rw [show 9223372036854775807 - (dd : Int) = (mx : Int) from by omega]; exact IntWalk.i64_in _ (by omega)
              obtain ⟨qq, hqq⟩ : ∃ qq, mx / 10 = qq := ⟨_, rfl⟩
              have e4 : ((mx : Int).tdiv 10) = (qq : Int) := by rw [Int.tdiv_eq_ediv_of_nonneg (by omega)]; omega
              have e4' : IntKind.i64.wrap (qq : Int) = (qq : Int) := IntWalk.i64_in _ (by omega)
              by_cases hov : qq < v
              · have hdec : decide ((qq : Int) < (v : Int)) = true := by simp; omega
                have HNo : Hid (tokL a (b.drop a) = none) := Lib.hid (by
                  rw [tok_word HC.out HD.out HRun.out HEnd.out, if_neg]
                  rintro ⟨-, h1, -⟩
                  rw [cut_more (i := i + 1) (by omega) (by omega)] at h1
                  have h2 := val_more (cut b a (i + 1)) (cut b (i + 1) k)
                  rw [HSN.out] at h2
                  omega)
                clear hyd hmx hqq
                go_wp2_with fail
                refine (HPD2.out _).mono ?_
                rintro e w' ⟨rfl, rfl⟩
                go_wp2
                have hz := set4 HB42.out (.int .i64 0) (.int .i64 0) (.int .i64 a) (.string ⟨#[]⟩)
                have d0 := cell_blk hz 0
                have d1 := cell_blk hz 1
                have d2 := cell_blk hz 2
                have d3 := cell_blk hz 3
                exact bodyPost_ret (v := .tuple #[.agg #[.int .i64 0, .int .i64 0, .int .i64 a, .string ⟨#[]⟩], .int .i64 a, .int .i64 2]) (by simp [results, Tryz.results31, go_sem, d0, d1, d2, d3]) rfl ⟨touch4 HT2.out (.inr HN4) _ _ _ _, by rw [HNo.out]; exact ⟨_, _, _, _, rfl⟩⟩
              · have hdec : decide ((qq : Int) < (v : Int)) = false := by simp; omega
                obtain ⟨t10, ht10⟩ : ∃ t, 10 * v = t := ⟨_, rfl⟩
                obtain ⟨v2, hv2⟩ : ∃ v2, t10 + dd = v2 := ⟨_, rfl⟩
                have e5 : IntKind.i64.wrap (10 * (v : Int)) = (t10 : Int) := by
                  rw [show 10 * (v : Int) = (t10 : Int) from by omega]; exact IntWalk.i64_in _ (by omega)
                have e6 : IntKind.i64.wrap ((t10 : Int) + (dd : Int)) = (v2 : Int) := by
                  rw [show (t10 : Int) + (dd : Int) = (v2 : Int) from by omega]; exact IntWalk.i64_in _ (by omega)
                have HV2 : Hid (valL (cut b a (i + 1)) = v2 ∧ v2 ≤ 9223372036854775807) := Lib.hid (by rw [HSN.out]; omega)
                clear hyd hmx hqq ht10 hv2
                go_wp2_with fail
                refine (HPD2.out _).mono ?_
                rintro e w' ⟨rfl, rfl⟩
                go_wp2
                go_roundw
                case rel => exact ⟨i + 1, by omega, HR2.out.next HD2.out HBV.out, by rw [HV2.out.1]; exact HV2.out.2, by rw [HV2.out.1], by go_num, rfl⟩
                case measure => simp [intOf]; omega
          · obtain rfl : i = k := by omega
            obtain ⟨v, hv⟩ : ∃ v, valL (cut b a i) = v := ⟨_, rfl⟩
            have HV := Lib.hid hv
            rw [hv] at hval ⊢
            obtain ⟨kk, hkk⟩ : ∃ kk, i - a = kk := ⟨_, rfl⟩
            have e1 : IntKind.i64.wrap ((i : Int) - (a : Int)) = (kk : Int) := by
              rw [show (i : Int) - (a : Int) = (kk : Int) from by omega]; exact IntWalk.i64_in _ (by omega)
            have hall : (cut b a i).all bD = true := HR2.out.all
            have hx48 : (x == 48) = decide (c.toNat = 48) := by rw [← HX.out, Bool.eq_iff_iff]; simp; omega
            by_cases h48 : c.toNat = 48 ∧ 1 < kk
            · have hx1 : (x == 48) = true := by rw [hx48]; simpa using h48.1
              have hk1 : decide ((1 : Int) < (kk : Int)) = true := by have := h48.2; simp; omega
              have hk1' : 1 < kk := h48.2
              have HNo : Hid (tokL a (b.drop a) = none) := Lib.hid (by
                rw [tok_word HC.out HD.out HRun.out HEnd.out, if_neg]
                rintro ⟨-, -, h1⟩
                rw [hkk] at h1
                exact h1 h48)
              clear hv hkk hall hx48 h48
              go_wp2
              have hz := set4 HB42.out (.int .i64 0) (.int .i64 0) (.int .i64 a) (.string ⟨#[]⟩)
              have d0 := cell_blk hz 0
              have d1 := cell_blk hz 1
              have d2 := cell_blk hz 2
              have d3 := cell_blk hz 3
              exact bodyPost_ret (v := .tuple #[.agg #[.int .i64 0, .int .i64 0, .int .i64 a, .string ⟨#[]⟩], .int .i64 a, .int .i64 2]) (by simp [results, Tryz.results31, go_sem, d0, d1, d2, d3]) rfl ⟨touch4 HT2.out (.inr HN4) _ _ _ _, by rw [HNo.out]; exact ⟨_, _, _, _, rfl⟩⟩
            · have hYes : tokL a (b.drop a) = some (⟨3, v, a, []⟩, kk) := by
                rw [tok_word HC.out HD.out HRun.out HEnd.out, HV.out, hkk, if_pos ⟨hall, hval, h48⟩]
              have HYes := Lib.hid hYes
              have hik2 : a + kk = i := by omega
              have HIK := Lib.hid hik2
              have hways2 : (x == 48) = false ∨ ((x == 48) = true ∧ decide ((1 : Int) < (kk : Int)) = false ∧ ¬ 1 < kk) := by
                by_cases h0 : c.toNat = 48
                · right
                  have : ¬ 1 < kk := fun h1 => h48 ⟨h0, h1⟩
                  exact ⟨by rw [hx48]; simpa using h0, by simp; omega, this⟩
                · left; rw [hx48]; simpa using h0
              clear hv hkk hall hx48 h48 hYes hik2
              rcases hways2 with hx1 | ⟨hx1, hk1, hk1'⟩
              all_goals
                go_wp2
                have hz9 := set_blk (set_blk HB9.out 0 (.int .i64 3)) 1 (.int .i64 v)
                have hz4 := set4 (w := (wr.setCell ⟨N9, 0, none⟩ (.int .i64 3)).setCell ⟨N9, 1, none⟩ (.int .i64 v)) (((Touch.refl (fun x => x = N9) wr).setCell (p := ⟨N9, 0, none⟩) (.inl rfl) (.int .i64 3)).setCell (p := ⟨N9, 1, none⟩) (.inl rfl) (.int .i64 v) |>.block N4 p4l h49 |>.trans HB42.out) (.int .i64 3) (.int .i64 v) (.int .i64 a) (.string ⟨#[]⟩)
                have d0 := cell_blk hz4 0
                have d1 := cell_blk hz4 1
                have d2 := cell_blk hz4 2
                have d3 := cell_blk hz4 3
                exact bodyPost_ret (v := .tuple #[.agg #[.int .i64 3, .int .i64 v, .int .i64 a, .string ⟨#[]⟩], .int .i64 i, .int .i64 0]) (by simp [results, Tryz.results31, go_sem, d0, d1, d2, d3]) rfl ⟨touch4 ((HT2.out.setCell (p := ⟨N9, 0, none⟩) (.inr HN9) _).setCell (p := ⟨N9, 1, none⟩) (.inr HN9) _) (.inr HN4) _ _ _ _, by rw [HYes.out]; show _ = _; rw [HIK.out]; rfl⟩
end Go.Proofs.YtbikpbmknneabaaGreat
end
