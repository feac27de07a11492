/-
  What package expr's Parse returns: what the parser over lists of tokens comes to. Conditions: names and numbers among the tokens are such; the table of levels can be read.
-/
import Derived.Test.YtkmbobfjoaldgaaGreatDoorQr
import Derived.Test.YtkmbobfjoaldgaaGreatDoorQp
import Derived.Test.YtkmbobfjoaldgaaGreatDoorQq
import Derived.Test.YtkmbobfjoaldgaaGreatDoorRows
import Derived.Test.YtkmbobfjoaldgaaGreatDoorLk
import Derived.LaidMore
import Derived.LaidHandle
import Derived.LaidLaws
import Derived.Stop.LaidErr
import Derived.MakeChecks
import Derived.Lib.LaidTab
import Derived.ChangeSlices
import Derived.Test.YtkmbobfjoaldgaaGreatDoorQf
namespace Go.Proofs.YtkmbobfjoaldgaaGreatDoor
open Go.ChangeShapes Go.WideShapes Go.ChangeAt Go.RowKit
set_option maxRecDepth 100000
set_option maxHeartbeats 4000000

theorem prim_any {gp g n cp B d d1 D : Nat} {ts : List Tk} {E : Nat → Rs} (HE : BinOk gp g n cp B ts 0 d1 D E) (hd1 : d1 = d + 1) (hds : d ≤ 1000) (hD : D ≤ 9000) (hB : B ≤ gp) (hok : NamesOk ts) : PriOk gp g n cp B ts d (D + 2) (primL ts E) := by
  intro w k e h hv
  by_cases h3 : (nxt ts k e).kd = 3
  · obtain rfl := kd_zero h3 (by decide)
    exact prim_num HE hd1 hds hD hB hok h hv h3
  · by_cases h1 : (nxt ts k e).kd = 1
    · obtain rfl := kd_zero h1 (by decide)
      exact prim_nam HE hd1 hds hD hB hok h hv h3 h1
    · cases c39 : acc (nxt ts k e) [39]
      case true =>
        obtain rfl := acc_zero c39
        cases hn : nameAt ts (k + 1) with
        | some s => exact prim_sym HE hd1 hds hD hB hok h hv h3 h1 c39 hn
        | none => exact prim_sym_no HE hd1 hds hD hB hok h hv h3 h1 c39 hn
      case false =>
        cases cT : acc (nxt ts k e) [116, 114, 117, 101]
        case true => obtain rfl := acc_zero cT; exact prim_cT HE hd1 hds hD hB hok h hv h3 h1 c39 cT
        case false =>
          cases cF : acc (nxt ts k e) [102, 97, 108, 115, 101]
          case true => obtain rfl := acc_zero cF; exact prim_cF HE hd1 hds hD hB hok h hv h3 h1 c39 cT cF
          case false =>
            cases cS : acc (nxt ts k e) [115, 101, 108, 102]
            case true => obtain rfl := acc_zero cS; exact prim_cS HE hd1 hds hD hB hok h hv h3 h1 c39 cT cF cS
            case false =>
              cases cM : acc (nxt ts k e) [116, 105, 109, 101]
              case true => obtain rfl := acc_zero cM; exact prim_cM HE hd1 hds hD hB hok h hv h3 h1 c39 cT cF cS cM
              case false =>
                cases cP : acc (nxt ts k e) [40]
                case true => obtain rfl := acc_zero cP; exact prim_par HE hd1 hds hD hB hok h hv h3 h1 c39 cT cF cS cM cP
                case false =>
                  cases cR : acc (nxt ts k e) [102, 97, 114]
                  case true => obtain rfl := acc_zero cR; exact prim_far HE hd1 hds hD hB hok h hv h3 h1 c39 cT cF cS cM cP cR
                  case false => exact prim_none HE hd1 hds hD hB hok h hv h3 h1 c39 cT cF cS cM cP cR
theorem bin_all {gp g n cp B d D m : Nat} {ts : List Tk} (HU : UnaOk gp g n cp B ts d D (unaL ts m)) (hB : B ≤ gp) (hD1 : 41 ≤ D) (hD2 : D ≤ 8000) : BinOk gp g n cp B ts 0 d (D + 5) (binL ts (unaL ts m) 5) := by
  have h5 := bin_single HU
  have h4 := bin_level (lv := 4) (j := 0) (D1 := D + 1) h5 rfl rfl hB rfl hD1 (by omega) (fun k hk => ful_fwd ts m 0 k hk)
  have h3 := bin_level (lv := 3) (j := 1) (D1 := D + 2) h4 rfl rfl hB rfl (by omega) (by omega) (fun k hk => ful_fwd ts m 1 k hk)
  have h2 := bin_level (lv := 2) (j := 2) (D1 := D + 3) h3 rfl rfl hB rfl (by omega) (by omega) (fun k hk => ful_fwd ts m 2 k hk)
  have h1 := bin_level (lv := 1) (j := 3) (D1 := D + 4) h2 rfl rfl hB rfl (by omega) (by omega) (fun k hk => ful_fwd ts m 3 k hk)
  exact bin_level (lv := 0) (j := 4) (D1 := D + 5) h1 rfl rfl hB rfl (by omega) (by omega) (fun k hk => ful_fwd ts m 4 k hk)
theorem una_all {gp g n cp B : Nat} {ts : List Tk} (hB : B ≤ gp) (hok : NamesOk ts) (hnk : NumsOk ts) : ∀ (m d : Nat), m ≤ 40 → d + m = 41 → UnaOk gp g n cp B ts d (50 + 10 * m) (unaL ts m)
  | 0, d, _, hd => by
    obtain rfl : d = 41 := by omega
    exact una_deep (by omega)
  | m + 1, d, hm, hd => by
    have ih := una_all (g := g) (n := n) (cp := cp) hB hok hnk m (d + 1) (by omega) (by omega)
    have hb := bin_all ih hB (by omega) (by omega)
    exact una_step ih (prim_any hb rfl (by omega) (by omega) hB hok) rfl (by omega) (by omega) (by omega) (by omega) hB hnk
theorem top_any {gp g n cp B : Nat} {ts : List Tk} (hB : B ≤ gp) (hok : NamesOk ts) (hnk : NumsOk ts) : BinOk gp g n cp B ts 0 1 455 (binL ts (unaL ts 40) 5) :=
  bin_all (una_all hB hok hnk 40 1 (by omega) rfl) hB (by omega) (by omega)

/-- What Parse returns of r. -/
def ParPost (w : World) (r : Rs) (x : Ending) (w' : World) : Prop := Touch NoB w w' ∧ match r with
  | .ok y k => ∃ (a b : Int) (s : ByteArray) (A : Option Addr) (m c : Nat), x = .returned (.tuple #[.agg #[.int .i64 a, .int .i64 b, .string s, .slice A m c], .int .i64 (k : Int), .int .i64 0]) ∧ ET w' (fun b => w.heap.size ≤ b) y a b s A m c
  | .er e k => x = .returned (.tuple #[.agg #[.int .i64 0, .int .i64 0, .string ⟨#[]⟩, .slice none 0 0], .int .i64 (k : Int), .int .i64 (e : Int)])
/-- A reader of tokens made. -/
theorem new_any {w : World} {g n cp k : Nat} (hk : k ≤ n) (hmax : n ≤ 100000) :
    Calls Tryz.prog 16 #[.slice (some ⟨g, 0, none⟩) n cp, .int .i64 (k : Int)] w fun x w' => x = .returned (.agg #[.slice (some ⟨g, 0, none⟩) n cp, .int .i64 (k : Int), .int .i64 0]) ∧ Touch NoB w w' := by
  obtain ⟨W, hW⟩ : ∃ W, w.alloc (.cells #[.slice none 0 0, .int .i64 0, .int .i64 0] 54) = W := ⟨_, rfl⟩
  have hT : Touch NoB w W := by rw [← hW]; exact (Touch.refl _ _).alloc _
  have hb : W.heap[w.heap.size]? = some (.cells #[.slice none 0 0, .int .i64 0, .int .i64 0] 54 (0, 0)) := by rw [← hW]; exact alloc_blk _ _ _ rfl
  have z0 : W.cell? ⟨w.heap.size, 0, none⟩ = some (.slice none 0 0) := cell_blk hb 0
  have z1 : W.cell? ⟨w.heap.size, 1, none⟩ = some (.int .i64 0) := cell_blk hb 1
  have z2 : W.cell? ⟨w.heap.size, 2, none⟩ = some (.int .i64 0) := cell_blk hb 2
  have f0 : W.frozen? ⟨w.heap.size, 0, none⟩ = false := free_blk hb 0
  have f1 : W.frozen? ⟨w.heap.size, 1, none⟩ = false := free_blk hb 1
  have f2 : W.frozen? ⟨w.heap.size, 2, none⟩ = false := free_blk hb 2
  have nl := blk_lt hb
  have h0 : decide ((k : Int) < 0) = false := by simp
  have h1 : decide ((n : Int) < (k : Int)) = false := by simp; omega
  have h1' : decide (n < k) = false := by simp; omega
  have HT := Lib.hid hT
  have _ := hmax
  clear hT hb hk
  go_enter Tryz.func16, Tryz.ntmps16
  go_wp2
  have hnew : ∀ b, b = w.heap.size → NoB b ∨ w.heap.size ≤ b := fun b e => .inr (by omega)
  exact bodyPost_ret (v := .agg #[.slice (some ⟨g, 0, none⟩) n cp, .int .i64 (k : Int), .int .i64 0]) (by simp [results, Tryz.results16, go_sem, z0, z1, z2]) rfl ⟨rfl, by
    repeat (first | with_reducible exact HT.out | with_reducible refine Touch.drew ?_ | with_reducible refine Touch.setCell ?_ (hnew _ rfl) _)⟩
theorem una_end {ts : List Tk} (m : Nat) : unaL ts (m + 1) ts.length = .er 2 ts.length := by
  have hs : ∀ s, sg ts ts.length s = false := fun s => by unfold sg; simp
  have hn : numAt ts ts.length = none := by unfold numAt; simp
  have hm : nameAt ts ts.length = none := by unfold nameAt; simp
  simp [unaL, prek, primL, hs, hn, hm]
theorem bin_end {ts : List Tk} (m : Nat) : ∀ j, binL ts (unaL ts (m + 1)) j ts.length = .er 2 ts.length
  | 0 => una_end m
  | j + 1 => by unfold binL; rw [bin_end m j]
theorem par_bin {ts : List Tk} {k : Nat} (hk : k ≤ ts.length) : parL ts k = binL ts (unaL ts 40) 5 k := by
  unfold parL
  by_cases h : k < ts.length
  · rw [if_pos h]
  · obtain rfl : k = ts.length := by omega
    rw [if_neg h, bin_end]
theorem parse_at {w : World} {g n cp B k0 : Nat} {ts : List Tk} (ht : TL w g ts) (hn : ts.length = n) (hk0 : k0 ≤ n) (hmax : n ≤ 100000) (hv : LV w B) (hok : NamesOk ts) (hnk : NumsOk ts) :
    Calls Tryz.prog 148 #[.slice (some ⟨g, 0, none⟩) n cp, .int .i64 (k0 : Int)] w (ParPost w (parL ts k0)) := by
  obtain ⟨W00, hW00⟩ : ∃ W, w.alloc (.cells #[.int .i64 0, .int .i64 0, .string ⟨#[]⟩, .slice none 0 0] 44) = W := ⟨_, rfl⟩
  have hT00 : Touch NoB w W00 := by rw [← hW00]; exact (Touch.refl _ _).alloc _
  have hb40 : XB W00 w.heap.size 0 0 ⟨#[]⟩ none 0 0 := by rw [← hW00]; exact XB.new w _ _ _ _ _ _ rfl
  have hs00 : W00.heap.size = w.heap.size + 1 := by rw [← hW00]; simp only [World.size_alloc]
  have HNW := Lib.hid (new_any (w := W00) (g := g) (cp := cp) hk0 hmax)
  have hgl := ht.lt
  have hBw := hv.le
  have HA := Lib.hid (And.intro hT00 (And.intro hb40 (And.intro (ht.touch hT00) (hv.touch0 hT00))))
  have HK := Lib.hid (And.intro hn (And.intro hk0 (And.intro hmax (And.intro hok hnk))))
  rw [par_bin (by omega)]
  clear hT00 hb40 ht hv hok hnk hn hk0 hmax
  subst hW00
  go_enter Tryz.func148, Tryz.ntmps148
  go_wp2_with fail
  refine HNW.out.mono ?_
  rintro r w1 ⟨rfl, hT1⟩
  obtain ⟨gp, hgp⟩ : ∃ gp, w1.heap.size = gp := ⟨_, rfl⟩
  obtain ⟨W0, hW0⟩ : ∃ W, w1.alloc (.cells #[.slice (some ⟨g, 0, none⟩) n cp, .int .i64 (k0 : Int), .int .i64 0] 198) = W := ⟨_, rfl⟩
  have hT0 : Touch NoB w W0 := by rw [← hW0]; exact (HA.out.1.same hT1).alloc _
  have hT10 : Touch NoB w1 W0 := by rw [← hW0]; exact (Touch.refl _ _).alloc _
  have hs1 := hT1.size
  have hgp1 : w.heap.size + 1 ≤ gp := by omega
  have hb4 : XB W0 w.heap.size 0 0 ⟨#[]⟩ none 0 0 := ((hT1.same hT10).block _ (blk_lt HA.out.2.1) (fun x => x)).trans HA.out.2.1
  have hps : PS W0 gp g n cp ts k0 0 := ⟨by rw [← hW0]; exact alloc_blk _ _ _ hgp, HA.out.2.2.1.touch (hT1.same hT10), by omega, HK.out.1, HK.out.2.1, HK.out.2.2.1, HK.out.2.2.2.2.2⟩
  have HC := Lib.hid (top_any (gp := gp) (g := g) (n := n) (cp := cp) (by omega) HK.out.2.2.2.1 HK.out.2.2.2.2 W0 k0 0 hps (HA.out.2.2.2.touch0 (hT1.same hT10)))
  have HB4 := Lib.hid hb4
  have HT0 := Lib.hid hT0
  obtain ⟨R0, hR0⟩ : ∃ R0, binL ts (unaL ts 40) 5 k0 = R0 := ⟨_, rfl⟩
  rw [hR0] at HC ⊢
  have HR0 := Lib.hid hR0
  have hs0 : W0.heap.size = gp + 1 := by rw [← hW0]; simp only [World.size_alloc]; omega
  have HS0 := Lib.hid hs0
  clear hb4 hT0 hps hR0 hs0 hT1 hT10
  subst hW0
  subst hgp
  go_wp2_with fail
  refine HC.out.mono ?_
  rintro r w2 ⟨hT2, y, k2, e2, a2, b2, s2, A2, m2, c2, rfl, hy, hp2, ho2, hyd⟩
  have hT02 : Touch NoB w w2 := HT0.out.trans hT2 (fun b hb => .inr (by unfold AtB at hb; omega))
  have hp1 : (w2.alloc (.cells #[.int .i64 a2, .int .i64 b2, .string s2, .slice A2 m2 c2] 44)).cell? ⟨w1.heap.size, 1, none⟩ = some (.int .i64 (k2 : Int)) := cell_blk (hp2.touch ((Touch.refl NoB w2).alloc _)).blk 1
  have hp3 : (w2.alloc (.cells #[.int .i64 a2, .int .i64 b2, .string s2, .slice A2 m2 c2] 44)).cell? ⟨w1.heap.size, 2, none⟩ = some (.int .i64 (e2 : Int)) := cell_blk (hp2.touch ((Touch.refl NoB w2).alloc _)).blk 2
  have hs2 := hT2.size
  have hs0 := HS0.out
  have hb5 := (HB4.out.go (gp := w1.heap.size) hT2 (by omega)).old (.cells #[.int .i64 a2, .int .i64 b2, .string s2, .slice A2 m2 c2] 44)
  obtain ⟨W2, hW2⟩ : ∃ W, w2.alloc (.cells #[.int .i64 a2, .int .i64 b2, .string s2, .slice A2 m2 c2] 44) = W := ⟨_, rfl⟩
  rw [hW2] at hp1 hp3 hb5
  have hTW : Touch NoB w W2 := by rw [← hW2]; exact hT02.alloc _
  have hx8 : XB W2 w2.heap.size a2 b2 s2 A2 m2 c2 := by rw [← hW2]; exact XB.new _ _ _ _ _ _ _ rfl
  have HY := Lib.hid (And.intro (hy.touch0 (show Touch NoB w2 W2 by rw [← hW2]; exact (Touch.refl _ _).alloc _)) (And.intro ho2 hTW))
  obtain ⟨z0, z1, z2, z3, z4⟩ := hb5.cells
  obtain ⟨f0, f1, f2, f3⟩ := hb5.free
  obtain ⟨p80, p81, p82, p83, p84⟩ := hx8.cells
  have hl1 : w1.heap.size < W2.heap.size := by have := blk_lt hx8; omega
  clear hT2 hy hp2 ho2 hyd hT02 hTW HC
  have d1 : W2.drew.cell? ⟨w1.heap.size, 1, none⟩ = some (.int .i64 (k2 : Int)) := hp1
  have d2 : W2.drew.cell? ⟨w1.heap.size, 2, none⟩ = some (.int .i64 (e2 : Int)) := hp3
  have d80 : W2.drew.cell? ⟨w2.heap.size, 0, none⟩ = some (.int .i64 a2) := p80
  have d81 : W2.drew.cell? ⟨w2.heap.size, 1, none⟩ = some (.int .i64 b2) := p81
  have d82 : W2.drew.cell? ⟨w2.heap.size, 2, none⟩ = some (.string s2) := p82
  have d83 : W2.drew.cell? ⟨w2.heap.size, 3, none⟩ = some (.slice A2 m2 c2) := p83
  have hnew : ∀ b, b = w.heap.size → NoB b ∨ w.heap.size ≤ b := fun b e => .inr (by omega)
  have hne1 : w.heap.size ≠ w2.heap.size := by omega
  have hne2 : w2.heap.size ≠ w.heap.size := by omega
  have hne3 : w.heap.size ≠ w1.heap.size := by omega
  have hne4 : w1.heap.size ≠ w.heap.size := by omega
  by_cases he : e2 = 0
  · subst he
    have hee : (((0 : Nat) : Int) != 0) = false := rfl
    have HOK : Hid (R0 = .ok y k2) := Lib.hid (by
      have ho := HY.out.2.1
      unfold Out at ho
      rw [if_pos rfl] at ho
      cases R0 with
      | ok z j => obtain ⟨rfl, rfl, -⟩ := ho; rfl
      | er e j => exact absurd ho.2.1.symm ho.2.2)
    go_wp2
    go_region
    go_wp2
    have hTX := touch4 (F := fun b => b = w.heap.size) (Touch.refl _ W2) (.inl rfl) (.int .i64 a2) (.int .i64 b2) (.string s2) (.slice A2 m2 c2)
    refine bodyPost_ret (v := .tuple #[.agg #[.int .i64 a2, .int .i64 b2, .string s2, .slice A2 m2 c2], .int .i64 (k2 : Int), .int .i64 0]) (by simp [results, Tryz.results148, go_sem, z0, z1, z2, z3]) rfl ?_
    rw [HR0.out, HOK.out]
    refine ⟨by repeat (first | with_reducible exact HY.out.2.2 | with_reducible refine Touch.drew ?_ | with_reducible refine Touch.setCell ?_ (hnew _ rfl) _), _, _, _, _, _, _, rfl, ?_⟩
    exact ET.touch0 (Touch.refl _ _).drew (((HY.out.1.via (R := fun b => w.heap.size + 1 ≤ b) (fun b h1 _ => by rcases h1 with h1 | h1; exact h1.elim; omega)).aside hTX (by omega)).via (fun b h1 _ => by omega))
  · have hee : ((e2 : Int) != 0) = true := by simp; omega
    have HOK : Hid (R0 = .er e2 k2) := Lib.hid (by
      have ho := HY.out.2.1
      unfold Out at ho
      rw [if_pos rfl] at ho
      cases R0 with
      | ok z j => exact absurd ho.2.2 he
      | er e j => obtain ⟨rfl, rfl, -⟩ := ho; rfl)
    go_wp2
    go_region
    go_wp2
    refine bodyPost_ret (v := .tuple #[.agg #[.int .i64 0, .int .i64 0, .string ⟨#[]⟩, .slice none 0 0], .int .i64 (k2 : Int), .int .i64 (e2 : Int)]) (by simp [results, Tryz.results148, go_sem, z0, z1, z2, z3]) rfl ?_
    rw [HR0.out, HOK.out]
    exact ⟨by repeat (first | with_reducible exact HY.out.2.2 | with_reducible refine Touch.drew ?_ | with_reducible refine Touch.setCell ?_ (hnew _ rfl) _), rfl⟩
theorem parse_any {w : World} {g n cp B : Nat} {ts : List Tk} (ht : TL w g ts) (hn : ts.length = n) (hpos : 0 < n) (hmax : n ≤ 100000) (hv : LV w B) (hok : NamesOk ts) (hnk : NumsOk ts) :
    Calls Tryz.prog 148 #[.slice (some ⟨g, 0, none⟩) n cp, .int .i64 0] w (ParPost w (parL ts 0)) :=
  parse_at (k0 := 0) ht hn (Nat.le_of_lt hpos) hmax hv hok hnk
end Go.Proofs.YtkmbobfjoaldgaaGreatDoor

/-
  What is known of a text's tokens: names and numbers are such. Lists alone.
-/
namespace Go.Proofs.YtkmbobfjoaldgaaGreatDoor
open Go.ChangeShapes Go.WideShapes Go.ChangeAt Go.RowKit
set_option maxRecDepth 100000
set_option maxHeartbeats 4000000

/-- The table of levels can be read. -/
def ELv (w : World) : Prop := ∃ B, LV w B
theorem ELv.touch {w w' : World} (h : ELv w) (t : Touch NoB w w') : ELv w' := by
  obtain ⟨B, hB⟩ := h
  exact ⟨B, hB.touch0 t⟩
/-! ### tokens of a text -/
def tokOkT (t : Tk) : Prop := (t.kd = 1 → okN t.tx = true) ∧ (t.kd = 3 → t.n ≤ 9223372036854775807) ∧ t.tx.length ≤ 100000
theorem kwS_lenT : ∀ {s : Bs}, s ∈ kw → s.length ≤ 6 := by decide
theorem sgnL_leT (c : UInt8) (r : Bs) : sgnL c r ≤ 2 := by
  unfold sgnL
  repeat' split
  all_goals omega
theorem tok_okT {a n : Nat} {l : Bs} {t : Tk} (h : tokL a l = some (t, n)) : tokOkT t := by
  cases l with
  | nil => simp [tokL] at h
  | cons c r =>
    simp only [tokL] at h
    split at h
    · split at h
      · rename_i h2
        injection h with h; injection h with h _; subst h
        exact ⟨fun e => by simp at e, fun _ => h2.2.1, by simp⟩
      · cases h
    · split at h
      · rename_i hl
        split at h
        · rename_i hkw
          injection h with h; injection h with h _; subst h
          exact ⟨fun e => by simp at e, fun e => by simp at e, Nat.le_trans (kwS_lenT (List.contains_iff_mem.1 hkw)) (show 6 ≤ 100000 by decide)⟩
        · split at h
          · rename_i hk h24
            injection h with h; injection h with h _; subst h
            refine ⟨fun _ => ?_, fun e => by simp at e, Nat.le_trans h24 (show 24 ≤ 100000 by decide)⟩
            have hW : bW c = true := bW_L hl
            have h0 : (List.takeWhile bW (c :: r))[0]? = some c := by rw [List.takeWhile_cons, if_pos hW]; rfl
            have hall : (List.takeWhile bW (c :: r)).all bW = true := List.all_takeWhile
            unfold okN
            rw [name_bs h0 hl hall, wrd_bs]
            simp only [Bool.and_eq_true, decide_eq_true_eq, Bool.not_eq_true']
            exact ⟨h24, by simpa using hk⟩
          · cases h
      · split at h
        · cases h
        · injection h with h; injection h with h _; subst h
          exact ⟨fun e => by simp at e, fun e => by simp at e, Nat.le_trans (List.length_take_le _ _) (Nat.le_trans (sgnL_leT c r) (show 2 ≤ 100000 by decide))⟩
theorem toks_okT : ∀ (f a : Nat) (l : Bs) (ts : List Tk), toksL f a l = .good ts → ∀ t ∈ ts, tokOkT t
  | 0, a, l, ts, h => by simp [toksL] at h
  | f + 1, a, l, ts, h => by
    unfold toksL at h
    split at h
    · injection h with h; subst h
      intro t ht
      simp at ht
      subst ht
      exact ⟨fun e => by simp at e, fun e => by simp at e, by simp⟩
    · rename_i c r _
      split at h
      · cases h
      · rename_i t n ht
        cases hr : toksL f (a + (l.length - (c :: r).length) + n) ((c :: r).drop n) with
        | bad p => rw [hr] at h; simp [Lx.cons] at h
        | good us =>
          rw [hr] at h
          simp only [Lx.cons, Lx.good.injEq] at h
          subst h
          intro q hq
          rcases List.mem_cons.1 hq with rfl | hq
          · exact tok_okT ht
          · exact toks_okT f _ _ us hr q hq
theorem lex_oksT {l : Bs} {ts : List Tk} (h : lexL l = .good ts) : NamesOk ts ∧ NumsOk ts := by
  have hh := toks_okT _ _ _ _ h
  refine ⟨?_, ?_, fun t ht => (hh t ht).2.2⟩
  · intro k s hs
    unfold nameAt at hs
    split at hs
    · cases hs
    · rename_i t ht
      split at hs
      · rename_i h1; injection hs with hs; subst hs
        exact (hh t (List.mem_of_getElem? ht)).1 h1
      · cases hs
  · intro k m hs
    unfold numAt at hs
    split at hs
    · cases hs
    · rename_i t ht
      split at hs
      · rename_i h1; injection hs with hs; subst hs
        exact (hh t (List.mem_of_getElem? ht)).2.1 h1
      · cases hs
end Go.Proofs.YtkmbobfjoaldgaaGreatDoor

/-
  What the tied variables hold, as the walks want it; the heap that the door's own run leaves meets the condition.
-/
namespace Go.Proofs.YtkmbobfjoaldgaaGreatDoor
open Go.ChangeShapes Go.WideShapes Go.ChangeAt Go.RowKit
set_option maxRecDepth 100000

theorem own : ownKnob Tryz.prog.godebug = none := by kernel_rfl
def laid5 : List (String × DataW Unit) := [("math/bits.deBruijn32tab", Rows.laid_math_bits_deBruijn32tab), ("math/bits.deBruijn64tab", Rows.laid_math_bits_deBruijn64tab), ("internal/strconv.uint64pow10", Rows.laid_internal_strconv_uint64pow10), ("strconv.ErrRange", Rows.laid_strconv_ErrRange), ("strconv.ErrSyntax", Rows.laid_strconv_ErrSyntax), ("puppeteer/expr.levels", Rows.laid_puppeteer_expr_levels)]
/-- The door's own heap meets the condition: closed facts. -/
theorem door_met (os : Os) (args : Array Value) : laidMetH Tryz.prog laid5 ((World.doorLaid Tryz.prog 100 os).forCall (fun _ _ => 0) ⟨#[], args, []⟩).memory :=
  laidMetH_of_parts3 (fuel := 8) (laidMet_of_run' 8 (by kernel_rfl) (by kernel_rfl)) (by kernel_rfl) (by kernel_rfl)
theorem cells_int : Tryz.prog.cellsOf 3 = 1 := by kernel_rfl
theorem cells_sli : Tryz.prog.cellsOf 144 = 1 := by kernel_rfl
theorem lits_inj {H : Type} {k : IntKind} : ∀ {l m : List Int}, (lits k l : List (DataW H)) = lits k m → l = m
  | [], [], _ => rfl
  | a :: r, b :: q, h => by
    simp only [lits, List.map_cons, List.cons.injEq, DataW.lit.injEq, Lit.int.injEq, true_and] at h
    rw [h.1, lits_inj (k := k) (H := H) h.2]
  | [], b :: q, h => by simp [lits] at h
  | a :: r, [], h => by simp [lits] at h
theorem one_slice {H : Type} {enc : TypeId × Value → H} {W : World} {fuel : Nat} {cs : List Value} {held : Bool} {ops : List Int} {p : List MemPlace} (hne : ops ≠ [])
    (h : DataW.trod enc Tryz.prog W 0 (fun _ => true) held fuel 144 cs = some (.slice (lits .i64 ops) [], p)) :
    ∃ b o cap, cs = [.slice (some ⟨b, o, none⟩) ops.length cap] ∧ b < W.heap.size ∧ ∀ (i : Nat) (k : Int), ops[i]? = some k → W.cell? ⟨b, o + i, none⟩ = some (.int .i64 k) := by
  rcases open_ints Tryz.underlying144 Tryz.underlying3 cells_int h with ⟨_, hx⟩ | ⟨ad, len, cap, zs, rfl, _, hl, hmx, hz, hx, hcell, _⟩
  · simp at hx
  · simp only [Prod.mk.injEq, DataW.slice.injEq] at hx
    obtain ⟨⟨h1, h2⟩, -⟩ := hx
    have e1 := lits_inj h1
    have e2 : zs.drop len = [] := by
      cases hd : zs.drop len with
      | nil => rfl
      | cons a r => rw [hd] at h2; simp [lits] at h2
    have hzs : zs = ops := by rw [e1, ← List.append_nil (zs.take len), ← e2, List.take_append_drop]
    have hlen : len = ops.length := by
      have := congrArg List.length e1
      rw [List.length_take] at this
      simp only [if_true] at hz
      omega
    subst hzs
    have hpos : 0 < zs.length := List.length_pos_iff.2 hne
    obtain ⟨b, off, spot⟩ := ad
    have hspot : spot = none := by simpa [Addr.add] using World.cell?_spot (hcell 0 hpos)
    subst hspot
    have hc : ∀ (i : Nat) (k : Int), zs[i]? = some k → W.cell? ⟨b, off + i, none⟩ = some (.int .i64 k) := by
      intro i k hi
      have hil := (List.getElem?_eq_some_iff.1 hi).1
      have := hcell i hil
      rw [add_plain] at this
      rw [this, List.getD_eq_getElem?_getD, hi]
      rfl
    refine ⟨b, off, cap, by rw [hlen], ?_, hc⟩
    exact World.block_lt_of_cell? W ⟨b, off + 0, none⟩ (hc 0 _ (List.getElem?_eq_getElem hpos))
theorem levels_laid : (Rows.laid_puppeteer_expr_levels : DataW Unit) = .agg (lvs.map fun ops => .slice (lits .i64 ops) []) := rfl
theorem lv_of_laid {W : World} (h : laidMet Tryz.prog [("puppeteer/expr.levels", Rows.laid_puppeteer_expr_levels)] W) : LV W W.heap.size := by
  obtain ⟨ps, ⟨g', t', cs, fuel, p, q, hg', ht', hvar, hd, _, _⟩, _⟩ := h
  obtain rfl : 6 = g' := Option.some.inj ((show Tryz.prog.globalNamed "puppeteer/expr.levels" = some 6 by kernel_rfl).symm.trans hg')
  obtain rfl : 213 = t' := Option.some.inj ((show (Tryz.prog.globals[6]?).map (·.type) = some 213 by kernel_rfl).symm.trans ht')
  have hcell : ∀ i, W.cell? ⟨6, i, none⟩ = cs[i]? := fun i => by simpa using World.var?_cell (g := 6) (by kernel_rfl) hvar i
  rw [levels_laid] at hd
  cases fuel with
  | zero => simp [DataW.trod] at hd
  | succ fuel =>
    have hct : Tryz.prog.cellsOf 213 = 5 := by kernel_rfl
    simp only [DataW.trod, Tryz.underlying213, cells_sli, hct, Nat.mul_one] at hd
    split at hd
    · rename_i hl
      obtain ⟨xs, hm, hx⟩ := Option.map_eq_some_iff.1 hd
      have hxs : xs.map (·.1) = lvs.map fun ops => (.slice (lits .i64 ops) [] : DataW Unit) := by
        have := congrArg Prod.fst hx
        simpa using this
      have hall : ∀ (lv : Nat) (ops : List Int), lvs[lv]? = some ops → ∃ b o c, W.cell? ⟨6, lv, none⟩ = some (.slice (some ⟨b, o, none⟩) ops.length c) ∧ b < W.heap.size ∧ ∀ (i : Nat) (k : Int), ops[i]? = some k → W.cell? ⟨b, o + i, none⟩ = some (.int .i64 k) := by
        intro lv ops hlv
        have hlt : lv < 5 := (List.getElem?_eq_some_iff.1 hlv).1
        have hne : ops ≠ [] := by
          have : ∀ l ∈ lvs, l ≠ [] := by decide
          exact this ops (List.mem_of_getElem? hlv)
        obtain ⟨y, hb, hf⟩ := Lib.mapM_at hm lv lv (by simp [hlt])
        have h2 : (xs.map (·.1))[lv]? = some y.1 := by simp [hb]
        rw [hxs, List.getElem?_map, hlv] at h2
        simp only [Option.map_some, Option.some.injEq] at h2
        obtain ⟨y1, y2⟩ := y
        simp only at h2
        subst h2
        obtain ⟨b, o, cap, he, h3, h4⟩ := one_slice hne hf
        refine ⟨b, o, cap, ?_, h3, h4⟩
        rw [hcell, ← Array.getElem?_toList]
        have := congrArg (·[0]?) he
        simpa [List.getElem?_take, List.getElem?_drop] using this
      refine ⟨?_, Nat.le_refl _, hall⟩
      obtain ⟨b, o, c, h1, -, -⟩ := hall 0 [13] rfl
      exact World.block_lt_of_cell? W ⟨6, 0, none⟩ h1
    · cases hd
/-- What the condition gives the walks. -/
theorem en_of_laid {W : World} (h : laidMetH Tryz.prog laid5 W) : ELv W := by
  rw [MakeChecks.laidMetH_plain _ _ _ (by kernel_rfl)] at h
  exact ⟨W.heap.size, lv_of_laid h.tail.tail.tail.tail.tail⟩
theorem star : "*" ++ "errors.errorString" = "*errors.errorString" := by decide
theorem row_err (u : TypeId) (h : Tryz.prog.typeName? 3 u = some "*errors.errorString") : u = 204 :=
  typeName_ptr_named (nm := "errors.errorString") (by rw [star]; kernel_rfl) (by kernel_rfl) (by decide) u (by rw [star]; exact h)
/-- What the condition gives the walks. -/
theorem ev_of_laid {W : World} (h : laidMetH Tryz.prog laid5 W) : EV W := by
  rw [MakeChecks.laidMetH_plain _ _ _ (by kernel_rfl)] at h
  have h3 := h.tail.tail.tail
  obtain ⟨a, s, hv, -, -, -⟩ := laid_sentinel h3 (g := 2) (ti := 149) (by kernel_rfl) (by kernel_rfl) Tryz.underlying149 row_err Tryz.underlying204 Tryz.underlying206 rfl rfl Tryz.underlying9 (by kernel_rfl) (by kernel_rfl)
  have hc : W.cell? ⟨2, 0, none⟩ = some (.iface 204 (.pointer (some a))) := by simpa using World.var?_cell (g := 2) (by kernel_rfl) hv 0
  refine ⟨?_, _, hc, .inr ⟨_, _, rfl⟩⟩
  rcases Nat.lt_or_ge 2 W.heap.size with h | h
  · exact h
  · unfold World.cell? at hc
    rw [Array.getElem?_eq_none h] at hc
    cases hc
end Go.Proofs.YtkmbobfjoaldgaaGreatDoor

/-
  A parser of declarations over lists of tokens, told by plain functions of a place and an error: each reads on where there is no error yet, and does nothing behind one. No program is named here.
-/
namespace Go.Proofs.YtkmbobfjoaldgaaGreatDoor
set_option maxRecDepth 100000

/-- A place and an error (0: none). -/
abbrev St := Nat × Nat
def nxS (ts : List Tk) (σ : St) : Tk := nxt ts σ.1 σ.2
def isS (ts : List Tk) (s : Bs) (σ : St) : Bool := acc (nxS ts σ) s
def acS (ts : List Tk) (s : Bs) (σ : St) : St := (if isS ts s σ = true then σ.1 + 1 else σ.1, σ.2)
def failS (c : Nat) (σ : St) : St := (σ.1, if σ.2 = 0 then c else σ.2)
def exS (ts : List Tk) (s : Bs) (σ : St) : St := (if isS ts s σ = true then σ.1 + 1 else σ.1, if isS ts s σ = true then σ.2 else if σ.2 = 0 then 2 else σ.2)
def nuV (ts : List Tk) (σ : St) : Nat := numR (nxS ts σ)
def nuS (ts : List Tk) (σ : St) : St := (stepK (nxS ts σ) 3 σ.1, stepE (nxS ts σ) 3 σ.2)
def naV (ts : List Tk) (σ : St) : Bs := namR (nxS ts σ)
def naS (ts : List Tk) (σ : St) : St := (stepK (nxS ts σ) 1 σ.1, stepE (nxS ts σ) 1 σ.2)
/-- One of these words: which, and behind it. -/
def choF (ts : List Tk) (σ : St) : List Bs → Nat → Option Nat
  | [], _ => none
  | s :: r, i => if isS ts s σ = true then some i else choF ts σ r (i + 1)
def choV (ts : List Tk) (ws : List Bs) (σ : St) : Nat := (choF ts σ ws 0).getD 0
def choS (ts : List Tk) (ws : List Bs) (σ : St) : St := match choF ts σ ws 0 with
  | some _ => (σ.1 + 1, σ.2)
  | none => failS 2 σ
/-- A number, or one below 0. -/
def siV (ts : List Tk) (σ : St) : Int := if isS ts [45] σ = true then -(nuV ts (acS ts [45] σ) : Int) else nuV ts σ
def siS (ts : List Tk) (σ : St) : St := nuS ts (acS ts [45] σ)
/-- An expression. -/
def eqV (ts : List Tk) (σ : St) : Ex := if σ.2 = 0 then (match parL ts σ.1 with | .ok x _ => x | .er _ _ => .leaf 0 0 []) else .leaf 0 0 []
def eqS (ts : List Tk) (σ : St) : St := if σ.2 = 0 then (match parL ts σ.1 with | .ok _ k => (k, 0) | .er e k => (k, e)) else σ
/-- A word that begins a declaration, of which there may be most. -/
def beS (ts : List Tk) (s : Bs) (have_ most : Nat) (σ : St) : St := if have_ = most ∧ isS ts s σ = true then failS 9 σ else σ
def beV (ts : List Tk) (s : Bs) (have_ most : Nat) (σ : St) : Bool := isS ts s (beS ts s have_ most σ)
def beT (ts : List Tk) (s : Bs) (have_ most : Nat) (σ : St) : St := acS ts s (beS ts s have_ most σ)
/-- Does a further element follow, ahead of the closing brace? -/
def wiV (ts : List Tk) (σ : St) : Bool := decide (σ.2 = 0) && !isS ts [125] σ
def wiS (ts : List Tk) (σ : St) : St := acS ts [125] σ
theorem acS_bad {ts : List Tk} {s : Bs} {σ : St} (h : σ.2 ≠ 0) : isS ts s σ = false := acc_bad h
/-! ### keys, variables, conditions, makes -/
def ownW : List Bs := [[111, 119, 110], [115, 104, 97, 114, 101, 100]]
def kindW : List Bs := [[105, 110, 116], [98, 111, 111, 108], [114, 101, 102], [115, 121, 109], [112, 111, 105, 110, 116]]
def opW : List Bs := [[62, 61], [60, 61], [61, 61]]
structure Ky where
  nm : Bs
  kd : Nat
  sh : Bool
structure Va where
  nm : Bs
  lo : Int
  hi : Int
structure Cn where
  nm : Bs
  op : Nat
  n : Int
structure Mk where
  nm : Bs
  add : Bool
  n : Int
def keyV (ts : List Tk) (σ : St) : Ky :=
  let s1 := choS ts ownW σ
  let s2 := naS ts s1
  ⟨naV ts s1, choV ts kindW s2, choV ts ownW σ == 1⟩
def keyS (ts : List Tk) (σ : St) : St := exS ts [59] (choS ts kindW (naS ts (choS ts ownW σ)))
def varV (ts : List Tk) (σ : St) : Va := ⟨naV ts σ, siV ts (naS ts σ), siV ts (siS ts (naS ts σ))⟩
def varS (ts : List Tk) (σ : St) : St := exS ts [59] (siS ts (siS ts (naS ts σ)))
def cndV (ts : List Tk) (σ : St) : Cn := ⟨naV ts σ, choV ts opW (naS ts σ), siV ts (choS ts opW (naS ts σ))⟩
def cndS (ts : List Tk) (σ : St) : St := exS ts [59] (siS ts (choS ts opW (naS ts σ)))
def mkeV (ts : List Tk) (σ : St) : Mk :=
  let s := naS ts σ
  if isS ts [61] s = true then ⟨naV ts σ, false, siV ts (acS ts [61] s)⟩
  else if isS ts [43] s = true then ⟨naV ts σ, true, nuV ts (acS ts [43] s)⟩
  else if isS ts [45] s = true then ⟨naV ts σ, true, -(nuV ts (acS ts [45] s) : Int)⟩
  else ⟨naV ts σ, false, 0⟩
def mkeS (ts : List Tk) (σ : St) : St :=
  let s := naS ts σ
  exS ts [59] (if isS ts [61] s = true then siS ts (acS ts [61] s)
  else if isS ts [43] s = true then nuS ts (acS ts [43] s)
  else if isS ts [45] s = true then nuS ts (acS ts [45] s)
  else failS 2 s)
end Go.Proofs.YtkmbobfjoaldgaaGreatDoor

/-
  What package tree's choice, begins, within and signed do with a parser in memory. Conditions: those that each theorem names.
-/
namespace Go.Proofs.YtkmbobfjoaldgaaGreatDoor
open Go.ChangeShapes Go.WideShapes Go.ChangeAt Go.RowKit
set_option maxRecDepth 100000
set_option maxHeartbeats 4000000

/-- A parser of declarations in memory. -/
abbrev PT := PSt 57
/-- .. in this state. -/
abbrev PS2 (T : TypeId) (w : World) (gp g n cp : Nat) (ts : List Tk) (σ : St) : Prop := PSt T w gp g n cp ts σ.1 σ.2
theorem accept_st {T : TypeId} {w : World} {gp g n cp : Nat} {ts : List Tk} {σ : St} {s : Bs} (h : PS2 T w gp g n cp ts σ) :
    Calls Tryz.prog 80 #[.pointer (some ⟨gp, 0, none⟩), .string (bs s)] w fun x w' => x = .returned (.bool (isS ts s σ)) ∧ PS2 T w' gp g n cp ts (acS ts s σ) ∧ Touch (AtB gp) w w' := by
  unfold acS
  cases ha : isS ts s σ
  · exact (accept_no h ha).mono (fun x w' q => ⟨q.1, q.2.1, Touch.anyB q.2.2⟩)
  · exact accept_yes h ha
theorem is_st {T : TypeId} {w : World} {gp g n cp : Nat} {ts : List Tk} {σ : St} {s : Bs} (h : PS2 T w gp g n cp ts σ) :
    Calls Tryz.prog 79 #[.pointer (some ⟨gp, 0, none⟩), .string (bs s)] w fun x w' => x = .returned (.bool (isS ts s σ)) ∧ Touch NoB w w' := is_any h
theorem fail_st {T : TypeId} {w : World} {gp g n cp : Nat} {ts : List Tk} {σ : St} (h : PS2 T w gp g n cp ts σ) (c : Nat) :
    Calls Tryz.prog 44 #[.pointer (some ⟨gp, 0, none⟩), .int .i64 (c : Int)] w fun x w' => x = .returned (.tuple #[]) ∧ PS2 T w' gp g n cp ts (failS c σ) ∧ Touch (AtB gp) w w' := fail_any h c
theorem expect_st {T : TypeId} {w : World} {gp g n cp : Nat} {ts : List Tk} {σ : St} {s : Bs} (h : PS2 T w gp g n cp ts σ) :
    Calls Tryz.prog 83 #[.pointer (some ⟨gp, 0, none⟩), .string (bs s)] w fun x w' => x = .returned (.tuple #[]) ∧ PS2 T w' gp g n cp ts (exS ts s σ) ∧ Touch (AtB gp) w w' := by
  have HA := Lib.hid (accept_st (s := s) h)
  unfold acS at HA
  unfold exS
  cases ha : isS ts s σ
  · rw [ha] at HA
    simp only [Bool.false_eq_true, if_false] at HA ⊢
    obtain ⟨e', he'⟩ : ∃ e', (if σ.2 = 0 then 2 else σ.2) = e' := ⟨_, rfl⟩
    have HF := Lib.hid (fun (W : World) (q : PS2 T W gp g n cp ts σ) => fail_st q 2)
    unfold failS at HF
    rw [he'] at HF ⊢
    clear h ha he'
    go_enter Tryz.func83, Tryz.ntmps83
    go_wp2_with fail
    refine HA.out.mono ?_
    rintro x w1 ⟨rfl, h1, h2⟩
    have HF := Lib.hid (HF.out w1 h1)
    have HE := Lib.hid h2
    clear h1 h2
    go_wp2_with fail
    refine HF.out.mono ?_
    rintro x w2 ⟨rfl, h1, h2⟩
    have HE := Lib.hid (And.intro h1 (HE.out.same h2))
    clear h1 h2
    go_wp2
    go_end0
    exact ⟨rfl, HE.out.1, HE.out.2⟩
  · exact expect_yes h ha
theorem number_st {T : TypeId} {w : World} {gp g n cp : Nat} {ts : List Tk} {σ : St} (h : PS2 T w gp g n cp ts σ) :
    Calls Tryz.prog 116 #[.pointer (some ⟨gp, 0, none⟩)] w fun x w' => x = .returned (.int .i64 (nuV ts σ : Int)) ∧ PS2 T w' gp g n cp ts (nuS ts σ) ∧ Touch (AtB gp) w w' := Number_any h
theorem name_st {T : TypeId} {w : World} {gp g n cp : Nat} {ts : List Tk} {σ : St} (h : PS2 T w gp g n cp ts σ) :
    Calls Tryz.prog 82 #[.pointer (some ⟨gp, 0, none⟩)] w fun x w' => x = .returned (.string (bs (naV ts σ))) ∧ PS2 T w' gp g n cp ts (naS ts σ) ∧ Touch (AtB gp) w w' := Name_any h
theorem choF_at {ts : List Tk} {σ : St} : ∀ (ws : List Bs) (i d : Nat) (s : Bs), ws[i]? = some s → isS ts s σ = true → (∀ (j : Nat) (q : Bs), j < i → ws[j]? = some q → isS ts q σ = false) → choF ts σ ws d = some (d + i)
  | [], i, d, s, h, _, _ => by cases h
  | a :: r, 0, d, s, h, ha, _ => by
    simp only [List.getElem?_cons_zero, Option.some.injEq] at h
    subst h
    simp [choF, ha]
  | a :: r, i + 1, d, s, h, ha, hno => by
    have h0 := hno 0 a (by omega) rfl
    have := choF_at r i (d + 1) s (by simpa using h) ha (fun j q hj hq => hno (j + 1) q (by omega) (by simpa using hq))
    simp only [choF, h0, Bool.false_eq_true, if_false]
    rw [this]
    congr 1
    omega
theorem choF_none {ts : List Tk} {σ : St} : ∀ (ws : List Bs) (d : Nat), (∀ (j : Nat) (q : Bs), ws[j]? = some q → isS ts q σ = false) → choF ts σ ws d = none
  | [], d, _ => rfl
  | a :: r, d, hno => by
    simp only [choF, hno 0 a rfl, Bool.false_eq_true, if_false]
    exact choF_none r (d + 1) (fun j q hq => hno (j + 1) q (by simpa using hq))
def ChRel (ts : List Tk) (σ : St) (m : Nat) (ws : List Bs) (w : World) (v9 : Value) (wr : World) : Prop := ∃ i : Nat, i ≤ m ∧ v9 = .int .i64 i ∧ (∀ (j : Nat) (q : Bs), j < i → ws[j]? = some q → isS ts q σ = false) ∧ Touch NoB w wr
/-- A row of words. -/
def WdAt (w : World) (b m : Nat) (ws : List Bs) : Prop := (ws.length = m ∧ m ≤ 100) ∧ b < w.heap.size ∧ ∀ (i : Nat) (s : Bs), ws[i]? = some s → w.cell? ⟨b, i, none⟩ = some (.string (bs s))
theorem choice_st {w : World} {gp g n cp b m : Nat} {ts : List Tk} {σ : St} {ws : List Bs} (h : PS2 57 w gp g n cp ts σ) (hw : WdAt w b m ws) :
    Calls Tryz.prog 81 #[.pointer (some ⟨gp, 0, none⟩), .slice (some ⟨b, 0, none⟩) m m] w fun x w' => x = .returned (.int .i64 (choV ts ws σ : Int)) ∧ PS2 57 w' gp g n cp ts (choS ts ws σ) ∧ Touch (AtB gp) w w' := by
  obtain ⟨⟨hm, hm100⟩, hbl, hc⟩ := hw
  have HM := Lib.hid hm
  have HC := Lib.hid hc
  have HP := Lib.hid h
  have HO := Lib.hid (fun (i : Nat) (s : Bs) (h1 : ws[i]? = some s) (h2 : isS ts s σ = true) (h3 : ∀ (j : Nat) (q : Bs), j < i → ws[j]? = some q → isS ts q σ = false) => show choV ts ws σ = i ∧ choS ts ws σ = acS ts s σ from by
    have := choF_at ws i 0 s h1 h2 h3
    rw [Nat.zero_add] at this
    unfold choV choS acS
    rw [this, h2]
    exact ⟨rfl, rfl⟩)
  have HN := Lib.hid (fun (h3 : ∀ (j : Nat) (q : Bs), ws[j]? = some q → isS ts q σ = false) => show choV ts ws σ = 0 ∧ choS ts ws σ = failS 2 σ from by
    have := choF_none ws 0 h3
    unfold choV choS
    rw [this]
    exact ⟨rfl, rfl⟩)
  obtain ⟨cv, hcv⟩ : ∃ cv, choV ts ws σ = cv := ⟨_, rfl⟩
  obtain ⟨cs, hcs⟩ : ∃ cs, choS ts ws σ = cs := ⟨_, rfl⟩
  rw [hcv, hcs] at HO HN ⊢
  clear h hm hc hcv hcs
  go_enter Tryz.func81, Tryz.ntmps81
  go_wp2
  go_loopw [9] (fun v9 wr => ChRel ts σ m ws w v9 wr) (fun v9 _ => m - (intOf v9).toNat)
  case atStart => exact ⟨0, Nat.zero_le _, rfl, fun j q hj => by omega, Touch.refl _ _⟩
  case round =>
    obtain ⟨i, hi, rfl, hno, hTr⟩ := hrel
    by_cases hlt : i < m
    · obtain ⟨s, hs⟩ : ∃ s, ws[i]? = some s := ⟨ws[i]'(by rw [HM.out]; exact hlt), List.getElem?_eq_getElem _⟩
      have hcell : wr.cell? ⟨b, i, none⟩ = some (.string (bs s)) := (hTr.cell (p := ⟨b, i, none⟩) hbl (fun x => x)).trans (HC.out i s hs)
      have hblr : b < wr.heap.size := Nat.lt_of_lt_of_le hbl hTr.size
      have HA := Lib.hid (accept_st (s := s) (HP.out.touch hTr))
      have HNo := Lib.hid (And.intro hno (And.intro hs hTr))
      have HY := Lib.hid (fun (h2 : isS ts s σ = true) => HO.out i s hs h2 hno)
      have HPn := Lib.hid (fun hf => accept_no (s := s) (HP.out.touch hTr) hf)
      obtain ⟨sb, hsb⟩ : ∃ sb, bs s = sb := ⟨_, rfl⟩
      rw [hsb] at hcell HA HPn
      clear hno hs hTr hsb
      cases ha : isS ts s σ
      · have HPn := Lib.hid (HPn.out ha)
        have HX := Lib.hid ha
        clear ha
        go_wp2_with fail
        refine HPn.out.mono ?_
        rintro x w2 ⟨rfl, h1, h2⟩
        have HT := Lib.hid (HNo.out.2.2.same h2)
        clear h1 h2
        go_wp2
        go_roundw
        case rel =>
          refine ⟨i + 1, by omega, by go_num, fun j q hj hq => ?_, HT.out⟩
          by_cases ej : j = i
          · subst ej
            have := HNo.out.2.1.symm.trans hq
            injection this with this
            subst this
            exact HX.out
          · exact HNo.out.1 j q (by omega) hq
        case measure => simp [intOf]; omega
      · rw [ha] at HA
        obtain ⟨h1, h2⟩ := HY.out ha
        subst h1 h2
        clear ha
        go_wp2_with fail
        refine HA.out.mono ?_
        rintro x w2 ⟨rfl, h1, h2⟩
        have HT := Lib.hid (And.intro h1 ((Touch.anyB HNo.out.2.2).same h2))
        clear h1 h2
        go_wp2
        go_ret
        exact ⟨rfl, HT.out.1, HT.out.2⟩
    · obtain rfl : i = m := by omega
      obtain ⟨h1, h2⟩ := HN.out (fun j q hq => hno j q (by have := (List.getElem?_eq_some_iff.1 hq).1; rw [HM.out] at this; exact this) hq)
      subst h1 h2
      have HF := Lib.hid (fail_st (HP.out.touch hTr) 2)
      have HT := Lib.hid (Touch.anyB (F := AtB gp) hTr)
      clear hno hTr
      go_wp2_with fail
      refine HF.out.mono ?_
      rintro x w2 ⟨rfl, h1, h2⟩
      have HT := Lib.hid (And.intro h1 (HT.out.same h2))
      clear h1 h2
      go_wp2
      go_ret
      exact ⟨rfl, HT.out.1, HT.out.2⟩
theorem nuV_le {ts : List Tk} (hnk : NumsOk ts) (σ : St) : nuV ts σ ≤ 9223372036854775807 := by
  unfold nuV nxS numR
  split
  · rename_i hk
    have he : σ.2 = 0 := kd_zero hk (by decide)
    rw [he] at hk ⊢
    exact hnk.1 σ.1 _ (num_of hk)
  · omega
/-- A declaration's word. -/
theorem begins_st {w : World} {gp g n cp hv most : Nat} {ts : List Tk} {σ : St} {s : Bs} (h : PS2 57 w gp g n cp ts σ) :
    Calls Tryz.prog 40 #[.pointer (some ⟨gp, 0, none⟩), .string (bs s), .int .i64 (hv : Int), .int .i64 (most : Int)] w fun x w' => x = .returned (.bool (beV ts s hv most σ)) ∧ PS2 57 w' gp g n cp ts (beT ts s hv most σ) ∧ Touch (AtB gp) w w' := by
  have HI := Lib.hid (is_st (s := s) h)
  have HF := Lib.hid (fun (W : World) (t : Touch NoB w W) => fail_st (h.touch t) 9)
  have HA := Lib.hid (fun (W : World) (q : PS2 57 W gp g n cp ts (beS ts s hv most σ)) => accept_st (s := s) q)
  unfold beV beT
  obtain ⟨bv, hbv⟩ : ∃ bv, isS ts s (beS ts s hv most σ) = bv := ⟨_, rfl⟩
  obtain ⟨bt, hbt⟩ : ∃ bt, acS ts s (beS ts s hv most σ) = bt := ⟨_, rfl⟩
  rw [hbv, hbt] at HA ⊢
  have HP := Lib.hid h
  obtain ⟨sb, hsb⟩ : ∃ sb, bs s = sb := ⟨_, rfl⟩
  rw [hsb] at HI HA ⊢
  have HH := Lib.hid (And.intro hbv hbt)
  clear h hbv hbt hsb
  by_cases hm : hv = most
  · have heq : ((hv : Int) == (most : Int)) = true := by rw [hm]; simp
    cases hi : isS ts s σ
    · rw [hi] at HI
      have hb : beS ts s hv most σ = σ := by unfold beS; rw [if_neg (fun z => by rw [hi] at z; cases z.2)]
      rw [hb] at HA
      clear hb hi
      go_enter Tryz.func40, Tryz.ntmps40
      go_wp2_with fail
      refine HI.out.mono ?_
      rintro x w1 ⟨rfl, hT1⟩
      have HA := Lib.hid (HA.out w1 (HP.out.touch hT1))
      have HT := Lib.hid (Touch.anyB (F := AtB gp) hT1)
      clear hT1
      go_wp2_with fail
      refine HA.out.mono ?_
      rintro x w2 ⟨rfl, h1, h2⟩
      have HE := Lib.hid (And.intro h1 (HT.out.same h2))
      clear h1 h2
      go_wp2
      go_ret
      exact ⟨rfl, HE.out.1, HE.out.2⟩
    · rw [hi] at HI
      have hb : beS ts s hv most σ = failS 9 σ := by unfold beS; rw [if_pos ⟨hm, hi⟩]
      rw [hb] at HA
      clear hb hi
      go_enter Tryz.func40, Tryz.ntmps40
      go_wp2_with fail
      refine HI.out.mono ?_
      rintro x w1 ⟨rfl, hT1⟩
      have HF := Lib.hid (HF.out w1 hT1)
      have HT := Lib.hid (Touch.anyB (F := AtB gp) hT1)
      clear hT1
      go_wp2_with fail
      refine HF.out.mono ?_
      rintro x w2 ⟨rfl, h1, h2⟩
      have HA := Lib.hid (HA.out w2 h1)
      have HT := Lib.hid (HT.out.same h2)
      clear h1 h2
      go_wp2_with fail
      refine HA.out.mono ?_
      rintro x w3 ⟨rfl, h1, h2⟩
      have HE := Lib.hid (And.intro h1 (HT.out.same h2))
      clear h1 h2
      go_wp2
      go_ret
      exact ⟨rfl, HE.out.1, HE.out.2⟩
  · have heq : ((hv : Int) == (most : Int)) = false := by simp; omega
    have hb : beS ts s hv most σ = σ := by unfold beS; rw [if_neg (fun z => hm z.1)]
    rw [hb] at HA
    have HA := Lib.hid (HA.out w HP.out)
    clear hb
    go_enter Tryz.func40, Tryz.ntmps40
    go_wp2_with fail
    refine HA.out.mono ?_
    rintro x w2 ⟨rfl, h1, h2⟩
    have HE := Lib.hid (And.intro h1 h2)
    clear h1 h2
    go_wp2
    go_ret
    exact ⟨rfl, HE.out.1, HE.out.2⟩
theorem within_st {w : World} {gp g n cp : Nat} {ts : List Tk} {σ : St} (h : PS2 57 w gp g n cp ts σ) :
    Calls Tryz.prog 85 #[.pointer (some ⟨gp, 0, none⟩)] w fun x w' => x = .returned (.bool (wiV ts σ)) ∧ PS2 57 w' gp g n cp ts (wiS ts σ) ∧ Touch (AtB gp) w w' := by
  have c2 : w.cell? ⟨gp, 2, none⟩ = some (.int .i64 (σ.2 : Int)) := cell_blk h.blk 2
  have hgp := blk_lt h.blk
  by_cases he : σ.2 = 0
  · have hee : ((σ.2 : Int) == 0) = true := by simp [he]
    have HA : Hid (Calls Tryz.prog 80 #[.pointer (some ⟨gp, 0, none⟩), .string ⟨#[125]⟩] w fun x w' => x = .returned (.bool (isS ts [125] σ)) ∧ PS2 57 w' gp g n cp ts (acS ts [125] σ) ∧ Touch (AtB gp) w w') := Lib.hid (accept_st (s := [125]) h)
    unfold wiV wiS
    rw [decide_eq_true he, Bool.true_and]
    obtain ⟨b, hb⟩ : ∃ b, isS ts [125] σ = b := ⟨_, rfl⟩
    obtain ⟨t, ht⟩ : ∃ t, acS ts [125] σ = t := ⟨_, rfl⟩
    rw [hb, ht] at HA
    rw [hb, ht]
    obtain ⟨e, hse⟩ : ∃ e, σ.2 = e := ⟨_, rfl⟩
    rw [hse] at c2 hee
    clear h hb ht he hse
    cases b
    all_goals
      go_enter Tryz.func85, Tryz.ntmps85
      go_wp2_with fail
      refine HA.out.mono ?_
      rintro x w1 ⟨rfl, h1, h2⟩
      have HE := Lib.hid (And.intro h1 h2)
      clear h1 h2
      go_wp2
      go_ret
      exact ⟨rfl, HE.out.1, HE.out.2⟩
  · have hee : ((σ.2 : Int) == 0) = false := by simp; omega
    have HP := Lib.hid h
    have e1 : wiV ts σ = false := by unfold wiV; rw [decide_eq_false he]; rfl
    have e2 : wiS ts σ = σ := by unfold wiS acS; rw [acS_bad he]; rfl
    rw [e1, e2]
    obtain ⟨e, hse⟩ : ∃ e, σ.2 = e := ⟨_, rfl⟩
    rw [hse] at c2 hee
    clear h e1 e2 he hse
    go_enter Tryz.func85, Tryz.ntmps85
    go_wp2
    go_ret
    exact ⟨rfl, HP.out, Touch.refl _ _⟩
theorem signed_st {w : World} {gp g n cp : Nat} {ts : List Tk} {σ : St} (hnk : NumsOk ts) (h : PS2 57 w gp g n cp ts σ) :
    Calls Tryz.prog 115 #[.pointer (some ⟨gp, 0, none⟩)] w fun x w' => x = .returned (.int .i64 (siV ts σ)) ∧ PS2 57 w' gp g n cp ts (siS ts σ) ∧ Touch (AtB gp) w w' := by
  have HA : Hid (Calls Tryz.prog 80 #[.pointer (some ⟨gp, 0, none⟩), .string ⟨#[45]⟩] w fun x w' => x = .returned (.bool (isS ts [45] σ)) ∧ PS2 57 w' gp g n cp ts (acS ts [45] σ) ∧ Touch (AtB gp) w w') := Lib.hid (accept_st (s := [45]) h)
  have HN := Lib.hid (fun (W : World) (q : PS2 57 W gp g n cp ts (acS ts [45] σ)) => number_st q)
  have hmx : nuV ts (acS ts [45] σ) ≤ 9223372036854775807 := nuV_le hnk _
  have e1 : isS ts [45] σ = false → nuV ts (acS ts [45] σ) = nuV ts σ := fun hi => by unfold acS; rw [hi]; rfl
  unfold siV siS
  obtain ⟨q, hq⟩ : ∃ q, nuV ts (acS ts [45] σ) = q := ⟨_, rfl⟩
  obtain ⟨t, ht⟩ : ∃ t, acS ts [45] σ = t := ⟨_, rfl⟩
  rw [hq] at HN hmx e1
  rw [hq]
  rw [ht] at HA HN ⊢
  have hng : IntKind.i64.wrap (-(q : Int)) = -(q : Int) := IntWalk.i64_in _ (by omega)
  clear h hq ht
  cases hi : isS ts [45] σ
  · rw [hi] at HA
    rw [← e1 hi]
    simp only [Bool.false_eq_true, if_false]
    clear e1 hi
    go_enter Tryz.func115, Tryz.ntmps115
    go_wp2_with fail
    refine HA.out.mono ?_
    rintro x w1 ⟨rfl, h1, h2⟩
    have HN := Lib.hid (HN.out w1 h1)
    have HT := Lib.hid h2
    clear h1 h2
    go_wp2_with fail
    refine HN.out.mono ?_
    rintro x w2 ⟨rfl, h1, h2⟩
    have HE := Lib.hid (And.intro h1 (HT.out.same h2))
    clear h1 h2
    go_wp2
    go_ret
    exact ⟨rfl, HE.out.1, HE.out.2⟩
  · rw [hi] at HA
    simp only [if_true]
    clear e1 hi
    go_enter Tryz.func115, Tryz.ntmps115
    go_wp2_with fail
    refine HA.out.mono ?_
    rintro x w1 ⟨rfl, h1, h2⟩
    have HN := Lib.hid (HN.out w1 h1)
    have HT := Lib.hid h2
    clear h1 h2
    go_wp2_with fail
    refine HN.out.mono ?_
    rintro x w2 ⟨rfl, h1, h2⟩
    have HE := Lib.hid (And.intro h1 (HT.out.same h2))
    clear h1 h2
    go_wp2
    go_ret
    exact ⟨rfl, HE.out.1, HE.out.2⟩
end Go.Proofs.YtkmbobfjoaldgaaGreatDoor
