/-
  What package expr's Parse returns: what the parser over lists of tokens comes to. Conditions: names and numbers among the tokens are such; the table of levels can be read.
-/
import Derived.Test.YtadpihipnffiaaaDoorQr
import Derived.Test.YtadpihipnffiaaaDoorQp
import Derived.Test.YtadpihipnffiaaaDoorQq
namespace Go.Proofs.YtadpihipnffiaaaDoor
open Go.ChangeShapes Go.WideShapes Go.ChangeAt Go.RowKit
set_option maxRecDepth 100000
set_option maxHeartbeats 4000000

theorem prim_any {gp g n cp B d d1 D : Nat} {ts : List Tk} {E : Nat → Rs} (HE : BinOk gp g n cp B ts 0 d1 D E) (hd1 : d1 = d + 1) (hds : d ≤ 1000) (hD : D ≤ 9000) (hB : B ≤ gp) (hok : NamesOk ts) : PriOk gp g n cp B ts d (D + 2) (primL ts E) := by
  intro w k e h hv
  by_cases h3 : (nxt ts k e).kd = 3
  · obtain rfl := kd_zero h3 (by decide)
    exact prim_num HE hd1 hds hD hB hok h hv h3
  · by_cases h1 : (nxt ts k e).kd = 1
    · obtain rfl := kd_zero h1 (by decide)
      exact prim_nam HE hd1 hds hD hB hok h hv h3 h1
    · cases c39 : acc (nxt ts k e) [39]
      case true =>
        obtain rfl := acc_zero c39
        cases hn : nameAt ts (k + 1) with
        | some s => exact prim_sym HE hd1 hds hD hB hok h hv h3 h1 c39 hn
        | none => exact prim_sym_no HE hd1 hds hD hB hok h hv h3 h1 c39 hn
      case false =>
        cases cT : acc (nxt ts k e) [116, 114, 117, 101]
        case true => obtain rfl := acc_zero cT; exact prim_cT HE hd1 hds hD hB hok h hv h3 h1 c39 cT
        case false =>
          cases cF : acc (nxt ts k e) [102, 97, 108, 115, 101]
          case true => obtain rfl := acc_zero cF; exact prim_cF HE hd1 hds hD hB hok h hv h3 h1 c39 cT cF
          case false =>
            cases cS : acc (nxt ts k e) [115, 101, 108, 102]
            case true => obtain rfl := acc_zero cS; exact prim_cS HE hd1 hds hD hB hok h hv h3 h1 c39 cT cF cS
            case false =>
              cases cM : acc (nxt ts k e) [116, 105, 109, 101]
              case true => obtain rfl := acc_zero cM; exact prim_cM HE hd1 hds hD hB hok h hv h3 h1 c39 cT cF cS cM
              case false =>
                cases cP : acc (nxt ts k e) [40]
                case true => obtain rfl := acc_zero cP; exact prim_par HE hd1 hds hD hB hok h hv h3 h1 c39 cT cF cS cM cP
                case false =>
                  cases cR : acc (nxt ts k e) [102, 97, 114]
                  case true => obtain rfl := acc_zero cR; exact prim_far HE hd1 hds hD hB hok h hv h3 h1 c39 cT cF cS cM cP cR
                  case false => exact prim_none HE hd1 hds hD hB hok h hv h3 h1 c39 cT cF cS cM cP cR
theorem bin_all {gp g n cp B d D m : Nat} {ts : List Tk} (HU : UnaOk gp g n cp B ts d D (unaL ts m)) (hB : B ≤ gp) (hD1 : 41 ≤ D) (hD2 : D ≤ 8000) : BinOk gp g n cp B ts 0 d (D + 5) (binL ts (unaL ts m) 5) := by
  have h5 := bin_single HU
  have h4 := bin_level (lv := 4) (j := 0) (D1 := D + 1) h5 rfl rfl hB rfl hD1 (by omega) (fun k hk => ful_fwd ts m 0 k hk)
  have h3 := bin_level (lv := 3) (j := 1) (D1 := D + 2) h4 rfl rfl hB rfl (by omega) (by omega) (fun k hk => ful_fwd ts m 1 k hk)
  have h2 := bin_level (lv := 2) (j := 2) (D1 := D + 3) h3 rfl rfl hB rfl (by omega) (by omega) (fun k hk => ful_fwd ts m 2 k hk)
  have h1 := bin_level (lv := 1) (j := 3) (D1 := D + 4) h2 rfl rfl hB rfl (by omega) (by omega) (fun k hk => ful_fwd ts m 3 k hk)
  exact bin_level (lv := 0) (j := 4) (D1 := D + 5) h1 rfl rfl hB rfl (by omega) (by omega) (fun k hk => ful_fwd ts m 4 k hk)
theorem una_all {gp g n cp B : Nat} {ts : List Tk} (hB : B ≤ gp) (hok : NamesOk ts) (hnk : NumsOk ts) : ∀ (m d : Nat), m ≤ 40 → d + m = 41 → UnaOk gp g n cp B ts d (50 + 10 * m) (unaL ts m)
  | 0, d, _, hd => by
    obtain rfl : d = 41 := by omega
    exact una_deep (by omega)
  | m + 1, d, hm, hd => by
    have ih := una_all (g := g) (n := n) (cp := cp) hB hok hnk m (d + 1) (by omega) (by omega)
    have hb := bin_all ih hB (by omega) (by omega)
    exact una_step ih (prim_any hb rfl (by omega) (by omega) hB hok) rfl (by omega) (by omega) (by omega) (by omega) hB hnk
theorem top_any {gp g n cp B : Nat} {ts : List Tk} (hB : B ≤ gp) (hok : NamesOk ts) (hnk : NumsOk ts) : BinOk gp g n cp B ts 0 1 455 (binL ts (unaL ts 40) 5) :=
  bin_all (una_all hB hok hnk 40 1 (by omega) rfl) hB (by omega) (by omega)

/-- What Parse returns of r. -/
def ParPost (w : World) (r : Rs) (x : Ending) (w' : World) : Prop := Touch NoB w w' ∧ match r with
  | .ok y k => ∃ (a b : Int) (s : ByteArray) (A : Option Addr) (m c : Nat), x = .returned (.tuple #[.agg #[.int .i64 a, .int .i64 b, .string s, .slice A m c], .int .i64 (k : Int), .int .i64 0]) ∧ ET w' (fun b => w.heap.size ≤ b) y a b s A m c
  | .er e k => x = .returned (.tuple #[.agg #[.int .i64 0, .int .i64 0, .string ⟨#[]⟩, .slice none 0 0], .int .i64 (k : Int), .int .i64 (e : Int)])
/-- A reader of tokens made. -/
theorem new_any {w : World} {g n cp k : Nat} (hk : k ≤ n) (hmax : n ≤ 100000) :
    Calls Tryd.prog 27 #[.slice (some ⟨g, 0, none⟩) n cp, .int .i64 (k : Int)] w fun x w' => x = .returned (.agg #[.slice (some ⟨g, 0, none⟩) n cp, .int .i64 (k : Int), .int .i64 0]) ∧ Touch NoB w w' := by
  obtain ⟨W, hW⟩ : ∃ W, w.alloc (.cells #[.slice none 0 0, .int .i64 0, .int .i64 0] 63) = W := ⟨_, rfl⟩
  have hT : Touch NoB w W := by rw [← hW]; exact (Touch.refl _ _).alloc _
  have hb : W.heap[w.heap.size]? = some (.cells #[.slice none 0 0, .int .i64 0, .int .i64 0] 63 (0, 0)) := by rw [← hW]; exact alloc_blk _ _ _ rfl
  have z0 : W.cell? ⟨w.heap.size, 0, none⟩ = some (.slice none 0 0) := cell_blk hb 0
  have z1 : W.cell? ⟨w.heap.size, 1, none⟩ = some (.int .i64 0) := cell_blk hb 1
  have z2 : W.cell? ⟨w.heap.size, 2, none⟩ = some (.int .i64 0) := cell_blk hb 2
  have f0 : W.frozen? ⟨w.heap.size, 0, none⟩ = false := free_blk hb 0
  have f1 : W.frozen? ⟨w.heap.size, 1, none⟩ = false := free_blk hb 1
  have f2 : W.frozen? ⟨w.heap.size, 2, none⟩ = false := free_blk hb 2
  have nl := blk_lt hb
  have h0 : decide ((k : Int) < 0) = false := by simp
  have h1 : decide ((n : Int) < (k : Int)) = false := by simp; omega
  have h1' : decide (n < k) = false := by simp; omega
  have HT := Lib.hid hT
  have _ := hmax
  clear hT hb hk
  go_enter Tryd.func27, Tryd.ntmps27
  go_wp2
  have hnew : ∀ b, b = w.heap.size → NoB b ∨ w.heap.size ≤ b := fun b e => .inr (by omega)
  exact bodyPost_ret (v := .agg #[.slice (some ⟨g, 0, none⟩) n cp, .int .i64 (k : Int), .int .i64 0]) (by simp [results, Tryd.results27, go_sem, z0, z1, z2]) rfl ⟨rfl, by
    repeat (first | with_reducible exact HT.out | with_reducible refine Touch.drew ?_ | with_reducible refine Touch.setCell ?_ (hnew _ rfl) _)⟩
theorem una_end {ts : List Tk} (m : Nat) : unaL ts (m + 1) ts.length = .er 2 ts.length := by
  have hs : ∀ s, sg ts ts.length s = false := fun s => by unfold sg; simp
  have hn : numAt ts ts.length = none := by unfold numAt; simp
  have hm : nameAt ts ts.length = none := by unfold nameAt; simp
  simp [unaL, prek, primL, hs, hn, hm]
theorem bin_end {ts : List Tk} (m : Nat) : ∀ j, binL ts (unaL ts (m + 1)) j ts.length = .er 2 ts.length
  | 0 => una_end m
  | j + 1 => by unfold binL; rw [bin_end m j]
theorem par_bin {ts : List Tk} {k : Nat} (hk : k ≤ ts.length) : parL ts k = binL ts (unaL ts 40) 5 k := by
  unfold parL
  by_cases h : k < ts.length
  · rw [if_pos h]
  · obtain rfl : k = ts.length := by omega
    rw [if_neg h, bin_end]
theorem parse_at {w : World} {g n cp B k0 : Nat} {ts : List Tk} (ht : TL w g ts) (hn : ts.length = n) (hk0 : k0 ≤ n) (hmax : n ≤ 100000) (hv : LV w B) (hok : NamesOk ts) (hnk : NumsOk ts) :
    Calls Tryd.prog 14 #[.slice (some ⟨g, 0, none⟩) n cp, .int .i64 (k0 : Int)] w (ParPost w (parL ts k0)) := by
  obtain ⟨W00, hW00⟩ : ∃ W, w.alloc (.cells #[.int .i64 0, .int .i64 0, .string ⟨#[]⟩, .slice none 0 0] 29) = W := ⟨_, rfl⟩
  have hT00 : Touch NoB w W00 := by rw [← hW00]; exact (Touch.refl _ _).alloc _
  have hb40 : XB W00 w.heap.size 0 0 ⟨#[]⟩ none 0 0 := by rw [← hW00]; exact XB.new w _ _ _ _ _ _ rfl
  have hs00 : W00.heap.size = w.heap.size + 1 := by rw [← hW00]; simp only [World.size_alloc]
  have HNW := Lib.hid (new_any (w := W00) (g := g) (cp := cp) hk0 hmax)
  have hgl := ht.lt
  have hBw := hv.le
  have HA := Lib.hid (And.intro hT00 (And.intro hb40 (And.intro (ht.touch hT00) (hv.touch0 hT00))))
  have HK := Lib.hid (And.intro hn (And.intro hk0 (And.intro hmax (And.intro hok hnk))))
  rw [par_bin (by omega)]
  clear hT00 hb40 ht hv hok hnk hn hk0 hmax
  subst hW00
  go_enter Tryd.func14, Tryd.ntmps14
  go_wp2_with fail
  refine HNW.out.mono ?_
  rintro r w1 ⟨rfl, hT1⟩
  obtain ⟨gp, hgp⟩ : ∃ gp, w1.heap.size = gp := ⟨_, rfl⟩
  obtain ⟨W0, hW0⟩ : ∃ W, w1.alloc (.cells #[.slice (some ⟨g, 0, none⟩) n cp, .int .i64 (k0 : Int), .int .i64 0] 66) = W := ⟨_, rfl⟩
  have hT0 : Touch NoB w W0 := by rw [← hW0]; exact (HA.out.1.same hT1).alloc _
  have hT10 : Touch NoB w1 W0 := by rw [← hW0]; exact (Touch.refl _ _).alloc _
  have hs1 := hT1.size
  have hgp1 : w.heap.size + 1 ≤ gp := by omega
  have hb4 : XB W0 w.heap.size 0 0 ⟨#[]⟩ none 0 0 := ((hT1.same hT10).block _ (blk_lt HA.out.2.1) (fun x => x)).trans HA.out.2.1
  have hps : PS W0 gp g n cp ts k0 0 := ⟨by rw [← hW0]; exact alloc_blk _ _ _ hgp, HA.out.2.2.1.touch (hT1.same hT10), by omega, HK.out.1, HK.out.2.1, HK.out.2.2.1, HK.out.2.2.2.2.2⟩
  have HC := Lib.hid (top_any (gp := gp) (g := g) (n := n) (cp := cp) (by omega) HK.out.2.2.2.1 HK.out.2.2.2.2 W0 k0 0 hps (HA.out.2.2.2.touch0 (hT1.same hT10)))
  have HB4 := Lib.hid hb4
  have HT0 := Lib.hid hT0
  obtain ⟨R0, hR0⟩ : ∃ R0, binL ts (unaL ts 40) 5 k0 = R0 := ⟨_, rfl⟩
  rw [hR0] at HC ⊢
  have HR0 := Lib.hid hR0
  have hs0 : W0.heap.size = gp + 1 := by rw [← hW0]; simp only [World.size_alloc]; omega
  have HS0 := Lib.hid hs0
  clear hb4 hT0 hps hR0 hs0 hT1 hT10
  subst hW0
  subst hgp
  go_wp2_with fail
  refine HC.out.mono ?_
  rintro r w2 ⟨hT2, y, k2, e2, a2, b2, s2, A2, m2, c2, rfl, hy, hp2, ho2, hyd⟩
  have hT02 : Touch NoB w w2 := HT0.out.trans hT2 (fun b hb => .inr (by unfold AtB at hb; omega))
  have hp1 : (w2.alloc (.cells #[.int .i64 a2, .int .i64 b2, .string s2, .slice A2 m2 c2] 29)).cell? ⟨w1.heap.size, 1, none⟩ = some (.int .i64 (k2 : Int)) := cell_blk (hp2.touch ((Touch.refl NoB w2).alloc _)).blk 1
  have hp3 : (w2.alloc (.cells #[.int .i64 a2, .int .i64 b2, .string s2, .slice A2 m2 c2] 29)).cell? ⟨w1.heap.size, 2, none⟩ = some (.int .i64 (e2 : Int)) := cell_blk (hp2.touch ((Touch.refl NoB w2).alloc _)).blk 2
  have hs2 := hT2.size
  have hs0 := HS0.out
  have hb5 := (HB4.out.go (gp := w1.heap.size) hT2 (by omega)).old (.cells #[.int .i64 a2, .int .i64 b2, .string s2, .slice A2 m2 c2] 29)
  obtain ⟨W2, hW2⟩ : ∃ W, w2.alloc (.cells #[.int .i64 a2, .int .i64 b2, .string s2, .slice A2 m2 c2] 29) = W := ⟨_, rfl⟩
  rw [hW2] at hp1 hp3 hb5
  have hTW : Touch NoB w W2 := by rw [← hW2]; exact hT02.alloc _
  have hx8 : XB W2 w2.heap.size a2 b2 s2 A2 m2 c2 := by rw [← hW2]; exact XB.new _ _ _ _ _ _ _ rfl
  have HY := Lib.hid (And.intro (hy.touch0 (show Touch NoB w2 W2 by rw [← hW2]; exact (Touch.refl _ _).alloc _)) (And.intro ho2 hTW))
  obtain ⟨z0, z1, z2, z3, z4⟩ := hb5.cells
  obtain ⟨f0, f1, f2, f3⟩ := hb5.free
  obtain ⟨p80, p81, p82, p83, p84⟩ := hx8.cells
  have hl1 : w1.heap.size < W2.heap.size := by have := blk_lt hx8; omega
  clear hT2 hy hp2 ho2 hyd hT02 hTW HC
  have d1 : W2.drew.cell? ⟨w1.heap.size, 1, none⟩ = some (.int .i64 (k2 : Int)) := hp1
  have d2 : W2.drew.cell? ⟨w1.heap.size, 2, none⟩ = some (.int .i64 (e2 : Int)) := hp3
  have d80 : W2.drew.cell? ⟨w2.heap.size, 0, none⟩ = some (.int .i64 a2) := p80
  have d81 : W2.drew.cell? ⟨w2.heap.size, 1, none⟩ = some (.int .i64 b2) := p81
  have d82 : W2.drew.cell? ⟨w2.heap.size, 2, none⟩ = some (.string s2) := p82
  have d83 : W2.drew.cell? ⟨w2.heap.size, 3, none⟩ = some (.slice A2 m2 c2) := p83
  have hnew : ∀ b, b = w.heap.size → NoB b ∨ w.heap.size ≤ b := fun b e => .inr (by omega)
  have hne1 : w.heap.size ≠ w2.heap.size := by omega
  have hne2 : w2.heap.size ≠ w.heap.size := by omega
  have hne3 : w.heap.size ≠ w1.heap.size := by omega
  have hne4 : w1.heap.size ≠ w.heap.size := by omega
  by_cases he : e2 = 0
  · subst he
    have hee : (((0 : Nat) : Int) != 0) = false := rfl
    have HOK : Hid (R0 = .ok y k2) := Lib.hid (by
      have ho := HY.out.2.1
      unfold Out at ho
      rw [if_pos rfl] at ho
      cases R0 with
      | ok z j => obtain ⟨rfl, rfl, -⟩ := ho; rfl
      | er e j => exact absurd ho.2.1.symm ho.2.2)
    go_wp2
    go_region
    go_wp2
    have hTX := touch4 (F := fun b => b = w.heap.size) (Touch.refl _ W2) (.inl rfl) (.int .i64 a2) (.int .i64 b2) (.string s2) (.slice A2 m2 c2)
    refine bodyPost_ret (v := .tuple #[.agg #[.int .i64 a2, .int .i64 b2, .string s2, .slice A2 m2 c2], .int .i64 (k2 : Int), .int .i64 0]) (by simp [results, Tryd.results14, go_sem, z0, z1, z2, z3]) rfl ?_
    rw [HR0.out, HOK.out]
    refine ⟨by repeat (first | with_reducible exact HY.out.2.2 | with_reducible refine Touch.drew ?_ | with_reducible refine Touch.setCell ?_ (hnew _ rfl) _), _, _, _, _, _, _, rfl, ?_⟩
    exact ET.touch0 (Touch.refl _ _).drew (((HY.out.1.via (R := fun b => w.heap.size + 1 ≤ b) (fun b h1 _ => by rcases h1 with h1 | h1; exact h1.elim; omega)).aside hTX (by omega)).via (fun b h1 _ => by omega))
  · have hee : ((e2 : Int) != 0) = true := by simp; omega
    have HOK : Hid (R0 = .er e2 k2) := Lib.hid (by
      have ho := HY.out.2.1
      unfold Out at ho
      rw [if_pos rfl] at ho
      cases R0 with
      | ok z j => exact absurd ho.2.2 he
      | er e j => obtain ⟨rfl, rfl, -⟩ := ho; rfl)
    go_wp2
    go_region
    go_wp2
    refine bodyPost_ret (v := .tuple #[.agg #[.int .i64 0, .int .i64 0, .string ⟨#[]⟩, .slice none 0 0], .int .i64 (k2 : Int), .int .i64 (e2 : Int)]) (by simp [results, Tryd.results14, go_sem, z0, z1, z2, z3]) rfl ?_
    rw [HR0.out, HOK.out]
    exact ⟨by repeat (first | with_reducible exact HY.out.2.2 | with_reducible refine Touch.drew ?_ | with_reducible refine Touch.setCell ?_ (hnew _ rfl) _), rfl⟩
theorem parse_any {w : World} {g n cp B : Nat} {ts : List Tk} (ht : TL w g ts) (hn : ts.length = n) (hpos : 0 < n) (hmax : n ≤ 100000) (hv : LV w B) (hok : NamesOk ts) (hnk : NumsOk ts) :
    Calls Tryd.prog 14 #[.slice (some ⟨g, 0, none⟩) n cp, .int .i64 0] w (ParPost w (parL ts 0)) :=
  parse_at (k0 := 0) ht hn (Nat.le_of_lt hpos) hmax hv hok hnk
end Go.Proofs.YtadpihipnffiaaaDoor
