/-
  What the given programs of CheckWrong and CheckNames come to over lists. Lists alone.
-/
import Derived.Test.YtnphaaahdlkmhaaGreatZs19
import Derived.Test.YtnphaaahdlkmhaaGreatZs43
import Derived.KernelRfl
section
namespace Go.Proofs.YtnphaaahdlkmhaaGreat
set_option maxRecDepth 100000

def cwP : List (Bs × Int) := [([107, 101, 121, 32, 111, 119, 110, 32, 97, 32, 105, 110, 116, 59, 32, 107, 101, 121, 32, 111, 119, 110, 32, 97, 32, 98, 111, 111, 108, 59], 6),
  ([116, 114, 101, 101, 32, 116, 32, 123, 32, 111, 107, 59, 32, 125, 32, 116, 114, 101, 101, 32, 116, 32, 123, 32, 111, 107, 59, 32, 125], 6),
  ([116, 114, 101, 101, 32, 116, 32, 123, 32, 105, 102, 32, 49, 59, 32, 125], 7),
  ([107, 101, 121, 32, 111, 119, 110, 32, 97, 32, 105, 110, 116, 59, 32, 116, 114, 101, 101, 32, 116, 32, 123, 32, 115, 101, 116, 32, 97, 32, 58, 61, 32, 116, 114, 117, 101, 59, 32, 125], 7),
  ([116, 114, 101, 101, 32, 116, 32, 123, 32, 115, 101, 116, 32, 97, 32, 58, 61, 32, 49, 59, 32, 125], 5),
  ([116, 114, 101, 101, 32, 116, 32, 123, 32, 112, 105, 99, 107, 32, 123, 32, 116, 114, 117, 101, 58, 32, 111, 107, 59, 32, 125, 32, 125], 7),
  ([116, 114, 101, 101, 32, 116, 32, 123, 32, 112, 108, 97, 110, 32, 100, 59, 32, 125], 5),
  ([116, 114, 101, 101, 32, 116, 32, 123, 32, 117, 115, 101, 32, 117, 59, 32, 125], 5),
  ([116, 114, 101, 101, 32, 116, 32, 123, 32, 112, 97, 114, 32, 48, 32, 49, 32, 123, 32, 111, 107, 59, 32, 125, 32, 125], 1),
  ([116, 114, 101, 101, 32, 116, 32, 123, 32, 112, 97, 114, 32, 49, 32, 50, 32, 123, 32, 111, 107, 59, 32, 125, 32, 125], 1),
  ([116, 114, 101, 101, 32, 116, 32, 123, 32, 114, 101, 112, 101, 97, 116, 32, 48, 32, 111, 107, 59, 32, 125], 1),
  ([116, 114, 101, 101, 32, 116, 32, 123, 32, 114, 101, 112, 101, 97, 116, 32, 49, 48, 48, 49, 32, 111, 107, 59, 32, 125], 1),
  ([116, 114, 101, 101, 32, 116, 32, 123, 32, 117, 115, 101, 32, 116, 59, 32, 125], 8),
  ([116, 114, 101, 101, 32, 116, 32, 123, 32, 117, 115, 101, 32, 117, 59, 32, 125, 32, 116, 114, 101, 101, 32, 117, 32, 123, 32, 110, 111, 116, 32, 117, 115, 101, 32, 116, 59, 32, 125], 8),
  ([116, 114, 101, 101, 32, 116, 32, 123, 32, 117, 115, 101, 32, 117, 59, 32, 125, 32, 116, 114, 101, 101, 32, 117, 32, 123, 32, 111, 107, 59, 32, 125], 0),
  ([107, 101, 121, 32, 111, 119, 110, 32, 118, 32, 105, 110, 116, 59, 32, 100, 111, 109, 97, 105, 110, 32, 100, 32, 123, 32, 118, 97, 114, 32, 118, 32, 48, 32, 49, 59, 32, 118, 97, 114, 32, 118, 32, 48, 32, 49, 59, 32, 125], 6),
  ([107, 101, 121, 32, 111, 119, 110, 32, 118, 32, 105, 110, 116, 59, 32, 100, 111, 109, 97, 105, 110, 32, 100, 32, 123, 32, 118, 97, 114, 32, 118, 32, 50, 32, 49, 59, 32, 125], 1),
  ([100, 111, 109, 97, 105, 110, 32, 100, 32, 123, 32, 118, 97, 114, 32, 118, 32, 48, 32, 49, 59, 32, 125], 5),
  ([107, 101, 121, 32, 111, 119, 110, 32, 118, 32, 98, 111, 111, 108, 59, 32, 100, 111, 109, 97, 105, 110, 32, 100, 32, 123, 32, 118, 97, 114, 32, 118, 32, 48, 32, 49, 59, 32, 125], 7),
  ([107, 101, 121, 32, 111, 119, 110, 32, 118, 32, 105, 110, 116, 59, 32, 100, 111, 109, 97, 105, 110, 32, 100, 32, 123, 32, 118, 97, 114, 32, 118, 32, 48, 32, 49, 48, 49, 59, 32, 125], 1),
  ([100, 111, 109, 97, 105, 110, 32, 100, 32, 123, 32, 97, 99, 116, 32, 97, 32, 99, 111, 115, 116, 32, 48, 32, 123, 32, 125, 32, 125], 1),
  ([100, 111, 109, 97, 105, 110, 32, 100, 32, 123, 32, 97, 99, 116, 32, 97, 32, 99, 111, 115, 116, 32, 49, 48, 48, 49, 32, 123, 32, 125, 32, 125], 1),
  ([100, 111, 109, 97, 105, 110, 32, 100, 32, 123, 32, 97, 99, 116, 32, 97, 32, 99, 111, 115, 116, 32, 49, 32, 123, 32, 110, 101, 101, 100, 32, 118, 32, 61, 61, 32, 49, 59, 32, 125, 32, 125], 5),
  ([100, 111, 109, 97, 105, 110, 32, 100, 32, 123, 32, 103, 111, 97, 108, 32, 118, 32, 61, 61, 32, 49, 59, 32, 125], 5),
  ([107, 101, 121, 32, 111, 119, 110, 32, 118, 32, 105, 110, 116, 59, 32, 100, 111, 109, 97, 105, 110, 32, 100, 32, 123, 32, 118, 97, 114, 32, 118, 32, 48, 32, 49, 59, 32, 103, 111, 97, 108, 32, 118, 32, 61, 61, 32, 49, 48, 49, 59, 32, 125], 1),
  ([100, 111, 109, 97, 105, 110, 32, 100, 32, 123, 32, 97, 99, 116, 32, 97, 32, 99, 111, 115, 116, 32, 49, 32, 123, 32, 125, 32, 97, 99, 116, 32, 97, 32, 99, 111, 115, 116, 32, 50, 32, 123, 32, 125, 32, 125], 6),
  ([100, 111, 109, 97, 105, 110, 32, 100, 32, 123, 32, 125, 32, 100, 111, 109, 97, 105, 110, 32, 100, 32, 123, 32, 125], 6),
  ([116, 114, 101, 101, 32, 116, 32, 123, 32, 105, 102, 32, 97, 59, 32, 125], 5),
  ([116, 114, 101, 101, 32, 116, 32, 123, 32, 105, 102, 32, 39, 97, 32, 61, 61, 32, 39, 98, 59, 32, 125], 0),
  ([116, 114, 101, 101, 32, 116, 32, 123, 32, 105, 102, 32, 115, 101, 108, 102, 32, 61, 61, 32, 115, 101, 108, 102, 59, 32, 125], 0),
  ([116, 114, 101, 101, 32, 116, 32, 123, 32, 105, 102, 32, 49, 32, 61, 61, 32, 116, 114, 117, 101, 59, 32, 125], 7),
  ([116, 114, 101, 101, 32, 116, 32, 123, 32, 112, 108, 97, 110, 32, 100, 59, 32, 125, 32, 100, 111, 109, 97, 105, 110, 32, 100, 32, 123, 32, 125], 0)]
def cnP : List (Bs × Bs) := [([107, 101, 121, 32, 111, 119, 110, 32, 97, 32, 105, 110, 116, 59, 32, 107, 101, 121, 32, 111, 119, 110, 32, 98, 32, 105, 110, 116, 59, 32, 107, 101, 121, 32, 111, 119, 110, 32, 97, 32, 98, 111, 111, 108, 59], [97]),
  ([116, 114, 101, 101, 32, 116, 32, 123, 32, 111, 107, 59, 32, 125, 32, 116, 114, 101, 101, 32, 117, 32, 123, 32, 105, 102, 32, 49, 59, 32, 125, 32, 116, 114, 101, 101, 32, 118, 32, 123, 32, 105, 102, 32, 50, 59, 32, 125], [117]),
  ([116, 114, 101, 101, 32, 116, 32, 123, 32, 117, 115, 101, 32, 117, 59, 32, 125, 32, 116, 114, 101, 101, 32, 117, 32, 123, 32, 117, 115, 101, 32, 118, 59, 32, 125, 32, 116, 114, 101, 101, 32, 118, 32, 123, 32, 117, 115, 101, 32, 117, 59, 32, 125], [117]),
  ([100, 111, 109, 97, 105, 110, 32, 100, 32, 123, 32, 103, 111, 97, 108, 32, 120, 32, 61, 61, 32, 49, 59, 32, 125, 32, 116, 114, 101, 101, 32, 116, 32, 123, 32, 105, 102, 32, 49, 59, 32, 125], [100]),
  ([116, 114, 101, 101, 32, 116, 32, 123, 32, 105, 102, 32, 49, 59, 32, 125, 32, 116, 114, 101, 101, 32, 116, 32, 123, 32, 111, 107, 59, 32, 125], [116]),
  ([116, 114, 101, 101, 32, 116, 32, 123, 32, 112, 108, 97, 110, 32, 101, 59, 32, 125, 32, 100, 111, 109, 97, 105, 110, 32, 100, 32, 123, 32, 125], [116]),
  ([107, 101, 121, 32, 111, 119, 110, 32, 113, 32, 98, 111, 111, 108, 59, 32, 100, 111, 109, 97, 105, 110, 32, 101, 32, 123, 32, 125, 32, 100, 111, 109, 97, 105, 110, 32, 100, 32, 123, 32, 118, 97, 114, 32, 113, 32, 48, 32, 49, 59, 32, 125], [100]),
  ([116, 114, 101, 101, 32, 97, 32, 123, 32, 115, 101, 113, 32, 123, 32, 117, 115, 101, 32, 98, 59, 32, 117, 115, 101, 32, 99, 59, 32, 125, 32, 125, 32, 116, 114, 101, 101, 32, 98, 32, 123, 32, 111, 107, 59, 32, 125, 32, 116, 114, 101, 101, 32, 99, 32, 123, 32, 114, 101, 112, 101, 97, 116, 32, 48, 32, 111, 107, 59, 32, 125], [99])]
def cwQ (q : Int) (x : ByteArray × Int) : Bool := decide (x.2 = q)
def cnQ (q : Bs) (x : ByteArray × Int) : Bool := decide (x.2 ≠ 0) && eqG x.1 (bs q)
theorem cw_all : cwP.all (fun p => ckOf p.1 (cwQ p.2) && decide (p.1.length ≤ 65536)) = true := by decide +kernel
theorem cn_all : cnP.all (fun p => ckOf p.1 (cnQ p.2) && decide (p.1.length ≤ 65536)) = true := by decide +kernel
theorem cw_at {i : Nat} {p : Bs × Int} (h : cwP[i]? = some p) : p.1.length ≤ 65536 ∧ ∃ g x, rparP p.1 = .ok g ∧ pgFitC g = true ∧ checkE g = some x ∧ x.2 = p.2 := by
  have h1 := List.all_eq_true.1 cw_all p (List.mem_of_getElem? h)
  rw [Bool.and_eq_true] at h1
  obtain ⟨g, x, a, b, c, d⟩ := ck_of h1.1
  exact ⟨of_decide_eq_true h1.2, g, x, a, b, c, of_decide_eq_true d⟩
theorem cn_at {i : Nat} {p : Bs × Bs} (h : cnP[i]? = some p) : p.1.length ≤ 65536 ∧ ∃ g x, rparP p.1 = .ok g ∧ pgFitC g = true ∧ checkE g = some x ∧ x.2 ≠ 0 ∧ x.1 = bs p.2 := by
  have h1 := List.all_eq_true.1 cn_all p (List.mem_of_getElem? h)
  rw [Bool.and_eq_true] at h1
  obtain ⟨g, x, a, b, c, d⟩ := ck_of h1.1
  unfold cnQ at d
  rw [Bool.and_eq_true] at d
  exact ⟨of_decide_eq_true h1.2, g, x, a, b, c, of_decide_eq_true d.1, eqG_iff.1 d.2⟩
end Go.Proofs.YtnphaaahdlkmhaaGreat
end
/-
  CheckWrong and CheckNames: given programs are accepted or rejected with the documented errors, and the declaration that is told. No condition.
-/
section
namespace Go.Proofs.YtnphaaahdlkmhaaGreat
open Go.ChangeShapes Go.WideShapes Go.ChangeAt Go.RowKit Go.Maps
set_option maxRecDepth 100000
set_option maxHeartbeats 4000000

theorem parse13 {b : Bs} {g : Pg} (hg : rparP b = .ok g) {s : ByteArray} (hs : s.size = b.length) (hl : b.length ≤ 65536) (W : World) (cap : Nat) (A : Option Addr) (hc1 : s.size ≤ cap) (hB : BAt W A b) :
    Calls Tryz.prog 7 #[.slice A s.size cap] W fun e w' => ∃ A1 n1 c1 A2 n2 c2 A3 n3 c3, e = .returned (.tuple #[.agg #[.slice A1 n1 c1, .slice A2 n2 c2, .slice A3 n3 c3], .int .i64 (b.length : Int), .int .i64 0]) ∧ PgAt w' (fun k => W.heap.size ≤ k) g [.slice A1 n1 c1, .slice A2 n2 c2, .slice A3 n3 c3] ∧ CapOk (.slice A1 n1 c1) ∧ Touch NoB W w' := by
  refine (rparse_any (w := W) (n := s.size) hs.symm (by omega) hc1 hB).mono ?_
  rintro e w' ⟨hT, hR⟩
  rw [hg] at hR
  obtain ⟨v1, v2, v3, rfl, hP, hC⟩ := hR
  obtain ⟨A1, n1, c1, A2, n2, c2, A3, n3, c3, rfl, rfl, rfl⟩ := pg_form hP
  exact ⟨_, _, _, _, _, _, _, _, _, rfl, hP, hC, hT⟩

def cwA : Array Value := #[.string ⟨#[107, 101, 121, 32, 111, 119, 110, 32, 97, 32, 105, 110, 116, 59, 32, 107, 101, 121, 32, 111, 119, 110, 32, 97, 32, 98, 111, 111, 108, 59]⟩, .string ⟨#[116, 114, 101, 101, 32, 116, 32, 123, 32, 111, 107, 59, 32, 125, 32, 116, 114, 101, 101, 32, 116, 32, 123, 32, 111, 107, 59, 32, 125]⟩, .string ⟨#[116, 114, 101, 101, 32, 116, 32, 123, 32, 105, 102, 32, 49, 59, 32, 125]⟩, .string ⟨#[107, 101, 121, 32, 111, 119, 110, 32, 97, 32, 105, 110, 116, 59, 32, 116, 114, 101, 101, 32, 116, 32, 123, 32, 115, 101, 116, 32, 97, 32, 58, 61, 32, 116, 114, 117, 101, 59, 32, 125]⟩, .string ⟨#[116, 114, 101, 101, 32, 116, 32, 123, 32, 115, 101, 116, 32, 97, 32, 58, 61, 32, 49, 59, 32, 125]⟩, .string ⟨#[116, 114, 101, 101, 32, 116, 32, 123, 32, 112, 105, 99, 107, 32, 123, 32, 116, 114, 117, 101, 58, 32, 111, 107, 59, 32, 125, 32, 125]⟩, .string ⟨#[116, 114, 101, 101, 32, 116, 32, 123, 32, 112, 108, 97, 110, 32, 100, 59, 32, 125]⟩, .string ⟨#[116, 114, 101, 101, 32, 116, 32, 123, 32, 117, 115, 101, 32, 117, 59, 32, 125]⟩, .string ⟨#[116, 114, 101, 101, 32, 116, 32, 123, 32, 112, 97, 114, 32, 48, 32, 49, 32, 123, 32, 111, 107, 59, 32, 125, 32, 125]⟩, .string ⟨#[116, 114, 101, 101, 32, 116, 32, 123, 32, 112, 97, 114, 32, 49, 32, 50, 32, 123, 32, 111, 107, 59, 32, 125, 32, 125]⟩, .string ⟨#[116, 114, 101, 101, 32, 116, 32, 123, 32, 114, 101, 112, 101, 97, 116, 32, 48, 32, 111, 107, 59, 32, 125]⟩, .string ⟨#[116, 114, 101, 101, 32, 116, 32, 123, 32, 114, 101, 112, 101, 97, 116, 32, 49, 48, 48, 49, 32, 111, 107, 59, 32, 125]⟩, .string ⟨#[116, 114, 101, 101, 32, 116, 32, 123, 32, 117, 115, 101, 32, 116, 59, 32, 125]⟩, .string ⟨#[116, 114, 101, 101, 32, 116, 32, 123, 32, 117, 115, 101, 32, 117, 59, 32, 125, 32, 116, 114, 101, 101, 32, 117, 32, 123, 32, 110, 111, 116, 32, 117, 115, 101, 32, 116, 59, 32, 125]⟩, .string ⟨#[116, 114, 101, 101, 32, 116, 32, 123, 32, 117, 115, 101, 32, 117, 59, 32, 125, 32, 116, 114, 101, 101, 32, 117, 32, 123, 32, 111, 107, 59, 32, 125]⟩, .string ⟨#[107, 101, 121, 32, 111, 119, 110, 32, 118, 32, 105, 110, 116, 59, 32, 100, 111, 109, 97, 105, 110, 32, 100, 32, 123, 32, 118, 97, 114, 32, 118, 32, 48, 32, 49, 59, 32, 118, 97, 114, 32, 118, 32, 48, 32, 49, 59, 32, 125]⟩, .string ⟨#[107, 101, 121, 32, 111, 119, 110, 32, 118, 32, 105, 110, 116, 59, 32, 100, 111, 109, 97, 105, 110, 32, 100, 32, 123, 32, 118, 97, 114, 32, 118, 32, 50, 32, 49, 59, 32, 125]⟩, .string ⟨#[100, 111, 109, 97, 105, 110, 32, 100, 32, 123, 32, 118, 97, 114, 32, 118, 32, 48, 32, 49, 59, 32, 125]⟩, .string ⟨#[107, 101, 121, 32, 111, 119, 110, 32, 118, 32, 98, 111, 111, 108, 59, 32, 100, 111, 109, 97, 105, 110, 32, 100, 32, 123, 32, 118, 97, 114, 32, 118, 32, 48, 32, 49, 59, 32, 125]⟩, .string ⟨#[107, 101, 121, 32, 111, 119, 110, 32, 118, 32, 105, 110, 116, 59, 32, 100, 111, 109, 97, 105, 110, 32, 100, 32, 123, 32, 118, 97, 114, 32, 118, 32, 48, 32, 49, 48, 49, 59, 32, 125]⟩, .string ⟨#[100, 111, 109, 97, 105, 110, 32, 100, 32, 123, 32, 97, 99, 116, 32, 97, 32, 99, 111, 115, 116, 32, 48, 32, 123, 32, 125, 32, 125]⟩, .string ⟨#[100, 111, 109, 97, 105, 110, 32, 100, 32, 123, 32, 97, 99, 116, 32, 97, 32, 99, 111, 115, 116, 32, 49, 48, 48, 49, 32, 123, 32, 125, 32, 125]⟩, .string ⟨#[100, 111, 109, 97, 105, 110, 32, 100, 32, 123, 32, 97, 99, 116, 32, 97, 32, 99, 111, 115, 116, 32, 49, 32, 123, 32, 110, 101, 101, 100, 32, 118, 32, 61, 61, 32, 49, 59, 32, 125, 32, 125]⟩, .string ⟨#[100, 111, 109, 97, 105, 110, 32, 100, 32, 123, 32, 103, 111, 97, 108, 32, 118, 32, 61, 61, 32, 49, 59, 32, 125]⟩, .string ⟨#[107, 101, 121, 32, 111, 119, 110, 32, 118, 32, 105, 110, 116, 59, 32, 100, 111, 109, 97, 105, 110, 32, 100, 32, 123, 32, 118, 97, 114, 32, 118, 32, 48, 32, 49, 59, 32, 103, 111, 97, 108, 32, 118, 32, 61, 61, 32, 49, 48, 49, 59, 32, 125]⟩, .string ⟨#[100, 111, 109, 97, 105, 110, 32, 100, 32, 123, 32, 97, 99, 116, 32, 97, 32, 99, 111, 115, 116, 32, 49, 32, 123, 32, 125, 32, 97, 99, 116, 32, 97, 32, 99, 111, 115, 116, 32, 50, 32, 123, 32, 125, 32, 125]⟩, .string ⟨#[100, 111, 109, 97, 105, 110, 32, 100, 32, 123, 32, 125, 32, 100, 111, 109, 97, 105, 110, 32, 100, 32, 123, 32, 125]⟩, .string ⟨#[116, 114, 101, 101, 32, 116, 32, 123, 32, 105, 102, 32, 97, 59, 32, 125]⟩, .string ⟨#[116, 114, 101, 101, 32, 116, 32, 123, 32, 105, 102, 32, 39, 97, 32, 61, 61, 32, 39, 98, 59, 32, 125]⟩, .string ⟨#[116, 114, 101, 101, 32, 116, 32, 123, 32, 105, 102, 32, 115, 101, 108, 102, 32, 61, 61, 32, 115, 101, 108, 102, 59, 32, 125]⟩, .string ⟨#[116, 114, 101, 101, 32, 116, 32, 123, 32, 105, 102, 32, 49, 32, 61, 61, 32, 116, 114, 117, 101, 59, 32, 125]⟩, .string ⟨#[116, 114, 101, 101, 32, 116, 32, 123, 32, 112, 108, 97, 110, 32, 100, 59, 32, 125, 32, 100, 111, 109, 97, 105, 110, 32, 100, 32, 123, 32, 125]⟩]
def cwW : Array Value := #[.int .i64 6, .int .i64 6, .int .i64 7, .int .i64 7, .int .i64 5, .int .i64 7, .int .i64 5, .int .i64 5, .int .i64 1, .int .i64 1, .int .i64 1, .int .i64 1, .int .i64 8, .int .i64 8, .int .i64 0, .int .i64 6, .int .i64 1, .int .i64 5, .int .i64 7, .int .i64 1, .int .i64 1, .int .i64 1, .int .i64 5, .int .i64 5, .int .i64 1, .int .i64 6, .int .i64 6, .int .i64 5, .int .i64 0, .int .i64 0, .int .i64 7, .int .i64 0]
theorem cwA_eq : cwA.toList = cwP.map (fun p => Value.string (bs p.1)) := by kernel_rfl
theorem cwW_eq : cwW.toList = cwP.map (fun p => Value.int .i64 p.2) := by kernel_rfl
theorem cw_out (k : Int) (w : World) (h : k < 0 ∨ 32 ≤ k) : Calls Tryz.prog 3 #[.int .i64 k] w fun e w' => e = .returned (.bool true) ∧ Touch NoB w w' := by
  have HA := Lib.hid (alive13_any w)
  rcases h with h | h
  · have h0 : decide (k < 0) = true := by simpa using h
    go_enter Tryz.func3, Tryz.ntmps3
    go_wp2_with fail
    refine HA.out.mono ?_
    rintro e w1 ⟨rfl, hT1⟩
    have HT := Lib.hid hT1
    clear hT1
    go_wp2
    go_ret
    exact ⟨rfl, (HT.out.alloc _).alloc _⟩
  · have h0 : decide (k < 0) = false := by simp; omega
    have h1 : decide (32 ≤ k) = true := by simpa using h
    go_enter Tryz.func3, Tryz.ntmps3
    go_wp2_with fail
    refine HA.out.mono ?_
    rintro e w1 ⟨rfl, hT1⟩
    have HT := Lib.hid hT1
    clear hT1
    go_wp2
    go_ret
    exact ⟨rfl, (HT.out.alloc _).alloc _⟩
theorem cw_in (i : Nat) (w : World) (h : i < 32) : Calls Tryz.prog 3 #[.int .i64 (i : Int)] w fun e w' => e = .returned (.bool true) ∧ Touch NoB w w' := by
  have HA := Lib.hid (alive13_any w)
  have HN := Lib.hid (fun n w => num13_any n w)
  obtain ⟨p, hp⟩ : ∃ p, cwP[i]? = some p := ⟨_, List.getElem?_eq_getElem (show i < cwP.length from h)⟩
  obtain ⟨hpl, g, x, hpa, hfit, hck, hxe⟩ := cw_at hp
  obtain ⟨s, hs⟩ : ∃ s, bs p.1 = s := ⟨_, rfl⟩
  have hsl : s.size = p.1.length := by rw [← hs, bs_size]
  have hsd : s.data.toList = p.1 := by rw [← hs, bs_list]
  have h0 : decide ((i : Int) < 0) = false := by simp
  have h1 : decide ((32 : Int) ≤ (i : Int)) = false := by simp; omega
  have hi : (i : Int) < 32 := by omega
  have HPA := Lib.hid (fun W cap A hc1 hB => parse13 hpa hsl hpl W cap A hc1 hB)
  obtain ⟨x1, x2⟩ := x
  simp only at hxe
  obtain ⟨pw, hpw⟩ : ∃ z, p.2 = z := ⟨_, rfl⟩
  rw [hpw] at hxe
  have hxe := hxe.symm
  subst hxe
  have HCK := Lib.hid (fun (W : World) (Q : Nat → Prop) (v1 v2 v3 : Value) hP hC => check_any g (x1, pw) (w := W) (Q := Q) (v1 := v1) (v2 := v2) (v3 := v3) hP hC hfit hck)
  simp only at HCK
  have hcA : ∀ (W : World) (q : Nat), W.heap.size = q → (W.alloc (.cells cwA 9)).cell? ⟨q, i, none⟩ = some (.string s) := fun W q hq => by
    rw [cell_of_row _ q i cwA 9 _ (alloc_blk W cwA 9 hq)]
    rw [← Array.getElem?_toList, cwA_eq, List.getElem?_map, hp, ← hs]
    rfl
  have hcW : ∀ (W : World) (q : Nat), W.heap.size = q → (W.alloc (.cells cwW 3)).cell? ⟨q, i, none⟩ = some (.int .i64 pw) := fun W q hq => by
    rw [cell_of_row _ q i cwW 3 _ (alloc_blk W cwW 3 hq)]
    rw [← Array.getElem?_toList, cwW_eq, List.getElem?_map, hp, ← hpw]
    rfl
  have HCA := Lib.hid hcA
  have HCW := Lib.hid hcW
  have HSD := Lib.hid (And.intro hsd (And.intro hpl hsl))
  clear hp hpa hfit hck hs hcA hcW hsd h hpl hsl
  go_enter Tryz.func3, Tryz.ntmps3
  go_wp2_with fail
  refine HA.out.mono ?_
  rintro e w1 ⟨rfl, hT1⟩
  go_upto_region 4 with fail
  obtain ⟨W1, hW1⟩ : ∃ W, W = w1.alloc (.cells cwA 9 (0, 0)) := ⟨_, rfl⟩
  obtain ⟨W2, hW2⟩ : ∃ W, W = W1.alloc (.cells cwW 3 (0, 0)) := ⟨_, rfl⟩
  show Code.wp _ _ _ _ ((w1.alloc (.cells cwA 9 (0, 0))).alloc (.cells cwW 3 (0, 0)))
  rw [← hW1, ← hW2]
  have t1 : Touch NoB w1 W1 := by rw [hW1]; exact (Touch.refl _ _).alloc _
  have t2 : Touch NoB W1 W2 := by rw [hW2]; exact (Touch.refl _ _).alloc _
  have hs1 : W1.heap.size = w1.heap.size + 1 := by rw [hW1]; simp only [World.size_alloc]
  have ca0 : W1.cell? ⟨w1.heap.size, i, none⟩ = some (.string s) := by rw [hW1]; exact HCA.out w1 _ rfl
  have ca : W2.cell? ⟨w1.heap.size, i, none⟩ = some (.string s) := (t2.cell (p := ⟨w1.heap.size, i, none⟩) (by simp only; omega) (fun z => z)).trans ca0
  have cw : W2.cell? ⟨w1.heap.size + 1, i, none⟩ = some (.int .i64 pw) := by rw [hW2]; exact HCW.out W1 _ hs1
  have hsz2 : W2.heap.size = w1.heap.size + 2 := by rw [hW2]; simp only [World.size_alloc]; omega
  obtain ⟨cap, W3, hcv, hc1, hc2, hT3, hB3⟩ := conv_any s (by have := HSD.out.2; omega) W2
  rw [HSD.out.1] at hB3
  have HT := Lib.hid ((hT1.same t1).same (t2.same hT3))
  have HQ := Lib.hid (HPA.out W3 cap _ hc1 hB3)
  have HC2 := Lib.hid (And.intro cw (And.intro hT3 hsz2))
  clear hT1 t1 t2 ca0 hc1 hc2 hT3 hB3 cw hW1 hW2 hsz2 hs1
  go_wp2_with fail
  refine HQ.out.mono ?_
  rintro r w4 ⟨A1, n1, c1, A2, n2, c2, A3, n3, c3, rfl, hP, hC, hT4⟩
  have HP := Lib.hid (fun W (t : Touch NoB w4 W) => HCK.out W _ _ _ _ (hP.touch t (fun b _ f => f)) hC)
  have HT4 := Lib.hid (And.intro (HT.out.same hT4) (HC2.out.2.1.same hT4))
  clear hP hC hT4 ca hcv
  go_wp2_with fail
  refine (HP.out _ (by repeat (first | with_reducible exact Touch.refl NoB _ | with_reducible refine Touch.drew ?_ | with_reducible refine Touch.alloc ?_ _))).mono ?_
  rintro r w5 ⟨rfl, hT5⟩
  have t5 := Touch.same (F := NoB) (a := w4) (by repeat (first | with_reducible exact Touch.refl NoB _ | with_reducible refine Touch.drew ?_ | with_reducible refine Touch.alloc ?_ _)) hT5
  have cw5 : w5.cell? ⟨w1.heap.size + 1, i, none⟩ = some (.int .i64 pw) := ((HT4.out.2.same t5).cell (p := ⟨w1.heap.size + 1, i, none⟩) (by have := HC2.out.2.2; simp only; omega) (fun z => z)).trans HC2.out.1
  have cl5 : w1.heap.size + 1 < w5.heap.size := by have := (HT4.out.2.same t5).size; have := HC2.out.2.2; omega
  have HT5 := Lib.hid (HT4.out.1.same t5)
  clear hT5 t5
  have hee : (pw == pw) = true := by simp
  go_wp2_with fail
  go_quiet ((go_at_call 9; exact quiet_same (HN.out _ _)))
  go_wp2
  go_ret
  exact ⟨rfl, HT5.out.drewN _⟩
theorem cw_any (k : Int) (w : World) : Calls Tryz.prog 3 #[.int .i64 k] w fun e w' => e = .returned (.bool true) ∧ Touch NoB w w' := by
  by_cases h : k < 0 ∨ 32 ≤ k
  · exact cw_out k w h
  · obtain ⟨i, rfl⟩ : ∃ i : Nat, k = (i : Int) := ⟨k.toNat, by omega⟩
    exact cw_in i w (by omega)
end Go.Proofs.YtnphaaahdlkmhaaGreat
end
/-
  CheckNames: the declaration that is told of a program that can't be run. No condition.
-/
section
namespace Go.Proofs.YtnphaaahdlkmhaaGreat
open Go.ChangeShapes Go.WideShapes Go.ChangeAt Go.RowKit Go.Maps
set_option maxRecDepth 100000
set_option maxHeartbeats 4000000


def cnA : Array Value := #[.string ⟨#[107, 101, 121, 32, 111, 119, 110, 32, 97, 32, 105, 110, 116, 59, 32, 107, 101, 121, 32, 111, 119, 110, 32, 98, 32, 105, 110, 116, 59, 32, 107, 101, 121, 32, 111, 119, 110, 32, 97, 32, 98, 111, 111, 108, 59]⟩, .string ⟨#[116, 114, 101, 101, 32, 116, 32, 123, 32, 111, 107, 59, 32, 125, 32, 116, 114, 101, 101, 32, 117, 32, 123, 32, 105, 102, 32, 49, 59, 32, 125, 32, 116, 114, 101, 101, 32, 118, 32, 123, 32, 105, 102, 32, 50, 59, 32, 125]⟩, .string ⟨#[116, 114, 101, 101, 32, 116, 32, 123, 32, 117, 115, 101, 32, 117, 59, 32, 125, 32, 116, 114, 101, 101, 32, 117, 32, 123, 32, 117, 115, 101, 32, 118, 59, 32, 125, 32, 116, 114, 101, 101, 32, 118, 32, 123, 32, 117, 115, 101, 32, 117, 59, 32, 125]⟩, .string ⟨#[100, 111, 109, 97, 105, 110, 32, 100, 32, 123, 32, 103, 111, 97, 108, 32, 120, 32, 61, 61, 32, 49, 59, 32, 125, 32, 116, 114, 101, 101, 32, 116, 32, 123, 32, 105, 102, 32, 49, 59, 32, 125]⟩, .string ⟨#[116, 114, 101, 101, 32, 116, 32, 123, 32, 105, 102, 32, 49, 59, 32, 125, 32, 116, 114, 101, 101, 32, 116, 32, 123, 32, 111, 107, 59, 32, 125]⟩, .string ⟨#[116, 114, 101, 101, 32, 116, 32, 123, 32, 112, 108, 97, 110, 32, 101, 59, 32, 125, 32, 100, 111, 109, 97, 105, 110, 32, 100, 32, 123, 32, 125]⟩, .string ⟨#[107, 101, 121, 32, 111, 119, 110, 32, 113, 32, 98, 111, 111, 108, 59, 32, 100, 111, 109, 97, 105, 110, 32, 101, 32, 123, 32, 125, 32, 100, 111, 109, 97, 105, 110, 32, 100, 32, 123, 32, 118, 97, 114, 32, 113, 32, 48, 32, 49, 59, 32, 125]⟩, .string ⟨#[116, 114, 101, 101, 32, 97, 32, 123, 32, 115, 101, 113, 32, 123, 32, 117, 115, 101, 32, 98, 59, 32, 117, 115, 101, 32, 99, 59, 32, 125, 32, 125, 32, 116, 114, 101, 101, 32, 98, 32, 123, 32, 111, 107, 59, 32, 125, 32, 116, 114, 101, 101, 32, 99, 32, 123, 32, 114, 101, 112, 101, 97, 116, 32, 48, 32, 111, 107, 59, 32, 125]⟩]
def cnW : Array Value := #[.string ⟨#[97]⟩, .string ⟨#[117]⟩, .string ⟨#[117]⟩, .string ⟨#[100]⟩, .string ⟨#[116]⟩, .string ⟨#[116]⟩, .string ⟨#[100]⟩, .string ⟨#[99]⟩]
theorem cnA_eq : cnA.toList = cnP.map (fun p => Value.string (bs p.1)) := by kernel_rfl
theorem cnW_eq : cnW.toList = cnP.map (fun p => Value.string (bs p.2)) := by kernel_rfl
theorem cn_out (k : Int) (w : World) (h : k < 0 ∨ 8 ≤ k) : Calls Tryz.prog 5 #[.int .i64 k] w fun e w' => e = .returned (.bool true) ∧ Touch NoB w w' := by
  have HA := Lib.hid (alive13_any w)
  rcases h with h | h
  · have h0 : decide (k < 0) = true := by simpa using h
    go_enter Tryz.func5, Tryz.ntmps5
    go_wp2_with fail
    refine HA.out.mono ?_
    rintro e w1 ⟨rfl, hT1⟩
    have HT := Lib.hid hT1
    clear hT1
    go_wp2
    go_ret
    exact ⟨rfl, (HT.out.alloc _).alloc _⟩
  · have h0 : decide (k < 0) = false := by simp; omega
    have h1 : decide (8 ≤ k) = true := by simpa using h
    go_enter Tryz.func5, Tryz.ntmps5
    go_wp2_with fail
    refine HA.out.mono ?_
    rintro e w1 ⟨rfl, hT1⟩
    have HT := Lib.hid hT1
    clear hT1
    go_wp2
    go_ret
    exact ⟨rfl, (HT.out.alloc _).alloc _⟩
theorem cn_in (i : Nat) (w : World) (h : i < 8) : Calls Tryz.prog 5 #[.int .i64 (i : Int)] w fun e w' => e = .returned (.bool true) ∧ Touch NoB w w' := by
  have HA := Lib.hid (alive13_any w)
  have HN := Lib.hid (fun n w => num13_any n w)
  obtain ⟨p, hp⟩ : ∃ p, cnP[i]? = some p := ⟨_, List.getElem?_eq_getElem (show i < cnP.length from h)⟩
  obtain ⟨hpl, g, x, hpa, hfit, hck, hxn, hxe⟩ := cn_at hp
  obtain ⟨s, hs⟩ : ∃ s, bs p.1 = s := ⟨_, rfl⟩
  have hsl : s.size = p.1.length := by rw [← hs, bs_size]
  have hsd : s.data.toList = p.1 := by rw [← hs, bs_list]
  have h0 : decide ((i : Int) < 0) = false := by simp
  have h1 : decide ((8 : Int) ≤ (i : Int)) = false := by simp; omega
  have hi : (i : Int) < 8 := by omega
  have HPA := Lib.hid (fun W cap A hc1 hB => parse13 hpa hsl hpl W cap A hc1 hB)
  obtain ⟨x1, x2⟩ := x
  simp only at hxn hxe
  obtain ⟨pw, hpw⟩ : ∃ z, bs p.2 = z := ⟨_, rfl⟩
  rw [hpw] at hxe
  have hxe := hxe.symm
  subst hxe
  have hne : (x2 != 0) = true := by simpa using hxn
  have HCK := Lib.hid (fun (W : World) (Q : Nat → Prop) (v1 v2 v3 : Value) hP hC => check_any g (pw, x2) (w := W) (Q := Q) (v1 := v1) (v2 := v2) (v3 := v3) hP hC hfit hck)
  simp only at HCK
  have hcA : ∀ (W : World) (q : Nat), W.heap.size = q → (W.alloc (.cells cnA 9)).cell? ⟨q, i, none⟩ = some (.string s) := fun W q hq => by
    rw [cell_of_row _ q i cnA 9 _ (alloc_blk W cnA 9 hq)]
    rw [← Array.getElem?_toList, cnA_eq, List.getElem?_map, hp, ← hs]
    rfl
  have hcW : ∀ (W : World) (q : Nat), W.heap.size = q → (W.alloc (.cells cnW 9)).cell? ⟨q, i, none⟩ = some (.string pw) := fun W q hq => by
    rw [cell_of_row _ q i cnW 9 _ (alloc_blk W cnW 9 hq)]
    rw [← Array.getElem?_toList, cnW_eq, List.getElem?_map, hp, ← hpw]
    rfl
  have HCA := Lib.hid hcA
  have HCW := Lib.hid hcW
  have HSD := Lib.hid (And.intro hsd (And.intro hpl hsl))
  clear hp hpa hfit hck hs hcA hcW hsd h hpl hsl
  go_enter Tryz.func5, Tryz.ntmps5
  go_wp2_with fail
  refine HA.out.mono ?_
  rintro e w1 ⟨rfl, hT1⟩
  go_upto_region 4 with fail
  obtain ⟨W1, hW1⟩ : ∃ W, W = w1.alloc (.cells cnA 9 (0, 0)) := ⟨_, rfl⟩
  obtain ⟨W2, hW2⟩ : ∃ W, W = W1.alloc (.cells cnW 9 (0, 0)) := ⟨_, rfl⟩
  show Code.wp _ _ _ _ ((w1.alloc (.cells cnA 9 (0, 0))).alloc (.cells cnW 9 (0, 0)))
  rw [← hW1, ← hW2]
  have t1 : Touch NoB w1 W1 := by rw [hW1]; exact (Touch.refl _ _).alloc _
  have t2 : Touch NoB W1 W2 := by rw [hW2]; exact (Touch.refl _ _).alloc _
  have hs1 : W1.heap.size = w1.heap.size + 1 := by rw [hW1]; simp only [World.size_alloc]
  have ca0 : W1.cell? ⟨w1.heap.size, i, none⟩ = some (.string s) := by rw [hW1]; exact HCA.out w1 _ rfl
  have ca : W2.cell? ⟨w1.heap.size, i, none⟩ = some (.string s) := (t2.cell (p := ⟨w1.heap.size, i, none⟩) (by simp only; omega) (fun z => z)).trans ca0
  have cw : W2.cell? ⟨w1.heap.size + 1, i, none⟩ = some (.string pw) := by rw [hW2]; exact HCW.out W1 _ hs1
  have hsz2 : W2.heap.size = w1.heap.size + 2 := by rw [hW2]; simp only [World.size_alloc]; omega
  obtain ⟨cap, W3, hcv, hc1, hc2, hT3, hB3⟩ := conv_any s (by have := HSD.out.2; omega) W2
  rw [HSD.out.1] at hB3
  have HT := Lib.hid ((hT1.same t1).same (t2.same hT3))
  have HQ := Lib.hid (HPA.out W3 cap _ hc1 hB3)
  have HC2 := Lib.hid (And.intro cw (And.intro hT3 hsz2))
  clear hT1 t1 t2 ca0 hc1 hc2 hT3 hB3 cw hW1 hW2 hsz2 hs1
  go_wp2_with fail
  refine HQ.out.mono ?_
  rintro r w4 ⟨A1, n1, c1, A2, n2, c2, A3, n3, c3, rfl, hP, hC, hT4⟩
  have HP := Lib.hid (fun W (t : Touch NoB w4 W) => HCK.out W _ _ _ _ (hP.touch t (fun b _ f => f)) hC)
  have HT4 := Lib.hid (And.intro (HT.out.same hT4) (HC2.out.2.1.same hT4))
  clear hP hC hT4 ca hcv
  go_wp2_with fail
  refine (HP.out _ (by repeat (first | with_reducible exact Touch.refl NoB _ | with_reducible refine Touch.drew ?_ | with_reducible refine Touch.alloc ?_ _))).mono ?_
  rintro r w5 ⟨rfl, hT5⟩
  have t5 := Touch.same (F := NoB) (a := w4) (by repeat (first | with_reducible exact Touch.refl NoB _ | with_reducible refine Touch.drew ?_ | with_reducible refine Touch.alloc ?_ _)) hT5
  have cw5 : w5.cell? ⟨w1.heap.size + 1, i, none⟩ = some (.string pw) := ((HT4.out.2.same t5).cell (p := ⟨w1.heap.size + 1, i, none⟩) (by have := HC2.out.2.2; simp only; omega) (fun z => z)).trans HC2.out.1
  have cl5 : w1.heap.size + 1 < w5.heap.size := by have := (HT4.out.2.same t5).size; have := HC2.out.2.2; omega
  have HT5 := Lib.hid (HT4.out.1.same t5)
  clear hT5 t5
  go_wp2_with (first | (go_at_call 9; refine (HN.out _ _).mono ?_; rintro e w' ⟨rfl, rfl⟩) | fail)
  go_ret
  exact ⟨rfl, HT5.out⟩
theorem cn_any (k : Int) (w : World) : Calls Tryz.prog 5 #[.int .i64 k] w fun e w' => e = .returned (.bool true) ∧ Touch NoB w w' := by
  by_cases h : k < 0 ∨ 8 ≤ k
  · exact cn_out k w h
  · obtain ⟨i, rfl⟩ : ∃ i : Nat, k = (i : Int) := ⟨k.toNat, by omega⟩
    exact cn_in i w (by omega)
end Go.Proofs.YtnphaaahdlkmhaaGreat
end
/-
  CheckMany: the text of trees that use each other, as it is built. Conditions: those that each theorem names.
-/
section
namespace Go.Proofs.YtnphaaahdlkmhaaGreat
open Go.ChangeShapes Go.WideShapes Go.ChangeAt Go.RowKit Go.Maps
set_option maxRecDepth 100000
set_option maxHeartbeats 4000000

def tA : Bs := [116, 114, 101, 101, 32, 116]
def tB : Bs := [32, 123, 32, 115, 101, 113, 32, 123, 32]
def tC : Bs := [125, 32, 125, 32]
def tD : Bs := [32, 123, 32, 111, 107, 59, 32, 125]
def uA : Bs := [117, 115, 101, 32, 116]
def uB : Bs := [59, 32]
def nmT (i : Nat) : Bs := [UInt8.ofNat (97 + i)]
def useR (X : Bs) (i : Nat) : Nat → Bs
  | 0 => X
  | k + 1 => useR X i k ++ uA ++ nmT (i + 1) ++ uB
def preR (n : Nat) : Nat → Bs
  | 0 => []
  | i + 1 => useR (preR n i ++ tA ++ nmT i ++ tB) i n ++ tC
def manyT (n m : Nat) : Bs := preR n m ++ tA ++ nmT m ++ tD
def cntT (n : Nat) : Nat → Nat
  | 0 => 1
  | m + 1 => 1 + n * cntT n m
theorem useR_len (X : Bs) (i : Nat) : ∀ k, (useR X i k).length = X.length + 8 * k
  | 0 => rfl
  | k + 1 => by
    have h := useR_len X i k
    show (useR X i k ++ uA ++ nmT (i + 1) ++ uB).length = _
    simp only [List.length_append, h, uA, uB, nmT, List.length_cons, List.length_nil]
    omega
theorem preR_len (n : Nat) : ∀ i, (preR n i).length = i * (20 + 8 * n)
  | 0 => by rw [Nat.zero_mul]; rfl
  | i + 1 => by
    have h := preR_len n i
    have e : (preR n (i + 1)).length = (preR n i).length + (20 + 8 * n) := by
      show (useR (preR n i ++ tA ++ nmT i ++ tB) i n ++ tC).length = _
      rw [List.length_append, useR_len, List.length_append, List.length_append, List.length_append]
      show (preR n i).length + 6 + 1 + 9 + 8 * n + 4 = _
      omega
    rw [e, h]
    exact (Nat.succ_mul i (20 + 8 * n)).symm
theorem cname_any (i : Nat) (h : i < 8) (w : World) : Calls Tryz.prog 10 #[.int .i64 (i : Int)] w fun e w' => e = .returned (.string (bs (nmT i))) ∧ w = w' := by
  have hc : i = 0 ∨ i = 1 ∨ i = 2 ∨ i = 3 ∨ i = 4 ∨ i = 5 ∨ i = 6 ∨ i = 7 := by omega
  clear h
  rcases hc with rfl | rfl | rfl | rfl | rfl | rfl | rfl | rfl
  all_goals
    go_enter Tryz.func10, Tryz.ntmps10
    go_wp2
    go_ret
    exact ⟨rfl, rfl⟩
end Go.Proofs.YtnphaaahdlkmhaaGreat
end
/-
  What a given family of CheckMany is to come to over lists. Lists alone.
-/
section
namespace Go.Proofs.YtnphaaahdlkmhaaGreat
set_option maxRecDepth 100000

def cmQ (n m : Nat) (x : ByteArray × Int) : Bool := decide (x.2 = if 4000 < cntT n m then 9 else 0)
def cmB (n m : Nat) : Bool := ckOf (manyT n m) (cmQ n m) && decide (cntT n m ≤ 1000000000)
end Go.Proofs.YtnphaaahdlkmhaaGreat
end
