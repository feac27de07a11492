/-
  Package nest's places as keys of maps, and its small functions. Conditions: those that each theorem names.
-/
import Derived.Test.YtfpeennegmlcpaaRows
import Derived.Test.YtfpeennegmlcpaaNum
import Derived.Test.YtfpeennegmlcpaaN1
import Derived.WalkKit
import Derived.ProofKit
import Derived.OpenShut
import Derived.OwnWalk
import Derived.WalkLawsBesides
import Derived.KernelRfl
import Derived.Lib.Hide
import Derived.Deep.AppendLies
import Derived.Deep.QuietTactic
import Derived.BigQuiet
import Derived.RegionTactic
import Derived.Deep.RegionLaw
import Derived.Shelf.Abstract
import Derived.LaidEql
import Derived.DeepKeys3
namespace Go.Proofs.Ytfpeennegmlcpaa
open Go.ChangeShapes Go.WideShapes Go.ChangeAt Go.RowKit
set_option maxRecDepth 100000
set_option maxHeartbeats 1000000

theorem run_equalIn_ptr {P : Program} (w : World) (d : Nat) (t e : TypeId) (a b : Addr) (n : Nat) (ha : OkB w a.block) (hb : OkB w b.block) (h : P.underlying t = some (.pointer e)) (hs : (sizeOf e).run P w = .ok (n + 1) w) : (Op.equalIn (d + 1) t (.pointer (some a)) (.pointer (some b))).run P w = .ok (decide (a = b)) w := by
  have hsm : (sameAddr a b).run P w = .ok (decide (a = b)) w := by
    by_cases e : a = b
    · subst e
      rw [run_sameAddr_same w a]
      simp
    · obtain ⟨ca, ta, ha⟩ := ha
      obtain ⟨cb, tb, hb⟩ := hb
      rw [run_sameAddr_other w e ha hb]
      simp [e]
  simp [Op.equalIn, run_underlying h, hs, Result.andThen, hsm]
theorem plk_mk {P : Program} {t k e pt el it : TypeId} {f0 f1 : Field} {n : Nat} (hut : P.underlying t = some (.map k e)) (hk : P.underlying k = some (.struct #[f0, f1])) (h0 : f0.name ≠ "_") (h1 : f1.name ≠ "_") (g0 : f0.type = pt) (g1 : f1.type = it) (o0 : f0.offset = 0) (o1 : f1.offset = 1)
    (hs : P.stoodInHeld k = false) (hpt : P.underlying pt = some (.pointer el)) (hit : P.underlying it = some (.int .i64)) (hsz : ∀ W : World, (sizeOf el).run P W = .ok (n + 1) W) (hz : ∀ W : World, (zeroValue e).run P W = .ok (szV (0, 0)) W) : PlK P t k e where
  ut := hut
  eq := fun W p q hpo hqo => by
    have hf : P.fieldsOf k = #[f0, f1] := by simp [Program.fieldsOf, hk]
    have e1 := run_equalIn_ptr (P := P) W 9998 pt el p.1 q.1 n hpo hqo hpt (hsz W)
    have e2 := run_equalIn_int (P := P) (w := W) 9998 it .i64 .i64 (p.2 : Int) (q.2 : Int) hit
    unfold plV
    simp only [Op.equal, Op.maxDepth]
    rw [run_equalIn_agg W 9999 k _ _ (by rw [hf]; exact hk) hs, hf]
    simp [Op.eqFields, h0, h1, g0, g1, o0, o1, part, isAgg, run_underlying hpt, run_underlying hit, Result.andThen, e1, e2]
    by_cases hp : p.1 = q.1
    · by_cases hq : p.2 = q.2
      · simp [hp, hq, Prod.ext_iff]
      · have hq2 : ¬ ((p.2 : Int) = (q.2 : Int)) := fun h => hq (by omega)
        simp [hp, hq, hq2, Prod.ext_iff]
    · simp [hp, Prod.ext_iff]
  ck := fun W b p => by
    have hp : ∀ n : Nat, (Instr.checkKey b (n + 1) pt (.pointer (some p.1))).run P W = .ok () W := fun n => by
      rw [Instr.checkKey]
      simp [run_underlying hpt, Result.andThen]
    have hi : ∀ n : Nat, (Instr.checkKey b (n + 1) it (.int .i64 (p.2 : Int))).run P W = .ok () W := fun n => by
      rw [Instr.checkKey]
      simp [run_underlying hit, Result.andThen]
    have hk2 : (Instr.checkKey b (9999 + 1) k (plV p)).run P W = .ok () W := by
      unfold plV
      rw [Instr.checkKey]
      have hp9 := hp 9998
      have hi9 := hi 9998
      simp only [Nat.reduceAdd] at hp9 hi9
      generalize Instr.checkKey b 9999 = ck at hp9 hi9 ⊢
      simp [run_underlying hk, h0, h1, g0, g1, o0, o1, part, isAgg, run_underlying hpt, run_underlying hit, Result.andThen, hp9, hi9]
    exact hk2
  uk := ⟨_, hk⟩
  zr := hz
end Go.Proofs.Ytfpeennegmlcpaa
