/-
  What package inline's Tree makes of the trees of the statement InlineCounts, in lists. No condition beyond those that each theorem names.
-/
import Derived.Test.YtfpeennegmlcpaaJ1
namespace Go.Proofs.Ytfpeennegmlcpaa
open Go.RowKit
set_option maxRecDepth 100000
set_option maxHeartbeats 1000000

def nmE : ByteArray := ⟨#[]⟩
def nmTt : ByteArray := ⟨#[116]⟩
def nmU : ByteArray := ⟨#[117]⟩
/-- A leaf below so many others. -/
def chain : Nat → BN
  | 0 => .mk 13 nmE []
  | m + 1 => .mk 5 nmE [chain m]
def topN (n : Nat) : BN := .mk 0 nmE (List.replicate n (.mk 10 nmU []))
def tsC (n m : Nat) : List TrP := [(nmTt, topN n), (nmU, chain m)]
def madeC (n m : Nat) : BN := .mk 0 nmE (List.replicate n (chain m))
theorem chain_kd : ∀ m, (chain m).kd ≠ 10
  | 0 => by simp [chain, BN.kd]
  | m + 1 => by simp [chain, BN.kd]
theorem folM_plain {ts : List TrP} {f : Nat} {o : List Bool} {n : BN} (h : n.kd ≠ 10) : folM ts (f + 1) o n = .ok (n, [], o) := by
  simp only [folM, if_neg h]
theorem folM_one {ts : List TrP} {f at_ : Nat} {o : List Bool} {s : ByteArray} {ks : List BN} {t : TrP} (hf : kdN (nmsT ts) s = some at_) (hb : o[at_]? = some false) (ht : ts[at_]? = some t) (hk : t.2.kd ≠ 10) : folM ts (f + 2) o (.mk 10 s ks) = .ok (t.2, [at_], o.set at_ true) := by
  have h := folM_use (f := f + 1) (ks := ks) rfl hf hb ht []
  rw [comb_nil, folM_plain hk] at h
  exact h
theorem nodM_ok {ts : List TrP} {f d c c2 : Nat} {o o' o2 : List Bool} {n n' : BN} {l : List Nat} {ks : List BN} (hf : folM ts (ts.length + 1) o n = .ok (n', l, o')) (h1 : d ≤ 40) (h2 : c + 1 ≤ 4000) (hk : kidM (nodM ts f (d + 1)) o' (c + 1) n'.ks = .ok (ks, o2, c2)) : nodM ts (f + 1) d o c n = .ok (.mk n'.kd n'.nm ks, shutM o2 l, c2) := by
  simp only [nodM, hf]
  rw [if_neg (by omega), if_neg (by omega), hk]
theorem chainM {ts : List TrP} : ∀ {m f d : Nat} {o : List Bool} {c : Nat}, m < f → d + m ≤ 40 → c + m + 1 ≤ 4000 → nodM ts f d o c (chain m) = .ok (chain m, o, c + m + 1)
  | 0, 0, _, _, _, h, _, _ => absurd h (by omega)
  | 0, f + 1, d, o, c, _, h2, h3 => by
    exact nodM_ok (folM_plain (chain_kd 0)) (by omega) (by omega) rfl
  | m + 1, 0, _, _, _, h, _, _ => absurd h (by omega)
  | m + 1, f + 1, d, o, c, h1, h2, h3 => by
    have ih := chainM (ts := ts) (m := m) (f := f) (d := d + 1) (o := o) (c := c + 1) (by omega) (by omega) (by omega)
    rw [show c + (m + 1) + 1 = c + 1 + m + 1 by omega]
    exact nodM_ok (folM_plain (chain_kd (m + 1))) (by omega) (by omega) (by simp only [chain, BN.ks, kidM, ih])
theorem chainK {ts : List TrP} {m f d : Nat} {o : List Bool} {c : Nat} (h1 : m ≤ f) (h2 : d + m ≤ 41) (h3 : c + m ≤ 4000) : kidM (nodM ts f d) o c (chain m).ks = .ok ((chain m).ks, o, c + m) := by
  cases m with
  | zero => simp [chain, BN.ks, kidM]
  | succ m =>
    simp only [chain, BN.ks, kidM, chainM (ts := ts) (m := m) (f := f) (d := d) (o := o) (c := c) (by omega) (by omega) (by omega)]
    rw [show c + m + 1 = c + (m + 1) by omega]
theorem useM {n m f d c : Nat} (h1 : m ≤ f) (h2 : d + m ≤ 40) (h3 : c + m + 1 ≤ 4000) : nodM (tsC n m) (f + 1) d [true, false] c (.mk 10 nmU []) = .ok (chain m, [true, false], c + m + 1) := by
  have hk : kdN (nmsT (tsC n m)) nmU = some 1 := by simp [nmsT, tsC, kdN, eqN, nmTt, nmU]
  have hf : folM (tsC n m) ((tsC n m).length + 1) [true, false] (.mk 10 nmU []) = .ok (chain m, [1], [true, true]) := folM_one (ts := tsC n m) (f := 1) (t := (nmU, chain m)) hk rfl rfl (chain_kd m)
  have h := nodM_ok (f := f) (d := d) (c := c) hf (by omega) (by omega) (chainK (m := m) (f := f) (d := d + 1) (o := [true, true]) (c := c + 1) h1 (by omega) (by omega))
  rw [h, ← BN.eta, show c + m + 1 = c + 1 + m by omega]
  rfl
theorem usesM {n m f d : Nat} (h1 : m ≤ f) (h2 : d + m ≤ 40) : ∀ {k c : Nat}, c + k * (m + 1) ≤ 4000 → kidM (nodM (tsC n m) (f + 1) d) [true, false] c (List.replicate k (.mk 10 nmU [])) = .ok (List.replicate k (chain m), [true, false], c + k * (m + 1))
  | 0, c, _ => by simp [kidM]
  | k + 1, c, h => by
    rw [Nat.succ_mul] at h
    rw [List.replicate_succ, List.replicate_succ]
    simp only [kidM, useM (n := n) h1 h2 (show c + m + 1 ≤ 4000 by omega), usesM h1 h2 (k := k) (c := c + m + 1) (by omega)]
    rw [show c + m + 1 + k * (m + 1) = c + (k + 1) * (m + 1) by rw [Nat.succ_mul]; omega]
theorem countsM {n m : Nat} (hn : n ≤ 16) (hm : m ≤ 30) : nodM (tsC n m) 41 1 (List.replicate (tsC n m).length false) 0 (.mk 10 nmTt []) = .ok (madeC n m, [false, false], 1 + n * (m + 1)) := by
  have hb : n * (m + 1) ≤ 16 * 31 := Nat.mul_le_mul hn (by omega)
  have hk : kdN (nmsT (tsC n m)) nmTt = some 0 := by simp [nmsT, tsC, kdN, eqN, nmTt]
  have hf : folM (tsC n m) ((tsC n m).length + 1) (List.replicate (tsC n m).length false) (.mk 10 nmTt []) = .ok (topN n, [0], [true, false]) := folM_one (ts := tsC n m) (f := 1) (t := (nmTt, topN n)) hk rfl rfl (by simp [topN, BN.kd])
  exact nodM_ok (f := 40) (d := 1) (c := 0) hf (by omega) (by omega) (usesM (n := n) (m := m) (f := 39) (d := 1 + 1) (by omega) (by omega) (by omega))
theorem chain_cnt : ∀ m, (chain m).tt.cnt = m + 1
  | 0 => by simp [chain, BN.tt, Tt.cnt, ttL, cntT]
  | m + 1 => by
    have := chain_cnt m
    simp only [chain, BN.tt, ttL, Tt.cnt, cntT]
    omega
theorem chain_dep : ∀ m, (chain m).tt.dep = m + 1
  | 0 => by simp [chain, BN.tt, Tt.dep, ttL, depT]
  | m + 1 => by
    have := chain_dep m
    simp only [chain, BN.tt, ttL, Tt.dep, depT]
    omega
theorem rep_cnt (m : Nat) : ∀ n, cntT (ttL (List.replicate n (chain m))) = n * (m + 1)
  | 0 => by simp [ttL, cntT]
  | n + 1 => by rw [List.replicate_succ, ttL, cntT_cons, rep_cnt m n, chain_cnt, Nat.succ_mul]; omega
theorem rep_dep (m : Nat) : ∀ n, depT (ttL (List.replicate (n + 1) (chain m))) = m + 1
  | 0 => by simp [ttL, depT, chain_dep]
  | n + 1 => by rw [List.replicate_succ, ttL, depT_cons, rep_dep m n, chain_dep]; omega
theorem made_cnt (n m : Nat) : (madeC n m).tt.cnt = 1 + n * (m + 1) := by simp only [madeC, BN.tt, Tt.cnt, rep_cnt]
theorem made_dep {n : Nat} (h : 1 ≤ n) (m : Nat) : (madeC n m).tt.dep = m + 2 := by
  obtain ⟨k, rfl⟩ : ∃ k, n = k + 1 := ⟨n - 1, by omega⟩
  simp only [madeC, BN.tt, Tt.dep, rep_dep]
  omega
end Go.Proofs.Ytfpeennegmlcpaa
