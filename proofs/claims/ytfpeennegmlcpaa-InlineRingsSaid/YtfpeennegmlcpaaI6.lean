/-
  Trees of bare nodes (a kind, a name, kids; no numbers, no expression, no weights), as plain data and in memory; what package inline's expander does with them, in lists. No condition beyond those that each theorem names.
-/
import Derived.Test.YtfpeennegmlcpaaI5
import Derived.Test.YtfpeennegmlcpaaN5
namespace Go.Proofs.Ytfpeennegmlcpaa
open Go.RowKit
set_option maxRecDepth 100000
set_option maxHeartbeats 1000000

/-- A bare node. -/
inductive BN where
  | mk : Nat → ByteArray → List BN → BN
def BN.kd : BN → Nat | .mk k _ _ => k
def BN.nm : BN → ByteArray | .mk _ s _ => s
def BN.ks : BN → List BN | .mk _ _ l => l
theorem BN.eta (n : BN) : n = .mk n.kd n.nm n.ks := by cases n; rfl
/-- Its ten cells. -/
def ndC (k : Nat) (s : ByteArray) (v : Value) : List Value := [.int .i64 (k : Int), .int .i64 0, .int .i64 0, .string s, .int .i64 0, .int .i64 0, .string ⟨#[]⟩, .slice none 0 0, v, .slice none 0 0]
def ndV (n : BN) (v : Value) : Value := .agg #[.int .i64 (n.kd : Int), .int .i64 0, .int .i64 0, .string n.nm, .int .i64 0, .int .i64 0, .string ⟨#[]⟩, .slice none 0 0, v, .slice none 0 0]
def BN.ok (n : BN) : Prop := n.kd ≤ 1000 ∧ n.nm.size ≤ 9223372036854775807
/-- The list of nodes v, less than d deep, lies in blocks of Q. -/
def KL (w : World) (Q : Nat → Prop) : Nat → List BN → Value → Prop
  | 0, l, v => l = [] ∧ v = .slice none 0 0
  | d + 1, l, v => (l = [] ∧ v = .slice none 0 0) ∨ ∃ g m c cur T, v = .slice (some ⟨g, 0, none⟩) m c ∧ Q g ∧ l.length = m ∧ 0 < m ∧ m ≤ c ∧ c ≤ maxLen ∧ w.heap[g]? = some (.cells cur T (0, 0)) ∧
      ∀ (i : Nat) (y : BN), l[i]? = some y → y.ok ∧ ∃ u, (∀ (j : Nat) (x : Value), (ndC y.kd y.nm u)[j]? = some x → cur[i * 10 + j]? = some x) ∧ KL w Q d y.ks u
theorem KL.via {w w' : World} {F Q R : Nat → Prop} (t : Touch F w w') (h1 : ∀ b, Q b → ¬ F b ∧ R b) : ∀ {d : Nat} {l : List BN} {v : Value}, KL w Q d l v → KL w' R d l v
  | 0, _, _, h => h
  | d + 1, l, v, h => by
    rcases h with h | ⟨g, m, c, cur, T, e1, e2, e3, e4, e5, e6, e7, e8⟩
    · exact .inl h
    · refine .inr ⟨g, m, c, cur, T, e1, (h1 g e2).2, e3, e4, e5, e6, (t.block g (blk_lt e7) (h1 g e2).1).trans e7, fun i y hy => ?_⟩
      obtain ⟨a1, u, a2, a3⟩ := e8 i y hy
      exact ⟨a1, u, a2, KL.via t h1 a3⟩
theorem KL.more {w : World} {Q : Nat → Prop} : ∀ {d e : Nat} {l : List BN} {v : Value}, d ≤ e → KL w Q d l v → KL w Q e l v
  | 0, 0, _, _, _, h => h
  | 0, e + 1, _, _, _, h => .inl h
  | d + 1, 0, _, _, hd, _ => by omega
  | d + 1, e + 1, l, v, hd, h => by
    rcases h with h | ⟨g, m, c, cur, T, e1, e2, e3, e4, e5, e6, e7, e8⟩
    · exact .inl h
    · refine .inr ⟨g, m, c, cur, T, e1, e2, e3, e4, e5, e6, e7, fun i y hy => ?_⟩
      obtain ⟨a1, u, a2, a3⟩ := e8 i y hy
      exact ⟨a1, u, a2, KL.more (by omega) a3⟩
/-- The form of such a list's value. -/
theorem KL.form {w : World} {Q : Nat → Prop} {d : Nat} {l : List BN} {v : Value} (h : KL w Q d l v) : (l = [] ∧ v = .slice none 0 0) ∨ ∃ g m c, v = .slice (some ⟨g, 0, none⟩) m c ∧ Q g ∧ l.length = m ∧ 0 < m ∧ m ≤ c ∧ c ≤ maxLen := by
  cases d with
  | zero => exact .inl h
  | succ d =>
    rcases h with h | ⟨g, m, c, cur, T, e1, e2, e3, e4, e5, e6, -⟩
    · exact .inl h
    · exact .inr ⟨g, m, c, e1, e2, e3, e4, e5, e6⟩

mutual
def BN.tt : BN → Tt
  | .mk _ _ l => .mk (ttL l)
def ttL : List BN → List Tt
  | [] => []
  | n :: l => n.tt :: ttL l
end
theorem ttL_map : ∀ l : List BN, ttL l = l.map BN.tt
  | [] => by simp [ttL]
  | n :: l => by simp only [ttL, List.map_cons]; rw [ttL_map l]
theorem tt_ks (n : BN) : n.tt.ks = ttL n.ks := by cases n with | mk k s l => simp only [BN.tt, Tt.ks, BN.ks]
theorem KL.lk {w : World} {Q : Nat → Prop} : ∀ {d : Nat} {l : List BN} {g m c : Nat}, KL w Q d l (.slice (some ⟨g, 0, none⟩) m c) → LK w 10 8 d (⟨g, 0, none⟩, m) (ttL l)
  | 0, _, _, _, _, h => by have := h.2; cases this
  | d + 1, l, g, m, c, h => by
    rcases h with h | ⟨g', m', c', cur, T, e1, e2, e3, e4, e5, e6, e7, e8⟩
    · have := h.2; cases this
    · injection e1 with a1 a2 a3
      injection a1 with a1
      injection a1 with a1
      subst a1 a2 a3
      refine ⟨by rw [ttL_map, List.length_map]; exact e3, e4, rfl, ⟨cur, T, e7⟩, fun i t ht => ?_⟩
      rw [ttL_map, List.getElem?_map] at ht
      obtain ⟨y, hy, rfl⟩ : ∃ y, l[i]? = some y ∧ y.tt = t := by
        cases hx : l[i]? with
        | none => rw [hx] at ht; cases ht
        | some y => rw [hx] at ht; injection ht with ht; exact ⟨y, rfl, ht⟩
      obtain ⟨-, u, b1, b2⟩ := e8 i y hy
      have hc := (cell_blk e7 (i * 10 + 8)).trans (b1 8 u rfl)
      rw [show 0 + i * 10 + 8 = i * 10 + 8 by omega]
      rcases b2.form with ⟨h0, rfl⟩ | ⟨g2, m2, c2, rfl, -, h3, h4, h5, -⟩
      · exact ⟨none, 0, 0, hc, by omega, fun _ => by rw [tt_ks, h0, ttL], fun h => by omega⟩
      · exact ⟨some ⟨g2, 0, none⟩, m2, c2, hc, h5, fun h => by omega, fun _ => ⟨_, rfl, by rw [tt_ks]; exact KL.lk b2⟩⟩

/-- A tree: its name, its root. -/
abbrev TrP := ByteArray × BN
def nmsT (ts : List TrP) : List NmP := ts.zipIdx.map fun x => (x.1.1, x.2)
/-- What a node is replaced by, the places that were opened for it, which are open then; or an error. -/
def folM (ts : List TrP) : Nat → List Bool → BN → Except Nat (BN × List Nat × List Bool)
  | 0, _, _ => .error 99
  | f + 1, o, n =>
    if n.kd = 10 then
      match kdN (nmsT ts) n.nm with
      | none => .error 5
      | some at_ => if o[at_]? = some true then .error 8 else
        match ts[at_]? with
        | none => .error 99
        | some t => match folM ts f (o.set at_ true) t.2 with
          | .error e => .error e
          | .ok (n', l, o') => .ok (n', at_ :: l, o')
    else .ok (n, [], o)
/-- What a list of nodes is replaced by, node by node. -/
def kidM (nod : List Bool → Nat → BN → Except Nat (BN × List Bool × Nat)) : List Bool → Nat → List BN → Except Nat (List BN × List Bool × Nat)
  | o, c, [] => .ok ([], o, c)
  | o, c, n :: l => match nod o c n with
    | .error e => .error e
    | .ok (n', o', c') => match kidM nod o' c' l with
      | .error e => .error e
      | .ok (l', o2, c2) => .ok (n' :: l', o2, c2)
def shutM : List Bool → List Nat → List Bool
  | o, [] => o
  | o, a :: l => shutM (o.set a false) l
/-- What a node becomes; f bounds how deep it is gone, d is its depth, c how many nodes there have been. -/
def nodM (ts : List TrP) : Nat → Nat → List Bool → Nat → BN → Except Nat (BN × List Bool × Nat)
  | 0, _, _, _, _ => .error 99
  | f + 1, d, o, c, n => match folM ts (ts.length + 1) o n with
    | .error e => .error e
    | .ok (n', l, o') => if 40 < d then .error 4 else if 4000 < c + 1 then .error 9 else
      match kidM (nodM ts f (d + 1)) o' (c + 1) n'.ks with
      | .error e => .error e
      | .ok (ks, o2, c2) => .ok (.mk n'.kd n'.nm ks, shutM o2 l, c2)
end Go.Proofs.Ytfpeennegmlcpaa
