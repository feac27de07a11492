/-
  A parser of nodes and programs over lists of tokens, told by plain functions of a place and an error: the nodes that wait for a kid on a stack. No program is named here.
-/
import Derived.Test.YtanecdpcenkoeaaDoorZar3
namespace Go.Proofs.YtanecdpcenkoeaaDoor
set_option maxRecDepth 100000

/-- A node: its kind, its numbers, its name, its expression, its Kids, its weights. -/
inductive Nd where
  | mk (kd a b : Nat) (nm : Bs) (ex : Ex) (ks : List Nd) (ws : List Ex)
def nd0 : Nd := .mk 0 0 0 [] (.leaf 0 0 []) [] []
def Nd.kd : Nd → Nat | .mk k _ _ _ _ _ _ => k
def Nd.ks : Nd → List Nd | .mk _ _ _ _ _ l _ => l
def Nd.ws : Nd → List Ex | .mk _ _ _ _ _ _ l => l
def Nd.add : Nd → Nd → Nd | .mk k a b nm ex ks ws, c => .mk k a b nm ex (ks ++ [c]) ws
def Nd.wadd : Nd → Ex → Nd | .mk k a b nm ex ks ws, x => .mk k a b nm ex ks (ws ++ [x])
def headN (ts : List Tk) (σ : St) : Nd := .mk (headK ts σ) (headV ts σ).a (headV ts σ).b (headV ts σ).nm (headV ts σ).ex [] []
/-- Does a kid follow? The node, with its weight, and the state ahead of the kid. -/
def anoV (ts : List Tk) (n : Nd) (σ : St) : Bool := if mostL n.kd ≤ 1 then decide (n.ks.length < mostL n.kd) else !(decide (0 < n.ks.length) && isS ts [125] σ)
def anoF (n : Nd) (σ : St) : St := if n.ks.length = mostL n.kd then failS 9 σ else σ
def anoN (ts : List Tk) (n : Nd) (σ : St) : Nd := if mostL n.kd ≤ 1 then n else if (decide (0 < n.ks.length) && isS ts [125] σ) = true then n else if n.kd = 11 then n.wadd (eqV ts (anoF n σ)) else n
def anoS (ts : List Tk) (n : Nd) (σ : St) : St := if mostL n.kd ≤ 1 then σ else if (decide (0 < n.ks.length) && isS ts [125] σ) = true then acS ts [125] σ else if n.kd = 11 then exS ts [58] (eqS ts (anoF n σ)) else anoF n σ
def begS (op : List Nd) (σ : St) : St := if op.length = 40 then failS 4 σ else σ
/-- The stack's way: a node begins (none), or one has been read so far (some). -/
def nodR (ts : List Tk) : Nat → List Nd → Option Nd → St → Nd × St
  | 0, _, _, σ => (nd0, σ)
  | f + 1, op, none, σ => nodR ts f op (some (headN ts (begS op σ))) (headS ts (begS op σ))
  | f + 1, op, some n, σ =>
    if σ.2 ≠ 0 then (nd0, σ)
    else if anoV ts n σ = true then nodR ts f (anoN ts n σ :: op) none (anoS ts n σ)
    else match op with
      | [] => (anoN ts n σ, anoS ts n σ)
      | p :: r => nodR ts f r (some (p.add (anoN ts n σ))) (anoS ts n σ)
def nodG (ts : List Tk) (σ : St) : Nd × St := nodR ts (6 * ts.length + 100) [] none σ
structure Tr where
  nm : Bs
  root : Nd
structure Ac where
  nm : Bs
  cost : Nat
  need : List Cn
  make : List Mk
structure Dm where
  nm : Bs
  vars : List Va
  acts : List Ac
  goal : List Cn
structure Pg where
  keys : List Ky
  trees : List Tr
  doms : List Dm
def treV (ts : List Tk) (σ : St) : Tr := ⟨naV ts σ, (nodG ts (exS ts [123] (naS ts σ))).1⟩
def treS (ts : List Tk) (σ : St) : St := exS ts [125] (nodG ts (exS ts [123] (naS ts σ))).2
def needB : Bs := [110, 101, 101, 100]
def makeB : Bs := [109, 97, 107, 101]
def varB : Bs := [118, 97, 114]
def actB : Bs := [97, 99, 116]
def goalB : Bs := [103, 111, 97, 108]
def keyB : Bs := [107, 101, 121]
def treeB : Bs := [116, 114, 101, 101]
def domB : Bs := [100, 111, 109, 97, 105, 110]
/-- An act's needs and makes. -/
def actR (ts : List Tk) : Nat → List Cn → List Mk → St → (List Cn × List Mk) × St
  | 0, a, b, σ => ((a, b), σ)
  | f + 1, a, b, σ =>
    if wiV ts σ = true then
      let s0 := wiS ts σ
      if beV ts needB a.length 8 s0 = true then
        let s1 := beT ts needB a.length 8 s0
        actR ts f (a ++ [cndV ts s1]) b (cndS ts s1)
      else
        let s1 := beT ts needB a.length 8 s0
        if beV ts makeB b.length 8 s1 = true then
          let s2 := beT ts makeB b.length 8 s1
          actR ts f a (b ++ [mkeV ts s2]) (mkeS ts s2)
        else actR ts f a b (failS 2 (beT ts makeB b.length 8 s1))
    else ((a, b), wiS ts σ)
def actH (ts : List Tk) (σ : St) : St := exS ts [123] (nuS ts (exS ts [99, 111, 115, 116] (naS ts σ)))
def actV (ts : List Tk) (σ : St) : Ac := let r := actR ts (ts.length + 5) [] [] (actH ts σ); ⟨naV ts σ, nuV ts (exS ts [99, 111, 115, 116] (naS ts σ)), r.1.1, r.1.2⟩
def actS (ts : List Tk) (σ : St) : St := (actR ts (ts.length + 5) [] [] (actH ts σ)).2
/-- A domain's elements. -/
def domR (ts : List Tk) : Nat → List Va → List Ac → List Cn → St → (List Va × List Ac × List Cn) × St
  | 0, a, b, c, σ => ((a, b, c), σ)
  | f + 1, a, b, c, σ =>
    if wiV ts σ = true then
      let s0 := wiS ts σ
      let s1 := beT ts varB a.length 8 s0
      if beV ts varB a.length 8 s0 = true then domR ts f (a ++ [varV ts s1]) b c (varS ts s1)
      else
        let s2 := beT ts actB b.length 20 s1
        if beV ts actB b.length 20 s1 = true then domR ts f a (b ++ [actV ts s2]) c (actS ts s2)
        else
          let s3 := beT ts goalB c.length 8 s2
          if beV ts goalB c.length 8 s2 = true then domR ts f a b (c ++ [cndV ts s3]) (cndS ts s3)
          else domR ts f a b c (failS 2 s3)
    else ((a, b, c), wiS ts σ)
def domV (ts : List Tk) (σ : St) : Dm := let r := domR ts (ts.length + 5) [] [] [] (exS ts [123] (naS ts σ)); ⟨naV ts σ, r.1.1, r.1.2.1, r.1.2.2⟩
def domS (ts : List Tk) (σ : St) : St := (domR ts (ts.length + 5) [] [] [] (exS ts [123] (naS ts σ))).2
/-- A program's declarations. -/
def prgR (ts : List Tk) : Nat → List Ky → List Tr → List Dm → St → (List Ky × List Tr × List Dm) × St
  | 0, a, b, c, σ => ((a, b, c), σ)
  | f + 1, a, b, c, σ =>
    if (nxS ts σ).kd ≠ 0 then
      let s1 := beT ts keyB a.length 100 σ
      if beV ts keyB a.length 100 σ = true then prgR ts f (a ++ [keyV ts s1]) b c (keyS ts s1)
      else
        let s2 := beT ts treeB b.length 100 s1
        if beV ts treeB b.length 100 s1 = true then prgR ts f a (b ++ [treV ts s2]) c (treS ts s2)
        else
          let s3 := beT ts domB c.length 100 s2
          if beV ts domB c.length 100 s2 = true then prgR ts f a b (c ++ [domV ts s3]) (domS ts s3)
          else prgR ts f a b c (failS 2 s3)
    else ((a, b, c), σ)
def prgG (ts : List Tk) : Pg × St := let r := prgR ts (ts.length + 5) [] [] [] (0, 0); (⟨r.1.1, r.1.2.1, r.1.2.2⟩, r.2)
/-- What a text comes to: a program, or an error and its offset. -/
inductive Pr where
  | ok (p : Pg)
  | er (e at_ : Nat)
def parP (b : Bs) : Pr := match lexL b with
  | .bad p => .er 2 p
  | .good ts => if (prgG ts).2.2 = 0 then .ok (prgG ts).1 else .er (prgG ts).2.2 (match ts[(prgG ts).2.1]? with | some t => t.pl | none => 0)
end Go.Proofs.YtanecdpcenkoeaaDoor
