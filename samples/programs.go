package samples

import (
	"math"
	"strings"

	"puppeteer/api"
)

// LongestName is a name that is as long as a name may be.
func LongestName() string { return strings.Repeat("n", api.MaxName) }

// Few returns a number from 0 to most, more often a small one than a great one.
func (d *Dice) Few(most int) int {
	return d.Roll(1 + d.Roll(1+d.Roll(1+most)))
}

// Name returns a name, some of which begin as a word does.
func (d *Dice) Name() string {
	return Pick(d, "a", "b", "x_1", "Seq", "okay", "keys", "v", "w", "own_", "int8", LongestName())
}

// Number returns a number that a TInt may have.
func (d *Dice) Number() int {
	return Pick(d, 0, 1, 2, 5, 16, 17, 40, 1000, math.MaxInt, math.MaxInt-1, d.Roll(1<<30))
}

// Signed returns a number that may have a minus.
func (d *Dice) Signed() int {
	return Pick(d, 1, -1) * d.Number()
}

// Expr returns a valid expression.
func (d *Dice) Expr() api.Expr {
	leaf := Pick(d, api.Expr{Kind: api.EInt, N: d.Signed()}, api.Expr{Kind: api.EName, Name: d.Name()}, api.Expr{Kind: api.EBool, N: d.Roll(2)},
		api.Expr{Kind: api.ESym, Name: d.Name()}, api.Expr{Kind: api.ESelf}, api.Expr{Kind: api.ETime})
	switch d.Roll(6) {
	case 0:
		return api.Expr{Kind: Pick(d, api.ENot, api.ERe, api.EIm, api.ETurn), Kids: []api.Expr{leaf}}
	case 1:
		return api.Expr{Kind: Pick(d, api.EPoint, api.EFar), Kids: []api.Expr{d.Expr(), leaf}}
	case 2:
		return api.Expr{Kind: api.EAdd + d.Roll(api.EOr-api.EAdd+1), Kids: []api.Expr{leaf, d.Expr()}}
	}
	return leaf
}

// leaf returns a node without kids.
func (d *Dice) leaf() api.Node {
	n := api.Node{Kind: Pick(d, api.NIf, api.NSet, api.NDo, api.NUse, api.NPlan, api.NOk, api.NFail, api.NWait)}
	switch n.Kind {
	case api.NIf:
		n.Expr = d.Expr()
	case api.NSet:
		n.Name, n.Expr = d.Name(), d.Expr()
	case api.NDo, api.NUse, api.NPlan:
		n.Name = d.Name()
	}
	return n
}

// Node returns a node that is nested up to deep deep, and has some n nodes in it.
func (d *Dice) Node(deep, n int) api.Node {
	if deep == 1 || n <= 1 {
		return d.leaf()
	}
	var kids []api.Node
	for range 1 + d.Few(api.MaxKids-1) {
		kids = append(kids, d.Node(deep-1, n/(1+d.Roll(4))))
		n -= n / 4
	}
	switch d.Roll(8) {
	case 0:
		return api.Node{Kind: api.NNot, Kids: kids[:1]}
	case 1:
		return api.Node{Kind: api.NRepeat, A: d.Number(), Kids: kids[:1]}
	case 2:
		return api.Node{Kind: api.NPar, A: d.Number(), B: d.Number(), Kids: kids}
	case 3:
		all := api.Node{Kind: api.NPick, Kids: kids}
		for range kids {
			all.Weights = append(all.Weights, d.Expr())
		}
		return all
	}
	return api.Node{Kind: Pick(d, api.NSeq, api.NSel, api.NMSeq, api.NMSel), Kids: kids}
}

// Misplace changes what an element of a list says of its place.
func (d *Dice) Misplace(l []api.Flat) {
	f := &l[d.Roll(len(l))]
	switch d.Roll(4) {
	case 0:
		f.End += d.Roll(5) - 2
	case 1:
		f.Parent += d.Roll(5) - 2
	case 2:
		f.End = d.Roll(len(l) + 2)
	case 3:
		f.Parent = d.Roll(len(l)+2) - 1
	}
}

func (d *Dice) cond() api.Cond {
	return api.Cond{Name: d.Name(), Op: d.Roll(3), N: d.Signed()}
}

func (d *Dice) act() api.Act {
	a := api.Act{Name: d.Name(), Cost: d.Number()}
	for range d.Few(api.MaxVars) {
		a.Need = append(a.Need, d.cond())
	}
	for range d.Few(api.MaxVars) {
		a.Make = append(a.Make, api.Make{Name: d.Name(), Add: d.Roll(2) == 0, N: d.Signed()})
	}
	return a
}

func (d *Dice) domain() api.Domain {
	all := api.Domain{Name: d.Name()}
	for range d.Few(api.MaxVars) {
		all.Vars = append(all.Vars, api.Var{Name: d.Name(), Low: d.Signed(), High: d.Signed()})
	}
	for range d.Few(api.MaxActs) {
		all.Acts = append(all.Acts, d.act())
	}
	for range d.Few(api.MaxVars) {
		all.Goal = append(all.Goal, d.cond())
	}
	return all
}

// Program returns a program that tree.Parse can return, with n declarations of each
// sort at most.
func (d *Dice) Program(n int) api.Program {
	var p api.Program
	for range d.Few(n) {
		p.Keys = append(p.Keys, api.Key{Name: d.Name(), Kind: d.Roll(5), Shared: d.Roll(2) == 0})
	}
	for range d.Few(n) {
		p.Trees = append(p.Trees, api.Tree{Name: d.Name(), Root: d.Node(1+d.Roll(8), d.Roll(40))})
	}
	for range d.Few(n) {
		p.Domains = append(p.Domains, d.domain())
	}
	return p
}
