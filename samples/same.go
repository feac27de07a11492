package samples

import (
	"slices"

	"puppeteer/api"
)

// SameExpr tells whether two expressions are equal.
func SameExpr(x, y api.Expr) bool {
	return x.Kind == y.Kind && x.N == y.N && x.Name == y.Name && slices.EqualFunc(x.Kids, y.Kids, SameExpr)
}

// SameNode tells whether two nodes are equal.
func SameNode(m, n api.Node) bool {
	return m.Kind == n.Kind && m.A == n.A && m.B == n.B && m.Name == n.Name && SameExpr(m.Expr, n.Expr) &&
		slices.EqualFunc(m.Kids, n.Kids, SameNode) && slices.EqualFunc(m.Weights, n.Weights, SameExpr)
}

// SameFlats tells whether two lists of flat nodes are equal.
func SameFlats(l, other []api.Flat) bool {
	return slices.EqualFunc(l, other, func(f, g api.Flat) bool {
		return sameFields(f, g) && SameExpr(f.Expr, g.Expr) && slices.EqualFunc(f.Weights, g.Weights, SameExpr)
	})
}

// sameFields tells whether two flat nodes have equal fields, but for expressions.
func sameFields(f, g api.Flat) bool {
	return f.Kind == g.Kind && f.A == g.A && f.B == g.B && f.End == g.End && f.Parent == g.Parent && f.Name == g.Name
}

func sameTree(s, t api.Tree) bool {
	return s.Name == t.Name && SameNode(s.Root, t.Root)
}

func sameAct(a, b api.Act) bool {
	return a.Name == b.Name && a.Cost == b.Cost && slices.Equal(a.Need, b.Need) && slices.Equal(a.Make, b.Make)
}

func sameDomain(c, d api.Domain) bool {
	return c.Name == d.Name && slices.Equal(c.Vars, d.Vars) && slices.Equal(c.Goal, d.Goal) &&
		slices.EqualFunc(c.Acts, d.Acts, sameAct)
}

// SameProgram tells whether two programs are equal.
func SameProgram(p, q api.Program) bool {
	return slices.Equal(p.Keys, q.Keys) && slices.EqualFunc(p.Trees, q.Trees, sameTree) &&
		slices.EqualFunc(p.Domains, q.Domains, sameDomain)
}
