package samples

import (
	"slices"

	"puppeteer/api"
)

// A Watch tells whether slices, their spare capacity and what is in them stay as they
// were when they were added.
type Watch []func() bool

// Stays tells whether all is as it was.
func (w Watch) Stays() bool {
	return every(w, func(stays func() bool) bool { return stays() })
}

// Add adds a slice, whose elements stay if they are the same, without what is in their
// own slices.
func Add[T any](w *Watch, l []T, same func(T, T) bool) {
	l = l[:cap(l)]
	was := slices.Clone(l)
	*w = append(*w, func() bool { return slices.EqualFunc(l, was, same) })
}

// Expr adds the slices of an expression.
func (w *Watch) Expr(x api.Expr) {
	Add(w, x.Kids, likeExpr)
	for _, kid := range x.Kids {
		w.Expr(kid)
	}
}

// Node adds the slices of a node.
func (w *Watch) Node(n api.Node) {
	Add(w, n.Kids, likeNode)
	Add(w, n.Weights, likeExpr)
	w.Expr(n.Expr)
	for _, x := range n.Weights {
		w.Expr(x)
	}
	for _, kid := range n.Kids {
		w.Node(kid)
	}
}

// Trees adds a list of trees with all that is in it.
func (w *Watch) Trees(l []api.Tree) {
	Add(w, l, func(s, t api.Tree) bool { return s.Name == t.Name && likeNode(s.Root, t.Root) })
	for _, t := range l {
		w.Node(t.Root)
	}
}

// Flats adds a list of flat nodes with all that is in it.
func (w *Watch) Flats(l []api.Flat) {
	Add(w, l, likeFlat)
	for _, f := range l {
		w.Node(api.Node{Expr: f.Expr, Weights: f.Weights})
	}
}

// likeExpr tells whether two expressions are the same and have the same slice.
func likeExpr(x, y api.Expr) bool {
	return x.Kind == y.Kind && x.N == y.N && x.Name == y.Name && like(x.Kids, y.Kids)
}

func likeNode(m, n api.Node) bool {
	return m.Kind == n.Kind && m.A == n.A && m.B == n.B && m.Name == n.Name && likeExpr(m.Expr, n.Expr) &&
		like(m.Kids, n.Kids) && like(m.Weights, n.Weights)
}

func likeFlat(f, g api.Flat) bool {
	return sameFields(f, g) && likeExpr(f.Expr, g.Expr) && like(f.Weights, g.Weights)
}

// like tells whether two slices are one, with the same spare capacity.
func like[T any](l, other []T) bool {
	return len(l) == len(other) && cap(l) == cap(other) && (cap(l) == 0 || &l[:1][0] == &other[:1][0])
}
