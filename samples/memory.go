package samples

import (
	"slices"

	"puppeteer/api"
)

// A Memory is what values take, place by place. An element of a slice, or of its
// spare capacity, is a place.
type Memory map[any]struct{}

// Claim adds a slice, and tells whether nothing of it was in the memory already.
func Claim[T any](m Memory, l []T) bool {
	had := len(m)
	l = l[:cap(l)]
	for i := range l {
		m[&l[i]] = struct{}{}
	}
	return len(m) == had+len(l)
}

// Expr adds the slices of an expression, as Claim does.
func (m Memory) Expr(x api.Expr) bool {
	return Claim(m, x.Kids) && every(x.Kids, m.Expr)
}

// Node adds the slices of a node, as Claim does.
func (m Memory) Node(n api.Node) bool {
	return Claim(m, n.Kids) && Claim(m, n.Weights) && m.Expr(n.Expr) && every(n.Weights, m.Expr) && every(n.Kids, m.Node)
}

// Flats adds a list of flat nodes with its slices, as Claim does.
func (m Memory) Flats(l []api.Flat) bool {
	return Claim(m, l) && every(l, func(f api.Flat) bool {
		return Claim(m, f.Weights) && m.Expr(f.Expr) && every(f.Weights, m.Expr)
	})
}

func every[T any](l []T, right func(T) bool) bool {
	return !slices.ContainsFunc(l, func(one T) bool { return !right(one) })
}

// wide copies a list. The copy has spare capacity, in which there are further
// elements.
func wide[T any](l []T, copied func(T) T, further T) []T {
	var all []T
	for _, one := range l {
		all = append(all, copied(one))
	}
	return append(all, further, further)[:len(l)]
}

// WideExpr copies an expression. Each slice of the copy has spare capacity, in which
// there are further elements.
func WideExpr(x api.Expr) api.Expr {
	x.Kids = wide(x.Kids, WideExpr, api.Expr{Kind: api.EName, Name: "spare"})
	return x
}

// WideNode copies a node as WideExpr does an expression.
func WideNode(n api.Node) api.Node {
	n.Expr = WideExpr(n.Expr)
	n.Weights = wide(n.Weights, WideExpr, api.Expr{Kind: api.EBool, N: 1})
	n.Kids = wide(n.Kids, WideNode, api.Node{Kind: api.NUse, Name: "spare"})
	return n
}

// WideTrees copies trees as WideExpr does an expression.
func WideTrees(l []api.Tree) []api.Tree {
	return wide(l, func(t api.Tree) api.Tree {
		return api.Tree{Name: t.Name, Root: WideNode(t.Root)}
	}, api.Tree{Name: "spare"})
}

// WideFlats copies a list of flat nodes as WideExpr does an expression.
func WideFlats(l []api.Flat) []api.Flat {
	return wide(l, func(f api.Flat) api.Flat {
		f.Expr = WideExpr(f.Expr)
		f.Weights = wide(f.Weights, WideExpr, api.Expr{Kind: api.EBool, N: 1})
		return f
	}, api.Flat{Kind: api.NUse, Name: "spare", Parent: -1})
}
