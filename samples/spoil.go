package samples

import "puppeteer/api"

// SpoilExpr changes all of an expression, and the spare capacity of its slices, which
// are to be the caller's.
func SpoilExpr(x *api.Expr) {
	*x = api.Expr{Kind: 99, N: 99, Name: "spoiled", Kids: spoiled(x.Kids, SpoilExpr)}
}

// SpoilNode changes all of a node as SpoilExpr does an expression.
func SpoilNode(n *api.Node) {
	SpoilExpr(&n.Expr)
	*n = api.Node{Kind: 99, A: 99, B: 99, Name: "spoiled", Expr: n.Expr, Kids: spoiled(n.Kids, SpoilNode), Weights: spoiled(n.Weights, SpoilExpr)}
}

// SpoilFlats changes all of a list of flat nodes as SpoilExpr does an expression.
func SpoilFlats(l []api.Flat) {
	spoiled(l, func(f *api.Flat) {
		SpoilExpr(&f.Expr)
		*f = api.Flat{Kind: 99, A: 99, B: 99, End: 99, Parent: 99, Name: "spoiled", Expr: f.Expr, Weights: spoiled(f.Weights, SpoilExpr)}
	})
}

func spoiled[T any](l []T, spoil func(*T)) []T {
	l = l[:cap(l)]
	for i := range l {
		spoil(&l[i])
	}
	return l
}
