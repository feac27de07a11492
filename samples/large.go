package samples

import (
	"slices"

	"puppeteer/api"
)

// RichNode is a node of a kind with all that a node may have.
func RichNode(kind int, kids ...api.Node) api.Node {
	x := api.Expr{Kind: api.EAdd, Kids: []api.Expr{{N: 1}, {Kind: api.EMul, Kids: []api.Expr{{N: 2}, {Kind: api.EName, Name: "x"}}}}}
	return api.Node{Kind: kind, A: 1, B: 2, Name: "t", Expr: x, Weights: []api.Expr{x, {N: 3}, x}, Kids: kids}
}

// LargeExprs lists expressions that are n deep, that have two of a kind up to 14
// deep, and that are n wide.
func LargeExprs(n int) []api.Expr {
	chain, both := api.Expr{N: n}, api.Expr{N: n}
	for i := range n {
		chain = api.Expr{Kind: i, N: -i, Name: "x", Kids: []api.Expr{chain}}
	}
	for i := range min(n, 14) {
		both = api.Expr{Kind: i, N: -i, Name: "y", Kids: []api.Expr{both, {N: i}, both}}
	}
	return []api.Expr{chain, both, {Kind: n, Kids: slices.Repeat([]api.Expr{{Kind: 5}, {N: n, Kids: make([]api.Expr, 2)}}, n)}}
}

// RingExprs lists expressions of all kinds, and of others, that are in themselves.
func RingExprs() []api.Expr {
	var all []api.Expr
	for kind := -1; kind <= api.EFar+1; kind++ {
		for width := 1; width <= 3; width++ {
			for from := range width {
				kids := make([]api.Expr, width)
				for i := from; i < width; i++ {
					kids[i] = api.Expr{Kind: kind, Kids: kids}
				}
				all = append(all, kids[from], api.Expr{Kids: kids})
			}
		}
	}
	return all
}

// ManyExprs is an expression that holds n thousands of others, in little memory.
func ManyExprs(n int) api.Expr {
	return api.Expr{Kids: slices.Repeat([]api.Expr{{Kids: make([]api.Expr, 999)}}, n)}
}
