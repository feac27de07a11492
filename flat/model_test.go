package flat_test

import (
	"puppeteer/api"
	"puppeteer/samples"
)

// modelMake tells Make another way: the lists of the kids are laid behind the node,
// one after the other, each moved to its place.
func modelMake(n api.Node) []api.Flat {
	l := []api.Flat{{Kind: n.Kind, A: n.A, B: n.B, Parent: -1, Name: n.Name, Expr: n.Expr, Weights: n.Weights}}
	for _, kid := range n.Kids {
		at := len(l)
		for _, f := range modelMake(kid) {
			f.End += at
			f.Parent += at
			if f.Parent == at-1 {
				f.Parent = 0
			}
			l = append(l, f)
		}
	}
	l[0].End = len(l)
	return l
}

// modelBack tells Back another way: from the Parents alone it makes the only node
// that may have the list, and looks whether it has.
func modelBack(l []api.Flat) (api.Node, bool) {
	if len(l) == 0 {
		return api.Node{}, false
	}
	n := grown(l, 0)
	if !samples.SameFlats(modelMake(n), l) {
		return api.Node{}, false
	}
	return n, true
}

// grown makes a node of the element at a place and of those that say, further behind,
// that they are below it.
func grown(l []api.Flat, at int) api.Node {
	f := l[at]
	n := api.Node{Kind: f.Kind, A: f.A, B: f.B, Name: f.Name, Expr: f.Expr, Weights: f.Weights}
	for i := at + 1; i < len(l); i++ {
		if l[i].Parent == at {
			n.Kids = append(n.Kids, grown(l, i))
		}
	}
	return n
}

// shapes lists all nodes with n nodes in them, each of another kind.
func shapes(n int) []api.Node {
	var all []api.Node
	for _, kids := range forests(n - 1) {
		all = append(all, seq(kids...))
	}
	return all
}

// forests lists all lists of nodes that have n nodes in them.
func forests(n int) [][]api.Node {
	if n == 0 {
		return [][]api.Node{nil}
	}
	var all [][]api.Node
	for first := 1; first <= n; first++ {
		for _, one := range shapes(first) {
			one.Kind = n
			for _, rest := range forests(n - first) {
				all = append(all, append([]api.Node{one}, rest...))
			}
		}
	}
	return all
}
