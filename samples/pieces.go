package samples

import "puppeteer/api"

// A Piece of a list is what there is from a place up to another one.
type Piece struct{ From, To int }

// EveryNesting calls do for each way to give each of n elements of a list, but its
// first ones, a piece of the same list, or an empty one.
func EveryNesting(n, first int, do func([]Piece)) {
	all := []Piece{{}}
	for to := range n + 1 {
		for from := range to {
			all = append(all, Piece{from, to})
		}
	}
	list := make([]Piece, n)
	var next func(at int)
	next = func(at int) {
		if at == n {
			do(list)
			return
		}
		for _, list[at] = range all {
			next(at + 1)
		}
	}
	next(first)
}

// NestedNodes returns nodes in one list, each with a piece of the same list as its
// kids.
func NestedNodes(pieces []Piece) []api.Node {
	list := make([]api.Node, len(pieces))
	for i, one := range pieces {
		list[i] = api.Node{Kind: i % api.NUse, A: i, Kids: list[one.From:one.To]}
	}
	return list
}

// NestedExprs returns expressions as NestedNodes does nodes.
func NestedExprs(pieces []Piece) []api.Expr {
	list := make([]api.Expr, len(pieces))
	for i, one := range pieces {
		list[i] = api.Expr{Kind: i % api.EFar, N: i, Kids: list[one.From:one.To]}
	}
	return list
}

// ApartNode returns a node in which each list has memory of its own, or false if it is
// nested more than deep deep.
func ApartNode(n api.Node, deep int) (api.Node, bool) {
	var kids, weights, x bool
	n.Kids, kids = eachApart(n.Kids, deep-1, ApartNode)
	n.Weights, weights = eachApart(n.Weights, deep, ApartExpr)
	n.Expr, x = ApartExpr(n.Expr, deep)
	return n, kids && weights && x
}

// ApartExpr returns an expression as ApartNode does a node.
func ApartExpr(x api.Expr, deep int) (api.Expr, bool) {
	var kids bool
	x.Kids, kids = eachApart(x.Kids, deep-1, ApartExpr)
	return x, kids
}

func eachApart[T any](l []T, deep int, apart func(T, int) (T, bool)) ([]T, bool) {
	var all []T
	for _, one := range l {
		if deep < 1 {
			return nil, false
		}
		own, right := apart(one, deep)
		if !right {
			return nil, false
		}
		all = append(all, own)
	}
	return all, true
}
