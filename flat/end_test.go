package flat_test

import (
	"math"
	"slices"
	"testing"

	"puppeteer/api"
	"puppeteer/flat"
	"puppeteer/inline"
	"puppeteer/samples"
)

// noList checks that Make answers nothing for a node, alone and in others.
func noList(t *testing.T, n api.Node) {
	t.Helper()
	for _, one := range []api.Node{n, seq(n), nots(50, n), seq(ok(), nots(2, ok()), n, ok())} {
		wantMake(t, one, nil)
	}
}

func TestP1502MakeOfNodesThatAreInThemselves(t *testing.T) {
	for kind := -1; kind <= api.NWait+1; kind++ {
		for _, width := range []int{1, 2, 3, api.MaxKids, 1000} {
			for _, from := range []int{0, width / 2, width - 1} {
				kids := slices.Repeat([]api.Node{ok()}, width)
				for i := from; i < width; i++ {
					kids[i] = node(kind, kids...)
				}
				noList(t, node(kind, kids...))
				noList(t, kids[from])
				kids[from].Kids = nil
				kids[width-1] = seq(nots(3, seq(kids[width-1:]...)))
				noList(t, kids[width-1])
			}
		}
	}
	for _, size := range []int{2, 3, 10, 1000} {
		// A ring, and a long way into it.
		ring := make([][]api.Node, size)
		for i := range ring {
			ring[i] = []api.Node{nots(3, ok()), {}}
		}
		for i := range ring {
			ring[i][1] = seq(ring[(i+1)%size]...)
		}
		noList(t, nots(size, seq(ring[0]...)))
	}
}

// withExpr lists nodes in which an expression stands in each place.
func withExpr(x api.Expr) []api.Node {
	in := api.Expr{Kind: api.EAdd, Kids: []api.Expr{{N: 1}, x}}
	return []api.Node{{Expr: x}, {Kind: api.NSet, Expr: in}, {Kind: api.NPick, Weights: []api.Expr{x}}, {Expr: api.Expr{N: 1}, Weights: []api.Expr{{N: 1}, in, {N: 2}}}}
}

// noTree checks that there is nothing for an expression, neither a list nor a node.
func noTree(t *testing.T, x api.Expr) {
	t.Helper()
	for _, n := range withExpr(x) {
		noList(t, n)
		for number := 1; number < 5; number++ {
			for at := range number {
				l := modelMake(wide(number-1, ok()))
				l[at].Expr, l[at].Weights = n.Expr, n.Weights
				wantNone(t, l)
				wantKids(t, l, -1, []int{0})
			}
		}
	}
}

func TestP1502ExpressionsThatAreInThemselves(t *testing.T) {
	for _, x := range samples.RingExprs() {
		noTree(t, x)
	}
}

func TestP1502MoreExpressionsThanFitIntoAnAnswer(t *testing.T) {
	t.Parallel()
	// They take 56 bytes each, and an answer no more than 2^31 - 1.
	twice := api.Expr{N: 1}
	for range 60 {
		twice = api.Expr{Kind: api.EAdd, Kids: []api.Expr{twice, twice}}
	}
	for _, x := range []api.Expr{samples.ManyExprs(38_348), twice} {
		noTree(t, x)
	}
	// Together with others, of the same node or of another one. (The smaller ones are
	// those that would be copied.)
	for _, n := range []api.Node{{Expr: samples.ManyExprs(200), Weights: []api.Expr{samples.ManyExprs(38_200)}}, {Expr: samples.ManyExprs(38_200), Weights: []api.Expr{{N: 1}, samples.ManyExprs(200)}}, {Weights: []api.Expr{samples.ManyExprs(38_200), samples.ManyExprs(200)}}} {
		wantMake(t, nots(1, seq(n)), nil)
		wantNone(t, modelMake(nots(1, seq(n))))
	}
	for _, small := range []api.Node{{Expr: samples.ManyExprs(200)}, {Weights: []api.Expr{samples.ManyExprs(100), samples.ManyExprs(100)}}} {
		for _, large := range []api.Node{{Expr: samples.ManyExprs(38_200)}, {Weights: []api.Expr{{N: 1}, samples.ManyExprs(38_200)}}} {
			wantMake(t, seq(ok(), nots(1, small), nots(1, large)), nil)
			wantNone(t, modelMake(seq(large, ok(), small)))
		}
	}
}

func TestP1502MoreNodesThanFitIntoAnAnswer(t *testing.T) {
	t.Parallel()
	// They take 136 bytes each, and an answer no more than 2^31 - 1: 15_790_320 of them.
	leaves := slices.Repeat([]api.Node{ok()}, 52_633)
	noList(t, nots(120, wide(300, seq(leaves...))))
	twice := ok()
	for range 100 {
		twice = seq(twice, twice)
	}
	noList(t, twice)
	// Half a million of them fit.
	half := wide(10, seq(leaves...))
	l := flat.Make(half)
	if len(l) != 526_341 || l[526_340].Parent != 473_707 {
		t.Fatalf("Make: %d elements", len(l))
	}
	if n, back := flat.Back(l); !back || inline.Count(n) != len(l) || inline.Depth(n) != 3 {
		t.Fatal("Back: not the node")
	}
}

func TestP1502OddLists(t *testing.T) {
	numbers := append(samples.OddNumbers(), math.MinInt32, math.MaxInt32)
	d := samples.Dice(1502)
	for range 20_000 {
		l := make([]api.Flat, d.Few(30))
		for i := range l {
			l[i] = api.Flat{Kind: d.Signed(), End: samples.Pick(&d, numbers...), Parent: samples.Pick(&d, numbers...), Weights: make([]api.Expr, d.Few(3))}
		}
		wantModel(t, l)
		flat.Kids(l, samples.Pick(&d, numbers...))
	}
	// Elements that are their own parents, or each other's.
	for n := 1; n <= 50; n++ {
		for end := -1; end <= n+1; end++ {
			for by := -n; by <= n; by++ {
				l := make([]api.Flat, n)
				for i := range l {
					l[i] = api.Flat{End: end, Parent: i + by}
				}
				if n > 1 && (by != -1 || end != n) {
					wantNone(t, l)
				}
				wantKids(t, l, by, []int{0})
			}
		}
	}
}
