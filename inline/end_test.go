package inline_test

import (
	"fmt"
	"math"
	"slices"
	"testing"

	"puppeteer/api"
	"puppeteer/inline"
	"puppeteer/samples"
)

// ends calls all functions for a node of which only that they end is promised: alone,
// in others, and in what is used. It tells the error of Tree if the node is alone.
func ends(t *testing.T, n api.Node) api.Errno {
	t.Helper()
	inline.Count(n)
	inline.Depth(seq(ok(), n))
	l := []api.Tree{named("t", seq(use("u"), nots(3, use("u")), n)), named("u", n), named("v", seq(n, use("v")))}
	for _, name := range []string{"t", "v", "none"} {
		if root, err := inline.Tree(l, name); err != api.OK && inline.Count(root) != 1 {
			t.Fatalf("Tree returns %d nodes with error %d", inline.Count(root), err)
		}
	}
	_, err := inline.Tree(l, "u")
	return err
}

func TestP1402NodesThatAreInThemselves(t *testing.T) {
	t.Parallel()
	for kind := -1; kind <= api.NWait+1; kind++ {
		for _, width := range []int{1, 2, 3, api.MaxKids, 1000} {
			for _, from := range []int{0, width / 2, width - 1} {
				kids := slices.Repeat([]api.Node{ok()}, width)
				for i := from; i < width; i++ {
					kids[i] = node(kind, kids...)
				}
				for _, n := range []api.Node{node(kind, kids...), kids[from], nots(100, kids[from]), wide(3, kids[from])} {
					if kind != api.NUse && ends(t, n) == api.OK {
						t.Fatal("a node that is in itself is expanded")
					}
					ends(t, n)
					if count, depth := inline.Count(n), inline.Depth(n); count != math.MaxInt || depth != math.MaxInt {
						t.Fatalf("a node that is in itself has the Count %d and the Depth %d", count, depth)
					}
				}
			}
		}
	}
}

func TestP1402NodesThatAreInEachOther(t *testing.T) {
	// A ring of some nodes, each with a finite one ahead, and a way into it.
	for _, size := range []int{2, 3, 4, 5, 7, 8, 9, 100, 1000} {
		for _, ahead := range []api.Node{ok(), nots(3, ok()), nots(70, ok()), wide(20, nots(2, ok()))} {
			for _, way := range []int{0, 1, 6, 50, 1000} {
				ring := make([][]api.Node, size)
				for i := range ring {
					ring[i] = []api.Node{ahead, {}}
				}
				for i := range ring {
					ring[i][1] = seq(ring[(i+1)%size]...)
				}
				n := nots(way, seq(ring[0]...))
				if ends(t, n) == api.OK {
					t.Fatal("nodes that are in each other are expanded")
				}
				if count, depth := inline.Count(n), inline.Depth(n); count != math.MaxInt || depth != math.MaxInt {
					t.Fatalf("nodes that are in each other have the Count %d and the Depth %d", count, depth)
				}
			}
		}
	}
}

func TestP1402NodesThatShareMemoryAreNotInThemselves(t *testing.T) {
	// The last of some kids has the ones ahead of it as its kids.
	for width := 2; width <= 200; width++ {
		kids := slices.Repeat([]api.Node{ok()}, width)
		kids[width-1] = seq(kids[:width-1]...)
		wantSize(t, seq(kids...), 2*width, 3)
		wantTree(t, []api.Tree{named("t", seq(kids...))}, "t", seq(append(slices.Repeat([]api.Node{ok()}, width-1), wide(width-1, ok()))...))
	}
	// Each of some kids has the ones ahead of it as its kids.
	kids := make([]api.Node, 20)
	count := 1
	for i := range kids {
		kids[i] = seq(kids[:i]...)
		wantSize(t, kids[i], count, i+1)
		count *= 2
	}
	wantTree(t, []api.Tree{named("t", kids[11])}, "t", kids[11])
	want(t, []api.Tree{named("t", kids[12])}, "t", api.ErrMany)
	// So have expressions.
	parts := make([]api.Expr, 12)
	for i := range parts {
		parts[i] = api.Expr{Kind: api.EAdd, N: i, Kids: parts[:i]}
	}
	root := api.Node{Kind: api.NPick, Expr: parts[5], Weights: parts}
	wantTree(t, []api.Tree{named("t", root)}, "t", root)
}

// withExpr lists trees in which an expression stands in each place of a node.
func withExpr(x api.Expr) []api.Tree {
	in := api.Expr{Kind: api.EAdd, Kids: []api.Expr{{N: 1}, x}}
	return []api.Tree{
		named("a", api.Node{Kind: api.NIf, Expr: x}), named("b", api.Node{Kind: api.NSet, Expr: in}), named("c", api.Node{Kind: api.NPick, Weights: []api.Expr{x}}),
		named("d", api.Node{Kind: api.NPick, Weights: []api.Expr{{N: 1}, in}, Kids: []api.Node{ok(), fail()}}), named("e", seq(ok(), api.Node{Kind: api.NIf, Expr: in})), named("f", nots(3, use("e"))),
	}
}

func TestP1402ExpressionsThatAreInThemselves(t *testing.T) {
	for _, x := range samples.RingExprs() {
		l := withExpr(x)
		for _, one := range l {
			if root, err := inline.Tree(l, one.Name); err == api.OK || !samples.SameNode(root, api.Node{}) {
				t.Fatalf("Tree of %q returns error %d", one.Name, err)
			}
		}
		wantSize(t, l[3].Root, 3, 2)
		// They do not count where they are not used.
		wantTree(t, append([]api.Tree{named("t", seq(ok(), use("u"))), named("u", fail())}, l...), "t", seq(ok(), fail()))
	}
}

func TestP1401LargeAndDeepExpressionsStayAsTheyAre(t *testing.T) {
	var list []api.Expr
	for _, n := range []int{0, 1, 2, api.MaxDeep, 1000, 100_000} {
		list = append(list, samples.LargeExprs(n)...)
	}
	for _, x := range list {
		l := withExpr(x)
		for i, one := range l[:5] {
			wantTree(t, l, one.Name, l[i].Root)
		}
		wantTree(t, l, "f", nots(3, l[4].Root))
	}
	all := api.Node{Kind: api.NPick, Weights: list}
	wantTree(t, []api.Tree{named("t", seq(all, use("u"))), named("u", all)}, "t", seq(all, all))
}

func TestP1402MoreExpressionsThanFitIntoAnAnswer(t *testing.T) {
	t.Parallel()
	// They take 56 bytes each, and an answer no more than 2^31 - 1.
	for _, x := range []api.Expr{samples.ManyExprs(38_348), samples.ManyExprs(100_000), {Kids: []api.Expr{samples.ManyExprs(38_348)}}} {
		for _, one := range withExpr(x)[:5] {
			same(t, []api.Tree{one}, one.Name, api.Node{}, api.ErrMany)
		}
	}
	// Together with others, of the same node or of the nodes ahead of it.
	for _, root := range []api.Node{
		seq(api.Node{Expr: samples.ManyExprs(200)}, api.Node{Expr: samples.ManyExprs(38_200)}), seq(api.Node{Weights: []api.Expr{samples.ManyExprs(200)}}, ok(), api.Node{Weights: []api.Expr{samples.ManyExprs(38_200)}}), {Expr: samples.ManyExprs(200), Weights: []api.Expr{samples.ManyExprs(38_200)}},
		{Weights: []api.Expr{samples.ManyExprs(200), samples.ManyExprs(38_200)}}, seq(use("u"), use("u"), nots(2, use("u")), use("u"), api.Node{Expr: samples.ManyExprs(38_200)}),
	} {
		same(t, []api.Tree{named("t", root), named("u", api.Node{Expr: samples.ManyExprs(50)})}, "t", api.Node{}, api.ErrMany)
	}
	x := api.Expr{N: 1}
	for range 60 {
		x = api.Expr{Kind: api.EAdd, Kids: []api.Expr{x, x}}
	}
	for _, one := range withExpr(x)[:5] {
		same(t, []api.Tree{one}, one.Name, api.Node{}, api.ErrMany)
	}
}

func TestP1402MoreNodesThanMayBeGiven(t *testing.T) {
	t.Parallel()
	n := ok()
	for range api.MaxDeep - 1 {
		n = wide(api.MaxKids, n)
	}
	same(t, []api.Tree{named("t", n)}, "t", api.Node{}, api.ErrMany)
	if got := inline.Count(n); got != math.MaxInt {
		t.Fatalf("Count is %d", got)
	}
}

func TestP1402OddNodesAndNames(t *testing.T) {
	names := []string{"", "t", "none", "\x00", "\xff", "a b", samples.LongestName() + "n", fmt.Sprintf("%070000d", 1)}
	for _, kind := range samples.OddNumbers() {
		for _, number := range []int{math.MinInt, -1, 0, 1, math.MaxInt} {
			for i, name := range names {
				n := api.Node{Kind: kind, A: number, B: -number, Name: name, Expr: api.Expr{Kind: kind, N: number, Name: name}, Weights: make([]api.Expr, i)}
				l := []api.Tree{named(name, n), named("t", seq(n, use(name), nots(2, n))), named("", n)}
				for _, name := range names {
					root, err := modelTree(l, name)
					same(t, l, name, root, err)
				}
			}
		}
	}
}

func TestP1402VeryManyTrees(t *testing.T) {
	const n = 100_000
	for _, last := range []api.Node{ok(), use("none"), use("t0"), use(fmt.Sprint("t", n/2))} {
		l := chain(n, 0, last)
		l = append(l, named("wide", seq(use("t0"), use(fmt.Sprint("t", n/2)), use("t0"))))
		err := errIf(last.Kind == api.NUse, api.ErrRing)
		if last.Name == "none" {
			err = api.ErrName
		}
		root := seq(ok(), ok(), ok())
		if err != api.OK {
			root = api.Node{}
		}
		same(t, l, "wide", root, err)
		same(t, l, fmt.Sprint("t", n-1), map[bool]api.Node{true: ok()}[err == api.OK], err)
	}
	l := chain(n, 3, ok())
	same(t, l, "t0", api.Node{}, api.ErrDeep)
	want(t, l[n-100:], fmt.Sprint("t", n-100), api.OK)
}
