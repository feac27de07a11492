package inline_test

import (
	"slices"
	"testing"

	"puppeteer/api"
	"puppeteer/inline"
	"puppeteer/samples"
)

// wantSize checks what Count and Depth answer.
func wantSize(t *testing.T, n api.Node, count, depth int) {
	t.Helper()
	if got := inline.Count(n); got != count {
		t.Fatalf("Count is %d; want %d", got, count)
	}
	if got := inline.Depth(n); got != depth {
		t.Fatalf("Depth is %d; want %d", got, depth)
	}
}

func TestP1401CountAndDepthOfEachKind(t *testing.T) {
	if inline.Count(ok()) != 1 {
		t.Fatal("Count of a NOk is not 1")
	}
	kinds := samples.OddNumbers()
	for i, kind := range kinds {
		wantSize(t, node(kind), 1, 1)
		wantSize(t, node(kind, []api.Node{}...), 1, 1)
		// What else there is in a node does not count.
		one := api.Node{Kind: kind, A: 5, B: -7, Name: "t", Expr: api.Expr{Kind: api.ENot, Kids: []api.Expr{{}, {Kids: []api.Expr{{}}}}}, Weights: []api.Expr{{}, {Kids: []api.Expr{{}}}, {}}}
		wantSize(t, one, 1, 1)
		for kids := 1; kids <= 20; kids++ {
			wantSize(t, node(kind, slices.Repeat([]api.Node{one}, kids)...), 1+kids, 2)
			other := node(kinds[(i*7+kids)%len(kinds)], one, one)
			wantSize(t, node(kind, slices.Repeat([]api.Node{other}, kids)...), 1+3*kids, 3)
			for at := range kids {
				list := slices.Repeat([]api.Node{one}, kids)
				list[at] = other
				wantSize(t, node(kind, list...), 3+kids, 3)
			}
		}
	}
	// A use is a node, whatever it is replaced by.
	wantSize(t, seq(use("a"), nots(1, use("none")), node(api.NUse, ok(), ok())), 7, 3)
}

func TestP1401CountAndDepthOfRandomNodes(t *testing.T) {
	d := samples.Dice(14)
	for range 2000 {
		n := d.Node(1+d.Roll(30), d.Roll(300))
		list := depths(n, 1)
		wantSize(t, n, len(list), slices.Max(list))
	}
}

func TestP1401CountAndDepthOfWideAndDeepNodes(t *testing.T) {
	t.Parallel()
	for _, n := range []int{0, 1, 2, 15, 16, 17, 40, 41, 1000, api.MaxNodes, api.MaxNodes + 1, 200_000} {
		wantSize(t, nots(n, ok()), n+1, n+1)
		wantSize(t, wide(n, ok()), n+1, min(n, 1)+1)
		wantSize(t, wide(n, nots(2, ok())), 3*n+1, 3*min(n, 1)+1)
		wantSize(t, seq(nots(n, ok()), wide(n, ok()), nots(n/2, ok())), 1+n+1+n+1+n/2+1, n+2)
		left, right := ok(), ok()
		for range n {
			left, right = seq(left, ok()), seq(fail(), ok(), right)
		}
		wantSize(t, left, 2*n+1, n+1)
		wantSize(t, right, 3*n+1, n+1)
	}
	wantSize(t, nots(2_000_000, ok()), 2_000_001, 2_000_001)
	wantSize(t, wide(2_000_000, ok()), 2_000_001, 2)
	// Nodes that are in one another twice.
	for n := range 22 {
		both := ok()
		for range n {
			both = seq(both, both)
		}
		wantSize(t, both, 1<<(n+1)-1, n+1)
		wantSize(t, seq(ok(), nots(n, both)), 1<<(n+1)+1+n, 2*n+2)
	}
}

func TestP1401CountAndDepthOfWhatTreeReturns(t *testing.T) {
	for uses := 1; uses <= 60; uses++ {
		for deep := 1; deep <= 38; deep++ {
			n, err := inline.Tree([]api.Tree{named("t", wide(uses, use("u"))), named("u", nots(deep, ok()))}, "t")
			if uses*(deep+1)+1 > api.MaxNodes {
				continue
			}
			if err != api.OK {
				t.Fatalf("Tree returns error %d", err)
			}
			wantSize(t, n, 1+uses*(deep+1), deep+2)
		}
	}
}
