package inline_test

import (
	"slices"
	"testing"

	"puppeteer/api"
	"puppeteer/check"
	"puppeteer/inline"
	"puppeteer/samples"
)

// plain makes a node one of which Check has nothing to say, but for its uses.
func plain(n api.Node) api.Node {
	n.A, n.B, n.Expr = 1, 1, api.Expr{Kind: api.EBool}
	if n.Kind == api.NSet || n.Kind == api.NPlan {
		n.Kind = api.NDo
	}
	for i := range n.Weights {
		n.Weights[i] = api.Expr{}
	}
	for i := range n.Kids {
		n.Kids[i] = plain(n.Kids[i])
	}
	return n
}

// firstError tells the first tree of which Tree answers an error.
func firstError(l []api.Tree) (string, api.Errno) {
	for _, one := range l {
		if _, err := inline.Tree(l, one.Name); err != api.OK {
			return one.Name, err
		}
	}
	return "", api.OK
}

func TestP1401WhatCheckTellsOfSizesIsWhatTreeAnswers(t *testing.T) {
	got := map[api.Errno]int{}
	d := samples.Dice(1302)
	for range 2000 {
		l := randomTrees(&d)
		for i := range l {
			l[i].Root = plain(l[i].Root)
		}
		name, err := check.Check(api.Program{Trees: l})
		got[err]++
		switch err {
		case api.OK, api.ErrDeep, api.ErrMany:
			if first, want := firstError(l); name != first || err != want {
				t.Fatalf("Check of %s: %q, error %d; Tree: %q, error %d", shown(l), name, err, first, want)
			}
		case api.ErrName, api.ErrRing:
			if _, err := inline.Tree(l, name); err == api.OK {
				t.Fatalf("Tree of %q in %s returns OK", name, shown(l))
			}
		}
	}
	for _, err := range []api.Errno{api.OK, api.ErrName, api.ErrRing, api.ErrDeep, api.ErrMany} {
		if got[err] < 20 {
			t.Fatalf("the errors are %v", got)
		}
	}
}

func TestP1401CheckAndTreeAgreeAtTheLimits(t *testing.T) {
	for more := -3; more <= 3; more++ {
		// 15 times 265 or so, and what is missing.
		inner := seq(slices.Repeat([]api.Node{seq(slices.Repeat([]api.Node{ok()}, 15)...)}, 16)...) // 257
		l := []api.Tree{named("t", seq(slices.Repeat([]api.Node{use("u")}, 15)...)), named("u", inner), named("v", nots(37+more, use("w"))), named("w", nots(2, ok()))}
		for have := 1 + 15*257; have < api.MaxNodes+more; {
			// A node more, around one of the uses.
			kid := &l[0].Root.Kids[have%15]
			*kid, have = nots(1, *kid), have+1
		}
		for range 2 {
			slices.Reverse(l)
			first, want := firstError(l)
			if name, err := check.Check(api.Program{Trees: l}); name != first || err != want || (err == api.OK) != (more <= 0) {
				t.Fatalf("with %d more, Check: %q, error %d; Tree: %q, error %d", more, name, err, first, want)
			}
		}
	}
}
