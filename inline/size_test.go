package inline_test

import (
	"fmt"
	"slices"
	"testing"

	"puppeteer/api"
)

// errIf is the error if something is so, or OK.
func errIf(wrong bool, err api.Errno) api.Errno {
	if wrong {
		return err
	}
	return api.OK
}

func TestP1401HowDeepATreeMayBe(t *testing.T) {
	for deep := 1; deep <= 2*api.MaxDeep; deep++ {
		err := errIf(deep > api.MaxDeep, api.ErrDeep)
		inner := nots(deep-1, ok())
		want(t, []api.Tree{named("t", inner)}, "t", err)
		for kind := range api.NWait + 1 {
			if kind == api.NUse {
				continue
			}
			// Whatever the kinds are, and wherever the deepest one is.
			around := node(kind)
			for range deep - 1 {
				around = node(kind, around)
			}
			want(t, []api.Tree{named("t", around)}, "t", err)
			if deep > 1 {
				want(t, []api.Tree{named("t", node(kind, ok(), nots(deep-2, ok())))}, "t", err)
				want(t, []api.Tree{named("t", node(kind, nots(deep-2, ok()), fail(), fail()))}, "t", err)
			}
		}
	}
}

func TestP1401TheDepthThatComesFromUses(t *testing.T) {
	for outer := range api.MaxDeep + 3 {
		for inner := range api.MaxDeep + 3 {
			deep := outer + inner + 1
			err := errIf(deep > api.MaxDeep, api.ErrDeep)
			l := []api.Tree{named("t", nots(outer, use("u"))), named("u", nots(inner, ok()))}
			want(t, l, "t", err)
			want(t, l, "u", errIf(inner+1 > api.MaxDeep, api.ErrDeep))
			// Uses of uses add nothing.
			l = append(l, named("a", use("b")), named("b", use("c")), named("c", use("t")), named("d", nots(outer, use("e"))), named("e", use("f")), named("f", use("u")))
			want(t, l, "a", err)
			want(t, l, "d", err)
			// They begin where they stand, each anew.
			l = append(l, named("s", seq(ok(), use("t"), use("a"), use("d"), fail())))
			want(t, l, "s", errIf(deep+1 > api.MaxDeep, api.ErrDeep))
		}
	}
	// Several trees, each in the next one.
	for deep := 1; deep <= 9; deep++ {
		for n := 1; n <= api.MaxDeep+5; n++ {
			l := []api.Tree{named("t0", nots(deep-1, ok()))}
			for i := range n {
				l = append(l, named(fmt.Sprint("t", i+1), nots(deep, use(fmt.Sprint("t", i)))))
			}
			want(t, l, fmt.Sprint("t", n), errIf((n+1)*deep > api.MaxDeep, api.ErrDeep))
		}
	}
}

func TestP1401HowManyNodesATreeMayHave(t *testing.T) {
	t.Parallel()
	for n := api.MaxNodes - 3; n <= api.MaxNodes+3; n++ {
		err := errIf(n > api.MaxNodes, api.ErrMany)
		for _, leaf := range []api.Node{ok(), use("u"), use("v")} {
			for _, root := range []api.Node{
				wide(n-1, leaf), nots(5, wide(n-6, leaf)), seq(wide(n-3, leaf), leaf), seq(leaf, wide(n-3, leaf)), seq(wide(n/2, leaf), wide(n-n/2-3, leaf)),
				seq(seq(leaf, seq(leaf, leaf)), wide(n-9, leaf), nots(1, leaf)), seq(wide((n-3)/2, nots(1, leaf)), seq(slices.Repeat([]api.Node{leaf}, (n-3)%2)...)),
			} {
				l := []api.Tree{named("t", root), named("u", fail()), named("v", use("u")), named("s", use("t")), named("r", nots(1, use("t")))}
				want(t, l, "t", err)
				want(t, l, "s", err)
				want(t, l, "r", errIf(n+1 > api.MaxNodes, api.ErrMany))
			}
		}
	}
}

func TestP1401EachUseOfATreeCountsAnew(t *testing.T) {
	t.Parallel()
	for inner := 1; inner <= 1500; inner += 1 + inner {
		for _, uses := range []int{1, 2, 3, api.MaxNodes / inner / 2, (api.MaxNodes - 1) / inner, (api.MaxNodes-1)/inner + 1} {
			nodes := 1 + uses*inner
			l := []api.Tree{named("t", wide(uses, use("u"))), named("u", wide(inner-1, ok()))}
			want(t, l, "t", errIf(nodes > api.MaxNodes, api.ErrMany))
			for _, more := range []int{api.MaxNodes - nodes - 2, api.MaxNodes - nodes - 1} {
				if nodes > api.MaxNodes-3 {
					continue
				}
				l := append(l, named("s", seq(use("t"), wide(more-1, use("v")))), named("v", ok()), named("r", seq(wide(more-1, ok()), use("t"))))
				want(t, l, "s", errIf(nodes+1+more > api.MaxNodes, api.ErrMany))
				want(t, l, "r", errIf(nodes+1+more > api.MaxNodes, api.ErrMany))
			}
		}
	}
}

func TestP1401TreesThatGrowByUses(t *testing.T) {
	t.Parallel()
	for _, uses := range []int{1, 2, 3, 4, 7, 15, 16} {
		l := []api.Tree{named("t0", ok())}
		nodes := 1
		for i := range 60 {
			name := fmt.Sprint("t", i+1)
			l = append(l, named(name, wide(uses, use(fmt.Sprint("t", i)))))
			if nodes <= api.MaxNodes {
				nodes = 1 + uses*nodes
			}
			// What is too deep comes first in all of them.
			err := errIf(nodes > api.MaxNodes, api.ErrMany)
			if i+2 > api.MaxDeep {
				err = api.ErrDeep
			}
			want(t, l, name, err)
		}
	}
}

func TestP1401TooDeepOrTooManyWhicheverComesFirst(t *testing.T) {
	deep := nots(api.MaxDeep-1, use("d")) // which is too deep in anything
	for ahead := api.MaxNodes - 50; ahead <= api.MaxNodes; ahead++ {
		// The seq, these nodes, the nots, and the one that is too deep: if it is one node
		// too many as well, that comes second.
		err := errIf(1+ahead+api.MaxDeep-1 > api.MaxNodes, api.ErrMany)
		if err == api.OK {
			err = api.ErrDeep
		}
		l := []api.Tree{named("t", seq(wide(ahead-1, ok()), deep)), named("d", ok()), named("s", seq(use("w"), use("x"))), named("w", wide(ahead-1, use("d"))), named("x", deep)}
		want(t, l, "t", err)
		want(t, l, "s", err)
		l[0].Root.Kids[0], l[0].Root.Kids[1] = l[0].Root.Kids[1], l[0].Root.Kids[0]
		l[2].Root.Kids[0], l[2].Root.Kids[1] = l[2].Root.Kids[1], l[2].Root.Kids[0]
		want(t, l, "t", api.ErrDeep)
		want(t, l, "s", api.ErrDeep)
	}
	// As many nodes as may be, as deep as may be.
	l := []api.Tree{named("t", seq(wide(api.MaxNodes-41, use("d")), nots(api.MaxDeep-2, use("d")))), named("d", ok())}
	want(t, l, "t", api.OK)
}
