package inline_test

import (
	"fmt"
	"slices"
	"strings"
	"testing"

	"puppeteer/api"
	"puppeteer/samples"
)

func TestP1401ErrNameForTheTreeItself(t *testing.T) {
	for _, l := range [][]api.Tree{
		nil, {}, {named("u", ok())}, {named("u", use("t"))}, {named("T", ok()), named("tt", ok()), named("", ok()), named("t ", ok())}, {named("u", use("u")), named("v", nots(50, ok()))},
		// The names of nodes are none of trees.
		{named("u", api.Node{Kind: api.NDo, Name: "t"})},
	} {
		want(t, l, "t", api.ErrName)
		wantTree(t, append(l, named("t", fail())), "t", fail())
		wantTree(t, append([]api.Tree{named("t", fail())}, l...), "t", fail())
	}
	want(t, []api.Tree{named("t", ok())}, "", api.ErrName)
}

func TestP1401ErrNameForAUse(t *testing.T) {
	for _, around := range arounds() {
		l := trees(t, "tree t { "+at(around, "use none;")+" } tree s { use t; } tree u { ok; }")
		for _, name := range []string{"t", "s"} {
			want(t, l, name, api.ErrName)
			wantTree(t, append(l, named("none", ok())), name, root(t, at(around, "ok;")))
		}
		wantTree(t, l, "u", ok())
		want(t, append(l, named("None", ok()), named("", ok())), "s", api.ErrName)
	}
	// At the end of a chain.
	for n := 1; n < 100; n += 7 {
		want(t, chain(n, 0, use("none")), "t0", api.ErrName)
		want(t, chain(n, 10, use("none")), "t0", api.ErrName)
	}
}

func TestP1401ErrRingWhereverTheUseIs(t *testing.T) {
	// What the trees a, b and c use, and which of them are in a ring or lead into one.
	cases := []struct{ uses, wrong string }{{"---", ""}, {"aac", "abc"}, {"ba-", "ab"}, {"bba", "abc"}, {"cc-", ""}, {"bca", "abc"}, {"cb-", "b"}, {"-aa", ""}, {"-ab", ""}, {"-cb", "bc"}}
	for _, around := range arounds() {
		for _, other := range arounds()[:14] {
			for _, c := range cases {
				var l []api.Tree
				for i, around := range []string{around, other, other} {
					inner := ok()
					if c.uses[i] != '-' {
						inner = use(c.uses[i : i+1])
					}
					l = append(l, named("abc"[i:i+1], filled(root(t, at(around, "use hole;")), inner)))
				}
				for _, name := range []string{"a", "b", "c"} {
					want(t, l, name, map[bool]api.Errno{true: api.ErrRing, false: api.OK}[strings.Contains(c.wrong, name)])
				}
			}
		}
	}
}

// filled puts a node into the places of uses.
func filled(n, inner api.Node) api.Node {
	if n.Kind == api.NUse {
		return inner
	}
	n.Kids = slices.Clone(n.Kids)
	for i, kid := range n.Kids {
		n.Kids[i] = filled(kid, inner)
	}
	return n
}

func TestP1401LongRings(t *testing.T) {
	for n := 1; n <= 300; n += 1 + n/10 {
		for to := 0; to < n; to += 1 + n/10 {
			last := use(fmt.Sprint("t", to))
			for _, l := range [][]api.Tree{chain(n, 0, last), chain(n, 0, seq(ok(), last)), chain(n, 10, last), chain(n, 10, seq(ok(), last, ok()))} {
				if n > 250 && len(l[0].Root.Kids) > 0 {
					continue
				}
				// Those ahead of t(to) lead into the ring.
				for from := 0; from < n; from += 1 + n/5 {
					want(t, l, fmt.Sprint("t", from), api.ErrRing)
				}
				want(t, l[:n-1], "t0", api.ErrName)
			}
		}
	}
}

func TestP1401EveryGraphOfThreeTrees(t *testing.T) {
	names := []string{"a", "b", "c"}
	for bits := range 1 << 9 {
		var l []api.Tree
		var reach [3][3]bool
		for i, name := range names {
			root := seq(ok())
			for j, other := range names {
				if reach[i][j] = bits>>(3*i+j)&1 > 0; reach[i][j] {
					root.Kids = append(root.Kids, use(other))
				}
			}
			l = append(l, named(name, root))
		}
		for k := range names {
			for i := range names {
				for j := range names {
					reach[i][j] = reach[i][j] || reach[i][k] && reach[k][j]
				}
			}
		}
		for i, name := range names {
			err := api.OK
			for j := range names {
				if reach[j][j] && (i == j || reach[i][j]) {
					err = api.ErrRing
				}
			}
			want(t, l, name, err)
		}
	}
}

func TestP1401EveryListOfThreeSmallTrees(t *testing.T) {
	leaves := []api.Node{ok(), use("a"), use("b"), use("c"), use("none")}
	var roots []api.Node
	for _, first := range leaves {
		roots = append(roots, first, nots(1, first))
		for _, second := range leaves {
			roots = append(roots, seq(first, second))
		}
	}
	got := map[api.Errno]int{}
	for _, a := range roots {
		for _, b := range roots {
			for _, c := range roots {
				l := []api.Tree{named("a", a), named("b", b), named("c", c)}
				root, err := modelTree(l, "a")
				same(t, l, "a", root, err)
				got[err]++
			}
		}
	}
	if len(got) != 3 || got[api.OK] < 1000 || got[api.ErrName] < 1000 || got[api.ErrRing] < 1000 {
		t.Fatalf("the errors are %v", got)
	}
}

// A fault is a node that is wrong, wherever it stands in the tree t, if there are the
// trees of faulty.
type fault struct {
	n   api.Node
	err api.Errno
}

func faulty() []api.Tree {
	return []api.Tree{
		named("none1", use("none")), named("none2", nots(3, use("none"))), named("ring1", use("ring1")), named("ring2", seq(ok(), use("ring3"))), named("ring3", use("ring2")),
		named("deep1", nots(30, ok())), named("deep2", nots(20, use("deep1"))), named("many1", wide(3000, ok())), named("many2", seq(use("many1"), use("many1"))), named("u", ok()),
	}
}

func faults() []fault {
	var list []fault
	for name, err := range map[string]api.Errno{"none": api.ErrName, "none1": api.ErrName, "none2": api.ErrName, "t": api.ErrRing, "ring1": api.ErrRing, "ring2": api.ErrRing, "ring3": api.ErrRing, "deep2": api.ErrDeep, "many2": api.ErrMany} {
		list = append(list, fault{use(name), err})
	}
	return append(list, fault{nots(60, ok()), api.ErrDeep}, fault{nots(60, use("none")), api.ErrDeep}, fault{wide(1500, nots(3, use("u"))), api.ErrMany})
}

func TestP1401OfTwoFaultsTheOneThatIsVisitedFirst(t *testing.T) {
	t.Parallel()
	base, list := faulty(), faults()
	for _, one := range list {
		for _, other := range list {
			for _, root := range []api.Node{
				one.n, seq(one.n, other.n), seq(ok(), one.n, ok(), other.n), seq(nots(2, one.n), other.n), seq(one.n, nots(2, other.n)), seq(seq(one.n, ok(), other.n)),
				seq(use("u"), nots(1, one.n), nots(1, other.n)), seq(node(api.NSel, ok(), use("x")), other.n), seq(ok(), use("xy"), use("yx")), seq(use("z"), use("yx")),
			} {
				l := slices.Concat(base, []api.Tree{named("x", seq(ok(), one.n)), named("y", other.n), named("xy", seq(use("x"), use("y"))), named("yx", seq(use("y"), use("x"))), named("z", nots(1, use("xy"))), named("t", root)})
				want(t, l, "t", one.err)
				slices.Reverse(l)
				want(t, l, "t", one.err)
			}
		}
	}
}

func TestP1401ANodeIsVisitedAheadOfItsKids(t *testing.T) {
	for _, f := range faults() {
		if f.n.Kind != api.NUse {
			continue
		}
		l := append(faulty(), named("t", nots(api.MaxDeep+1, f.n)))
		want(t, l, "t", api.ErrDeep)
		// The last of 4000 nodes has kids, or the next one has.
		l[len(l)-1].Root = seq(wide(api.MaxNodes-3, ok()), seq(f.n))
		if f.err == api.ErrName || f.err == api.ErrRing {
			err := f.err
			if f.n.Name == "none2" || f.n.Name == "ring2" || f.n.Name == "ring3" {
				// They have a node of their own ahead of the fault.
				err = api.ErrMany
			}
			want(t, l, "t", err)
		}
		l[len(l)-1].Root = seq(wide(api.MaxNodes-2, ok()), seq(f.n))
		want(t, l, "t", api.ErrMany)
	}
	// A use has no depth, and counts as no node.
	for _, c := range []struct {
		root api.Node
		err  api.Errno
	}{
		{nots(api.MaxDeep, use("none")), api.ErrName}, {nots(api.MaxDeep, use("t")), api.ErrRing}, {nots(api.MaxDeep, use("u")), api.ErrDeep}, {nots(api.MaxDeep, use("none2")), api.ErrDeep}, {nots(api.MaxDeep, use("ring1")), api.ErrRing},
		{wide(api.MaxNodes-1, ok()), api.OK}, {seq(wide(api.MaxNodes-2, ok()), use("none")), api.ErrName}, {seq(wide(api.MaxNodes-2, ok()), use("t")), api.ErrRing}, {seq(wide(api.MaxNodes-2, ok()), use("u")), api.ErrMany},
		{seq(wide(api.MaxNodes-2, ok()), use("none2")), api.ErrMany}, {seq(wide(api.MaxNodes-2, ok()), use("ring1")), api.ErrRing}, {seq(wide(api.MaxNodes-1, ok()), use("none")), api.ErrMany},
	} {
		want(t, append(faulty(), named("t", c.root)), "t", c.err)
	}
}

func TestP1401RandomTrees(t *testing.T) {
	t.Parallel()
	got := map[api.Errno]int{}
	d := samples.Dice(71401)
	for range 500 {
		l := randomTrees(&d)
		for _, one := range l {
			root, err := modelTree(l, one.Name)
			same(t, l, one.Name, root, err)
			got[err]++
		}
	}
	for _, err := range []api.Errno{api.OK, api.ErrName, api.ErrRing, api.ErrDeep, api.ErrMany} {
		if got[err] < 30 {
			t.Fatalf("the errors are %v", got)
		}
	}
}

// randomTrees lists trees of which most use such as come later, and puts them into
// another order.
func randomTrees(d *samples.Dice) []api.Tree {
	n := 1 + d.Roll(8)
	var l []api.Tree
	for i := range n {
		one := d.Node(1+d.Roll(25), d.Roll(150))
		turnUses(d, &one, i, n)
		l = append(l, named(fmt.Sprint("t", i), one))
		if d.Roll(40) == 0 {
			l[i].Name = fmt.Sprint("t", d.Roll(n))
		}
		j := d.Roll(i + 1)
		l[i], l[j] = l[j], l[i]
	}
	return l
}

// turnUses makes uses in the i-th of n trees such of later trees, or of others if it
// is a rare case. An action becomes a use as well, such that there are more of them.
func turnUses(d *samples.Dice, one *api.Node, i, n int) {
	later := i + 1 + d.Few(2)
	switch {
	case one.Kind != api.NUse && one.Kind != api.NDo:
	case d.Roll(80) == 0:
		*one = use(fmt.Sprint("t", d.Roll(n+1)))
	case later < n:
		*one = use(fmt.Sprint("t", later))
	default:
		*one = ok()
	}
	for j := range one.Kids {
		turnUses(d, &one.Kids[j], i, n)
	}
}
