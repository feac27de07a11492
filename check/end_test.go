package check_test

import (
	"fmt"
	"math"
	"slices"
	"strings"
	"testing"

	"puppeteer/api"
	"puppeteer/check"
	"puppeteer/samples"
)

func oddNames() []string {
	return []string{"", "a", "d", "t", "seq", "a b", ";", "\n", "é\x00", "\xff", samples.LongestName() + "n", strings.Repeat("n", 1<<16)}
}

func oddExprs() []api.Expr {
	return append(invalid(), api.Expr{}, name("a"), name("x"), api.Expr{Kind: api.EBool, N: 1}, api.Expr{Kind: api.ESelf})
}

// ends calls Check for programs with a node that no text has, alone, in others, and in
// what is used, and tells its error if it is alone. Only that it ends is promised.
func ends(t *testing.T, n api.Node) api.Errno {
	t.Helper()
	keys, domains := []api.Key{{Name: "a"}}, []api.Domain{{Name: "d"}}
	in := func(root api.Node) api.Errno {
		p := api.Program{Keys: keys, Trees: []api.Tree{{Name: "t", Root: root}, {Name: "u", Root: api.Node{Kind: api.NUse, Name: "t"}}}, Domains: domains}
		got, err := check.Check(p)
		if err == api.OK && got != "" {
			t.Fatalf("Check returns %q with OK", got)
		}
		p.Trees[0], p.Trees[1] = p.Trees[1], p.Trees[0]
		check.Check(p)
		return err
	}
	in(api.Node{Kind: api.NSeq, Kids: []api.Node{{Kind: api.NUse, Name: "u"}, n}})
	in(api.Node{Kind: api.NNot, Kids: []api.Node{n, n}})
	in(api.Node{Kind: api.NPick, Kids: []api.Node{n}, Weights: []api.Expr{{}}})
	return in(n)
}

// wantRejected checks that a node which no text has is an error.
func wantRejected(t *testing.T, n api.Node) {
	t.Helper()
	if ends(t, n) == api.OK {
		t.Fatalf("%.300s is accepted", fmt.Sprint(n))
	}
}

func ok() api.Node { return api.Node{Kind: api.NOk} }

// kidsOf tells how many kids nodes of a kind may have.
func kidsOf(kind int) (least, most int) {
	switch kind {
	case api.NSeq, api.NSel, api.NMSeq, api.NMSel, api.NPar, api.NPick:
		return 1, api.MaxKids
	case api.NNot, api.NRepeat:
		return 1, 1
	}
	return 0, 0
}

// whole is a node of a kind with these numbers of kids and of weights, in which all
// else is right.
func whole(kind, kids, weights int) api.Node {
	n := api.Node{Kind: kind, Kids: slices.Repeat([]api.Node{ok()}, kids), Weights: slices.Repeat([]api.Expr{{}}, weights)}
	switch kind {
	case api.NPar:
		n.A, n.B = 1, 1
	case api.NRepeat:
		n.A = 1
	case api.NIf:
		n.Expr = api.Expr{Kind: api.EBool}
	case api.NSet:
		n.Name = "a"
	case api.NPlan:
		n.Name = "d"
	case api.NUse:
		n.Name = "s"
	}
	return n
}

// weightsOf tells how many weights a node of a kind has with so many kids.
func weightsOf(kind, kids int) int {
	if kind == api.NPick {
		return kids
	}
	return 0
}

func TestP1303NodesWithTooManyOrTooFewKidsOrWeights(t *testing.T) {
	for _, kind := range samples.OddNumbers() {
		least, most := kidsOf(kind)
		for _, kids := range []int{0, 1, 2, 3, api.MaxKids - 1, api.MaxKids, api.MaxKids + 1, 100} {
			for _, weights := range []int{0, 1, 2, 3, api.MaxKids - 1, api.MaxKids, api.MaxKids + 1, 100} {
				n := whole(kind, kids, weights)
				p := api.Program{Keys: []api.Key{{Name: "a"}}, Trees: []api.Tree{{Name: "t", Root: n}, {Name: "s", Root: ok()}}, Domains: []api.Domain{{Name: "d"}}}
				right := kind >= api.NSeq && kind <= api.NWait && least <= kids && kids <= most && weights == weightsOf(kind, kids)
				if right {
					want(t, p, "", api.OK)
					continue
				}
				if _, err := check.Check(p); err == api.OK {
					t.Fatalf("%.300s is accepted", fmt.Sprint(n))
				}
				wantRejected(t, n)
			}
		}
	}
}

func TestP1303NodesOfOddForms(t *testing.T) {
	for _, kind := range samples.OddNumbers() {
		for _, number := range []int{math.MinInt, -5, -1, 0, 1, 2, math.MaxInt} {
			for kids := range 4 {
				for weights := range 4 {
					n := api.Node{Kind: kind, A: number, B: -number, Name: "a", Kids: slices.Repeat([]api.Node{ok()}, kids), Weights: slices.Repeat([]api.Expr{name("a")}, weights)}
					ends(t, n)
				}
			}
		}
		for _, name := range oddNames() {
			for _, x := range oddExprs() {
				ends(t, api.Node{Kind: kind, Name: name, Expr: x})
				ends(t, api.Node{Kind: kind, A: 1, B: 1, Name: name, Expr: x, Kids: []api.Node{ok()}, Weights: []api.Expr{x}})
			}
		}
		for _, other := range samples.OddNumbers() {
			ends(t, api.Node{Kind: kind, Kids: []api.Node{{Kind: other}, {Kind: kind, Kids: []api.Node{{Kind: other, Kids: []api.Node{ok()}}}}}})
		}
	}
	ends(t, whole(api.NSeq, 1_000_000, 0))
	ends(t, whole(api.NNot, 1_000_000, 0))
	ends(t, whole(api.NPick, 1_000_000, 1_000_000))
	ends(t, whole(api.NPick, 1, 1_000_000))
}

func TestP1303NodesThatAreTooDeepOrInThemselves(t *testing.T) {
	for kind := -1; kind <= api.NWait+1; kind++ {
		for _, deep := range []int{api.MaxDeep, api.MaxDeep + 1, 100_000} {
			n := ok()
			for range deep {
				around := whole(kind, 1, weightsOf(kind, 1))
				around.Kids[0] = n
				n = around
			}
			wantRejected(t, n)
		}
		for _, width := range []int{1, 2, api.MaxKids, 1000} {
			for _, from := range []int{0, width - 1} {
				around := whole(kind, width, weightsOf(kind, width))
				kids := around.Kids
				for i := from; i < width; i++ {
					kids[i] = around
				}
				wantRejected(t, around)
				wantRejected(t, kids[from])
			}
		}
	}
	// Two that are in each other.
	one, two := make([]api.Node, 2), make([]api.Node, 2)
	one[0], two[0], one[1], two[1] = ok(), ok(), api.Node{Kind: api.NSel, Kids: two}, api.Node{Kind: api.NSeq, Kids: one}
	wantRejected(t, api.Node{Kind: api.NSeq, Kids: one})
	wantRejected(t, two[1])
}

func TestP1303MoreNodesThanATextHas(t *testing.T) {
	n := ok()
	for range api.MaxDeep - 1 {
		n = api.Node{Kind: api.NSeq, Kids: slices.Repeat([]api.Node{n}, api.MaxKids)}
	}
	wantRejected(t, n)
	// As a tree that is used, or in many trees.
	var p api.Program
	for i := range api.MaxTrees {
		p.Trees = append(p.Trees, api.Tree{Name: fmt.Sprint("t", i), Root: n})
	}
	if _, err := check.Check(p); err == api.OK {
		t.Fatal("so many nodes are accepted")
	}
	n = ok()
	for range 3 {
		n = api.Node{Kind: api.NSeq, Kids: slices.Repeat([]api.Node{n}, 15)}
	}
	p = api.Program{Trees: []api.Tree{{Name: "a", Root: n}, {Name: "b", Root: n}, {Name: "c", Root: n}}}
	want(t, p, "", api.OK)
}

// endsKind calls Kind, alone and in a program, for an expression of which only that
// it ends is promised.
func endsKind(t *testing.T, x api.Expr, l []api.Key) {
	t.Helper()
	kind, err := check.Kind(x, l)
	if err != api.OK && kind != 0 {
		t.Fatalf("Kind returns %d with error %d", kind, err)
	}
	for _, n := range []api.Node{{Kind: api.NIf, Expr: x}, {Kind: api.NSet, Name: "a", Expr: x}, {Kind: api.NPick, Kids: []api.Node{ok()}, Weights: []api.Expr{x}}} {
		check.Check(api.Program{Keys: l, Trees: []api.Tree{{Name: "t", Root: n}}})
	}
}

func TestP1303OddExpressionsAndKeys(t *testing.T) {
	for _, kind := range samples.OddNumbers() {
		l := []api.Key{{Name: "a", Kind: kind}, {Name: "b", Kind: kind, Shared: true}, {Kind: kind}}
		for _, x := range oddExprs() {
			endsKind(t, x, l)
			for _, form := range samples.OddNumbers() {
				for kids := range 4 {
					endsKind(t, api.Expr{Kind: form, Kids: slices.Repeat([]api.Expr{x}, kids)}, l)
				}
			}
		}
		for _, name := range oddNames() {
			for _, n := range []int{math.MinInt, -1, 0, 1, math.MaxInt} {
				endsKind(t, api.Expr{Kind: kind, N: n, Name: name}, append(l, api.Key{Name: name, Kind: kind}))
			}
		}
	}
	many := make([]api.Key, 300_000)
	for i := range many {
		many[i].Name = fmt.Sprint("k", i)
	}
	endsKind(t, name("k299999"), many)
	endsKind(t, name("none"), many)
}

func TestP1303ExpressionsThatAreTooDeepOrInThemselves(t *testing.T) {
	for kind := -1; kind <= api.EFar+1; kind++ {
		for width := 1; width <= 3; width++ {
			kids := make([]api.Expr, width)
			for i := range kids {
				kids[i] = api.Expr{Kind: kind, Kids: kids}
			}
			endsKind(t, kids[0], ten())
			if got, err := check.Kind(kids[0], ten()); got != 0 || err != api.ErrArg {
				t.Fatalf("Kind of one that is in itself: %d, error %d", got, err)
			}
			x := api.Expr{N: 1}
			for range 100_000 {
				x = api.Expr{Kind: kind, Kids: slices.Repeat([]api.Expr{x}, width)}
			}
			endsKind(t, x, ten())
			if got, err := check.Kind(x, ten()); got != 0 || err != api.ErrArg {
				t.Fatalf("Kind of one that is too deep: %d, error %d", got, err)
			}
		}
	}
}

func TestP1303OddDomainsAndNames(t *testing.T) {
	for _, number := range samples.OddNumbers() {
		for _, name := range oddNames() {
			cond := []api.Cond{{Name: name, Op: number, N: number}, {Name: name, Op: number}}
			for _, keys := range [][]api.Key{nil, {{Name: "a"}}, {{Name: name}}, {{Name: name, Kind: number}, {Name: name}}} {
				for _, low := range []int{number, 0} {
					check.Check(api.Program{Keys: keys, Trees: []api.Tree{{Name: name}, {Name: "u", Root: api.Node{Kind: api.NUse, Name: name}}},
						Domains: []api.Domain{{}, {Name: name, Vars: []api.Var{{Name: name, Low: low, High: -low}}, Goal: cond,
							Acts: []api.Act{{Name: "b", Cost: 1}, {Name: name, Cost: max(1, low), Need: cond, Make: []api.Make{{Name: name, N: number}, {Name: name, Add: true, N: number}}}}}}})
				}
			}
		}
	}
}

func TestP1303AnOperatorThatThereIsNotCountsAsAny(t *testing.T) {
	// No check asks for it.
	for _, op := range samples.OddNumbers() {
		p := program(t, inDomain("var v 0 1; act a cost 1 { need v == 1; } goal v == 1;"))
		p.Domains[1].Goal[0].Op, p.Domains[1].Acts[0].Need[0].Op = op, op
		want(t, p, "", api.OK)
		p.Domains[1].Goal[0].N = 101
		want(t, p, "d", api.ErrArg)
	}
}

func TestP1303MoreElementsThanATextHas(t *testing.T) {
	domain := func(d api.Domain) api.Program {
		d.Name = "d"
		return api.Program{Keys: someKeys(20), Domains: []api.Domain{d}}
	}
	for _, more := range []int{0, 1, 2, 100_000} {
		vars, acts := make([]api.Var, api.MaxVars+more), make([]api.Act, api.MaxActs+more)
		for i := range vars {
			vars[i] = api.Var{Name: fmt.Sprint("k", i)}
		}
		for i := range acts {
			acts[i] = api.Act{Name: fmt.Sprint("a", i), Cost: 1}
		}
		one := []api.Var{{Name: "k0"}}
		keys := someKeys(20)
		for i := range keys {
			keys[i].Kind = api.KInt
		}
		conds, makes := slices.Repeat([]api.Cond{{Name: "k0"}}, len(vars)), slices.Repeat([]api.Make{{Name: "k0"}}, len(vars))
		var trees []api.Tree
		var domains []api.Domain
		for i := range api.MaxTrees + more {
			trees = append(trees, api.Tree{Name: fmt.Sprint("t", i), Root: ok()})
			domains = append(domains, api.Domain{Name: fmt.Sprint("d", i)})
		}
		for i, p := range []api.Program{
			domain(api.Domain{Vars: vars}), domain(api.Domain{Acts: acts}), domain(api.Domain{Vars: one, Goal: conds}), domain(api.Domain{Vars: one, Acts: []api.Act{{Name: "a", Cost: 1, Need: conds}}}),
			domain(api.Domain{Vars: one, Acts: []api.Act{{Name: "a", Cost: 1, Make: makes}}}), {Trees: trees}, {Domains: domains},
		} {
			p.Keys = keys
			if _, err := check.Check(p); (err == api.OK) != (more == 0) {
				t.Fatalf("%d, with %d more: error %d", i, more, err)
			}
		}
	}
	// A ring of more trees than may be.
	var trees []api.Tree
	for i := range 100_000 {
		trees = append(trees, api.Tree{Name: fmt.Sprint("t", i), Root: api.Node{Kind: api.NUse, Name: fmt.Sprint("t", (i+1)%100_000)}})
	}
	check.Check(api.Program{Trees: trees})
}
