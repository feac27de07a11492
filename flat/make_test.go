package flat_test

import (
	"math"
	"slices"
	"testing"

	"puppeteer/api"
	"puppeteer/flat"
	"puppeteer/samples"
)

func TestP1501MakeOfOneNode(t *testing.T) {
	wantMake(t, ok(), []api.Flat{{Kind: api.NOk, End: 1, Parent: -1}})
	wantMake(t, api.Node{}, []api.Flat{{End: 1, Parent: -1}})
	x, y := api.Expr{Kind: api.EName, Name: "a"}, api.Expr{Kind: api.ENot, Kids: []api.Expr{{Kind: api.EBool, N: 1}}}
	for _, kind := range samples.OddNumbers() {
		for _, number := range []int{math.MinInt, -1, 0, 1, 2, 40, math.MaxInt} {
			wantMake(t, api.Node{Kind: kind, A: number}, []api.Flat{{Kind: kind, A: number, End: 1, Parent: -1}})
			wantMake(t, api.Node{Kind: kind, B: number, Expr: x}, []api.Flat{{Kind: kind, B: number, Expr: x, End: 1, Parent: -1}})
			n := api.Node{Kind: kind, A: number, B: 7, Name: "n", Expr: y, Weights: []api.Expr{x, y, {N: number}}}
			wantMake(t, n, []api.Flat{{Kind: kind, A: number, B: 7, Name: "n", Expr: y, Weights: []api.Expr{x, y, {N: number}}, End: 1, Parent: -1}})
			both(t, n)
		}
		for _, name := range []string{"", "a", "\x00", "\xff\xfe", "a b", samples.LongestName() + samples.LongestName()} {
			both(t, api.Node{Kind: kind, Name: name})
		}
		for weights := range 40 {
			both(t, api.Node{Kind: kind, Weights: slices.Repeat([]api.Expr{x, y}, weights)[weights:]})
		}
	}
}

func TestP1501MakeOfNodesOfEachKindWithKids(t *testing.T) {
	x := api.Expr{Kind: api.EAdd, Kids: []api.Expr{{N: 1}, {Kind: api.EName, Name: "x"}}}
	kinds := samples.OddNumbers()
	for i, kind := range kinds {
		one := api.Node{Kind: kind, A: 5, B: -7, Name: "t", Expr: x, Weights: []api.Expr{{}, x}}
		for number := range 20 {
			n := api.Node{Kind: kind, A: number, Name: "u", Weights: []api.Expr{x}, Kids: slices.Repeat([]api.Node{one}, number)}
			want := []api.Flat{{Kind: kind, A: number, Name: "u", Weights: []api.Expr{x}, End: 1 + number, Parent: -1}}
			for k := range number {
				want = append(want, api.Flat{Kind: kind, A: 5, B: -7, Name: "t", Expr: x, Weights: []api.Expr{{}, x}, End: 2 + k, Parent: 0})
			}
			wantMake(t, n, want)
			wantBack(t, want, n)
			both(t, api.Node{Kind: kinds[(7*i+number)%len(kinds)], Kids: []api.Node{n, one, n}})
		}
	}
}

func TestP1501MakeOfTexts(t *testing.T) {
	for _, text := range []string{
		"ok;", "fail;", "wait;", "do a;", "use u;", "plan d;", "if a < 1;", "set b := (1, 2);", "not ok;", "repeat 3 fail;", "seq { ok; }", "sel { ok; fail; }", "mseq { ok; ok; ok; }", "msel { not ok; wait; }",
		"par 1 2 { do a; do b; do c; }", "pick { 1: ok; a + b: fail; 3 * 4: wait; }", "seq { ok; sel { do x; if a < 1; } par 1 2 { wait; fail; } pick { 7: set b := 2; a: not plan p; } repeat 3 use u; }",
		"pick { 1: pick { 2: pick { 3: ok; 4: fail; } } 5: par 0 0 { pick { 6: wait; } } }", "repeat 1 not repeat 2 not repeat 3 seq { not not ok; repeat 4 fail; }",
	} {
		both(t, root(t, text))
	}
	got := flat.Make(root(t, "sel { pick { 1: not do a; b: ok; } set c := 2; }"))
	one, name := api.Expr{N: 1}, api.Expr{Kind: api.EName, Name: "b"}
	want := []api.Flat{
		{Kind: api.NSel, End: 6, Parent: -1}, {Kind: api.NPick, Weights: []api.Expr{one, name}, End: 5, Parent: 0}, {Kind: api.NNot, End: 4, Parent: 1}, {Kind: api.NDo, Name: "a", End: 4, Parent: 2},
		{Kind: api.NOk, End: 5, Parent: 1}, {Kind: api.NSet, Name: "c", Expr: api.Expr{N: 2}, End: 6, Parent: 0},
	}
	if !samples.SameFlats(got, want) {
		t.Fatalf("Make: %v; want %v", got, want)
	}
}

// catalan is the number of trees with n nodes, by the ways to part one.
func catalan(n int) int {
	if n == 1 {
		return 1
	}
	sum := 0
	for first := 1; first < n; first++ {
		sum += catalan(first) * catalan(n-first)
	}
	return sum
}

func TestP1501MakeAndBackOfAllShapes(t *testing.T) {
	for n := 1; n <= 9; n++ {
		all := shapes(n)
		if len(all) != catalan(n) {
			t.Fatalf("there are %d shapes of %d nodes", len(all), n)
		}
		for _, one := range all {
			both(t, one)
		}
	}
}

func TestP1501MakeAndBackOfRandomNodes(t *testing.T) {
	d := samples.Dice(15)
	for range 3000 {
		both(t, d.Node(1+d.Roll(30), d.Roll(300)))
	}
}

func TestP1501TheListOfWideAndDeepNodes(t *testing.T) {
	t.Parallel()
	for _, n := range []int{0, 1, 2, 15, 16, 17, 40, 41, 1000, api.MaxNodes, api.MaxNodes + 1, 100_000} {
		for _, inner := range []api.Node{ok(), seq(ok(), nots(2, ok()))} {
			count := len(modelMake(inner))
			deep, broad := flat.Make(nots(n, inner)), flat.Make(wide(n, inner))
			if len(deep) != n+count || len(broad) != 1+n*count {
				t.Fatalf("Make of %d nodes: %d and %d elements", n, len(deep), len(broad))
			}
			for i, f := range deep[:n] {
				if f.Kind != api.NNot || f.End != n+count || f.Parent != i-1 {
					t.Fatalf("Make of %d nodes at %d: %v", n, i, f)
				}
			}
			for i := range n {
				if f := broad[1+i*count]; f.Kind != inner.Kind || f.End != 1+(i+1)*count || f.Parent != 0 {
					t.Fatalf("Make of %d kids at %d: %v", n, 1+i*count, f)
				}
			}
			for _, l := range [][]api.Flat{deep, broad} {
				back, right := flat.Back(l)
				if !right {
					t.Fatal("Back returns none")
				}
				wantMake(t, back, l)
				l[len(l)-1].Parent--
				wantNone(t, l)
			}
		}
	}
	left, right := ok(), ok()
	for range 1000 {
		left, right = seq(left, ok()), seq(ok(), nots(1, ok()), right)
	}
	both(t, left)
	both(t, right)
}

func TestP1501LargeAndDeepExpressionsAreCopied(t *testing.T) {
	for _, n := range []int{0, 1, 2, api.MaxDeep, 1000, 100_000} {
		for _, x := range samples.LargeExprs(n) {
			both(t, api.Node{Kind: api.NIf, Expr: x})
			both(t, api.Node{Kind: api.NPick, Weights: []api.Expr{{N: 1}, x, x}})
			both(t, seq(ok(), nots(1, api.Node{Expr: x, Weights: []api.Expr{x, {}}}), api.Node{Expr: x}))
		}
	}
}
