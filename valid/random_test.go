package valid_test

import (
	"math"
	"slices"
	"testing"

	"puppeteer/api"
	"puppeteer/flat"
	"puppeteer/samples"
)

// part returns an expression that is in x, or x itself.
func part(d *samples.Dice, x *api.Expr) *api.Expr {
	for len(x.Kids) > 0 && d.Roll(3) > 0 {
		x = &x.Kids[d.Roll(len(x.Kids))]
	}
	return x
}

// changeExpr makes another expression of x, in most cases one that is not valid.
func changeExpr(d *samples.Dice, x *api.Expr) {
	x = part(d, x)
	switch d.Roll(5) {
	case 0:
		x.Kind = samples.Pick(d, samples.OddNumbers()...)
	case 1:
		x.N = samples.Pick(d, 0, 1, 2, -1, math.MinInt)
	case 2:
		x.Name = samples.Pick(d, "", "b", "seq", "9", "a b")
	case 3:
		x.Kids = x.Kids[:d.Roll(len(x.Kids)+1)]
	case 4:
		x.Kids = append(slices.Clone(x.Kids), d.Expr())
	}
}

// changeNode makes another node of n, in most cases one that is not right.
func changeNode(d *samples.Dice, n *api.Node) {
	for len(n.Kids) > 0 && d.Roll(4) > 0 {
		n = &n.Kids[d.Roll(len(n.Kids))]
	}
	switch d.Roll(9) {
	case 0:
		n.Kind = samples.Pick(d, samples.OddNumbers()...)
	case 1:
		n.Kind = samples.Pick(d, kinds()...)
		filled(d, n)
	case 2:
		n.A = samples.Pick(d, 0, 1, 2, 1000, 1001, -1)
	case 3:
		n.B = samples.Pick(d, 0, 1, 2, len(n.Kids), len(n.Kids)+1, -1)
	case 4:
		n.Name = samples.Pick(d, "", "b", "seq", "9", "a b", "a;", "a//")
	case 5:
		changeExpr(d, &n.Expr)
	case 6:
		n.Weights = append(slices.Clone(n.Weights), d.Expr())
		changeExpr(d, &n.Weights[d.Roll(len(n.Weights))])
		n.Weights = n.Weights[:d.Roll(len(n.Weights)+1)]
	case 7:
		n.Kids = n.Kids[:d.Roll(len(n.Kids)+1)]
		filledIf(d, n)
	case 8:
		n.Kids = append(slices.Clone(n.Kids), rightNode(d, 1+d.Roll(3), 10))
		filledIf(d, n)
	}
}

// filledIf fills a node one time in two, if it has kids.
func filledIf(d *samples.Dice, n *api.Node) {
	if len(n.Kids) > 0 && d.Roll(2) == 0 {
		filled(d, n)
	}
}

func TestP1601RandomNodes(t *testing.T) {
	t.Parallel()
	got := map[bool]int{}
	for seed := range 60_000 {
		d := samples.Dice(seed)
		n := rightNode(&d, 1+d.Roll(10), d.Roll(60))
		changes := seed % 4
		for range changes {
			changeNode(&d, &n)
		}
		right := wantBoth(t, flat.Make(n))
		got[right]++
		if changes == 0 && !right {
			t.Fatalf("%s is not right", shown(n))
		}
	}
	if got[true] < 20_000 || got[false] < 20_000 {
		t.Fatalf("right or not: %v", got)
	}
}

func TestP1601RandomLists(t *testing.T) {
	t.Parallel()
	got := map[bool]int{}
	for seed := range 60_000 {
		d := samples.Dice(seed)
		l := flat.Make(rightNode(&d, 1+d.Roll(6), d.Roll(30)))
		for range 1 + seed%2 {
			d.Misplace(l)
		}
		got[wantBoth(t, l)]++
	}
	if got[true] < 5000 || got[false] < 20_000 {
		t.Fatalf("right or not: %v", got)
	}
}
