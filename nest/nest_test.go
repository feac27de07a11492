package nest_test

import (
	"math"
	"testing"

	"puppeteer/api"
	"puppeteer/nest"
	"puppeteer/samples"
)

// A part is what is nested, of the least size.
type part struct{ parts []part }

func partsOf(p *part) []part { return p.parts }

func wantSize(t *testing.T, list []part, count, depth int) {
	t.Helper()
	if gotCount, gotDepth := nest.Size(list, partsOf); gotCount != count || gotDepth != depth {
		t.Fatalf("Size is %d, %d; want %d, %d", gotCount, gotDepth, count, depth)
	}
}

func TestSizeOfLists(t *testing.T) {
	wantSize(t, nil, 0, 0)
	list := make([]part, 10)
	wantSize(t, list[:0], 0, 0)
	for n := 1; n <= 10; n++ {
		wantSize(t, list[:n], n, 1)
		wantSize(t, []part{{}, {list[:n]}, {}}, 3+n, 2)
		wantSize(t, []part{{list[:n]}, {[]part{{list[:n-1]}, {list[n-1:]}}}}, 14+n, 3)
	}
}

func TestSizeOfListsInThemselves(t *testing.T) {
	for n := 1; n <= 50; n++ {
		for at := range n {
			list := make([]part, n)
			list[at].parts = list
			wantSize(t, list, math.MaxInt, math.MaxInt)
			wantSize(t, []part{{}, {list[at:]}, {list}}, math.MaxInt, math.MaxInt)
			list[at].parts = list[at:]
			wantSize(t, list, math.MaxInt, math.MaxInt)
			list[at].parts = list[at+1:]
			wantSize(t, list, 2*n-at-1, min(n-at, 2))
			if at > 0 {
				list[at-1].parts = list[at:]
				list[at].parts = list[:at]
				wantSize(t, []part{{list}}, math.MaxInt, math.MaxInt)
			}
		}
	}
}

// More than all that a program may be given is not looked at, so that each call ends.
func TestSizeOfMoreThanMayBeGiven(t *testing.T) {
	t.Parallel()
	leaves := make([]part, 1<<22)
	for _, lists := range []int{1 << 5, 1 << 21} {
		around := make([]part, lists)
		sum := lists
		for i := range around {
			around[i].parts = leaves[i:]
			sum += len(leaves) - i
		}
		if sum > math.MaxInt32 {
			wantSize(t, around, math.MaxInt, math.MaxInt)
		} else {
			wantSize(t, around, sum, 2)
		}
	}
}

func TestCopier(t *testing.T) {
	d := samples.Dice(9)
	for range 300 {
		var c nest.Copier
		m := samples.Memory{}
		for range 5 {
			x, weights := samples.WideExpr(d.Expr()), []api.Expr{samples.WideExpr(d.Expr()), d.Expr()}[:d.Roll(3)]
			all := api.Node{Expr: x, Weights: weights}
			var watch samples.Watch
			watch.Node(all)
			if d.Roll(2) == 0 && !c.Fit(x, weights) {
				t.Fatalf("%v and %v do not fit", x, weights)
			}
			y, own, fit := c.Both(x, weights)
			if got := (api.Node{Expr: y, Weights: own}); !fit || !samples.SameNode(got, all) || !m.Node(got) || !m.Node(all) || !watch.Stays() {
				t.Fatalf("Both of %v and %v: %v and %v, %t", x, weights, y, own, fit)
			}
		}
	}
}

func TestCopierOfMoreThanFits(t *testing.T) {
	const most = math.MaxInt32 / 56
	many := samples.ManyExprs(most / 1000)
	for ahead := range most % 1000 {
		var c nest.Copier
		if x, weights, fit := c.Both(api.Expr{}, make([]api.Expr, ahead)); !fit || len(x.Kids) > 0 || len(weights) != ahead {
			t.Fatalf("%d weights are not copied", ahead)
		}
		rest := make([]api.Expr, most%1000-1-ahead)
		if x, weights, fit := c.Both(many, rest); fit || weights != nil || len(x.Kids) > 0 {
			t.Fatal("one more than fits is copied")
		}
	}
}

func TestFit(t *testing.T) {
	const most = math.MaxInt32 / 56
	many := samples.ManyExprs(most / 1000) // and itself
	for ahead := range most%1000 - 1 {
		var full, over nest.Copier
		some, rest := make([]api.Expr, ahead), make([]api.Expr, most%1000-1-ahead)
		if _, _, fit := full.Both(api.Expr{}, some); !fit || !full.Fit(many, rest[1:]) || full.Fit(api.Expr{}, nil) {
			t.Fatalf("with %d weights ahead, what fits does not, or one more does", ahead)
		}
		if !over.Fit(api.Expr{}, some) || over.Fit(many, rest) {
			t.Fatalf("with %d weights ahead, one more fits", ahead)
		}
	}
}
