package valid_test

import (
	"math"
	"slices"
	"testing"

	"puppeteer/api"
	"puppeteer/flat"
	"puppeteer/samples"
)

// wantWrong checks that a list is not right with an expression, wherever it stands.
func wantWrong(t *testing.T, x api.Expr) {
	t.Helper()
	for _, in := range []api.Expr{x, {Kind: api.ENot, Kids: []api.Expr{x}}, {Kind: api.EAdd, Kids: []api.Expr{{N: 1}, x}}} {
		for _, kind := range kinds() {
			for _, inner := range []int{0, 1, 2, 3} {
				n := of(api.NSeq, oks(4)...)
				least, _ := kidsOf(kind)
				n.Kids[inner] = of(kind, oks(least)...)
				l := flat.Make(n)
				want(t, l, true)
				l[1+inner].Expr = in
				want(t, l, false)
				l[1+inner] = flat.Make(n)[1+inner]
				l[1+inner].Weights = []api.Expr{in}
				want(t, l, false)
			}
		}
	}
}

func TestP1602ExpressionsThatAreInThemselves(t *testing.T) {
	for _, x := range samples.RingExprs() {
		wantWrong(t, x)
	}
}

func TestP1602ExpressionsWithoutMeasure(t *testing.T) {
	t.Parallel()
	// They are deeper than may be, or such that a node with them takes more than 2^31 - 1
	// bytes.
	for _, x := range []api.Expr{turns(10_000), doubled(30), doubled(41), doubled(60), samples.ManyExprs(38_348)} {
		l := flat.Make(of(api.NSeq, of(api.NIf), of(api.NPick, oks(2)...), of(api.NOk)))
		for at := range l {
			was := l[at]
			l[at].Expr = x
			want(t, l, false)
			l[at] = was
			l[at].Weights = []api.Expr{{}, x}
			want(t, l, false)
			l[at] = was
		}
		want(t, l, true)
	}
	// Each one would do alone.
	l := flat.Make(of(api.NPick, oks(16)...))
	for i := range l[0].Weights {
		l[0].Weights[i] = doubled(24)
	}
	want(t, l, false)
}

func TestP1602ListsWithoutMeasure(t *testing.T) {
	t.Parallel()
	want(t, make([]api.Flat, 1_000_000), false)
	l := flat.Make(sized(1_000_000))
	want(t, l, false)
	want(t, l[:4000], false)
	l[0].Expr = doubled(60)
	want(t, l, false)
}

func TestP1602OddLists(t *testing.T) {
	numbers := append(samples.OddNumbers(), math.MinInt32, math.MaxInt32)
	d := samples.Dice(1602)
	for range 50_000 {
		l := make([]api.Flat, d.Few(30))
		for i := range l {
			l[i] = api.Flat{Kind: samples.Pick(&d, numbers...), A: d.Signed(), End: samples.Pick(&d, numbers...), Parent: samples.Pick(&d, numbers...), Weights: make([]api.Expr, d.Few(3))}
		}
		wantModel(t, l)
	}
	// Elements that are their own parents, or each other's.
	for n := 1; n <= 50; n++ {
		for end := -1; end <= n+1; end++ {
			for by := -n; by <= n; by++ {
				l := slices.Repeat([]api.Flat{{Kind: api.NNot, End: end}}, n)
				for i := range l {
					l[i].Parent = i + by
				}
				l[n-1].Kind = api.NOk
				want(t, l, by == -1 && end == n && n <= 40)
			}
		}
	}
}
