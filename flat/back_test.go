package flat_test

import (
	"math"
	"slices"
	"testing"

	"puppeteer/api"
	"puppeteer/samples"
)

// wantModel checks Back by the model, and tells whether the list is a node's.
func wantModel(t *testing.T, l []api.Flat) bool {
	t.Helper()
	n, right := modelBack(l)
	if right {
		wantBack(t, l, n)
	} else {
		wantNone(t, l)
	}
	return right
}

func TestP1501BackOfShortLists(t *testing.T) {
	wantNone(t, nil)
	wantNone(t, []api.Flat{})
	odd := append(samples.OddNumbers(), math.MinInt32, math.MaxInt32, math.MaxUint32)
	for _, end := range odd {
		for _, parent := range odd {
			one := api.Flat{Kind: end, A: parent, End: end, Parent: parent}
			if right := wantModel(t, []api.Flat{one}); right != (end == 1 && parent == -1) {
				t.Fatalf("by the model, one element %v is right: %t", one, right)
			}
			for _, first := range []api.Flat{{End: 2, Parent: -1}, {End: end, Parent: -1}, {End: 2, Parent: parent}, one} {
				for _, second := range []api.Flat{{End: 2, Parent: 0}, {End: end, Parent: 0}, {End: 2, Parent: parent}, one} {
					l := []api.Flat{first, second}
					if right := wantModel(t, l); right != (first.End == 2 && first.Parent == -1 && second.End == 2 && second.Parent == 0) {
						t.Fatalf("by the model, %v is right: %t", l, right)
					}
				}
			}
		}
	}
}

func TestP1501BackOfAllEndsAndParents(t *testing.T) {
	t.Parallel()
	for n := 1; n <= 4; n++ {
		l := make([]api.Flat, n)
		count := 0
		var next func(at int)
		next = func(at int) {
			if at == n {
				if wantModel(t, l) {
					count++
				}
				return
			}
			for end := n/4 - 1; end <= n+1; end++ {
				for parent := n/4 - 2; parent <= n; parent++ {
					l[at] = api.Flat{Kind: at, End: end, Parent: parent}
					next(at + 1)
				}
			}
		}
		next(0)
		if count != catalan(n) {
			t.Fatalf("%d lists of %d elements are nodes'", count, n)
		}
	}
}

func TestP1501BackOfAListWithOneWrongNumber(t *testing.T) {
	for n := 1; n <= 7; n++ {
		numbers := []int{math.MinInt, math.MinInt + 1, -n, math.MaxInt - 1, math.MaxInt, 1 << 32, 1<<32 + 1, -1 << 32}
		for i := -2; i <= n+2; i++ {
			numbers = append(numbers, i)
		}
		for _, one := range shapes(n) {
			l := modelMake(one)
			for at := range l {
				was := l[at]
				for _, number := range numbers {
					if l[at].End = number; number != was.End {
						wantNone(t, l)
					}
					l[at] = was
					if l[at].Parent = number; number != was.Parent {
						wantNone(t, l)
					}
					l[at] = was
				}
			}
			wantBack(t, l, one)
		}
	}
}

func TestP1501BackOfListsThatAreCutOffOrLaidTogether(t *testing.T) {
	for n := 1; n <= 7; n++ {
		for _, one := range shapes(n) {
			l := modelMake(one)
			for at := range l {
				wantNone(t, l[:at])
				wantNone(t, slices.Concat(l[:at], l[at+1:], l[at:at+1], l[:1]))
				if at > 0 {
					wantNone(t, l[at:])
				}
				if n > 1 {
					wantModel(t, slices.Concat(l[:at], l[at+1:]))
				}
				for other := range at {
					l[at], l[other] = l[other], l[at]
					wantModel(t, l)
					l[at], l[other] = l[other], l[at]
				}
			}
			// Several roots, whatever they say of their Ends.
			for _, more := range [][]api.Flat{{{End: 1, Parent: -1}}, {{End: n + 1, Parent: -1}}, {{End: 1, Parent: 0}}, {{End: n + 1, Parent: 0}}, {{End: n + 1, Parent: n}}, {{End: n + 1, Parent: n - 1}}, l} {
				wantNone(t, slices.Concat(l, more))
				wantNone(t, slices.Concat(more, l))
			}
			// One more that is in the root is right, if the root knows.
			more := append(slices.Clone(l), api.Flat{Kind: 9, End: n + 1, Parent: 0})
			more[0].End++
			one.Kids = append(slices.Clone(one.Kids), node(9))
			wantBack(t, more, one)
		}
	}
}

func TestP1501BackOfRandomLists(t *testing.T) {
	d := samples.Dice(1501)
	right := 0
	for range 50_000 {
		l := modelMake(d.Node(1+d.Roll(12), d.Roll(60)))
		for range d.Roll(4) {
			at := &l[d.Roll(len(l))]
			switch d.Roll(6) {
			case 0:
				at.Kind, at.A, at.Name = d.Signed(), d.Signed(), d.Name()
			case 1:
				*at = samples.Pick(&d, l...)
			default:
				d.Misplace(l)
			}
		}
		if wantModel(t, l) {
			right++
		}
	}
	if right < 10_000 || right > 40_000 {
		t.Fatalf("%d lists are right", right)
	}
}

func TestP1501BackOfElementsWithAnyFields(t *testing.T) {
	x := api.Expr{Kind: api.ENot, Kids: []api.Expr{{Kind: -5, Name: "x", Kids: make([]api.Expr, 30)}}}
	for _, kind := range samples.OddNumbers() {
		f := api.Flat{Kind: kind, A: kind - 1, B: -kind, End: 1, Parent: -1, Name: "\xff", Expr: x, Weights: []api.Expr{x, {}}}
		n := api.Node{Kind: kind, A: kind - 1, B: -kind, Name: "\xff", Expr: x, Weights: []api.Expr{x, {}}}
		wantBack(t, []api.Flat{f}, n)
		g, h := f, f
		f.End, g.End, h.End = 3, 2, 3
		g.Parent, h.Parent = 0, 0
		g.Weights, h.Expr = nil, api.Expr{}
		m, o := n, n
		m.Weights, o.Expr = nil, api.Expr{}
		n.Kids = []api.Node{m, o}
		wantBack(t, []api.Flat{f, g, h}, n)
	}
}
