package flat_test

import (
	"math"
	"slices"
	"testing"

	"puppeteer/api"
	"puppeteer/samples"
)

// odds lists numbers that are places, and such that are not.
func odds() []int {
	return append(samples.OddNumbers(), math.MinInt32, math.MaxInt32, math.MaxUint32)
}

func TestP1501KidsOfWhatMakeReturns(t *testing.T) {
	for n := 1; n <= 8; n++ {
		for _, one := range shapes(n) {
			l := modelMake(one)
			for at := range l {
				// They follow one another, from End to End.
				var want []int
				for i := at + 1; i < l[at].End; i = l[i].End {
					want = append(want, i)
				}
				wantKids(t, l, at, want)
			}
			wantKids(t, l, -1, []int{0})
			for _, at := range odds() {
				if at < -1 || at >= n {
					wantKids(t, l, at, nil)
				}
			}
		}
	}
}

func TestP1501KidsOfAnyList(t *testing.T) {
	d := samples.Dice(1503)
	numbers := odds()
	for range 5000 {
		l := make([]api.Flat, d.Few(40))
		places := map[int][]int{}
		few := numbers[:1+d.Roll(len(numbers))]
		for i := range l {
			l[i] = api.Flat{Kind: d.Roll(20), End: samples.Pick(&d, numbers...), Parent: samples.Pick(&d, few...)}
			places[l[i].Parent] = append(places[l[i].Parent], i)
		}
		for _, at := range numbers {
			wantKids(t, l, at, places[at])
		}
	}
	for _, at := range numbers {
		wantKids(t, nil, at, nil)
		wantKids(t, []api.Flat{}, at, nil)
		wantKids(t, []api.Flat{{Parent: at}}, at, []int{0})
		wantKids(t, []api.Flat{{Parent: at}, {Parent: at ^ 1}, {Parent: at, End: at}, {Parent: -at - 3}}, at, []int{0, 2})
	}
}

func TestP1501KidsOfALongList(t *testing.T) {
	const n = 100_000
	l := make([]api.Flat, n)
	for i := range l {
		l[i].Parent = i % 3
	}
	all := slices.Collect(func(yield func(int) bool) {
		for i := 1; i < n && yield(i); i += 3 {
		}
	})
	wantKids(t, l, 1, all)
	for i := range l {
		l[i].Parent, all = math.MinInt, append(all[:i], i)
	}
	wantKids(t, l, math.MinInt, all)
	wantKids(t, l, 0, nil)
}
