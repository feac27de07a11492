package valid_test

import (
	"math"
	"slices"
	"testing"

	"puppeteer/api"
	"puppeteer/flat"
	"puppeteer/inline"
	"puppeteer/samples"
)

func TestP1601AnEmptyList(t *testing.T) {
	want(t, nil, false)
	want(t, []api.Flat{}, false)
	want(t, make([]api.Flat, 0, 10), false)
	want(t, flat.Make(of(api.NOk))[:0], false)
}

func TestP1601OneElement(t *testing.T) {
	numbers := append(samples.OddNumbers(), math.MinInt32, math.MaxInt32, math.MaxUint32)
	for _, end := range numbers {
		for _, parent := range numbers {
			want(t, []api.Flat{{Kind: api.NOk, End: end, Parent: parent}}, end == 1 && parent == -1)
			want(t, []api.Flat{{Kind: api.NSeq, End: end, Parent: parent}}, false)
		}
	}
}

// kinded gives each element of a list a kind that suits the Parents that are told.
func kinded(l []api.Flat) {
	for i := range l {
		l[i].Kind = api.NOk
		if slices.ContainsFunc(l, func(f api.Flat) bool { return f.Parent == i }) {
			l[i].Kind = api.NMSel
		}
	}
}

func TestP1601AllEndsAndParents(t *testing.T) {
	t.Parallel()
	for n, trees := range []int{0, 1, 1, 2, 5} {
		l := make([]api.Flat, n)
		count := 0
		var next func(at int)
		next = func(at int) {
			if at == n {
				kinded(l)
				if wantModel(t, l) {
					count++
				}
				return
			}
			for l[at].End = n/4 - 1; l[at].End <= n+1; l[at].End++ {
				for l[at].Parent = n/4 - 2; l[at].Parent <= n; l[at].Parent++ {
					next(at + 1)
				}
			}
		}
		next(0)
		if count != trees {
			t.Fatalf("%d lists of %d elements are right", count, n)
		}
	}
}

// shapes lists all nodes with n nodes in them, which are right. Their kinds are taken
// in turn from all that there are.
func shapes(n int) []api.Node {
	turn := 0
	var grow func(n int) []api.Node
	var growAll func(n int) [][]api.Node
	grow = func(n int) []api.Node {
		var all []api.Node
		for _, kids := range growAll(n - 1) {
			list := slices.DeleteFunc(kinds(), func(kind int) bool {
				least, most := kidsOf(kind)
				return len(kids) < least || len(kids) > most
			})
			turn++
			all = append(all, of(list[turn%len(list)], kids...))
		}
		return all
	}
	growAll = func(n int) [][]api.Node {
		if n == 0 {
			return [][]api.Node{nil}
		}
		var all [][]api.Node
		for first := 1; first <= n; first++ {
			for _, one := range grow(first) {
				for _, rest := range growAll(n - first) {
					all = append(all, append([]api.Node{one}, rest...))
				}
			}
		}
		return all
	}
	return grow(n)
}

func TestP1601OneWrongEndOrParent(t *testing.T) {
	for n := 1; n <= 7; n++ {
		numbers := []int{math.MinInt, math.MinInt + 1, -n, math.MaxInt - 1, math.MaxInt, 1 << 32, 1<<32 + 1, -1 << 32}
		for i := -2; i <= n+2; i++ {
			numbers = append(numbers, i)
		}
		for _, one := range shapes(n) {
			l := flat.Make(one)
			for at := range l {
				was := l[at]
				for _, number := range numbers {
					l[at].End = number
					want(t, l, number == was.End)
					l[at] = was
					l[at].Parent = number
					want(t, l, number == was.Parent)
					l[at] = was
				}
			}
		}
	}
}

func TestP1601ListsThatAreCutOffOrLaidTogether(t *testing.T) {
	for n := 1; n <= 7; n++ {
		for _, one := range shapes(n) {
			l := flat.Make(one)
			wantBoth(t, l)
			for at := range l {
				want(t, l[:at], false)
				want(t, l[at:], at == 0)
				want(t, slices.Concat(l, l[at:]), false)
				want(t, slices.Concat(l[:at], l), at == 0)
				wantModel(t, slices.Concat(l[:at], l[at+1:]))
				for other := range at {
					l[at], l[other] = l[other], l[at]
					wantModel(t, l)
					l[at], l[other] = l[other], l[at]
				}
			}
		}
	}
}

func TestP1601EachKindInEachPlace(t *testing.T) {
	t.Parallel()
	got := map[bool]int{}
	for n := 1; n <= 4; n++ {
		for _, one := range shapes(n) {
			l := flat.Make(one)
			var next func(at int)
			next = func(at int) {
				if at == n {
					got[wantModel(t, l)]++
					return
				}
				was := l[at]
				kids := len(flat.Kids(l, at))
				for kind := -1; kind <= 16; kind++ {
					f := flat.Make(of(kind, oks(kids)...))[0]
					f.End, f.Parent = was.End, was.Parent
					l[at] = f
					next(at + 1)
				}
				l[at] = was
			}
			next(0)
		}
	}
	// 7 kinds have no kids, 8 may have one, and 6 of these may have more.
	one, two, three := 7, 8*7, 8*8*7+6*7*7
	four := 8*three + 2*6*two*one + 6*one*one*one
	if want := one + two + three + four; got[true] != want {
		t.Fatalf("%v are right; want %d", got, want)
	}
}

// sized is a node that has n nodes in all, of up to 16 kids each.
func sized(n int) api.Node {
	if n == 1 {
		return of(api.NWait)
	}
	one := api.Node{Kind: api.NSeq}
	n--
	for left := min(n, 16); left > 0; left-- {
		one.Kids = append(one.Kids, sized(n/left))
		n -= n / left
	}
	return one
}

func TestP1601HowManyNodes(t *testing.T) {
	for _, n := range []int{1, 2, 3, 16, 17, 18, 100, 3998, 3999, 4000, 4001, 4002, 4096, 5000, 8000, 70_000} {
		one := sized(n)
		if inline.Count(one) != n || inline.Depth(one) > 6 {
			t.Fatalf("%d nodes, %d deep", inline.Count(one), inline.Depth(one))
		}
		want(t, flat.Make(one), n <= 4000)
		for _, around := range []int{0, 1, 10, 30} {
			want(t, flat.Make(chain(api.NNot, around, sized(n))), n+around <= 4000)
		}
	}
	for n := 3980; n <= 4020; n++ {
		want(t, flat.Make(sized(n)), n <= 4000)
	}
}

func TestP1601EachPlaceOfAListOfMaxNodes(t *testing.T) {
	t.Parallel()
	l := flat.Make(sized(4000))
	want(t, l, true)
	for at := 0; at < len(l); at += 1 + at%5 {
		at = min(at, len(l)-1)
		was := l[at]
		for i, change := range []func(f *api.Flat){
			func(f *api.Flat) { f.Kind = api.NUse },
			func(f *api.Flat) { f.A = 1 },
			func(f *api.Flat) { f.B = -1 },
			func(f *api.Flat) { f.Name = "a" },
			func(f *api.Flat) { f.Expr.N = 1 },
			func(f *api.Flat) { f.Weights = []api.Expr{{}} },
			func(f *api.Flat) { f.End++ },
			func(f *api.Flat) { f.Parent-- },
		} {
			if i%4 == at%4 {
				change(&l[at])
				want(t, l, false)
				l[at] = was
			}
		}
	}
	want(t, l, true)
}

// chain is a node in n others of a kind, one in the other.
func chain(kind, n int, inner api.Node) api.Node {
	for range n {
		inner = of(kind, inner)
	}
	return inner
}

func TestP1601HowDeep(t *testing.T) {
	for kind := range api.NWait + 1 {
		if least, _ := kidsOf(kind); least == 0 {
			continue
		}
		for _, leaf := range []api.Node{of(api.NOk), of(api.NIf), of(api.NSet), of(api.NPlan)} {
			for _, deep := range []int{1, 2, 38, 39, 40, 41, 42, 43, 100, 3999, 4000, 4001} {
				want(t, flat.Make(chain(kind, deep-1, leaf)), deep <= 40)
			}
		}
	}
	// Nothing else is so long that it would take many steps.
	want(t, flat.Make(chain(api.NSeq, 300_000, of(api.NOk))), false)
}

func TestP1601ADeepNodeInEachPlace(t *testing.T) {
	for _, around := range []int{0, 1, 5, 20, 36} {
		for at := range 16 {
			for deep := 38 - around; deep <= 42-around; deep++ {
				n := of(api.NPick, oks(16)...)
				n.Kids[at] = chain(api.NRepeat, deep-2+at%2, of(api.NPar, oks(1+at%2)...))
				// Its leaves are as deep as what is around, itself, and what is in it.
				want(t, flat.Make(chain(api.NNot, around, n)), around+1+deep+at%2 <= 40)
			}
		}
	}
}

func TestP1601ManyNodesOfTheGreatestDepth(t *testing.T) {
	// Each of some chains is as deep as may be, and all together are as many as may be.
	for rows := 1; rows <= 8; rows++ {
		for last := 38; last <= 41; last++ {
			n := of(api.NMSeq)
			for row := range rows {
				one := of(api.NSeq)
				for i := range 13 {
					deep := 38
					if row == rows-1 && i == 12 {
						deep = last
					}
					one.Kids = append(one.Kids, chain(api.NNot, deep-1, of(api.NFail)))
				}
				n.Kids = append(n.Kids, one)
			}
			count := 1 + rows*(1+13*38) + last - 38
			if inline.Count(n) != count {
				t.Fatalf("%d nodes; want %d", inline.Count(n), count)
			}
			want(t, flat.Make(n), last <= 38 && count <= 4000)
		}
	}
}
