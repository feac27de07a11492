package valid_test

import (
	"slices"
	"testing"

	"puppeteer/api"
	"puppeteer/expr"
	"puppeteer/flat"
	"puppeteer/samples"
)

// wantLike checks that Right answers for a list with these expressions what it answers
// for one in which each expression has memory of its own, and tells what that is.
func wantLike(t *testing.T, l []api.Flat) bool {
	t.Helper()
	own := slices.Clone(l)
	for i := range own {
		n, ends := samples.ApartNode(api.Node{Expr: own[i].Expr, Weights: own[i].Weights}, 45)
		if !ends {
			// It is nested more than 40 deep.
			want(t, l, false)
			return false
		}
		own[i].Expr, own[i].Weights = n.Expr, n.Weights
	}
	right := wantModel(t, own)
	want(t, l, right)
	return right
}

// withExprs lists flat trees with each of some expressions, and with pieces of the list
// as weights.
func withExprs(list []api.Expr) [][]api.Flat {
	var all [][]api.Flat
	for i, x := range list {
		some, set := of(api.NIf), of(api.NSet)
		some.Expr, set.Expr = x, x
		pick := of(api.NPick, oks(len(list)-i)...)
		pick.Weights = list[i:]
		other := of(api.NPick, oks(i+1)...)
		other.Weights = list[:i+1]
		all = append(all, flat.Make(some), flat.Make(of(api.NSeq, set, pick, some, other)))
		// Make copies: the expressions share memory if they are put into its list.
		shared := flat.Make(of(api.NSeq, set, pick, some, other))
		for at := range shared {
			switch shared[at].Kind {
			case api.NIf, api.NSet:
				shared[at].Expr = x
			case api.NPick:
				shared[at].Weights = list[i:]
				if len(flat.Kids(shared, at)) == i+1 {
					shared[at].Weights = list[:i+1]
				}
			}
		}
		all = append(all, shared)
	}
	return all
}

func TestP1602EveryListOfExpressionsMayBeAPieceOfAnother(t *testing.T) {
	t.Parallel()
	got := map[bool]int{}
	for n := 1; n <= 3; n++ {
		samples.EveryNesting(n, 0, func(pieces []samples.Piece) {
			list := samples.NestedExprs(pieces)
			for i := range list {
				// As many are valid as may be.
				list[i].N = 0
				list[i].Kind = []int{api.ETime, api.ENot, api.EAdd, api.EAdd}[len(list[i].Kids)]
			}
			for _, l := range withExprs(list) {
				got[wantLike(t, l)]++
			}
		})
	}
	if got[true] < 300 || got[false] < 300 {
		t.Fatalf("right or not: %v", got)
	}
}

func TestP1602TheExampleOfSharedLists(t *testing.T) {
	m := []api.Expr{{Kind: api.ENot}, {N: 1}}
	m[0].Kids = m[1:]
	x := api.Expr{Kind: api.ENot, Kids: []api.Expr{{Kind: api.EAnd, Kids: m}}}
	l := flat.Make(of(api.NIf))
	l[0].Expr = x
	want(t, l, true)
	m[1].Kind = -1
	want(t, l, false)
	m[1] = api.Expr{Kind: api.ENot, Kids: m[1:]}
	want(t, l, false)
}

func TestP1602AListMayBeTheRestOfTheListAround(t *testing.T) {
	for n := 1; n <= 10; n++ {
		behind, ahead := make([]api.Expr, n), make([]api.Expr, n)
		for i := range n {
			// Each has up to two of those behind it, or of those ahead of it.
			behind[i].Kids, ahead[i].Kids = behind[i+1:min(n, i+3)], ahead[max(0, i-2):i]
			for _, x := range []*api.Expr{&behind[i], &ahead[i]} {
				x.Kind = []int{api.ESelf, api.EIm, api.EFar}[len(x.Kids)]
			}
		}
		for _, list := range [][]api.Expr{behind, ahead} {
			for _, l := range withExprs(list) {
				if !wantLike(t, l) {
					t.Fatalf("%s is not right", shown(l))
				}
			}
			list[n/2].N = 1
			for _, l := range withExprs(list) {
				wantLike(t, l)
			}
		}
	}
}

func TestP1602OneListOfWeightsInManyPlaces(t *testing.T) {
	all := of(api.NSeq)
	for range 16 {
		all.Kids = append(all.Kids, of(api.NPick, of(api.NPick, oks(15)...), of(api.NOk), of(api.NSet)))
	}
	l := flat.Make(all)
	weights := slices.Repeat([]api.Expr{{Kind: api.EName, Name: "a"}}, 15)
	for i := range l {
		if l[i].Kind == api.NPick {
			l[i].Weights = weights[:len(flat.Kids(l, i))]
		}
	}
	want(t, l, true)
	for at := range weights {
		was := weights[at]
		weights[at].Name = "seq"
		want(t, l, false)
		weights[at] = api.Expr{Kind: api.EAdd, Kids: weights[:2]}
		want(t, l, at > 1)
		weights[at] = was
	}
	want(t, l, true)
}

// doubled is an expression of the depth deep, each list of which is the same one twice.
func doubled(deep int) api.Expr {
	x := api.Expr{Kind: api.EName, Name: "a"}
	for range deep - 1 {
		x = api.Expr{Kind: api.EMul, Kids: []api.Expr{x, x}}
	}
	return x
}

func TestP1602DoubledExpressions(t *testing.T) {
	t.Parallel()
	for deep := 1; deep <= 20; deep++ {
		x := doubled(deep)
		n := of(api.NPick, oks(3)...)
		n.Weights = []api.Expr{x, {Kind: api.ENot, Kids: []api.Expr{x}}, x}
		l := flat.Make(of(api.NIf))
		l[0].Expr = x
		want(t, l, true)
		want(t, flat.Make(n), true)
		if !expr.Right(x) {
			t.Fatal("the expression is not valid")
		}
	}
}
