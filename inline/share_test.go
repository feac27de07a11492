package inline_test

import (
	"math"
	"slices"
	"testing"

	"puppeteer/api"
	"puppeteer/inline"
	"puppeteer/samples"
)

// wantLike checks that all functions answer for a node what they answer for the same
// one in lists of its own, unless that one has no end.
func wantLike(t *testing.T, n api.Node) {
	t.Helper()
	l := []api.Tree{named("t", seq(n, use("u"), n)), named("u", n)}
	own, ends := samples.ApartNode(n, 30)
	if !ends {
		for _, name := range []string{"t", "u"} {
			if root, err := inline.Tree(l, name); err == api.OK || !samples.SameNode(root, api.Node{}) {
				t.Fatalf("Tree of nodes without an end returns error %d", err)
			}
		}
		return
	}
	list := depths(own, 1)
	wantSize(t, n, len(list), slices.Max(list))
	wantSize(t, seq(n, ok(), n), 2*len(list)+2, 1+slices.Max(list))
	wantTree(t, l, "u", own)
	wantTree(t, l, "t", seq(own, own, own))
}

// wantNodes checks what wantLike does for each of some nodes, and for all of them.
func wantNodes(t *testing.T, list []api.Node) {
	t.Helper()
	for i := range list {
		wantLike(t, list[i])
		wantLike(t, seq(list[i:]...))
		wantLike(t, seq(seq(list...), nots(2, seq(list[:i]...))))
	}
}

// wantExprs checks what wantLike does for nodes with each of some expressions.
func wantExprs(t *testing.T, list []api.Expr) {
	t.Helper()
	for i, x := range list {
		in := api.Expr{Kind: api.EAnd, Kids: list[i:]}
		wantLike(t, api.Node{Kind: api.NIf, Expr: x})
		wantLike(t, api.Node{Kind: api.NSet, Expr: in})
		wantLike(t, api.Node{Kind: api.NPick, Expr: in, Weights: list[:i+1]})
		wantLike(t, nots(2, api.Node{Kind: api.NPick, Weights: []api.Expr{in, x, {Kind: api.ENot, Kids: []api.Expr{in}}}}))
	}
}

func TestP1401EveryListMayBeAPieceOfAnother(t *testing.T) {
	t.Parallel()
	for n := 1; n <= 4; n++ {
		// The first one of four has no kids, for there would be too many ways.
		samples.EveryNesting(n, n/4, func(pieces []samples.Piece) {
			wantNodes(t, samples.NestedNodes(pieces))
			if n < 4 {
				wantExprs(t, samples.NestedExprs(pieces))
			}
		})
	}
}

func TestP1401ManyListsMayBePiecesOfOne(t *testing.T) {
	d := samples.Dice(44)
	finite := 0
	for i := range 20_000 {
		pieces := make([]samples.Piece, 2+d.Roll(9))
		for i := range pieces {
			// Most of them are of elements behind or, in others, ahead.
			from := d.Roll(len(pieces))
			pieces[i] = samples.Piece{From: from, To: from + d.Few(len(pieces)-from)}
			if from <= i && d.Roll(20) > 0 {
				pieces[i] = samples.Piece{}
			}
		}
		if d.Roll(2) == 0 {
			slices.Reverse(pieces)
			for i, one := range pieces {
				pieces[i] = samples.Piece{From: len(pieces) - one.To, To: len(pieces) - one.From}
			}
		}
		list := samples.NestedNodes(pieces)
		if _, ends := samples.ApartNode(seq(list...), 30); ends {
			finite++
		}
		wantLike(t, seq(list...))
		wantLike(t, seq(list[len(list)/2:]...))
		if i%10 == 0 {
			wantExprs(t, samples.NestedExprs(pieces))
		}
	}
	if finite < 5000 {
		t.Fatalf("%d are finite", finite)
	}
}

// rests returns n nodes in one list, each with the rest of the list as its kids, or
// with what there is ahead of it.
func rests(n int) (behind, ahead []api.Node) {
	behind, ahead = make([]api.Node, n), make([]api.Node, n)
	for i := range n {
		behind[i], ahead[i] = seq(behind[i+1:]...), seq(ahead[:i]...)
	}
	return behind, ahead
}

func TestP1401AListMayBeTheRestOfTheListAround(t *testing.T) {
	for n := 1; n <= 200; n++ {
		behind, ahead := rests(n)
		// The node around has all of them, and each one has one fewer.
		count := 1 << n
		if n > 62 {
			count = math.MaxInt
		}
		for _, deep := range []int{0, 1, 2, 3, 20} {
			wantSize(t, nots(deep, seq(behind...)), add(count, deep), n+1+deep)
			wantSize(t, nots(deep, seq(ahead...)), add(count, deep), n+1+deep)
			wantSize(t, seq(seq(behind...), nots(deep, seq(ahead...))), add(1+deep, add(count, count)), n+2+deep)
		}
		if n <= 10 {
			wantLike(t, seq(behind...))
			wantLike(t, nots(5, seq(ahead...)))
		}
	}
}

// add adds two numbers, of which the sum is math.MaxInt if it is more than that.
func add(a, b int) int {
	if a > math.MaxInt-b {
		return math.MaxInt
	}
	return a + b
}

// exprRests returns n expressions as rests does nodes.
func exprRests(n int) (behind, ahead []api.Expr) {
	behind, ahead = make([]api.Expr, n), make([]api.Expr, n)
	for i := range n {
		behind[i], ahead[i] = api.Expr{Kind: api.EAnd, N: i, Kids: behind[i+1:]}, api.Expr{Kind: api.EOr, N: i, Kids: ahead[:i]}
	}
	return behind, ahead
}

func TestP1401AListOfExpressionsMayBeTheRestOfTheListAround(t *testing.T) {
	for n := 1; n <= 12; n++ {
		behind, ahead := exprRests(n)
		wantExprs(t, behind)
		wantExprs(t, ahead)
		wantLike(t, api.Node{Kind: api.NPick, Expr: behind[0], Weights: ahead, Kids: []api.Node{{Expr: behind[0]}, {Weights: ahead[n/2:], Expr: ahead[n/2]}}})
	}
	// Too many of them do not fit into an answer.
	for n := 27; n <= 100; n++ {
		behind, ahead := exprRests(n)
		for _, x := range []api.Expr{behind[0], ahead[n-1], {Kids: behind}, {Kids: []api.Expr{{Kids: ahead}}}} {
			for _, one := range withExpr(x)[:5] {
				same(t, []api.Tree{one}, one.Name, api.Node{}, api.ErrMany)
			}
		}
	}
}

func TestP1401AListMayEndWhereAnotherBegins(t *testing.T) {
	for n := 1; n <= 24; n++ {
		for half := range n + 1 {
			// The leaves of two nodes are one list, or overlap in it.
			leaves := slices.Repeat([]api.Node{ok(), fail()}, n)
			parts := make([]api.Expr, 2*n)
			for _, most := range []int{half, n, 2 * n} {
				root := seq(seq(leaves[:most]...), nots(1, seq(leaves[half:]...)), seq(leaves[half:most]...))
				root.Weights = []api.Expr{{Kids: parts[:most]}, {Kids: []api.Expr{{Kids: parts[half:]}, {Kids: parts[half:most]}}}}
				wantLike(t, root)
			}
			// The nodes themselves are in it, too.
			list := append(slices.Clone(leaves), api.Node{}, api.Node{})
			list[2*n], list[2*n+1] = seq(list[:half]...), seq(list[half:2*n+1]...)
			wantLike(t, seq(list...))
			wantLike(t, seq(list[n:]...))
		}
	}
}

func TestP1401AListMayBeInTwoPlaces(t *testing.T) {
	for first := range 20 {
		for second := range 20 {
			twice := []api.Node{ok(), nots(2, fail())}
			root := seq(nots(first, seq(twice...)), ok(), nots(second, seq(twice...)), seq(twice...))
			wantLike(t, seq(root.Kids[:3]...))
			parts := []api.Expr{{N: 1}, {Kind: api.ENot, Kids: []api.Expr{{N: 2}}}}
			x, y := api.Expr{Kids: parts}, api.Expr{Kids: parts}
			for range first {
				x = api.Expr{Kind: api.ENot, Kids: []api.Expr{x}}
			}
			for range second {
				y = api.Expr{Kind: api.ENot, Kids: []api.Expr{y}}
			}
			root.Expr, root.Weights = api.Expr{Kids: []api.Expr{x, y, x}}, []api.Expr{y, x, {Kids: parts}, {Kids: parts[1:]}}
			root.Kids[1] = api.Node{Kind: api.NPick, Weights: parts, Expr: y}
			wantLike(t, root)
		}
	}
}

func TestP1401NodesThatAreInEachOtherManyTimesHaveTheirNumber(t *testing.T) {
	// What is doubled by each node around it is no less finite.
	both, deep := ok(), 1
	for count := 1; count < math.MaxInt; deep++ {
		wantSize(t, both, count, deep)
		wantSize(t, seq(both, nots(3, both)), add(4, add(count, count)), deep+4)
		both = seq(both, both)
		count = add(1, add(count, count))
	}
	if deep != 63 {
		t.Fatalf("%d nodes were nested", deep)
	}
	for ; deep < 500; deep++ {
		wantSize(t, both, math.MaxInt, deep)
		both = seq(both, both, ok())
	}
	// Each of many nodes has the same kids.
	wantSize(t, wide(100_000, wide(100_000, ok())), 10_000_100_001, 3)
	wantSize(t, wide(1000, wide(1000, wide(1000, wide(1000, nots(1000, ok()))))), 1+1000+1000_000+1000_000_000+1000_000_000_000*1001, 1005)
}
