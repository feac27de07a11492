package flat_test

import (
	"testing"

	"puppeteer/api"
	"puppeteer/flat"
	"puppeteer/samples"
)

// wantLike checks that Make, and Back of lists with the same expressions, answer for a
// node what they answer for the same one in lists of its own.
func wantLike(t *testing.T, n api.Node) {
	t.Helper()
	own, ends := samples.ApartNode(n, 30)
	if !ends {
		wantMake(t, n, nil)
		return
	}
	want := modelMake(own)
	wantMake(t, n, want)
	shared := modelMake(n)
	wantBack(t, shared, own)
	if m := (samples.Memory{}); !m.Flats(flat.Make(n)) {
		t.Fatalf("Make of %s shares memory", shown(n))
	}
	back, _ := flat.Back(shared)
	if m := (samples.Memory{}); !m.Node(back) {
		t.Fatalf("Back of %s shares memory", shown(shared))
	}
}

// wantExprs checks what wantLike does for nodes with each of some expressions.
func wantExprs(t *testing.T, list []api.Expr) {
	t.Helper()
	for i, x := range list {
		in := api.Expr{Kind: api.EAnd, Kids: list[i:]}
		wantLike(t, api.Node{Kind: api.NIf, Expr: x})
		wantLike(t, api.Node{Kind: api.NPick, Expr: in, Weights: list[:i+1]})
		wantLike(t, seq(api.Node{Weights: list[i:]}, nots(2, api.Node{Weights: []api.Expr{in, x, {Kids: []api.Expr{in}}}, Expr: x}), api.Node{Weights: list}))
	}
}

func TestP1502EveryListMayBeAPieceOfAnother(t *testing.T) {
	t.Parallel()
	for n := 1; n <= 4; n++ {
		// The first one of four has no kids, for there would be too many ways.
		samples.EveryNesting(n, n/4, func(pieces []samples.Piece) {
			list := samples.NestedNodes(pieces)
			wantLike(t, seq(list...))
			wantLike(t, list[n-1])
			wantLike(t, seq(seq(list[n/2:]...), nots(2, seq(list[:n/2]...))))
			if n < 4 {
				wantExprs(t, samples.NestedExprs(pieces))
			}
		})
	}
}

func TestP1502TheExampleOfSharedLists(t *testing.T) {
	m := make([]api.Node, 2)
	m[1] = ok()
	m[0] = seq(m[1:]...)
	wantLike(t, seq(seq(m...)))
	if l := flat.Make(seq(seq(m...))); len(l) != 5 {
		t.Fatalf("Make: %d elements", len(l))
	}
	x := make([]api.Expr, 2)
	x[1] = api.Expr{N: 1}
	x[0] = api.Expr{Kind: api.ENot, Kids: x[1:]}
	wantLike(t, api.Node{Kind: api.NIf, Expr: api.Expr{Kind: api.ENot, Kids: []api.Expr{{Kind: api.EAnd, Kids: x}}}})
}

func TestP1502AListMayBeTheRestOfTheListAround(t *testing.T) {
	for n := 1; n <= 10; n++ {
		behind, ahead := make([]api.Node, n), make([]api.Node, n)
		x, y := make([]api.Expr, n), make([]api.Expr, n)
		for i := range n {
			x[i], y[i] = api.Expr{N: i, Kids: x[i+1:]}, api.Expr{N: i, Kids: y[:i]}
			behind[i], ahead[i] = seq(behind[i+1:]...), seq(ahead[:i]...)
			behind[i].Weights, ahead[i].Weights = x[n-1:], y[:1]
		}
		wantLike(t, seq(behind...))
		wantLike(t, nots(5, seq(ahead...)))
		wantExprs(t, x)
		wantExprs(t, y)
	}
}

func TestP1502AListMayBeInManyPlaces(t *testing.T) {
	parts := []api.Expr{{N: 1}, {Kind: api.ENot, Kids: []api.Expr{{N: 2}}}, {N: 3}}
	leaves := []api.Node{ok(), {Kind: api.NIf, Expr: parts[1]}, {Kind: api.NPick, Weights: parts[1:]}}
	for first := range 4 {
		for second := range 4 {
			n := seq(seq(leaves[:first]...), nots(second, seq(leaves[min(first, second):]...)), seq(leaves...), seq(leaves[:second]...))
			n.Weights = []api.Expr{{Kids: parts[:first]}, {Kids: parts[min(first, second):]}, {Kids: parts}}
			n.Kids[2].Weights, n.Kids[3].Weights = parts, parts[:second]
			n.Kids[2].Expr.Kids = n.Weights
			wantLike(t, n)
		}
	}
}
