package valid_test

import (
	"fmt"
	"slices"
	"testing"

	"puppeteer/api"
	"puppeteer/flat"
	"puppeteer/samples"
	"puppeteer/valid"
)

// of is a node of a kind in which all is right if it has the right number of kids, and
// if they are right.
func of(kind int, kids ...api.Node) api.Node {
	n := api.Node{Kind: kind, Kids: kids}
	switch kind {
	case api.NPar:
		n.A, n.B = 1, max(1, len(kids))
	case api.NRepeat:
		n.A = 1000
	case api.NIf:
		n.Expr = api.Expr{Kind: api.EBool, N: 1}
	case api.NSet:
		n.Name, n.Expr = "a", api.Expr{Kind: api.ESelf}
	case api.NDo, api.NPlan:
		n.Name = "a"
	case api.NPick:
		n.Weights = slices.Repeat([]api.Expr{{Kind: api.ETime}}, len(kids))
	}
	return n
}

// oks is so many nodes that are right.
func oks(n int) []api.Node { return slices.Repeat([]api.Node{of(api.NOk)}, n) }

// kidsOf tells how many kids nodes of a kind may have.
func kidsOf(kind int) (least, most int) {
	switch kind {
	case api.NSeq, api.NSel, api.NMSeq, api.NMSel, api.NPar, api.NPick:
		return 1, 16
	case api.NNot, api.NRepeat:
		return 1, 1
	}
	return 0, 0
}

// kinds lists the kinds of nodes that may be right.
func kinds() []int {
	var all []int
	for kind := range api.NWait + 1 {
		if kind != api.NUse {
			all = append(all, kind)
		}
	}
	return all
}

// shown is the beginning of a value in print.
func shown(v any) string { return fmt.Sprintf("%.600s", fmt.Sprint(v)) }

// want checks what Right answers for a list.
func want(t *testing.T, l []api.Flat, right bool) {
	t.Helper()
	if got := valid.Right(l); got != right {
		t.Fatalf("Right of %d elements, %s: %t", len(l), shown(l), got)
	}
}

// wantNode checks what Right answers for the list of a node, alone and in others of
// each kind, ahead of and behind which there are others.
func wantNode(t *testing.T, n api.Node, right bool) {
	t.Helper()
	want(t, flat.Make(n), right)
	inner := of(api.NSel, of(api.NNot, of(api.NWait)), n, of(api.NSeq, oks(2)...))
	want(t, flat.Make(of(api.NMSeq, oks(1)[0], inner)), right)
}

// wantModel checks what Right answers for a list by the model, and tells it.
func wantModel(t *testing.T, l []api.Flat) bool {
	t.Helper()
	right := modelRight(l)
	want(t, l, right)
	return right
}

// wantBoth checks what wantModel does, and by the other model too, which is slow.
func wantBoth(t *testing.T, l []api.Flat) bool {
	t.Helper()
	right := wantModel(t, l)
	if read := readRight(l); read != right {
		t.Fatalf("of %s the models tell %t and %t", shown(l), right, read)
	}
	return right
}

// rightNode is a node that is right, is nested up to deep deep, and has some n nodes in
// it.
func rightNode(d *samples.Dice, deep, n int) api.Node {
	list := kinds()
	if deep == 1 || n <= 1 {
		list = list[7:]
		list = slices.DeleteFunc(list, func(kind int) bool { return kind == api.NPick })
	}
	one := of(samples.Pick(d, list...))
	_, most := kidsOf(one.Kind)
	for i := range most {
		if i > 0 && d.Roll(3) == 0 {
			break
		}
		one.Kids = append(one.Kids, rightNode(d, deep-1, n/(1+d.Roll(4))))
		n -= n / 4
	}
	filled(d, &one)
	return one
}

// filled puts what may be in a node, and nothing else, into one that has its kids.
func filled(d *samples.Dice, n *api.Node) {
	most := max(1, len(n.Kids))
	*n = api.Node{Kind: n.Kind, Kids: n.Kids}
	switch n.Kind {
	case api.NPar:
		n.A, n.B = 1+d.Roll(most), 1+d.Roll(most)
	case api.NRepeat:
		n.A = samples.Pick(d, 1, 2, 999, 1000, 1+d.Roll(1000))
	case api.NIf:
		n.Expr = d.Expr()
	case api.NSet:
		n.Name, n.Expr = d.Name(), d.Expr()
	case api.NDo, api.NPlan:
		n.Name = d.Name()
	case api.NPick:
		for range n.Kids {
			n.Weights = append(n.Weights, d.Expr())
		}
	}
}
