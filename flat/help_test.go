package flat_test

import (
	"fmt"
	"reflect"
	"slices"
	"testing"

	"puppeteer/api"
	"puppeteer/flat"
	"puppeteer/samples"
	"puppeteer/tree"
)

func node(kind int, kids ...api.Node) api.Node { return api.Node{Kind: kind, Kids: kids} }

func ok() api.Node { return node(api.NOk) }

func seq(kids ...api.Node) api.Node { return node(api.NSeq, kids...) }

// nots puts n nodes around a node.
func nots(n int, inner api.Node) api.Node {
	for range n {
		inner = node(api.NNot, inner)
	}
	return inner
}

// wide is a node with n kids.
func wide(n int, kid api.Node) api.Node { return seq(slices.Repeat([]api.Node{kid}, n)...) }

// root is the node of a text.
func root(t *testing.T, text string) api.Node {
	t.Helper()
	p, at, err := tree.Parse([]byte("tree t { " + text + " }"))
	if err != api.OK {
		t.Fatalf("Parse of %.300q: error %d at %d", text, err, at)
	}
	return p.Trees[0].Root
}

// shown is the beginning of a value in print.
func shown(v any) string { return fmt.Sprintf("%.400s", fmt.Sprint(v)) }

// wantMake checks what Make answers.
func wantMake(t *testing.T, n api.Node, want []api.Flat) {
	t.Helper()
	if got := flat.Make(n); !samples.SameFlats(got, want) {
		t.Fatalf("Make of %s: %s; want %s", shown(n), shown(got), shown(want))
	}
}

// wantBack checks what Back answers for a list that is a node's.
func wantBack(t *testing.T, l []api.Flat, want api.Node) {
	t.Helper()
	if got, back := flat.Back(l); !back || !samples.SameNode(got, want) {
		t.Fatalf("Back of %s: %s, %t; want %s", shown(l), shown(got), back, shown(want))
	}
	if !flat.IsTree(l) {
		t.Fatalf("IsTree of %s: false", shown(l))
	}
}

// wantNone checks that Back answers that a list is no node's.
func wantNone(t *testing.T, l []api.Flat) {
	t.Helper()
	if got, back := flat.Back(l); back || !reflect.DeepEqual(got, api.Node{}) {
		t.Fatalf("Back of %s: %s, %t; want none", shown(l), shown(got), back)
	}
	if flat.IsTree(l) {
		t.Fatalf("IsTree of %s: true", shown(l))
	}
}

// both checks Make of a node, by the model, and Back of its list.
func both(t *testing.T, n api.Node) {
	t.Helper()
	l := modelMake(n)
	wantMake(t, n, l)
	wantBack(t, l, n)
	wantBack(t, flat.Make(n), n)
}

// wantKids checks what Kids answers.
func wantKids(t *testing.T, l []api.Flat, at int, want []int) {
	t.Helper()
	if got := flat.Kids(l, at); !slices.Equal(got, want) {
		t.Fatalf("Kids of %s at %d: %s; want %s", shown(l), at, shown(got), shown(want))
	}
}
