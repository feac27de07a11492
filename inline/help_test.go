package inline_test

import (
	"fmt"
	"reflect"
	"slices"
	"testing"

	"puppeteer/api"
	"puppeteer/inline"
	"puppeteer/samples"
	"puppeteer/tree"
)

func node(kind int, kids ...api.Node) api.Node { return api.Node{Kind: kind, Kids: kids} }

func ok() api.Node { return node(api.NOk) }

func fail() api.Node { return node(api.NFail) }

func use(name string) api.Node { return api.Node{Kind: api.NUse, Name: name} }

func seq(kids ...api.Node) api.Node { return node(api.NSeq, kids...) }

// nots puts n nodes around a node.
func nots(n int, inner api.Node) api.Node {
	for range n {
		inner = node(api.NNot, inner)
	}
	return inner
}

// wide is a node with n kids.
func wide(n int, kid api.Node) api.Node { return seq(slices.Repeat([]api.Node{kid}, n)...) }

func named(name string, root api.Node) api.Tree { return api.Tree{Name: name, Root: root} }

// trees lists the trees of a text.
func trees(t *testing.T, text string) []api.Tree {
	t.Helper()
	p, at, err := tree.Parse([]byte(text))
	if err != api.OK {
		t.Fatalf("Parse of %.300q: error %d at %d", text, err, at)
	}
	return p.Trees
}

// shown is the beginning of a value in print.
func shown(v any) string { return fmt.Sprintf("%.400s", fmt.Sprint(v)) }

// same checks what Tree answers. Beside an error, there is nothing.
func same(t *testing.T, l []api.Tree, name string, root api.Node, err api.Errno) {
	t.Helper()
	got, gotErr := inline.Tree(l, name)
	if gotErr != err || !samples.SameNode(got, root) {
		t.Fatalf("Tree of %.100q in %s: %s, error %d; want %s, error %d", name, shown(l), shown(got), gotErr, shown(root), err)
	}
	if err != api.OK && !reflect.DeepEqual(got, api.Node{}) {
		t.Fatalf("Tree of %.100q in %s: %s with error %d", name, shown(l), shown(got), err)
	}
}

// want checks which error Tree answers, and all that it answers by the model.
func want(t *testing.T, l []api.Tree, name string, err api.Errno) {
	t.Helper()
	root, modelErr := modelTree(l, name)
	if modelErr != err {
		t.Fatalf("by the model, Tree of %.100q in %s: error %d; want error %d", name, shown(l), modelErr, err)
	}
	same(t, l, name, root, err)
}

// wantTree checks that Tree answers a node, by the model too.
func wantTree(t *testing.T, l []api.Tree, name string, root api.Node) {
	t.Helper()
	same(t, l, name, root, api.OK)
	want(t, l, name, api.OK)
}
