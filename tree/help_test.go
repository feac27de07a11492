package tree_test

import (
	"fmt"
	"math"
	"slices"
	"strings"
	"testing"

	"puppeteer/api"
	"puppeteer/lex"
	"puppeteer/samples"
	"puppeteer/tree"
)

func node(kind int, kids ...api.Node) api.Node { return api.Node{Kind: kind, Kids: kids} }

func named(kind int, name string) api.Node { return api.Node{Kind: kind, Name: name} }

func par(a, b int, kids ...api.Node) api.Node {
	return api.Node{Kind: api.NPar, A: a, B: b, Kids: kids}
}

func repeat(a int, kid api.Node) api.Node {
	return api.Node{Kind: api.NRepeat, A: a, Kids: []api.Node{kid}}
}

func test(x api.Expr) api.Node { return api.Node{Kind: api.NIf, Expr: x} }

func set(name string, x api.Expr) api.Node { return api.Node{Kind: api.NSet, Name: name, Expr: x} }

// choose is a pick of one weight and node after the other.
func choose(list ...any) api.Node {
	n := api.Node{Kind: api.NPick}
	for _, one := range list {
		switch one := one.(type) {
		case api.Expr:
			n.Weights = append(n.Weights, one)
		case api.Node:
			n.Kids = append(n.Kids, one)
		}
	}
	return n
}

func number(n int) api.Expr { return api.Expr{Kind: api.EInt, N: n} }

func key(name string) api.Expr { return api.Expr{Kind: api.EName, Name: name} }

func of(kind int, kids ...api.Expr) api.Expr { return api.Expr{Kind: kind, Kids: kids} }

// stripped is a node without the fields that a node of its kind does not have.
func stripped(n api.Node) api.Node {
	s := api.Node{Kind: n.Kind}
	for _, kid := range n.Kids {
		s.Kids = append(s.Kids, stripped(kid))
	}
	switch n.Kind {
	case api.NPar:
		s.A, s.B = n.A, n.B
	case api.NRepeat:
		s.A = n.A
	case api.NIf:
		s.Expr = n.Expr
	case api.NSet:
		s.Name, s.Expr = n.Name, n.Expr
	case api.NDo, api.NUse, api.NPlan:
		s.Name = n.Name
	case api.NPick:
		s.Weights = n.Weights[:min(len(n.Weights), len(n.Kids))]
	}
	return s
}

// program is the program's text.
func program(p api.Program) string { return strings.Join(samples.Written(p, samples.InOrder), " ") }

// lexed returns the tokens of a text, with the TEnd.
func lexed(t *testing.T, text string) []api.Token {
	t.Helper()
	l, at, err := lex.Tokens([]byte(text))
	if err != api.OK {
		t.Fatalf("Tokens of %.200q: error %d at %d", text, err, at)
	}
	return l
}

// some returns the tokens of a text, without the TEnd.
func some(t *testing.T, text string) []api.Token {
	t.Helper()
	l := lexed(t, text)
	return l[:len(l)-1]
}

// want checks what Node answers.
func want(t *testing.T, l []api.Token, at int, n api.Node, to int, err api.Errno) {
	t.Helper()
	got, gotTo, gotErr := tree.Node(l, at)
	if gotTo != to || gotErr != err || !samples.SameNode(got, n) {
		t.Fatalf("Node of %s from %d: %.500s, %d, error %d; want %.500s, %d, error %d", samples.Show(l), at, fmt.Sprint(got), gotTo, gotErr, fmt.Sprint(n), to, err)
	}
}

// everywhere checks what Node answers for tokens from the first one on, also if
// others stand ahead of them, and if they are written another way.
func everywhere(t *testing.T, l []api.Token, n api.Node, to int, err api.Errno) {
	t.Helper()
	want(t, l, 0, n, to, err)
	want(t, samples.Other(l), 0, n, to, err)
	for _, ahead := range []string{"ok;", "seq {", "not not", "if", "}", strings.Repeat("not ", api.MaxDeep), "seq {" + strings.Repeat("ok;", api.MaxKids), "key own a int; tree t {"} {
		first := some(t, ahead)
		want(t, slices.Concat(first, l), len(first), n, len(first)+to, err)
	}
}

// wantWhole checks that a text is a node, with its end, without it, and with other
// tokens behind it.
func wantWhole(t *testing.T, text string, n api.Node) {
	t.Helper()
	l := some(t, text)
	everywhere(t, l, n, len(l), api.OK)
	everywhere(t, lexed(t, text), n, len(l), api.OK)
	for _, behind := range []string{";", "}", "{", ":", "a", "7", "ok;", "seq {", "not", ")", "+ 1", "x y z", "key own a int;"} {
		want(t, slices.Concat(l, lexed(t, behind)), 0, n, len(l), api.OK)
	}
}

// wantWrong checks that the first error of a text is at its n-th token.
func wantWrong(t *testing.T, text string, n int, err api.Errno) {
	t.Helper()
	everywhere(t, lexed(t, text), api.Node{}, n, err)
	everywhere(t, some(t, text), api.Node{}, n, err)
}

// wantProgram checks that a text is that of a program.
func wantProgram(t *testing.T, text string, p api.Program) {
	t.Helper()
	got, at, err := tree.Parse([]byte(text))
	if at != len(text) || err != api.OK || !samples.SameProgram(got, p) {
		t.Fatalf("Parse of %.500q (%d bytes): %.500s, %d, error %d; want %.500s", text, len(text), fmt.Sprint(got), at, err, fmt.Sprint(p))
	}
}

// wantError checks that the first error of a text is at this offset.
func wantError(t *testing.T, text string, at int, err api.Errno) {
	t.Helper()
	got, gotAt, gotErr := tree.Parse([]byte(text))
	if gotAt != at || gotErr != err || !samples.SameProgram(got, api.Program{}) {
		t.Fatalf("Parse of %.500q (%d bytes): %.200s, %d, error %d; want %d, error %d", text, len(text), fmt.Sprint(got), gotAt, gotErr, at, err)
	}
}

// foreign lists tokens that can stand nowhere in a node.
func foreign() []api.Token {
	return []api.Token{{}, {Text: "ok"}, {Kind: 5, N: 5, Text: ";"}, {Kind: -1, N: 1, Text: "{"}, {Kind: math.MaxInt, Text: "a"}, {Kind: math.MinInt, Text: "}"},
		{Kind: api.TSign}, {Kind: api.TWord}, {Kind: api.TWord, Text: "a"}, {Kind: api.TSign, Text: "5"}, {Kind: api.TSign, N: 5}, {Kind: api.TSign, Text: "&"},
		{Kind: api.TWord, Text: "Ok"}, {Kind: api.TWord, Text: "ok "}, {Kind: api.TSign, Text: ";;"}, {Kind: api.TSign, Text: ":=="}, {Kind: api.TWord, Text: "key"},
		{Kind: api.TWord, Text: "cost"}, {Kind: api.TSign, Text: ">="}, {Kind: api.TSign, Text: "="}, {Kind: api.TWord, Text: "make"}, {Kind: api.TWord, Text: "int"}}
}
