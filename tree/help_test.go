package tree_test

import (
	"fmt"
	"math"
	"slices"
	"strconv"
	"strings"
	"testing"

	"puppeteer/api"
	"puppeteer/expr"
	"puppeteer/lex"
	"puppeteer/samples"
	"puppeteer/tree"
)

func node(kind int, kids ...api.Node) api.Node { return api.Node{Kind: kind, Kids: kids} }

func named(kind int, name string) api.Node { return api.Node{Kind: kind, Name: name} }

func par(a, b int, kids ...api.Node) api.Node {
	return api.Node{Kind: api.NPar, A: a, B: b, Kids: kids}
}

func repeat(a int, kid api.Node) api.Node {
	return api.Node{Kind: api.NRepeat, A: a, Kids: []api.Node{kid}}
}

func test(x api.Expr) api.Node { return api.Node{Kind: api.NIf, Expr: x} }

func set(name string, x api.Expr) api.Node { return api.Node{Kind: api.NSet, Name: name, Expr: x} }

// choose is a pick of one weight and node after the other.
func choose(list ...any) api.Node {
	n := api.Node{Kind: api.NPick}
	for _, one := range list {
		switch one := one.(type) {
		case api.Expr:
			n.Weights = append(n.Weights, one)
		case api.Node:
			n.Kids = append(n.Kids, one)
		}
	}
	return n
}

func number(n int) api.Expr { return api.Expr{Kind: api.EInt, N: n} }

func key(name string) api.Expr { return api.Expr{Kind: api.EName, Name: name} }

func of(kind int, kids ...api.Expr) api.Expr { return api.Expr{Kind: kind, Kids: kids} }

// longest is a name that is as long as a name may be.
func longest() string { return strings.Repeat("n", api.MaxName) }

func sameNode(m, n api.Node) bool {
	return m.Kind == n.Kind && m.A == n.A && m.B == n.B && m.Name == n.Name && samples.SameExpr(m.Expr, n.Expr) &&
		slices.EqualFunc(m.Kids, n.Kids, sameNode) && slices.EqualFunc(m.Weights, n.Weights, samples.SameExpr)
}

func sameAct(a, b api.Act) bool {
	return a.Name == b.Name && a.Cost == b.Cost && slices.Equal(a.Need, b.Need) && slices.Equal(a.Make, b.Make)
}

func sameDomain(c, d api.Domain) bool {
	return c.Name == d.Name && slices.Equal(c.Vars, d.Vars) && slices.Equal(c.Goal, d.Goal) &&
		slices.EqualFunc(c.Acts, d.Acts, sameAct)
}

func sameProgram(p, q api.Program) bool {
	return slices.Equal(p.Keys, q.Keys) && slices.EqualFunc(p.Domains, q.Domains, sameDomain) &&
		slices.EqualFunc(p.Trees, q.Trees, func(s, t api.Tree) bool {
			return s.Name == t.Name && sameNode(s.Root, t.Root)
		})
}

// kinds tells the kind of each word that a node begins with.
var kinds = map[string]int{"seq": api.NSeq, "sel": api.NSel, "mseq": api.NMSeq, "msel": api.NMSel, "par": api.NPar,
	"not": api.NNot, "repeat": api.NRepeat, "if": api.NIf, "set": api.NSet, "do": api.NDo, "use": api.NUse,
	"pick": api.NPick, "plan": api.NPlan, "ok": api.NOk, "fail": api.NFail, "wait": api.NWait}

func wordOf(kind int) string {
	for word, k := range kinds {
		if k == kind {
			return word
		}
	}
	return "?"
}

// written lists the tokens of a node, an expression being one of them, from the
// fields that a node of its kind has.
func written(n api.Node) []string {
	list := []string{wordOf(n.Kind)}
	add := func(more ...string) { list = append(list, more...) }
	var end []string
	switch n.Kind {
	case api.NPar:
		add(strconv.Itoa(n.A), strconv.Itoa(n.B), "{")
		end = []string{"}"}
	case api.NSeq, api.NSel, api.NMSeq, api.NMSel, api.NPick:
		add("{")
		end = []string{"}"}
	case api.NRepeat:
		add(strconv.Itoa(n.A))
	case api.NIf:
		add(expr.Print(n.Expr), ";")
	case api.NSet:
		add(n.Name, ":=", expr.Print(n.Expr), ";")
	case api.NDo, api.NUse, api.NPlan:
		add(n.Name, ";")
	case api.NOk, api.NFail, api.NWait:
		add(";")
	}
	for i, kid := range n.Kids {
		if n.Kind == api.NPick && i < len(n.Weights) {
			add(expr.Print(n.Weights[i]), ":")
		}
		add(written(kid)...)
	}
	return append(list, end...)
}

// stripped is a node without the fields that a node of its kind does not have.
func stripped(n api.Node) api.Node {
	s := api.Node{Kind: n.Kind}
	for _, kid := range n.Kids {
		s.Kids = append(s.Kids, stripped(kid))
	}
	switch n.Kind {
	case api.NPar:
		s.A, s.B = n.A, n.B
	case api.NRepeat:
		s.A = n.A
	case api.NIf:
		s.Expr = n.Expr
	case api.NSet:
		s.Name, s.Expr = n.Name, n.Expr
	case api.NDo, api.NUse, api.NPlan:
		s.Name = n.Name
	case api.NPick:
		s.Weights = n.Weights[:min(len(n.Weights), len(n.Kids))]
	}
	return s
}

func writtenCond(word string, c api.Cond) []string {
	return []string{word, c.Name, []string{">=", "<=", "=="}[c.Op], strconv.Itoa(c.N), ";"}
}

func writtenMake(m api.Make) []string {
	sign, n := "=", strconv.Itoa(m.N)
	if m.Add {
		sign = "+"
		if m.N < 0 {
			sign, n = "-", n[1:]
		}
	}
	return []string{"make", m.Name, sign, n, ";"}
}

// writtenAct lists an act's parts, each of which is a list of tokens.
func writtenAct(a api.Act) [][]string {
	var parts [][]string
	for _, c := range a.Need {
		parts = append(parts, writtenCond("need", c))
	}
	for _, m := range a.Make {
		parts = append(parts, writtenMake(m))
	}
	return parts
}

// writtenDomain lists a domain's elements, each of which is a list of tokens. mix
// puts the parts of an act into their order.
func writtenDomain(d api.Domain, mix func([][]string)) [][]string {
	var elements [][]string
	for _, v := range d.Vars {
		elements = append(elements, []string{"var", v.Name, strconv.Itoa(v.Low), strconv.Itoa(v.High), ";"})
	}
	for _, a := range d.Acts {
		parts := writtenAct(a)
		mix(parts)
		element := []string{"act", a.Name, "cost", strconv.Itoa(a.Cost), "{"}
		elements = append(elements, append(append(element, slices.Concat(parts...)...), "}"))
	}
	for _, c := range d.Goal {
		elements = append(elements, writtenCond("goal", c))
	}
	return elements
}

// writtenProgram lists the tokens of a program. mix puts what may stand in any
// order into its order.
func writtenProgram(p api.Program, mix func([][]string)) []string {
	var all [][]string
	for _, k := range p.Keys {
		owner := "own"
		if k.Shared {
			owner = "shared"
		}
		all = append(all, []string{"key", owner, k.Name, []string{"int", "bool", "ref", "sym", "point"}[k.Kind], ";"})
	}
	for _, one := range p.Trees {
		all = append(all, append(append([]string{"tree", one.Name, "{"}, written(one.Root)...), "}"))
	}
	for _, d := range p.Domains {
		elements := writtenDomain(d, mix)
		mix(elements)
		all = append(all, append(append([]string{"domain", d.Name, "{"}, slices.Concat(elements...)...), "}"))
	}
	mix(all)
	return slices.Concat(all...)
}

// inOrder leaves a list as it is.
func inOrder([][]string) {}

// program is the program's text.
func program(p api.Program) string { return strings.Join(writtenProgram(p, inOrder), " ") }

// lexed returns the tokens of a text, with the TEnd.
func lexed(t *testing.T, text string) []api.Token {
	t.Helper()
	l, at, err := lex.Tokens([]byte(text))
	if err != api.OK {
		t.Fatalf("Tokens of %.200q: error %d at %d", text, err, at)
	}
	return l
}

// some returns the tokens of a text, without the TEnd.
func some(t *testing.T, text string) []api.Token {
	t.Helper()
	l := lexed(t, text)
	return l[:len(l)-1]
}

// want checks what Node answers.
func want(t *testing.T, l []api.Token, at int, n api.Node, to int, err api.Errno) {
	t.Helper()
	got, gotTo, gotErr := tree.Node(l, at)
	if gotTo != to || gotErr != err || !sameNode(got, n) {
		t.Fatalf("Node of %s from %d: %.500s, %d, error %d; want %.500s, %d, error %d", samples.Show(l), at, fmt.Sprint(got), gotTo, gotErr, fmt.Sprint(n), to, err)
	}
}

// everywhere checks what Node answers for tokens from the first one on, also if
// others stand ahead of them, and if they are written another way.
func everywhere(t *testing.T, l []api.Token, n api.Node, to int, err api.Errno) {
	t.Helper()
	want(t, l, 0, n, to, err)
	want(t, samples.Other(l), 0, n, to, err)
	for _, ahead := range []string{"ok;", "seq {", "not not", "if", "}", strings.Repeat("not ", api.MaxDeep), "seq {" + strings.Repeat("ok;", api.MaxKids), "key own a int; tree t {"} {
		first := some(t, ahead)
		want(t, slices.Concat(first, l), len(first), n, len(first)+to, err)
	}
}

// wantWhole checks that a text is a node, with its end, without it, and with other
// tokens behind it.
func wantWhole(t *testing.T, text string, n api.Node) {
	t.Helper()
	l := some(t, text)
	everywhere(t, l, n, len(l), api.OK)
	everywhere(t, lexed(t, text), n, len(l), api.OK)
	for _, behind := range []string{";", "}", "{", ":", "a", "7", "ok;", "seq {", "not", ")", "+ 1", "x y z", "key own a int;"} {
		want(t, slices.Concat(l, lexed(t, behind)), 0, n, len(l), api.OK)
	}
}

// wantWrong checks that the first error of a text is at its n-th token.
func wantWrong(t *testing.T, text string, n int, err api.Errno) {
	t.Helper()
	everywhere(t, lexed(t, text), api.Node{}, n, err)
	everywhere(t, some(t, text), api.Node{}, n, err)
}

// wantProgram checks that a text is that of a program.
func wantProgram(t *testing.T, text string, p api.Program) {
	t.Helper()
	got, at, err := tree.Parse([]byte(text))
	if at != len(text) || err != api.OK || !sameProgram(got, p) {
		t.Fatalf("Parse of %.500q (%d bytes): %.500s, %d, error %d; want %.500s", text, len(text), fmt.Sprint(got), at, err, fmt.Sprint(p))
	}
}

// wantError checks that the first error of a text is at this offset.
func wantError(t *testing.T, text string, at int, err api.Errno) {
	t.Helper()
	got, gotAt, gotErr := tree.Parse([]byte(text))
	if gotAt != at || gotErr != err || !sameProgram(got, api.Program{}) {
		t.Fatalf("Parse of %.500q (%d bytes): %.200s, %d, error %d; want %d, error %d", text, len(text), fmt.Sprint(got), gotAt, gotErr, at, err)
	}
}

// foreign lists tokens that can stand nowhere in a node.
func foreign() []api.Token {
	return []api.Token{{}, {Text: "ok"}, {Kind: 5, N: 5, Text: ";"}, {Kind: -1, N: 1, Text: "{"}, {Kind: math.MaxInt, Text: "a"}, {Kind: math.MinInt, Text: "}"},
		{Kind: api.TSign}, {Kind: api.TWord}, {Kind: api.TWord, Text: "a"}, {Kind: api.TSign, Text: "5"}, {Kind: api.TSign, N: 5}, {Kind: api.TSign, Text: "&"},
		{Kind: api.TWord, Text: "Ok"}, {Kind: api.TWord, Text: "ok "}, {Kind: api.TSign, Text: ";;"}, {Kind: api.TSign, Text: ":=="}, {Kind: api.TWord, Text: "key"},
		{Kind: api.TWord, Text: "cost"}, {Kind: api.TSign, Text: ">="}, {Kind: api.TSign, Text: "="}, {Kind: api.TWord, Text: "make"}, {Kind: api.TWord, Text: "int"}}
}

// text is a token as it stands in a text.
func text(token api.Token) string {
	if token.Kind == api.TInt {
		return strconv.Itoa(token.N)
	}
	return token.Text
}

func texts(l []api.Token) []string {
	var list []string
	for _, token := range l {
		list = append(list, text(token))
	}
	return list
}
