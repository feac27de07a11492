package tree_test

import (
	"slices"
	"strconv"
	"strings"
	"testing"

	"puppeteer/api"
	"puppeteer/expr"
	"puppeteer/lex"
	"puppeteer/samples"
	"puppeteer/tree"
)

// rules tells what follows each word that begins a node, a declaration, or an
// element of one.
const rules = `
seq: { nodes
sel: { nodes
mseq: { nodes
msel: { nodes
par: N N { nodes
not: node
repeat: N node
if: X ;
set: name := X ;
do: name ;
use: name ;
plan: name ;
ok: ;
fail: ;
wait: ;
pick: { weighted
key: own|shared name int|bool|ref|sym|point ;
tree: name { node }
domain: name { elements
var: name M M ;
act: name cost N { effects
goal: name >=|<=|== M ;
need: name >=|<=|== M ;
make: name change ;
`

// ruleOf has the rules by their words.
var ruleOf = func() map[string][]string {
	all := map[string][]string{}
	for line := range strings.SplitSeq(rules, "\n") {
		first, rest, _ := strings.Cut(line, ": ")
		all[first] = strings.Fields(rest)
	}
	return all
}()

// A list is what may follow each other any number of times: the words that begin
// them, in the order in which they are told, and how many of each there may be.
type list struct {
	words []string
	most  []int
	end   string
}

var lists = map[string]list{
	"declarations": {[]string{"key", "tree", "domain"}, []int{api.MaxKeys, api.MaxTrees, api.MaxTrees}, "$"},
	"elements":     {[]string{"var", "act", "goal"}, []int{api.MaxVars, api.MaxActs, api.MaxVars}, "}"},
	"effects":      {[]string{"need", "make"}, []int{api.MaxVars, api.MaxVars}, "}"},
}

// An item is what is to come: a word or sign, or a thing that has rules. deep is
// how deep the nodes in it are nested, n how many of them there were.
type item struct {
	what    string
	deep, n int
}

// A part is one of a list, of a sort: the tokens from a place on.
type part struct{ sort, from int }

// A model tells the rules another way: what is to come lies on a stack, and each
// token either takes something from it or is an error. told lists what was read,
// in the order of program's text.
type model struct {
	l     []api.Token
	at    int
	err   api.Errno
	come  []item
	parts [][]part
	told  []string
}

// follow reads tokens as long as they are what is to come.
func follow(l []api.Token, at int, what string) model {
	if at < 0 || at >= len(l) {
		return model{at: len(l), err: api.ErrSyntax}
	}
	m := model{l: l, at: at, come: []item{{what: what, deep: 1}}}
	for len(m.come) > 0 && m.err == api.OK {
		last := len(m.come) - 1
		it := m.come[last]
		m.come = m.come[:last]
		m.take(it)
	}
	return m
}

// symbol tells the next token: "N", "name", the word or sign, or "$" for any other.
func (m *model) symbol() string {
	if m.at >= len(m.l) {
		return "$"
	}
	switch token := m.l[m.at]; token.Kind {
	case api.TInt:
		return "N"
	case api.TName:
		return "name"
	case api.TWord, api.TSign:
		if !slices.Contains([]string{"", "N", "name", "$"}, token.Text) {
			return token.Text
		}
	}
	return "$"
}

func (m *model) wrong(err api.Errno) { m.err = err }

// push lays things on the stack of what is to come, the first one on top.
func (m *model) push(deep int, what ...string) {
	for _, one := range slices.Backward(what) {
		m.come = append(m.come, item{what: one, deep: deep})
	}
}

// read reads the next token as this text.
func (m *model) read(text string) {
	m.told = append(m.told, text)
	m.at++
}

func (m *model) take(it item) {
	s := m.symbol()
	switch it.what {
	case "node":
		m.node(it.deep, s)
	case "nodes", "weighted":
		m.nodes(it, s)
	case "declarations", "elements", "effects":
		m.parts = append(m.parts, nil)
		m.list(it.what, s)
	case "more declarations", "more elements", "more effects":
		m.list(strings.TrimPrefix(it.what, "more "), s)
	case "X":
		x, to, err := expr.Parse(m.l, m.at)
		m.at, m.err = to, err
		m.told = append(m.told, expr.Print(x))
	case "M", "change":
		m.number(it.what, s)
	default:
		if s == "$" || !among(s, it.what) {
			m.wrong(api.ErrSyntax)
			return
		}
		m.read(samples.Text(m.l[m.at]))
	}
}

// among tells whether s is one of these, with "|" between them.
func among(s, list string) bool {
	for one := range strings.SplitSeq(list, "|") {
		if one == s {
			return true
		}
	}
	return false
}

func (m *model) node(deep int, s string) {
	switch {
	case deep > api.MaxDeep:
		m.wrong(api.ErrDeep)
	case !slices.Contains(samples.NodeWords(), s):
		m.wrong(api.ErrSyntax)
	default:
		m.read(s)
		m.push(deep+1, ruleOf[s]...)
	}
}

// nodes goes on between braces.
func (m *model) nodes(it item, s string) {
	switch {
	case it.n > 0 && s == "}":
		m.read(s)
	case it.n == api.MaxKids:
		m.wrong(api.ErrMany)
	default:
		m.come = append(m.come, item{it.what, it.deep, it.n + 1})
		m.push(it.deep, "node")
		if it.what == "weighted" {
			m.push(0, "X", ":")
		}
	}
}

// list goes on with a list that may end there.
func (m *model) list(what, s string) {
	all, last := lists[what], len(m.parts)-1
	sort := slices.Index(all.words, s)
	of := 0
	for _, p := range m.parts[last] {
		if p.sort == sort {
			of++
		}
	}
	switch {
	case s == all.end && (s != "$" || m.l[m.at].Kind == api.TEnd):
		m.close()
		if s != "$" {
			m.read(s)
		}
	case sort < 0:
		m.wrong(api.ErrSyntax)
	case of == all.most[sort]:
		m.wrong(api.ErrMany)
	default:
		m.parts[last] = append(m.parts[last], part{sort, len(m.told)})
		m.read(s)
		m.push(0, "more "+what)
		deep := 0
		if s == "tree" {
			deep = 1
		}
		m.push(deep, ruleOf[s]...)
	}
}

// close puts the parts of the last list into the order in which they are told.
func (m *model) close() {
	last := len(m.parts) - 1
	parts := m.parts[last]
	m.parts = m.parts[:last]
	if len(parts) == 0 {
		return
	}
	var sorted []string
	for sort := range 3 {
		for i, p := range parts {
			to := len(m.told)
			if i+1 < len(parts) {
				to = parts[i+1].from
			}
			if p.sort == sort {
				sorted = append(sorted, m.told[p.from:to]...)
			}
		}
	}
	m.told = append(m.told[:parts[0].from], sorted...)
}

// number reads a number behind a sign. "change" is what follows a make's name: the
// sign says what it does.
func (m *model) number(what, s string) {
	if what == "change" {
		switch s {
		case "=":
			m.read(s)
			m.push(0, "M")
		case "+":
			m.read(s)
			m.push(0, "N")
		case "-":
			m.at++
			m.told = append(m.told, pickSign(m.symbol() == "N" && m.l[m.at].N == 0))
			m.push(0, "N")
		default:
			m.wrong(api.ErrSyntax)
		}
		return
	}
	negative := s == "-"
	if negative {
		m.at++
	}
	if m.symbol() != "N" {
		m.wrong(api.ErrSyntax)
		return
	}
	n := m.l[m.at].N
	if negative {
		n = -n
	}
	m.read(strconv.Itoa(n))
}

// pickSign is the sign of what is taken away: nothing is told as added.
func pickSign(nothing bool) string {
	if nothing {
		return "+"
	}
	return "-"
}

// wantModel checks what Node answers against the model.
func wantModel(t *testing.T, l []api.Token, at int) api.Errno {
	t.Helper()
	m := follow(l, at, "node")
	if m.err != api.OK {
		want(t, l, at, api.Node{}, m.at, m.err)
		return m.err
	}
	n, to, err := tree.Node(l, at)
	if to != m.at || err != api.OK {
		t.Fatalf("Node of %s from %d: %d, error %d; want %d", samples.Show(l), at, to, err, m.at)
	}
	if got := samples.WrittenNode(n); !slices.Equal(got, m.told) {
		t.Fatalf("Node of %s from %d: %q; want %q", samples.Show(l), at, got, m.told)
	}
	if !samples.SameNode(n, stripped(n)) {
		t.Fatalf("Node of %s from %d: %v has fields that it should not have", samples.Show(l), at, n)
	}
	return api.OK
}

// wantModelText checks what Parse answers against the model.
func wantModelText(t *testing.T, text string) api.Errno {
	t.Helper()
	l, at, err := lex.Tokens([]byte(text))
	if err != api.OK {
		wantError(t, text, at, err)
		return err
	}
	m := follow(l, 0, "declarations")
	if m.err != api.OK {
		wantError(t, text, l[m.at].At, m.err)
		return m.err
	}
	p, at, err := tree.Parse([]byte(text))
	if at != len(text) || err != api.OK {
		t.Fatalf("Parse of %.500q: %d, error %d", text, at, err)
	}
	if got := samples.Written(p, samples.InOrder); !slices.Equal(got, m.told) {
		t.Fatalf("Parse of %.500q: %q; want %q", text, got, m.told)
	}
	for _, one := range p.Trees {
		if !samples.SameNode(one.Root, stripped(one.Root)) {
			t.Fatalf("Parse of %.500q: %v has fields that it should not have", text, one)
		}
	}
	return api.OK
}
