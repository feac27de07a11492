package tree_test

import (
	"slices"
	"strings"
	"testing"

	"puppeteer/api"
	"puppeteer/samples"
)

func depth(n api.Node) int {
	deepest := 0
	for _, kid := range n.Kids {
		deepest = max(deepest, depth(kid))
	}
	return deepest + 1
}

// A wrap is a way of nesting a node: what stands ahead of it and behind it, and what
// it makes of it.
type wrap struct {
	ahead, behind string
	around        func(n api.Node) api.Node
}

func wraps() []wrap {
	ok := node(api.NOk)
	in := func(kind int) func(api.Node) api.Node {
		return func(n api.Node) api.Node { return node(kind, n) }
	}
	return []wrap{
		{"not ", "", in(api.NNot)},
		{"repeat 3 ", "", func(n api.Node) api.Node { return repeat(3, n) }},
		{"seq { ", " }", in(api.NSeq)},
		{"sel { ", " }", in(api.NSel)},
		{"mseq { ", " }", in(api.NMSeq)},
		{"msel { ", " }", in(api.NMSel)},
		{"par 1 2 { ", " }", func(n api.Node) api.Node { return par(1, 2, n) }},
		{"pick { 5 : ", " }", func(n api.Node) api.Node { return choose(number(5), n) }},
		{"seq { ok; ", " }", func(n api.Node) api.Node { return node(api.NSeq, ok, n) }},
		{"sel { ", " ok; }", func(n api.Node) api.Node { return node(api.NSel, n, ok) }},
		{"pick { 5 : ok; a : ", " 6 : ok; }", func(n api.Node) api.Node { return choose(number(5), ok, key("a"), n, number(6), ok) }},
		{"seq { use y; wait; ok; ", " }", func(n api.Node) api.Node { return node(api.NSeq, named(api.NUse, "y"), node(api.NWait), ok, n) }},
	}
}

// nested returns a text in all these wraps, from the outermost one on, and what they
// make of its node.
func nested(text string, n api.Node, list []wrap) (string, api.Node) {
	for _, w := range slices.Backward(list) {
		text, n = w.ahead+text+w.behind, w.around(n)
	}
	return text, n
}

// first is what stands ahead of the first node in a wrap.
func (w wrap) first() string {
	text, _, _ := strings.Cut(w.ahead, "ok;")
	text, _, _ = strings.Cut(text, "use")
	return text
}

// ahead is what stands ahead of a node in all these wraps.
func ahead(list []wrap) string {
	text := ""
	for _, w := range list {
		text += w.ahead
	}
	return text
}

// leaves lists nodes without kids, with their texts.
func leaves() map[string]api.Node {
	return map[string]api.Node{"ok;": node(api.NOk), "do x;": named(api.NDo, "x"), "if a;": test(key("a")), "set b := 7;": set("b", number(7))}
}

// wantDeep checks that a node may be in these wraps, of which there are
// api.MaxDeep - 1, but in no more.
func wantDeep(t *testing.T, list []wrap) {
	t.Helper()
	for text, n := range leaves() {
		whole, n := nested(text, n, list)
		if depth(n) != api.MaxDeep {
			t.Fatalf("the node is nested %d deep", depth(n))
		}
		l := some(t, whole)
		want(t, l, 0, n, len(l), api.OK)
		want(t, samples.Other(l), 0, n, len(l), api.OK)
		wantModel(t, l, 0)
	}
	for _, w := range wraps() {
		if w.first() != w.ahead {
			continue
		}
		more := append(slices.Clone(list), w)
		text := ahead(more)
		at := len(some(t, text))
		for _, behind := range []string{"ok;", "", "}", "a", ";", "1", "not", "seq {", "if (((("} {
			l := some(t, text+behind)
			want(t, l, 0, api.Node{}, at, api.ErrDeep)
			want(t, samples.Other(l), 0, api.Node{}, at, api.ErrDeep)
			wantModel(t, l, 0)
		}
		whole, _ := nested("ok;", node(api.NOk), more)
		want(t, lexed(t, whole), 0, api.Node{}, at, api.ErrDeep)
	}
}

func TestP1101NestingIsLimited(t *testing.T) {
	for _, w := range wraps() {
		wantDeep(t, slices.Repeat([]wrap{w}, api.MaxDeep-1))
	}
	all := wraps()
	for i, one := range all {
		for j, two := range all {
			wantDeep(t, slices.Repeat([]wrap{one, two, all[(i+j)%len(all)]}, api.MaxDeep)[:api.MaxDeep-1])
		}
		wantDeep(t, append(slices.Repeat([]wrap{one}, api.MaxDeep-2), all[0]))
		wantDeep(t, append(slices.Repeat([]wrap{all[0]}, api.MaxDeep-2), one))
	}
	d := dice{40}
	for range 100 {
		var list []wrap
		for range api.MaxDeep - 1 {
			list = append(list, pick(&d, all...))
		}
		wantDeep(t, list)
	}
}

func TestP1101TooDeepWhateverFollows(t *testing.T) {
	for _, w := range wraps() {
		if w.first() != w.ahead {
			continue
		}
		l := some(t, strings.Repeat(w.ahead, api.MaxDeep))
		everywhere(t, l, api.Node{}, len(l), api.ErrDeep)
		for _, token := range slices.Concat(samples.Tokens(), foreign()) {
			everywhere(t, slices.Concat(l, []api.Token{token}), api.Node{}, len(l), api.ErrDeep)
		}
		// One less is only wrong if a node cannot begin there.
		l = some(t, strings.Repeat(w.ahead, api.MaxDeep-1))
		everywhere(t, l, api.Node{}, len(l), api.ErrSyntax)
		for _, token := range samples.Tokens() {
			wantModel(t, slices.Concat(l, []api.Token{token}), 0)
		}
		for _, token := range foreign() {
			everywhere(t, slices.Concat(l, []api.Token{token}), api.Node{}, len(l), api.ErrSyntax)
		}
	}
}

func TestP1101ANodeThatIsNotTheFirstBetweenBracesIsAsDeep(t *testing.T) {
	deep := strings.Repeat("not ", api.MaxDeep-2)
	wantWrong(t, "seq { ok; not ok; not "+deep+"ok; }", 4+3+1+api.MaxDeep-2, api.ErrDeep)
	wantWrong(t, "seq { "+deep+"ok; "+deep+"ok; not "+deep+"ok; }", 2+2*api.MaxDeep+1+api.MaxDeep-2, api.ErrDeep)
	kid := node(api.NOk)
	for range api.MaxDeep - 2 {
		kid = node(api.NNot, kid)
	}
	wantWhole(t, "seq {"+strings.Repeat(deep+"ok;", api.MaxKids)+"}", node(api.NSeq, slices.Repeat([]api.Node{kid}, api.MaxKids)...))
	around := node(api.NPick)
	for i := range api.MaxKids {
		around.Kids, around.Weights = append(around.Kids, kid), append(around.Weights, number(i))
	}
	wantWhole(t, strings.Join(samples.WrittenNode(around), " "), around)
}

func TestP1101ExpressionsAndNodesNestOnTheirOwn(t *testing.T) {
	x := strings.Repeat("(", api.MaxDeep-1) + "a" + strings.Repeat(")", api.MaxDeep-1)
	nots := key("a")
	for range api.MaxDeep - 1 {
		nots = of(api.ENot, nots)
	}
	for _, w := range wraps() {
		list := slices.Repeat([]wrap{w}, api.MaxDeep-1)
		for text, n := range map[string]api.Node{
			"if " + x + ";": test(key("a")),
			"if " + strings.Repeat("not ", api.MaxDeep-1) + "a;": test(nots),
			"set b := " + x + ";":                                set("b", key("a")),
		} {
			whole, n := nested(text, n, list)
			l := some(t, whole)
			want(t, l, 0, n, len(l), api.OK)
		}
		// Too deep in the expression, not as a node.
		text := ahead(list) + "if (" + x + ");"
		want(t, lexed(t, text), 0, api.Node{}, len(some(t, ahead(list)))+1+api.MaxDeep, api.ErrDeep)
		// The weight of a node that is too deep is read ahead of it.
		text = ahead(list) + "pick {"
		at := len(some(t, text))
		want(t, lexed(t, text+x+": }"), 0, api.Node{}, at+2*api.MaxDeep, api.ErrDeep)
		want(t, lexed(t, text+"1 }"), 0, api.Node{}, at+1, api.ErrSyntax)
		want(t, lexed(t, text+"1"), 0, api.Node{}, at+1, api.ErrSyntax)
		want(t, lexed(t, text+"}"), 0, api.Node{}, at, api.ErrSyntax)
		want(t, lexed(t, text), 0, api.Node{}, at, api.ErrSyntax)
		want(t, lexed(t, text+"("+x+") : ok;"), 0, api.Node{}, at+api.MaxDeep, api.ErrDeep)
	}
}

func TestP1101TheHeadOfANodeComesAheadOfItsDepth(t *testing.T) {
	deep := strings.Repeat("not ", api.MaxDeep-1)
	for text, at := range map[string]int{"seq": 1, "seq ok;": 1, "par": 1, "par 1 { ok; }": 2, "par 1 1 ok;": 3, "repeat": 1, "repeat ok;": 1, "repeat - 1 ok;": 1, "pick": 1, "pick ok;": 1} {
		wantWrong(t, deep+text, api.MaxDeep-1+at, api.ErrSyntax)
	}
	for text, at := range map[string]int{"seq {": 2, "sel { }": 2, "par 1 1 {": 4, "par 1 1 { ;": 4, "repeat 1": 2, "repeat 1 x": 2, "not": 1, "not )": 1, "pick { 1 :": 4, "pick { a + b : }": 6} {
		wantWrong(t, deep+text, api.MaxDeep-1+at, api.ErrDeep)
	}
}

func TestP1101RandomDeepNodes(t *testing.T) {
	d := dice{41}
	got := map[api.Errno]int{}
	for range 3000 {
		var list []wrap
		for range api.MaxDeep - 4 + d.Roll(8) {
			list = append(list, pick(&d, wraps()...))
		}
		text, n := nested("ok;", node(api.NOk), list)
		l := some(t, text)
		if len(list) < api.MaxDeep {
			want(t, l, 0, n, len(l), api.OK)
		} else {
			first := ahead(list[:api.MaxDeep-1]) + list[api.MaxDeep-1].first()
			want(t, l, 0, api.Node{}, len(some(t, first)), api.ErrDeep)
		}
		for range d.Roll(3) {
			l[d.Roll(len(l))] = pick(&d, samples.Tokens()...)
		}
		got[wantModel(t, l, 0)]++
		wantModel(t, l, d.Roll(len(l)))
	}
	if got[api.OK] < 300 || got[api.ErrSyntax] < 300 || got[api.ErrDeep] < 300 {
		t.Fatalf("the errors are %v", got)
	}
}
