package tree_test

import (
	"math"
	"slices"
	"strconv"
	"strings"
	"testing"

	"puppeteer/api"
	"puppeteer/expr"
	"puppeteer/samples"
	"puppeteer/tree"
)

// plain lists texts of nodes, and the nodes.
func plain() map[string]api.Node {
	a, one := key("a"), number(1)
	return map[string]api.Node{
		"ok ;":                                 node(api.NOk),
		"fail ;":                               node(api.NFail),
		"wait ;":                               node(api.NWait),
		"do a ;":                               named(api.NDo, "a"),
		"use b_2 ;":                            named(api.NUse, "b_2"),
		"plan " + samples.LongestName() + " ;": named(api.NPlan, samples.LongestName()),
		"if a ;":                               test(a),
		"if 1 < a + 1 ;":                       test(of(api.ELess, one, of(api.EAdd, a, one))),
		"if - 1 ;":                             test(number(-1)),
		"if 'a == a ;":                         test(of(api.ESame, api.Expr{Kind: api.ESym, Name: "a"}, a)),
		"set a := 1 ;":                         set("a", one),
		"set b := (a, 1) ;":                    set("b", of(api.EPoint, a, one)),
		"set a := not true ;":                  set("a", of(api.ENot, api.Expr{Kind: api.EBool, N: 1})),
		"not ok ;":                             node(api.NNot, node(api.NOk)),
		"not do a ;":                           node(api.NNot, named(api.NDo, "a")),
		"not not fail ;":                       node(api.NNot, node(api.NNot, node(api.NFail))),
		"not seq { ok ; wait ; }":              node(api.NNot, node(api.NSeq, node(api.NOk), node(api.NWait))),
		"repeat 0 ok ;":                        repeat(0, node(api.NOk)),
		"repeat 5 use a ;":                     repeat(5, named(api.NUse, "a")),
		"repeat 2 repeat 3 wait ;":             repeat(2, repeat(3, node(api.NWait))),
		"repeat 7 if a ;":                      repeat(7, test(a)),
		"seq { ok ; }":                         node(api.NSeq, node(api.NOk)),
		"seq { ok ; fail ; wait ; }":           node(api.NSeq, node(api.NOk), node(api.NFail), node(api.NWait)),
		"sel { do a ; do b ; }":                node(api.NSel, named(api.NDo, "a"), named(api.NDo, "b")),
		"mseq { plan a ; }":                    node(api.NMSeq, named(api.NPlan, "a")),
		"msel { if a ; ok ; }":                 node(api.NMSel, test(a), node(api.NOk)),
		"par 1 2 { ok ; fail ; }":              par(1, 2, node(api.NOk), node(api.NFail)),
		"par 0 17 { ok ; }":                    par(0, 17, node(api.NOk)),
		"pick { 1 : ok ; }":                    choose(one, node(api.NOk)),
		"pick { 1 : ok ; a : fail ; a + 1 : do b ; }": choose(one, node(api.NOk), a, node(api.NFail), of(api.EAdd, a, one), named(api.NDo, "b")),
		"seq { sel { ok ; } sel { fail ; } }":         node(api.NSeq, node(api.NSel, node(api.NOk)), node(api.NSel, node(api.NFail))),
		"seq { not seq { ok ; } repeat 3 seq { fail ; } wait ; }": node(api.NSeq, node(api.NNot, node(api.NSeq, node(api.NOk))),
			repeat(3, node(api.NSeq, node(api.NFail))), node(api.NWait)),
		"pick { a : pick { 1 : use a ; } 1 : not use b ; }": choose(a, choose(one, named(api.NUse, "a")), one, node(api.NNot, named(api.NUse, "b"))),
		"par 3 4 { set a := 1 ; par 5 6 { if a ; } pick { a : repeat 7 plan b ; } }": par(3, 4, set("a", one), par(5, 6, test(a)),
			choose(a, repeat(7, named(api.NPlan, "b")))),
		"repeat " + strconv.Itoa(math.MaxInt) + " ok ;":                                      repeat(math.MaxInt, node(api.NOk)),
		"par " + strconv.Itoa(math.MaxInt) + " " + strconv.Itoa(math.MaxInt-1) + " { ok ; }": par(math.MaxInt, math.MaxInt-1, node(api.NOk)),
	}
}

func TestP1101EachFormOfANode(t *testing.T) {
	for text, n := range plain() {
		wantWhole(t, text, n)
		wantModel(t, lexed(t, text), 0)
		if got := strings.Join(samples.WrittenNode(n), " "); strings.HasPrefix(text, "not") && got != text {
			t.Fatalf("%q is written as %q", text, got)
		}
	}
}

func TestP1101APairOfNodes(t *testing.T) {
	for one, m := range plain() {
		for two, n := range plain() {
			wantWhole(t, "not "+one, node(api.NNot, m))
			wantWhole(t, "sel {"+one+two+"}", node(api.NSel, m, n))
			l := some(t, one)
			everywhere(t, slices.Concat(l, some(t, two)), m, len(l), api.OK)
			want(t, slices.Concat(l, some(t, two)), len(l), n, len(l)+len(some(t, two)), api.OK)
		}
	}
}

// inner is a text of a node that is unlike that of any other index.
func inner(i int) (string, api.Node) {
	name := "n" + strconv.Itoa(i)
	switch i % 4 {
	case 0:
		return "do " + name + ";", named(api.NDo, name)
	case 1:
		return "repeat " + strconv.Itoa(i) + " ok;", repeat(i, node(api.NOk))
	case 2:
		return "seq { use " + name + "; wait; }", node(api.NSeq, named(api.NUse, name), node(api.NWait))
	}
	return "pick { " + name + ": fail; }", choose(key(name), node(api.NFail))
}

// A brace is a way of laying nodes between braces.
type brace struct {
	ahead  string
	around api.Node
	weight bool
}

func braces() []brace {
	return []brace{
		{"seq {", node(api.NSeq), false}, {"sel {", node(api.NSel), false}, {"mseq {", node(api.NMSeq), false}, {"msel {", node(api.NMSel), false},
		{"par 2 9 {", par(2, 9), false}, {"pick {", node(api.NPick), true},
	}
}

// fill returns the text of some n nodes behind the opening brace, and all of it
// with its end as a node.
func (b brace) fill(n int) (string, api.Node) {
	text, around := b.ahead, b.around
	for i := range n {
		one, kid := inner(i)
		if b.weight {
			text += strconv.Itoa(i) + " - a : "
			around.Weights = append(around.Weights, of(api.ESub, number(i), key("a")))
		}
		text += one + " "
		around.Kids = append(around.Kids, kid)
	}
	return text, around
}

func TestP1101NodesBetweenBraces(t *testing.T) {
	for _, b := range braces() {
		for n := 1; n <= api.MaxKids; n++ {
			text, around := b.fill(n)
			wantWhole(t, text+"}", around)
			wantWhole(t, "seq { ok; "+text+"} ok; }", node(api.NSeq, node(api.NOk), around, node(api.NOk)))
			wantWhole(t, "pick { 5: "+text+"} 6: ok; }", choose(number(5), around, number(6), node(api.NOk)))
		}
		// None at all.
		at := len(some(t, b.ahead))
		wantWrong(t, b.ahead+"}", at, api.ErrSyntax)
		wantWrong(t, b.ahead+"} ok;", at, api.ErrSyntax)
		wantWrong(t, b.ahead, at, api.ErrSyntax)
		wantWrong(t, strings.TrimSuffix(b.ahead, "{")+"ok;", at-1, api.ErrSyntax)
		wantWrong(t, strings.TrimSuffix(b.ahead, "{")+"}", at-1, api.ErrSyntax)
		wantWrong(t, strings.TrimSuffix(b.ahead, "{"), at-1, api.ErrSyntax)
	}
}

func TestP1101MoreNodesThanMayBeBetweenBraces(t *testing.T) {
	for _, b := range braces() {
		text, _ := b.fill(api.MaxKids)
		at := len(some(t, text))
		for _, more := range []string{"", "ok; }", "1: ok; }", "ok", "x", ";", "{", ":", "seq { }", "not not", ")", "if (((", "1", "- 1: ok;", "(", "par", "key own a int;", "1 1", strings.Repeat("not ", 50)} {
			wantWrong(t, text+more, at, api.ErrMany)
			for _, around := range []string{"not ", "repeat 3 ", "seq {", "seq { ok; sel { ", "pick { a: "} {
				wantWrong(t, around+text+more, len(some(t, around))+at, api.ErrMany)
			}
		}
		for _, token := range slices.Concat(samples.Tokens(), foreign()) {
			if token.Kind != api.TSign && token.Kind != api.TWord || token.Text != "}" {
				everywhere(t, slices.Concat(some(t, text), []api.Token{token}), api.Node{}, at, api.ErrMany)
			}
		}
		more, _ := b.fill(api.MaxKids + 1)
		wantWrong(t, more+"}", at, api.ErrMany)
		// One node less: a further one may follow.
		text, _ = b.fill(api.MaxKids - 1)
		at = len(some(t, text))
		wantWrong(t, text, at, api.ErrSyntax)
		wantWrong(t, text+";", at, api.ErrSyntax)
		wantWrong(t, text+")", at, api.ErrSyntax)
		for _, token := range slices.Concat(samples.Tokens(), foreign()) {
			wantModel(t, slices.Concat(some(t, text), []api.Token{token}), 0)
		}
	}
}

func TestP1101EachNestingCountsItsOwnNodes(t *testing.T) {
	// Sixteen nodes with sixteen in each.
	for _, outer := range braces() {
		for _, b := range braces() {
			text, around := outer.ahead, outer.around
			for i := range api.MaxKids {
				inside, n := b.fill(api.MaxKids)
				if outer.weight {
					text += strconv.Itoa(i) + ":"
					around.Weights = append(around.Weights, number(i))
				}
				text += inside + "}"
				around.Kids = append(around.Kids, n)
			}
			wantWhole(t, text+"}", around)
			wantWrong(t, text+"ok;", len(some(t, text)), api.ErrMany)
		}
	}
}

func TestP1101WordsAndSignsOfEitherKind(t *testing.T) {
	d := dice{7}
	for text, n := range plain() {
		l := some(t, text)
		swap := func(token *api.Token) {
			switch token.Kind {
			case api.TWord:
				token.Kind = api.TSign
			case api.TSign:
				token.Kind = api.TWord
			}
		}
		for i := range l {
			swap(&l[i])
			want(t, l, 0, n, len(l), api.OK)
			swap(&l[i])
		}
		for range 20 {
			for i := range l {
				if d.Roll(2) == 0 {
					swap(&l[i])
				}
			}
			want(t, l, 0, n, len(l), api.OK)
		}
		// No other kind makes a word or a sign of a text, and no text makes one of another kind.
		for i, token := range l {
			if token.Kind != api.TWord && token.Kind != api.TSign {
				continue
			}
			for _, kind := range []int{api.TEnd, api.TName, api.TInt, 5, -1, math.MaxInt} {
				l[i].Kind = kind
				wantModel(t, l, 0)
				if kind != api.TName && kind != api.TInt {
					want(t, l, 0, api.Node{}, i, api.ErrSyntax)
				}
			}
			l[i] = token
		}
	}
	for _, word := range samples.NodeWords() {
		for _, kind := range []int{api.TEnd, api.TName, api.TInt, 5, -1} {
			everywhere(t, append([]api.Token{{Kind: kind, N: 1, Text: word}}, some(t, "{ ok; }")...), api.Node{}, 0, api.ErrSyntax)
		}
	}
}

func TestP1101NamesAndNumbersAreAnyTNameAndTInt(t *testing.T) {
	for _, name := range []string{"", "a", "ok", "seq", "}", ";", "1", "a b", "é", samples.LongestName() + "n"} {
		for word, kind := range map[string]int{"do": api.NDo, "use": api.NUse, "plan": api.NPlan} {
			l := some(t, word+" a ;")
			l[1].Text = name
			everywhere(t, l, named(kind, name), 3, api.OK)
		}
		l := some(t, "set a := 1 ;")
		l[1].Text = name
		everywhere(t, l, set(name, number(1)), 5, api.OK)
	}
	numbers := []int{math.MinInt, math.MinInt + 1, -5, -1, 0, 1, math.MaxInt}
	for _, a := range numbers {
		l := some(t, "repeat 1 ok;")
		l[1].N = a
		everywhere(t, l, repeat(a, node(api.NOk)), 4, api.OK)
		for _, b := range numbers {
			l := some(t, "par 1 2 { ok; }")
			l[1].N, l[2].N = a, b
			everywhere(t, l, par(a, b, node(api.NOk)), 7, api.OK)
		}
	}
}

func TestP1101AMissingOrWrongToken(t *testing.T) {
	for text, at := range map[string]int{
		"ok": 1, "ok ok;": 1, "ok }": 1, "ok : ;": 1, "ok a;": 1, "ok 1;": 1, "ok { }": 1, "fail": 1, "fail fail;": 1, "wait": 1, "wait wait;": 1, "wait 3;": 1,
		"do": 1, "do ;": 1, "do seq;": 1, "do ok;": 1, "do 1;": 1, "do 'a;": 1, "do (a);": 1, "do a": 2, "do a b;": 2, "do a }": 2, "do a := 1;": 2, "do a, b;": 2,
		"use": 1, "use ;": 1, "use self;": 1, "use tree;": 1, "use 1;": 1, "use u": 2, "use u v;": 2, "use u { }": 2,
		"plan": 1, "plan ;": 1, "plan plan;": 1, "plan domain;": 1, "plan 2;": 1, "plan p": 2, "plan p p;": 2,
		"if": 1, "if ;": 1, "if }": 1, "if seq": 1, "if a": 2, "if a b;": 2, "if a }": 2, "if a :": 2, "if a := 1;": 2, "if a +": 3, "if a + ;": 3, "if (a": 3, "if (a;": 3, "if a == b == c;": 4,
		"if (a, b;": 5, "if far a;": 2, "if far (a);": 4, "if - a;": 2, "if -;": 2, "if 'true;": 2, "if not;": 2, "if 1 2;": 2, "if a = b;": 2, "if a <= b;": 2, "if a < b < c;": 4, "if ok;": 1,
		"set": 1, "set ;": 1, "set 1 := 2;": 1, "set := 2;": 1, "set self := 2;": 1, "set 'a := 2;": 1, "set a": 2, "set a ;": 2, "set a = 2;": 2, "set a : = 2;": 2, "set a == 2;": 2, "set a 2;": 2,
		"set a :=": 3, "set a := ;": 3, "set a := }": 3, "set a := ok;": 3, "set a := 1": 4, "set a := 1 }": 4, "set a := 1 2;": 4, "set a := b := 1;": 4, "set a := (1, 2;": 7, "set a := 1 < 2 < 3;": 6,
		"not": 1, "not ;": 1, "not }": 1, "not a;": 1, "not true;": 1, "not ok": 2, "not ok }": 2, "not not": 2, "not not ;": 2, "not { ok; }": 1, "not (ok;)": 1, "not do": 2,
		"repeat": 1, "repeat ;": 1, "repeat ok;": 1, "repeat a ok;": 1, "repeat - 1 ok;": 1, "repeat 1": 2, "repeat 1;": 2, "repeat 1 2 ok;": 2, "repeat 1 { ok; }": 2, "repeat 1 a;": 2, "repeat 1 ok": 3, "repeat (1) ok;": 1,
		"seq": 1, "seq ok;": 1, "seq ( ok; )": 1, "seq 1 { ok; }": 1, "seq a { ok; }": 1, "seq }": 1, "seq {": 2, "seq { }": 2, "seq { ; }": 2, "seq { a; }": 2, "seq { 1 : ok; }": 2, "seq { { ok; } }": 2, "seq { ok }": 3, "seq { ok;": 4, "seq { ok; ;": 4, "seq { ok; ; }": 4,
		"seq { ok; a": 4, "seq { ok; )": 4, "seq { ok; {": 4, "seq { ok; key": 4, "seq { ok; fail": 5, "seq { ok, fail; }": 3, "seq { seq { ok; }": 7, "seq { seq { } }": 4,
		"sel": 1, "sel }": 1, "sel {": 2, "sel { }": 2, "sel { ok;": 4, "mseq {": 2, "mseq { }": 2, "mseq { fail }": 3, "msel": 1, "msel { }": 2, "msel { ok; true }": 4,
		"par": 1, "par { ok; }": 1, "par ;": 1, "par a 1 { ok; }": 1, "par - 1 1 { ok; }": 1, "par 1": 2, "par 1 { ok; }": 2, "par 1 a { ok; }": 2, "par 1 - 1 { ok; }": 2, "par 1, 1 { ok; }": 2, "par 1 1": 3, "par 1 1 ok;": 3, "par 1 1 1 { ok; }": 3, "par 1 1 {": 4, "par 1 1 { }": 4, "par 1 1 { ok; ok }": 7, "par (1) 1 { ok; }": 1, "par 1 1 ;": 3,
		"pick": 1, "pick ok;": 1, "pick 1 : ok;": 1, "pick {": 2, "pick { }": 2, "pick { ok; }": 2, "pick { : ok; }": 2, "pick { ; }": 2, "pick { 1": 3, "pick { 1 }": 3, "pick { 1 ok; }": 3, "pick { 1 ; ok; }": 3, "pick { 1 := ok; }": 3, "pick { 1 :": 4, "pick { 1 : }": 4, "pick { 1 : ; }": 4, "pick { 1 : a; }": 4,
		"pick { 1 : 2 : ok; }": 4, "pick { 1 : ok }": 5, "pick { 1 : ok;": 6, "pick { 1 : ok; ok; }": 6, "pick { 1 : ok; ; }": 6, "pick { 1 : ok; 2 }": 7, "pick { 1 : ok; 2 : }": 8, "pick { 1 : ok; 2 : fail }": 9, "pick { 1 : ok; : fail; }": 6, "pick { a + : ok; }": 4, "pick { (a : ok; }": 4, "pick { a b : ok; }": 3, "pick { a == b == c : ok; }": 5, "pick { 1 : ok; if a; }": 6,
		"": 0, ";": 0, "}": 0, "{": 0, "a": 0, "a;": 0, "1": 0, "1;": 0, "true;": 0, "( ok; )": 0, "{ ok; }": 0, "tree t { ok; }": 0, "key": 0, "and": 0, "'ok;": 0, "- 1;": 0, "var": 0, "need": 0, "self;": 0, ":= 1;": 0, ": ok;": 0,
	} {
		wantWrong(t, text, at, api.ErrSyntax)
		wantModel(t, lexed(t, text), 0)
	}
}

// examples lists texts of nodes with all that may be in them, but with no more than
// a few nodes between braces.
func examples() []string {
	list := []string{
		"seq { if a + 1 < b and not c; set a := (1, - 2); sel { do x; use y; plan z; } }",
		"par 3 4 { pick { 1: ok; a == 'b or far(c, d) < 5: mseq { fail; } } repeat 7 not wait; }",
		"msel { not not repeat 1 repeat 2 not seq { ok; } par 0 0 { par 1 1 { ok; } ok; } }",
	}
	for text := range plain() {
		list = append(list, text)
	}
	slices.Sort(list)
	return list
}

func TestP1101ANodeThatEndsTooEarly(t *testing.T) {
	for _, text := range examples() {
		l := some(t, text)
		for i := range l {
			// No beginning of a node is one.
			everywhere(t, l[:i], api.Node{}, i, api.ErrSyntax)
			everywhere(t, slices.Concat(l[:i], []api.Token{{Kind: api.TEnd}}), api.Node{}, i, api.ErrSyntax)
			for _, token := range foreign() {
				everywhere(t, slices.Concat(l[:i], []api.Token{token}), api.Node{}, i, api.ErrSyntax)
				want(t, slices.Concat(l[:i], []api.Token{token}, l[i:]), 0, api.Node{}, i, api.ErrSyntax)
				want(t, slices.Concat(l[:i], []api.Token{token}, l[i+1:]), 0, api.Node{}, i, api.ErrSyntax)
			}
		}
	}
}

func TestP1101EachTokenReplacedLeftOutOrDoubled(t *testing.T) {
	for _, text := range examples() {
		l := lexed(t, text)
		for i := range l {
			wantModel(t, slices.Delete(slices.Clone(l), i, i+1), 0)
			wantModel(t, slices.Insert(slices.Clone(l), i, l[i]), 0)
			for _, token := range samples.Tokens() {
				wantModel(t, slices.Concat(l[:i], []api.Token{token}, l[i+1:]), 0)
				wantModel(t, slices.Concat(l[:i], []api.Token{token}, l[i:]), 0)
				wantModel(t, slices.Concat(l[:i], []api.Token{token}), 0)
			}
		}
	}
}

func TestP1101AnErrorWithinAnExpression(t *testing.T) {
	deep := strings.Repeat("(", api.MaxDeep)
	chain := strings.Repeat("a + ", api.MaxDeep) + "a"
	for _, x := range []struct {
		text string
		at   int
		err  api.Errno
	}{
		{"", 0, api.ErrSyntax}, {"a +", 2, api.ErrSyntax}, {"(a", 2, api.ErrSyntax}, {"(a, b", 4, api.ErrSyntax}, {"far", 1, api.ErrSyntax}, {"- a", 1, api.ErrSyntax}, {"' 5", 1, api.ErrSyntax}, {"not", 1, api.ErrSyntax},
		{deep + "a", api.MaxDeep, api.ErrDeep}, {deep, api.MaxDeep, api.ErrDeep}, {deep + ")", api.MaxDeep, api.ErrDeep}, {chain, 2*api.MaxDeep + 1, api.ErrDeep}, {chain + " + 1", 2*api.MaxDeep + 1, api.ErrDeep}, {"(" + chain + ")", 2*api.MaxDeep + 2, api.ErrDeep},
	} {
		for _, ahead := range []string{"if", "set a :=", "pick {", "pick { 1: ok;", "seq { if", "not set a :=", "pick { 1: pick { 2: ok; } "} {
			for _, behind := range []string{"", ";", "}", ": ok;", "ok;"} {
				if x.text == "" && behind == "}" && strings.Contains(ahead, "ok;") {
					continue
				}
				at := len(some(t, ahead)) + x.at
				wantWrong(t, ahead+" "+x.text+" "+behind, at, x.err)
				wantModel(t, lexed(t, ahead+" "+x.text+" "+behind), 0)
			}
		}
	}
	// What expr.Parse does not take for a name or a number is none in an expression.
	for _, token := range []api.Token{{Kind: api.TName, Text: "seq"}, {Kind: api.TName}, {Kind: api.TInt, N: math.MinInt}} {
		for _, ahead := range []string{"if", "set a :=", "pick {"} {
			first := some(t, ahead)
			l := slices.Concat(first, []api.Token{token}, some(t, ": ok; }"))
			_, to, err := expr.Parse(l, len(first))
			want(t, l, 0, api.Node{}, to, err)
		}
	}
}

func TestP1101AtMustBeAnIndex(t *testing.T) {
	for _, text := range append(examples(), "", "a", "seq {", strings.Repeat("not ", 50)) {
		for _, l := range [][]api.Token{lexed(t, text), some(t, text)} {
			for _, at := range []int{math.MinInt, math.MinInt + 1, -len(l), -2, -1, len(l), len(l) + 1, 2 * len(l), math.MaxInt - 1, math.MaxInt} {
				if at < 0 || at >= len(l) {
					want(t, l, at, api.Node{}, len(l), api.ErrSyntax)
				}
			}
		}
	}
	for _, l := range [][]api.Token{nil, {}, make([]api.Token, 0, 9), some(t, "ok; fail;")[:0]} {
		for _, at := range []int{math.MinInt, -1, 0, 1, math.MaxInt} {
			want(t, l, at, api.Node{}, 0, api.ErrSyntax)
		}
	}
	// What lies behind the list is not read.
	l := some(t, "seq { ok; } fail;")
	for n := range 5 {
		want(t, l[:n], 0, api.Node{}, n, api.ErrSyntax)
	}
	want(t, l[:5], 0, node(api.NSeq, node(api.NOk)), 5, api.OK)
	want(t, l[:5], 5, api.Node{}, 5, api.ErrSyntax)
}

func TestP1101AnyIndexOfAList(t *testing.T) {
	for _, text := range append(examples(), "ok; ok; seq { do x; }", "} ; 1 a not", "key own a int; tree t { not ok; } domain d { }") {
		l := lexed(t, text)
		for at := range l {
			wantModel(t, l, at)
			wantModel(t, samples.Other(l), at)
		}
	}
	l := some(t, "seq { do x; not repeat 2 use y; }")
	want(t, l, 2, named(api.NDo, "x"), 5, api.OK)
	want(t, l, 5, node(api.NNot, repeat(2, named(api.NUse, "y"))), 11, api.OK)
	want(t, l, 6, repeat(2, named(api.NUse, "y")), 11, api.OK)
	want(t, l, 8, named(api.NUse, "y"), 11, api.OK)
	want(t, l, 11, api.Node{}, 11, api.ErrSyntax)
	want(t, l, 1, api.Node{}, 1, api.ErrSyntax)
}

func TestP1101TheFirstOfTwoErrorsCounts(t *testing.T) {
	many := "seq {" + strings.Repeat("ok;", api.MaxKids+1) + "}"
	deep := strings.Repeat("not ", api.MaxDeep) + "ok;"
	n := 2 + 2*api.MaxKids
	wantWrong(t, "seq { ok; ; "+many, 4, api.ErrSyntax)
	wantWrong(t, "seq { ok; ; "+deep, 4, api.ErrSyntax)
	wantWrong(t, "seq { "+many+" ; } }", 2+n, api.ErrMany)
	wantWrong(t, "seq { "+deep+" ; }", 1+api.MaxDeep, api.ErrDeep)
	wantWrong(t, "seq { "+deep+many, 1+api.MaxDeep, api.ErrDeep)
	wantWrong(t, "seq { "+many+deep, 2+n, api.ErrMany)
	wantWrong(t, "seq { if a b; "+many, 4, api.ErrSyntax)
	wantWrong(t, "seq { if ("+many, 4, api.ErrSyntax)
	wantWrong(t, "pick { 1 "+many, 3, api.ErrSyntax)
	wantWrong(t, "pick { "+strings.Repeat("(", api.MaxDeep)+many, 2+api.MaxDeep, api.ErrDeep)
	wantWrong(t, "par 1 a { "+many, 2, api.ErrSyntax)
	wantWrong(t, "par a b { }", 1, api.ErrSyntax)
	wantWrong(t, "set 1 = ;", 1, api.ErrSyntax)
	wantWrong(t, "repeat x y", 1, api.ErrSyntax)
	wantWrong(t, "do 1 2", 1, api.ErrSyntax)
	wantWrong(t, strings.Repeat("not ", api.MaxDeep-1)+"x "+deep, api.MaxDeep-1, api.ErrSyntax)
	wantWrong(t, strings.Repeat("not ", api.MaxDeep-1)+"seq x "+deep, api.MaxDeep, api.ErrSyntax)
	wantWrong(t, strings.Repeat("not ", api.MaxDeep-1)+"seq { "+many, api.MaxDeep+1, api.ErrDeep)
	wantWrong(t, strings.Repeat("not ", api.MaxDeep-2)+many, api.MaxDeep-2+n, api.ErrMany)
	// Behind the end of the node, nothing counts.
	everywhere(t, some(t, "ok; "+many+deep), node(api.NOk), 2, api.OK)
}

func TestP1101EveryShortList(t *testing.T) {
	for _, x := range []struct {
		ahead, words string
		n            int
	}{
		{"", "seq { } ok ; not", 6},
		{"", "repeat 1 ok ; a -", 5},
		{"", "pick { } 1 : ok ;", 6},
		{"", "set a := 1 ; if +", 5},
		{"", "do a ; ' if", 5},
		{"par", "1 { } wait ; a", 6},
		{"", "sel mseq msel use plan fail ; { } a", 5},
		{"seq {", "ok ; } seq { not", 6},
		{"pick { 1 :", "ok ; } 2 : pick {", 6},
		{"seq {" + strings.Repeat("ok;", api.MaxKids-1), "ok ; } seq { not", 6},
		{"pick {" + strings.Repeat("1: ok;", api.MaxKids-1), "ok ; } 1 : {", 6},
		{strings.Repeat("not ", api.MaxDeep-2), "not seq { ok ; }", 6},
		{strings.Repeat("pick { 1: ", api.MaxDeep-1), "not pick { 1 : ok ; }", 5},
	} {
		everyList(some(t, x.ahead), some(t, x.words), x.n, func(l []api.Token) { wantModel(t, l, 0) })
	}
}

// everyList does it for all lists of up to n of these tokens, behind what stands
// ahead of them.
func everyList(ahead, some []api.Token, n int, do func(l []api.Token)) {
	do(ahead)
	if n == 0 {
		return
	}
	for _, token := range some {
		everyList(append(slices.Clone(ahead), token), some, n-1, do)
	}
}

func TestP1101RandomNodes(t *testing.T) {
	d := dice{1101}
	deepest := 0
	for range 3000 {
		n := d.Node(1+d.Roll(api.MaxDeep), d.Roll(100))
		text := strings.Join(samples.WrittenNode(n), " ")
		l := some(t, text)
		want(t, l, 0, n, len(l), api.OK)
		want(t, samples.Other(l), 0, n, len(l), api.OK)
		wantModel(t, l, 0)
		deepest = max(deepest, depth(n))
	}
	if deepest < 10 {
		t.Fatalf("the nodes are nested %d deep only", deepest)
	}
}

func TestP1101RandomErrors(t *testing.T) {
	d := dice{11}
	got := map[api.Errno]int{}
	for range 20000 {
		l := some(t, strings.Join(samples.WrittenNode(d.Node(1+d.Roll(12), d.Roll(50))), " "))
		for range 1 + d.Roll(3) {
			i := d.Roll(len(l))
			switch d.Roll(6) {
			case 0:
				l = slices.Delete(l, i, i+1)
			case 4:
				l = slices.Insert(l, i, slices.Repeat(some(t, pick(&d, "ok;", "1: ok;", "not wait;")), d.Roll(2*api.MaxKids))...)
			case 1:
				l = slices.Insert(l, i, pick(&d, samples.Tokens()...))
			case 2:
				l = slices.Insert(l, i, some(t, d.loose())...)
			case 3:
				l = slices.Insert(l, i, slices.Clone(l[d.Roll(i+1):i])...)
			default:
				l[i] = pick(&d, samples.Tokens()...)
			}
			if len(l) == 0 {
				break
			}
		}
		got[wantModel(t, l, 0)]++
		if len(l) > 0 {
			wantModel(t, l, d.Roll(len(l)))
		}
	}
	if got[api.OK] < 500 || got[api.ErrSyntax] < 5000 || got[api.ErrMany] < 20 {
		t.Fatalf("the errors are %v", got)
	}
}

func TestP1101LongLists(t *testing.T) {
	// As many nodes as there are within four braces, one in the other.
	n, l := node(api.NOk), some(t, "ok;")
	for range 4 {
		n = node(api.NSeq, slices.Repeat([]api.Node{n}, api.MaxKids)...)
		l = slices.Concat(some(t, "seq {"), slices.Repeat(l, api.MaxKids), some(t, "}"))
	}
	want(t, l, 0, n, len(l), api.OK)
	want(t, l[:len(l)-1], 0, api.Node{}, len(l)-1, api.ErrMany)
	want(t, append(slices.Clone(l[:len(l)-1]), l[0]), 0, api.Node{}, len(l)-1, api.ErrMany)
	l = slices.Repeat(some(t, "not "), 1<<20)
	want(t, l, 0, api.Node{}, api.MaxDeep, api.ErrDeep)
	want(t, l, len(l)-1, api.Node{}, len(l), api.ErrSyntax)
	l = slices.Repeat(some(t, "ok; "), 1<<20)
	want(t, l, 1<<20, node(api.NOk), 1<<20+2, api.OK)
	if _, to, err := tree.Node(slices.Concat(some(t, "seq {"), l), 0); to != 2+2*api.MaxKids || err != api.ErrMany {
		t.Fatalf("Node of a long list: %d, error %d", to, err)
	}
}
