package inline_test

import (
	"fmt"
	"slices"
	"strings"
	"testing"

	"puppeteer/api"
	"puppeteer/samples"
)

func TestP1401ATreeWithoutUsesIsReturnedAsItIs(t *testing.T) {
	d := samples.Dice(1401)
	for range 500 {
		root := withoutUses(d.Node(1+d.Roll(12), d.Roll(100)))
		wantTree(t, []api.Tree{named("t", root)}, "t", root)
		wantTree(t, []api.Tree{named("s", ok()), named("t", root), named("u", use("t"))}, "t", root)
	}
	for kind := range api.NWait + 1 {
		if kind != api.NUse {
			wantTree(t, []api.Tree{named("t", node(kind))}, "t", node(kind))
		}
	}
}

// withoutUses makes each use an action.
func withoutUses(n api.Node) api.Node {
	if n.Kind == api.NUse {
		n.Kind = api.NDo
	}
	for i := range n.Kids {
		n.Kids[i] = withoutUses(n.Kids[i])
	}
	return n
}

// arounds lists texts of nodes, one of each kind that has kids and more, with a % in
// them where a node is to stand.
func arounds() []string {
	return []string{
		"%", "seq { % }", "sel { % }", "mseq { % }", "msel { % }", "par 1 1 { % }", "not %", "repeat 3 %", "pick { 1: % }",
		"seq { ok; % }", "sel { % fail; }", "mseq { ok; not wait; % do a; }", "msel { ok; plan d; % }", "par 2 3 { set a := 'b; % if a == 1; }", "pick { a: ok; 2: % 3 + b: not ok; }",
		"not not repeat 1 not %", "seq { seq { ok; not sel { fail; % } wait; } ok; }", "pick { 1: par 1 1 { mseq { msel { % } } } }",
		"seq { % % }", "sel { % ok; % not % }", "par 1 2 { seq { % } % }", "pick { 1: % 2: % 3: % }", "mseq { " + strings.Repeat("% ", api.MaxKids) + "}",
	}
}

func at(around, inner string) string { return strings.ReplaceAll(around, "%", inner) }

// root is the root of the tree of a text.
func root(t *testing.T, text string) api.Node {
	t.Helper()
	return trees(t, "tree t { "+text+" }")[0].Root
}

func TestP1401AUseAnywhereInATree(t *testing.T) {
	for _, around := range arounds() {
		for _, inner := range slices.Concat([]string{"ok;", "do x;", "if a + 1 < 2;", "set b := (1, 2);", "plan d;"}, strings.Split(at(strings.Join(arounds()[1:], "\n"), "wait;"), "\n")) {
			// What replaces the use stands in the text where the use stood.
			want := root(t, at(around, inner))
			text := "tree t { " + at(around, "use u;") + " } tree u { " + inner + " } tree v { fail; }"
			wantTree(t, trees(t, text), "t", want)
			l := trees(t, text)
			slices.Reverse(l)
			wantTree(t, l, "t", want)
			wantTree(t, l, "u", root(t, inner))
			wantTree(t, l, "v", fail())
		}
	}
}

func TestP1401UsesInWhatReplacesAUse(t *testing.T) {
	list := arounds()
	for i, first := range list {
		for j, second := range list {
			inner := list[(5*i+3*j)%len(list)]
			if strings.Count(first, "%")*strings.Count(second, "%")*strings.Count(inner, "%") > 30 {
				continue
			}
			text := fmt.Sprintf("tree c { %s } tree a { %s } tree b { %s } tree d { do x; }", at(inner, "use d;"), at(first, "use b;"), at(second, "use c;"))
			wantTree(t, trees(t, text), "a", root(t, at(first, at(second, at(inner, "do x;")))))
			wantTree(t, trees(t, text), "b", root(t, at(second, at(inner, "do x;"))))
			wantTree(t, trees(t, text), "c", root(t, at(inner, "do x;")))
		}
	}
}

// chain lists trees t0 to t(n - 1), each of which uses the next one in a not, if it is
// the wrap-th, and the last of which is some node.
func chain(n, wrap int, last api.Node) []api.Tree {
	var l []api.Tree
	for i := range n {
		root := use(fmt.Sprint("t", i+1))
		if i == n-1 {
			root = last
		} else if wrap > 0 && i%wrap == 0 {
			root = nots(1, root)
		}
		l = append(l, named(fmt.Sprint("t", i), root))
	}
	return l
}

func TestP1401ALongChainOfUses(t *testing.T) {
	for n := 1; n < 200; n += 1 + n/20 {
		for _, wrap := range []int{0, 5, 7, 50} {
			around := 0
			if wrap > 0 {
				around = (n - 2 + wrap) / wrap
			}
			for _, last := range []api.Node{ok(), fail(), seq(ok(), node(api.NSel, fail()))} {
				l := chain(n, wrap, last)
				if around > api.MaxDeep-3 {
					continue
				}
				wantTree(t, l, "t0", nots(around, last))
				slices.Reverse(l)
				wantTree(t, l, "t0", nots(around, last))
			}
		}
	}
}

func TestP1401ATreeThatIsUsedSeveralTimes(t *testing.T) {
	for n := 1; n <= 100; n++ {
		inner := node(api.NSel, ok(), node(api.NNot, fail()))
		l := []api.Tree{named("u", inner), named("t", wide(n, use("u"))), named("s", seq(use("t"), use("u"), use("t")))}
		wantTree(t, l, "t", wide(n, inner))
		wantTree(t, l, "s", seq(wide(n, inner), inner, wide(n, inner)))
	}
	// One after the other, and one below the other.
	l := []api.Tree{
		named("a", seq(use("b"), use("c"), use("b"), use("d"), nots(2, use("d")))), named("b", seq(use("c"), use("d"))), named("c", nots(1, use("d"))), named("d", ok()),
	}
	c := nots(1, ok())
	b := seq(c, ok())
	wantTree(t, l, "a", seq(b, c, b, ok(), nots(2, ok())))
	// A tree that a use of it is closed behind may be used again, also by a chain.
	l = []api.Tree{named("a", seq(use("x"), use("y"), use("z"), use("x"))), named("x", use("y")), named("y", use("z")), named("z", fail())}
	wantTree(t, l, "a", seq(fail(), fail(), fail(), fail()))
}

func TestP1401OfTwoTreesWithANameTheFirstCounts(t *testing.T) {
	first, second, third := seq(ok()), nots(3, fail()), node(api.NWait)
	for _, name := range []string{"t", "", "seq", "a b", "é", samples.LongestName() + "x"} {
		l := []api.Tree{named(name+"0", use(name)), named(name, first), named(name+"1", seq(ok(), use(name))), named(name, second), named(name, third), named(name+"2", use(name)), named(name+"1", fail())}
		wantTree(t, l, name, first)
		wantTree(t, l, name+"0", first)
		wantTree(t, l, name+"1", seq(ok(), first))
		wantTree(t, l, name+"2", first)
		wantTree(t, l[2:], name, second)
		wantTree(t, l[2:], name+"1", seq(ok(), second))
		wantTree(t, l[4:], name, third)
		wantTree(t, l[4:], name+"1", fail())
	}
	// What the second one uses does not count, nor is it another one than the first.
	l := []api.Tree{named("t", ok()), named("t", use("none")), named("t", use("t"))}
	wantTree(t, l, "t", ok())
	want(t, l[1:], "t", api.ErrName)
	want(t, l[2:], "t", api.ErrRing)
	l = []api.Tree{named("t", use("u")), named("u", use("t")), named("t", ok()), named("u", ok())}
	want(t, l, "t", api.ErrRing)
	want(t, l, "u", api.ErrRing)
	wantTree(t, l[1:], "u", ok())
	wantTree(t, l[2:], "t", ok())
}

func TestP1401NamesAreTheSameIfAllIsTheSame(t *testing.T) {
	names := []string{"", " ", "t", "T", "tt", "t ", " t", "t\x00", "\x00", "é", "e\u0301", "\xff", "\xfe", "use", samples.LongestName(), samples.LongestName() + "n"}
	var l []api.Tree
	for i, name := range names {
		l = append(l, named(name, api.Node{Kind: api.NRepeat, A: i}))
	}
	for i, name := range names {
		wantTree(t, l, name, api.Node{Kind: api.NRepeat, A: i})
		wantTree(t, append(l, named("user", seq(use(name), ok()))), "user", seq(api.Node{Kind: api.NRepeat, A: i}, ok()))
		rest := slices.Delete(slices.Clone(l), i, i+1)
		want(t, rest, name, api.ErrName)
		want(t, append(rest, named("user", seq(ok(), use(name)))), "user", api.ErrName)
	}
}

func TestP1401AllOfANodeStaysButForUses(t *testing.T) {
	x := func(n int) api.Expr {
		return api.Expr{Kind: n, N: -n, Name: fmt.Sprint("x", n), Kids: []api.Expr{{Kind: n + 1, N: n, Name: "y"}, {Name: "z", Kids: []api.Expr{{N: n}, {Kind: 99}}}}}
	}
	// Each kind, with all that a node may have, also where tree.Parse has nothing.
	full := func(kind int, kids ...api.Node) api.Node {
		return api.Node{Kind: kind, A: kind + 5, B: -kind - 7, Name: fmt.Sprint("n", kind), Expr: x(kind), Weights: []api.Expr{x(kind + 1), {}, x(-kind)}, Kids: kids}
	}
	for _, kind := range samples.OddNumbers() {
		if kind == api.NUse {
			continue
		}
		for _, other := range []int{api.NSeq, api.NPick, api.NOk, 99} {
			l := []api.Tree{
				named("t", full(kind, full(other), use("u"), full(kind, use("v"), full(other, use("u"))))), named("u", full(kind)), named("v", full(other, use("u"))),
			}
			u, v := full(kind), full(other, full(kind))
			wantTree(t, l, "u", u)
			wantTree(t, l, "v", v)
			wantTree(t, l, "t", full(kind, full(other), u, full(kind, v, full(other, u))))
		}
	}
	// Of a use, nothing stays.
	other := full(api.NUse, use("none"), full(api.NUse, nots(50, ok())))
	other.Name = "u"
	wantTree(t, []api.Tree{named("t", other), named("u", ok())}, "t", ok())
	wantTree(t, []api.Tree{named("t", seq(other, fail(), other)), named("u", full(api.NSel, ok()))}, "t", seq(full(api.NSel, ok()), fail(), full(api.NSel, ok())))
}

func TestP1401TreesThatAreNotUsedMayBeWrong(t *testing.T) {
	self := make([]api.Node, 1)
	self[0] = seq(self...)
	l := []api.Tree{
		named("t", seq(use("u"), ok())), named("u", nots(2, fail())),
		named("none", use("nothing")), named("r", use("r")), named("r1", use("r2")), named("r2", nots(1, use("r1"))), named("deep", nots(100, ok())), named("many", wide(5000, ok())),
		named("self", self[0]), named("odd", api.Node{Kind: -5, Expr: api.Expr{Kind: 99}}), named("", use("")), named("user", use("t")), named("users", seq(use("t"), use("users"))),
	}
	d := samples.Dice(141)
	for range 300 {
		for i := range l {
			j := d.Roll(i + 1)
			l[i], l[j] = l[j], l[i]
		}
		// Nor do further ones of the same names count.
		for _, behind := range [][]api.Tree{nil, {named("t", use("t")), named("u", use("none"))}} {
			all := slices.Concat(l, behind)
			same(t, all, "t", seq(nots(2, fail()), ok()), api.OK)
			same(t, all, "user", seq(nots(2, fail()), ok()), api.OK)
			same(t, all, "u", nots(2, fail()), api.OK)
		}
	}
}
