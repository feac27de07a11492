package valid_test

import (
	"slices"
	"strings"
	"testing"

	"puppeteer/api"
	"puppeteer/check"
	"puppeteer/flat"
	"puppeteer/inline"
	"puppeteer/samples"
	"puppeteer/tree"
)

// parsed returns the program of a text, and whether Check accepts it.
func parsed(t *testing.T, text string) (api.Program, bool) {
	t.Helper()
	p, at, err := tree.Parse([]byte(text))
	if err != api.OK {
		t.Fatalf("Parse of %.300q: error %d at %d", text, err, at)
	}
	_, err = check.Check(p)
	return p, err == api.OK
}

// wantTrees checks that all trees of a program are right, and returns their lists.
func wantTrees(t *testing.T, p api.Program) [][]api.Flat {
	t.Helper()
	var lists [][]api.Flat
	for _, one := range p.Trees {
		root, err := inline.Tree(p.Trees, one.Name)
		if err != api.OK {
			t.Fatalf("Tree of %q: error %d", one.Name, err)
		}
		l := flat.Make(root)
		want(t, l, true)
		lists = append(lists, l)
	}
	return lists
}

// wantAccepted checks that Check accepts a text, and that all its trees are right.
func wantAccepted(t *testing.T, text string) [][]api.Flat {
	t.Helper()
	p, accepted := parsed(t, text)
	if !accepted {
		t.Fatalf("Check does not accept %.300q", text)
	}
	return wantTrees(t, p)
}

const everything = `
key own i int; key shared b bool; key own r ref; key own s sym; key own p point;
domain d { var i -1 9; act go cost 3 { need i <= 5; make i + 1; } goal i == 9; }
tree all {
	seq {
		sel { if b; if not b and i < -1; if self == r; if far(p, (0, 1)) < re turn p; }
		mseq { set i := i + 1; set b := true; set r := self; set s := 'seen; set p := (i, time); }
		msel { do go; plan d; wait; }
		par 1 2 { ok; fail; }
		not ok;
		repeat 1000 use other;
		pick { 0: use other; i * 2: use last; }
	}
}
tree other { use last; }
tree last { par 16 1 { ok; ok; ok; ok; ok; ok; ok; ok; ok; ok; ok; ok; ok; ok; ok; use single; } }
tree single { do a; }
`

func TestP1602AProgramWithEverything(t *testing.T) {
	lists := wantAccepted(t, everything)
	got := map[int]int{}
	for _, f := range lists[0] {
		got[f.Kind]++
	}
	// Three of them have the 17 nodes of last in them.
	if len(got) != 15 || got[api.NUse] != 0 || len(lists[0]) != 1+5+6+4+3+2+1+1+3*17 {
		t.Fatalf("%d nodes, of the kinds %v", len(lists[0]), got)
	}
}

func TestP1602RandomPrograms(t *testing.T) {
	t.Parallel()
	unread, accepted, rejected := 0, 0, 0
	kinds, lists := map[int]int{}, map[bool]int{}
	for seed := range 6000 {
		d := samples.Maker{Dice: samples.Dice(seed), Wrongs: []int{0, 0, 1, 3, 10}[seed%5]}
		made := d.Program()
		made.Keys = slices.DeleteFunc(made.Keys, func(k api.Key) bool { return k.Kind < api.KInt || k.Kind > api.KPoint })
		p, _, err := tree.Parse([]byte(d.Lay(samples.Written(made, d.Mix))))
		if err != api.OK {
			// It is too long, or a key has no name.
			unread++
			continue
		}
		if _, err := check.Check(p); err != api.OK {
			rejected++
			continue
		}
		accepted++
		for i, l := range wantTrees(t, p) {
			for _, f := range l {
				kinds[f.Kind]++
			}
			// A tree as it is written is not right if it has a use.
			written := flat.Make(p.Trees[i].Root)
			uses := slices.ContainsFunc(written, func(f api.Flat) bool { return f.Kind == api.NUse })
			want(t, written, !uses)
			lists[uses]++
		}
	}
	if unread > 500 || accepted < 2000 || rejected < 200 || lists[true] < 1000 || lists[false] < 1000 {
		t.Fatalf("%d are not read, %d accepted, %d not; trees with uses or without: %v", unread, accepted, rejected, lists)
	}
	for kind := range api.NWait + 1 {
		if (kinds[kind] > 500) != (kind != api.NUse) {
			t.Fatalf("the kinds are %v", kinds)
		}
	}
}

// between is so many times a text, between braces.
func between(n int, text string) string { return "{ " + strings.Repeat(text+" ", n) + "}" }

func TestP1602TreesAtTheLimits(t *testing.T) {
	long := samples.LongestName()
	deep := strings.Repeat("not ", 39)
	for _, text := range []string{
		"tree t { ok; }",
		"tree " + long + " { do " + long + "; }",
		"tree t { seq " + between(16, "wait;") + " }",
		"tree t { " + deep + "fail; }",
		"tree t { " + strings.Repeat("repeat 1 ", 39) + "fail; }",
		"tree t { " + strings.Repeat("seq { ok; ", 39) + "ok; " + strings.Repeat("} ", 39) + "}",
		"tree t { par 16 16 " + between(16, "ok;") + " } tree u { par 1 1 { use t; } }",
		"tree t { repeat 1 ok; } tree u { repeat 1000 use t; }",
		"key own b bool; tree t { if " + deep + "b; } tree u { if " + deep + "true; }",
		"key own p point; tree t { set p := " + strings.Repeat("turn ", 39) + "p; }",
		"tree t { pick " + between(16, "9223372036854775807: ok;") + " } tree u { pick { -9223372036854775807: use t; } }",
		"domain " + long + " { } tree t { plan " + long + "; }",
		// Trees in trees, which are as deep as may be in the end.
		"tree t { " + strings.Repeat("not ", 20) + "use u; } tree u { " + strings.Repeat("not ", 19) + "use v; } tree v { use w; } tree w { wait; }",
	} {
		wantAccepted(t, text)
	}
}

func TestP1602TreesThatGrowByUses(t *testing.T) {
	for inner := 1; inner <= 16; inner++ {
		for outer := 1; outer <= 16; outer++ {
			text := "tree a { seq " + between(outer, "use b;") + " } tree b { sel " + between(16, "use c;") + " } tree c { par 1 1 " + between(inner, "use d;") + " } tree d { fail; }"
			p, accepted := parsed(t, text)
			count := 1 + outer*(1+16*(1+inner))
			if accepted != (count <= 4000) {
				t.Fatalf("%d nodes: accepted %t", count, accepted)
			}
			if accepted {
				if l := wantTrees(t, p); len(l[0]) != count {
					t.Fatalf("%d nodes; want %d", len(l[0]), count)
				}
			}
		}
	}
	for nodes := 3990; nodes <= 4010; nodes++ {
		// 15 uses of a tree of 249 nodes, and a node of 241 in as many as are missing.
		inner := "seq { " + strings.Repeat("sel "+between(15, "ok;")+" ", 15) + "seq " + between(7, "ok;") + " }"
		rest := strings.Repeat("not ", nodes-1-15*249-241) + "seq { " + strings.Repeat("sel "+between(14, "ok;")+" ", 16) + "}"
		p, accepted := parsed(t, "tree t { seq { "+strings.Repeat("use u; ", 15)+rest+" } } tree u { "+inner+" }")
		if accepted != (nodes <= 4000) {
			t.Fatalf("%d nodes: accepted %t", nodes, accepted)
		}
		if accepted {
			if l := wantTrees(t, p); len(l[0]) != nodes {
				t.Fatalf("%d nodes; want %d", len(l[0]), nodes)
			}
		}
	}
}
