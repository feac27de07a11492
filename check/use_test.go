package check_test

import (
	"fmt"
	"slices"
	"strings"
	"testing"

	"puppeteer/api"
	"puppeteer/samples"
)

func TestP1302TheTreesOfARing(t *testing.T) {
	for _, c := range []struct{ text, name string }{
		{"tree t { use t; }", "t"}, {"tree s { ok; } tree t { not not use t; }", "t"}, {"tree a { use b; } tree b { use a; }", "a"}, {"tree b { use a; } tree a { use b; }", "b"},
		{"tree a { use b; } tree b { use c; } tree c { use a; }", "a"},
		// A tree that leads into a ring is not in it.
		{"tree a { use b; } tree b { use b; }", "b"}, {"tree a { use b; } tree b { seq { ok; use c; } } tree c { not use b; }", "b"}, {"tree a { seq { use b; use c; } } tree b { ok; } tree c { use d; } tree d { use e; } tree e { use d; }", "d"},
		{"tree a { use c; } tree b { use c; } tree c { use d; } tree d { use d; }", "d"}, {"tree d { use d; } tree a { use d; }", "d"},
		// Nor is one that a ring leads to.
		{"tree a { ok; } tree b { seq { use a; use b; } }", "b"}, {"tree a { use e; } tree e { ok; } tree b { seq { use a; use c; } } tree c { seq { use a; use b; } }", "b"},
		// Of several rings, the tree that is first counts.
		{"tree a { use a; } tree b { use b; }", "a"}, {"tree a { use d; } tree b { use c; } tree c { use b; } tree d { use d; }", "b"}, {"tree a { use b; } tree b { seq { use c; use d; } } tree c { use b; } tree d { use d; }", "b"},
		{"tree a { seq { use b; use c; } } tree b { use d; } tree c { use a; } tree d { use b; }", "a"}, {"tree a { seq { use b; use c; } } tree b { use d; } tree c { ok; } tree d { use b; }", "b"},
		// No ring.
		{"tree a { seq { use b; use b; use b; } } tree b { ok; }", ""}, {"tree a { seq { use b; use c; } } tree b { use d; } tree c { use d; } tree d { ok; }", ""}, {"tree a { seq { use c; use b; use d; } } tree b { seq { use c; use d; } } tree c { use d; } tree d { fail; }", ""},
		{"tree d { ok; } tree c { use d; } tree b { seq { use d; use c; } } tree a { seq { use d; use c; use b; use b; } }", ""}, {"tree a { do a; } tree b { plan b; } domain b { }", ""},
	} {
		wantText(t, c.text, c.name, map[bool]api.Errno{true: api.OK, false: api.ErrRing}[c.name == ""])
	}
}

func TestP1302AUseAnywhereInATree(t *testing.T) {
	for _, around := range []string{"%s", "not %s", "repeat 5 %s", "seq { %s }", "seq { ok; %s }", "sel { %s fail; }", "mseq { ok; ok; %s ok; }", "msel { use z; %s }", "par 1 1 { use z; %s }", "pick { 1: %s }", "pick { 1: use z; 2: %s 3: use z; }", "seq { seq { use z; } sel { not use z; not mseq { %s } } }"} {
		one := fmt.Sprintf(around, "use a;")
		wantText(t, "tree a { "+one+" } tree z { ok; }", "a", api.ErrRing)
		wantText(t, "tree z { ok; } tree b { "+one+" } tree a { ok; }", "", api.OK)
		for _, around := range []string{"%s", "not %s", "seq { use z; %s use z; }", "pick { 1: ok; 2: %s }"} {
			other := fmt.Sprintf(around, "use b;")
			wantText(t, "tree z { ok; } tree b { "+one+" } tree a { "+other+" }", "b", api.ErrRing)
			wantText(t, "tree c { use b; } tree z { ok; } tree a { "+other+" } tree b { "+one+" } ", "a", api.ErrRing)
			wantText(t, "tree c { use b; } tree z { ok; } tree a { "+other+" } tree b { seq { use c; "+one+" } } ", "c", api.ErrRing)
		}
	}
}

// graph is a program of n trees, of which each uses those whose bits are set in some
// bits of a number.
func graph(n, bits int) api.Program {
	var p api.Program
	for i := range n {
		one := api.Tree{Name: fmt.Sprint("t", i), Root: api.Node{Kind: api.NSeq, Kids: []api.Node{{Kind: api.NOk}}}}
		for j := range n {
			if bits>>(i*n+j)&1 > 0 {
				one.Root.Kids = append(one.Root.Kids, api.Node{Kind: api.NUse, Name: fmt.Sprint("t", j)})
			}
		}
		p.Trees = append(p.Trees, one)
	}
	return p
}

// wantGraph checks what Check answers for such a program, by the model, and tells
// whether there is a ring.
func wantGraph(t *testing.T, n, bits int) bool {
	t.Helper()
	p := graph(n, bits)
	f := modelCheck(p)
	want(t, p, f.name, f.err)
	return f.err == api.ErrRing
}

func TestP1302EveryGraphOfFewTrees(t *testing.T) {
	for n, want := range map[int]int{1: 1, 2: 13, 3: 487} {
		rings := 0
		for bits := range 1 << (n * n) {
			if wantGraph(t, n, bits) {
				rings++
			}
		}
		if rings != want {
			t.Fatalf("of %d trees, %d have rings; want %d", n, rings, want)
		}
	}
	d := samples.Dice(1302)
	rings := 0
	for range 4000 {
		// Few uses, of four to seven trees.
		n := 4 + d.Roll(4)
		bits := 0
		for range 1 + d.Roll(2*n) {
			bits |= 1 << d.Roll(n*n)
		}
		if wantGraph(t, n, bits) {
			rings++
		}
	}
	if rings < 1000 || rings > 3500 {
		t.Fatalf("%d have rings", rings)
	}
}

// chain is a text of trees from t0 on, of which each uses the next one.
func chain(n int, last string) string {
	text := ""
	for i := range n - 1 {
		text += fmt.Sprintf("tree t%d { use t%d; } ", i, i+1)
	}
	return text + fmt.Sprintf("tree t%d { %s } ", n-1, last)
}

func TestP1302LongRings(t *testing.T) {
	for n := 1; n <= api.MaxTrees; n += 3 {
		wantText(t, chain(n, "ok;"), "", api.OK)
		for to := 0; to < n; to += 1 + n/10 {
			last := fmt.Sprintf("use t%d;", to)
			wantText(t, chain(n, last), fmt.Sprint("t", to), api.ErrRing)
			wantText(t, chain(n, "seq { ok; "+last+" }"), fmt.Sprint("t", to), api.ErrRing)
			// In the other order, the last one is named.
			trees := strings.SplitAfter(chain(n, last), "} ")
			slices.Reverse(trees)
			wantText(t, strings.Join(trees, " "), fmt.Sprint("t", n-1), api.ErrRing)
		}
	}
}

func TestP1302ARingBehindAllNodesAndAheadOfAllSizes(t *testing.T) {
	ring := "tree a { use b; } tree b { use a; } "
	deep := "tree z { " + strings.Repeat("not ", api.MaxDeep-1) + "use y; } tree y { not ok; } "
	large := "tree l { " + full(api.MaxNodes, "ok;") + " } "
	for one, err := range badNodes() {
		wantText(t, ring+tenKeys+"tree c { "+one+" }", "c", err)
		wantText(t, deep+ring+tenKeys+"tree c { "+one+" }", "c", err)
		wantText(t, large+tenKeys+"tree c { "+one+" }", "c", err)
	}
	wantText(t, deep, "z", api.ErrDeep)
	wantText(t, large, "l", api.ErrMany)
	wantText(t, deep+ring, "a", api.ErrRing)
	wantText(t, large+ring, "a", api.ErrRing)
	wantText(t, deep+large, "z", api.ErrDeep)
	wantText(t, large+deep, "l", api.ErrMany)
	// In the same tree.
	wantText(t, "tree t { seq { "+strings.Repeat("not ", api.MaxDeep-2)+"use u; use t; } } tree u { not ok; }", "t", api.ErrRing)
	wantText(t, "tree t { seq { "+full(api.MaxNodes, "ok;")+" use t; } }", "t", api.ErrRing)
}

// nots is the text of a node that is nested so deep.
func nots(deep int, inner string) string { return strings.Repeat("not ", deep-1) + inner }

func TestP1302HowDeepATreeMayBe(t *testing.T) {
	for deep := 1; deep <= api.MaxDeep; deep++ {
		wantRight(t, "tree t { "+nots(deep, "ok;")+" }")
		// The tree that is used begins where its use stands.
		for _, inner := range []int{1, api.MaxDeep - deep, api.MaxDeep - deep + 1, api.MaxDeep - deep + 2, api.MaxDeep} {
			if inner < 1 || inner > api.MaxDeep {
				continue
			}
			name, err := "", api.OK
			if deep-1+inner > api.MaxDeep {
				name, err = "t", api.ErrDeep
			}
			wantText(t, "tree t { "+nots(deep, "use u;")+" } tree u { "+nots(inner, "ok;")+" }", name, err)
			wantText(t, "tree u { "+nots(inner, "ok;")+" } tree s { use u; } tree t { "+nots(deep, "use s;")+" }", name, err)
			if deep > 1 {
				wantText(t, "tree t { "+nots(deep-1, "seq { ok; use u; }")+" } tree u { "+nots(inner, "fail;")+" }", name, err)
			}
		}
	}
	// A use itself is no node of the result.
	wantRight(t, "tree t { "+nots(api.MaxDeep, "use u;")+" } tree u { use v; } tree v { use w; } tree w { ok; }")
	wantText(t, "tree t { "+nots(api.MaxDeep, "use u;")+" } tree u { use v; } tree v { use w; } tree w { not ok; }", "t", api.ErrDeep)
	wantText(t, "tree w { not ok; } tree v { use w; } tree u { seq { use v; "+nots(api.MaxDeep-1, "use v;")+" } } tree t { use u; }", "u", api.ErrDeep)
	wantRight(t, "tree w { not ok; } tree v { use w; } tree u { seq { use v; "+nots(api.MaxDeep-2, "use v;")+" } } tree t { use u; }")
	// Ten trees, each 4 deep, or one of them deeper.
	for extra := range 2 {
		for at := range 10 {
			text := ""
			for i := range 10 {
				deep := 5
				if i == 9 {
					deep = 4
				}
				if i == at {
					deep += extra
				}
				inner := fmt.Sprintf("use t%d;", i+1)
				if i == 9 {
					inner = "ok;"
				}
				text += fmt.Sprintf("tree t%d { %s } ", i, nots(deep, inner))
			}
			wantText(t, text, []string{"", "t0"}[extra], []api.Errno{api.OK, api.ErrDeep}[extra])
		}
	}
}

// sized is the text of a node that has n nodes in all, of which each leaf stands for
// one.
func sized(n int, leaf string) string {
	leaves, have := n+1, n+1
	for have > n {
		leaves--
		have = leaves
		for wide := leaves; wide > 1; {
			wide = (wide + api.MaxKids - 1) / api.MaxKids
			have += wide
		}
	}
	// What is missing stands around all.
	return nots(n-have+1, full(leaves, leaf))
}

func TestP1302HowManyNodesATreeMayHave(t *testing.T) {
	for _, leaf := range []string{"ok;", "use u;"} {
		for n := api.MaxNodes - 5; n <= api.MaxNodes+5; n++ {
			name, err := "", api.OK
			if n > api.MaxNodes {
				name, err = "t", api.ErrMany
			}
			text := sized(n, leaf)
			if got := strings.Count(text, leaf) + strings.Count(text, "seq") + strings.Count(text, "not"); got != n {
				t.Fatalf("%d nodes; want %d", got, n)
			}
			wantText(t, "tree t {"+text+"} tree u { wait; }", name, err)
			wantText(t, "tree u { use v; } tree v { fail; } tree t {"+text+"}", name, err)
			wantText(t, "tree a { use t; } tree u { use v; } tree v { fail; } tree t {"+text+"}", strings.Replace(name, "t", "a", 1), err)
		}
	}
	// Each use of a tree counts anew, with all its nodes.
	for inner := 1; inner <= 600; inner += 37 {
		for uses := 1; uses <= api.MaxKids; uses++ {
			name, err := "", api.OK
			if 1+uses*inner > api.MaxNodes {
				name, err = "t", api.ErrMany
			}
			wantText(t, "tree t { seq {"+strings.Repeat("use u; ", uses)+"} } tree u {"+sized(inner, "ok;")+"}", name, err)
		}
	}
	for _, inner := range []int{266, 267, 249, 250} {
		for rest := range 20 {
			text := "tree t { sel { seq {" + strings.Repeat("use u; ", 15) + "} " + nots(rest+1, "ok;") + "} } tree u {" + sized(inner, "wait;") + "}"
			name, err := "", api.OK
			if 3+15*inner+rest > api.MaxNodes {
				name, err = "t", api.ErrMany
			}
			wantText(t, text, name, err)
		}
	}
}

// fans is a text of trees of which each uses the next one so often, the last of which
// is z.
func fans(trees, uses int) string {
	text := "tree z { ok; } "
	for i := range trees {
		next := "z"
		if i > 0 {
			next = fmt.Sprint("t", i-1)
		}
		text += fmt.Sprintf("tree t%d { seq { %s} } ", i, strings.Repeat("use "+next+"; ", uses))
	}
	return text
}

func TestP1302TreesThatGrowByUses(t *testing.T) {
	for uses := 1; uses <= api.MaxKids; uses++ {
		for _, trees := range []int{1, 2, 3, 4, 5, 12, 20, 39, 40, 41, 99} {
			nodes, name, err := 1, "", api.OK
			for i := range trees {
				nodes = 1 + uses*nodes
				if nodes > api.MaxNodes {
					name, err = fmt.Sprint("t", i), api.ErrMany
					break
				}
				if i+2 > api.MaxDeep {
					name, err = fmt.Sprint("t", i), api.ErrDeep
					break
				}
			}
			wantText(t, fans(trees, uses), name, err)
		}
	}
	wantText(t, fans(3, 15), "", api.OK)
	wantText(t, fans(3, 16), "t2", api.ErrMany)
	wantText(t, fans(20, 2), "t10", api.ErrMany)
}

func TestP1302TooDeepOrTooManyWhicheverComesFirst(t *testing.T) {
	deep := nots(api.MaxDeep, "use d;")
	d := "tree d { not ok; } "
	behind := strings.Replace(deep, "not ", "", 1)
	many := full(api.MaxNodes-100, "ok;")
	for text, err := range map[string]api.Errno{
		"seq { " + behind + " " + many + " " + many + " }": api.ErrDeep, "seq { " + many + " " + many + " " + behind + " }": api.ErrMany, "seq { " + many + " " + behind + " " + many + " }": api.ErrMany,
		"seq { use m; " + behind + " }": api.ErrMany, "seq { " + behind + " use m; }": api.ErrDeep,
	} {
		wantText(t, "tree t { "+text+" } "+d+"tree m { seq { "+many+" "+many+" } }", "t", err)
	}
	// Behind the seq and these nodes, there are 38 nots, and in d a not and the ok that
	// is too deep. If it is one node too many as well, that comes second.
	for ahead := api.MaxNodes - 43; ahead < api.MaxNodes-36; ahead++ {
		err := api.ErrDeep
		if 1+ahead+38+1 > api.MaxNodes {
			err = api.ErrMany
		}
		text := "tree t { seq { " + sized(ahead, "ok;") + " " + behind + " } } "
		wantText(t, text+d, "t", err)
	}
}

func TestP1302TheFirstTreeThatIsTooDeepOrTooLarge(t *testing.T) {
	deep := "tree %s { " + nots(api.MaxDeep, "use d;") + " } "
	many := "tree %s { seq { use m; use m; } } "
	rest := "tree d { not ok; } tree m { " + full(api.MaxNodes-300, "ok;") + " } "
	for _, c := range []struct {
		text, name string
		err        api.Errno
	}{
		{deep + many + rest, "a", api.ErrDeep}, {many + deep + rest, "a", api.ErrMany}, {rest + deep + many, "a", api.ErrDeep}, {rest + many + deep, "a", api.ErrMany},
		{"tree %s { use d; } " + many + rest, "b", api.ErrMany}, {"tree %s { use d; } " + deep + rest, "b", api.ErrDeep}, {"tree %s { use b; } " + deep + rest, "a", api.ErrDeep}, {"tree %s { use b; } " + many + rest, "a", api.ErrMany},
		{"tree %s { not use b; } tree %s { not use d; } " + rest, "", api.OK},
	} {
		wantText(t, fmt.Sprintf(c.text, "a", "b"), c.name, c.err)
	}
}

func TestP1302RandomSizes(t *testing.T) {
	got := map[api.Errno]int{}
	d := samples.Dice(71302)
	for range 800 {
		n := 1 + d.Roll(16)
		text := ""
		for i := range n {
			inner := "ok;"
			if i+1 < n {
				var list []string
				for range 1 + d.Roll(8) {
					use := fmt.Sprintf("use t%d;", i+1+d.Few(min(2, n-i-2)))
					list = append(list, samples.Pick(&d, use, use, use, "ok;", nots(1+d.Roll(10), "ok;"), sized(1+d.Roll(40), "ok;")))
				}
				inner = "seq { " + strings.Join(list, " ") + " }"
			}
			text += fmt.Sprintf("tree t%d { %s } ", i, nots(1+d.Few(20), inner))
		}
		p := program(t, text)
		for range d.Roll(4) {
			i, j := d.Roll(n), d.Roll(n)
			p.Trees[i], p.Trees[j] = p.Trees[j], p.Trees[i]
		}
		f := modelCheck(p)
		got[f.err]++
		want(t, p, f.name, f.err)
	}
	if got[api.OK] < 100 || got[api.ErrDeep] < 100 || got[api.ErrMany] < 100 {
		t.Fatalf("the errors are %v", got)
	}
}
