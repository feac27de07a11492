package check_test

import (
	"fmt"
	"math"
	"slices"
	"strconv"
	"strings"
	"testing"

	"puppeteer/api"
	"puppeteer/samples"
)

// inTree is a program with a tree of this node, ahead of and behind which there are
// others that are right.
func inTree(text string) string {
	return tenKeys + "domain d { var i 0 1; } tree first { seq { ok; use t; } } tree t { " + text + " } tree last { plan d; }"
}

// wantNode checks what Check answers for a tree of this node, alone and in others.
func wantNode(t *testing.T, text string, err api.Errno) {
	t.Helper()
	name := "t"
	if err == api.OK {
		name = ""
	}
	for _, around := range []string{"%s", "not %s", "repeat 3 %s", "seq { ok; %s fail; }", "par 1 2 { %s wait; }", "pick { i: do x; 2: %s }", "sel { mseq { %s } msel { ok; } }"} {
		wantText(t, inTree(fmt.Sprintf(around, text)), name, err)
	}
}

// typed lists expressions with their kinds, or a negative error.
func typed() map[string]int {
	return map[string]int{
		"1": api.KInt, "i": api.KInt, "I + 1": api.KInt, "re p": api.KInt, "true": api.KBool, "b": api.KBool, "i < 2": api.KBool, "s == S": api.KBool, "self": api.KRef, "R": api.KRef, "'b": api.KSym, "s": api.KSym,
		"(1, 2)": api.KPoint, "P": api.KPoint, "turn p": api.KPoint, "x": -int(api.ErrName), "not x": -int(api.ErrName), "x + (1 + true)": -int(api.ErrName), "t": -int(api.ErrName), "d": -int(api.ErrName), "1 + b": -int(api.ErrKind), "not 1": -int(api.ErrKind), "(1 + b) + x": -int(api.ErrKind),
	}
}

// asked is the error of an expression of a kind, or with a negative error, that is to
// be of this kind.
func asked(kind, want int) api.Errno {
	switch {
	case kind < 0:
		return api.Errno(-kind)
	case kind != want:
		return api.ErrKind
	}
	return api.OK
}

func TestP1302NodesWithoutAnythingToCheck(t *testing.T) {
	for _, text := range []string{"ok;", "fail;", "wait;", "do x;", "do t;", "do i;", "do " + samples.LongestName() + ";", "seq { ok; }", "sel { ok; fail; }", "mseq { wait; }", "msel { " + strings.Repeat("ok; ", api.MaxKids) + "}", "not ok;"} {
		wantNode(t, text, api.OK)
		wantText(t, "tree t { "+text+" }", "", api.OK)
	}
}

func TestP1302AnIf(t *testing.T) {
	for text, kind := range typed() {
		wantNode(t, "if "+text+";", asked(kind, api.KBool))
	}
	wantText(t, "tree t { if b; }", "t", api.ErrName)
	wantText(t, "tree t { if b; } key own b bool;", "", api.OK)
	wantText(t, "tree t { if b; } key shared b bool;", "", api.OK)
	wantText(t, "tree t { if b; } key own b int;", "t", api.ErrKind)
	wantText(t, "tree t { if time == 3; }", "", api.OK)
	wantText(t, "tree t { if time; }", "t", api.ErrKind)
}

func TestP1302ASet(t *testing.T) {
	for text, kind := range typed() {
		for _, k := range ten() {
			wantNode(t, "set "+k.Name+" := "+text+";", asked(kind, k.Kind))
		}
		for _, name := range []string{"x", "t", "d", "none", "ii"} {
			wantNode(t, "set "+name+" := "+text+";", api.ErrName)
		}
	}
	wantText(t, "tree t { set x := true + 1; }", "t", api.ErrName)
	wantText(t, "tree t { set x := x; } key own x ref;", "", api.OK)
	wantText(t, "tree t { set x := y; } key own x ref;", "t", api.ErrName)
	wantText(t, "tree t { set x := y; } key own x ref; key shared y ref;", "", api.OK)
}

func TestP1302APick(t *testing.T) {
	for one, kind := range typed() {
		first := asked(kind, api.KInt)
		wantNode(t, "pick { "+one+": ok; }", first)
		for two, kind := range typed() {
			second := asked(kind, api.KInt)
			if first != api.OK {
				second = first
			}
			wantNode(t, "pick { "+one+": ok; "+two+": ok; }", second)
			wantNode(t, "pick { i: ok; "+one+": ok; 7: ok; "+two+": fail; }", second)
		}
		// All weights ahead of all kids.
		if first == api.OK {
			first = api.ErrArg
		}
		wantNode(t, "pick { 1: repeat 0 ok; "+one+": ok; }", first)
		wantNode(t, "pick { "+one+": repeat 0 ok; 1: ok; }", first)
	}
	for n := 1; n <= api.MaxKids; n++ {
		for at := range n {
			texts := slices.Repeat([]string{"i: ok;"}, n)
			wantNode(t, "pick { "+strings.Join(texts, " ")+" }", api.OK)
			texts[at] = "b: if x;"
			wantNode(t, "pick { "+strings.Join(texts, " ")+" }", api.ErrKind)
			texts[at] = "none: if 1;"
			wantNode(t, "pick { "+strings.Join(texts, " ")+" }", api.ErrName)
			texts[at] = "I: if 1;"
			wantNode(t, "pick { "+strings.Join(texts, " ")+" }", api.ErrKind)
		}
	}
}

func TestP1302APlanAndAUse(t *testing.T) {
	for name, err := range map[string]api.Errno{"d": api.OK, "first": api.ErrName, "t": api.ErrName, "last": api.ErrName, "i": api.ErrName, "none": api.ErrName, "D": api.ErrName, "dd": api.ErrName} {
		wantNode(t, "plan "+name+";", err)
	}
	for name, err := range map[string]api.Errno{"last": api.OK, "first": api.ErrRing, "t": api.ErrRing, "d": api.ErrName, "i": api.ErrName, "none": api.ErrName, "Last": api.ErrName} {
		if err == api.ErrRing {
			wantText(t, inTree("use "+name+";"), map[string]string{"t": "t", "first": "first"}[name], err)
			continue
		}
		wantNode(t, "use "+name+";", err)
	}
	wantRight(t, "tree t { plan e; } domain d { } domain e { }")
	wantRight(t, "domain e { } tree t { plan e; } domain d { }")
	wantRight(t, "tree t { use u; } tree u { ok; }")
	wantRight(t, "tree u { ok; } tree t { use u; }")
	wantText(t, "tree u { ok; } tree t { use v; } tree w { plan u; }", "t", api.ErrName)
	wantText(t, "tree u { ok; } tree t { plan u; } tree w { use v; }", "t", api.ErrName)
}

func TestP1302APar(t *testing.T) {
	p := program(t, inTree("par 1 1 { ok; }"))
	for kids := 1; kids <= api.MaxKids; kids++ {
		numbers := []int{0, 1, 2, kids - 1, kids, kids + 1, kids + 2, api.MaxKids, api.MaxKids + 1, math.MaxInt, 1<<32 + 1}
		for _, a := range numbers {
			for _, b := range numbers {
				err := api.ErrArg
				if 1 <= a && a <= kids && 1 <= b && b <= kids {
					err = api.OK
				}
				wantNode(t, fmt.Sprintf("par %d %d { %s }", a, b, strings.Repeat("ok; ", kids)), err)
			}
			// Ones that no text has.
			for _, b := range []int{-1, -2, -kids, math.MinInt, -1<<32 + 1} {
				p.Trees[1].Root = api.Node{Kind: api.NPar, A: a, B: b, Kids: slices.Repeat([]api.Node{{Kind: api.NOk}}, kids)}
				want(t, p, "t", api.ErrArg)
				p.Trees[1].Root.A, p.Trees[1].Root.B = b, a
				want(t, p, "t", api.ErrArg)
			}
		}
	}
	// The number of its own kids counts, not that of the nodes in it.
	wantNode(t, "par 2 1 { seq { ok; ok; } }", api.ErrArg)
	wantNode(t, "par 1 2 { par 1 1 { ok; ok; ok; } }", api.ErrArg)
	wantNode(t, "par 2 2 { par 1 1 { ok; } ok; }", api.OK)
	wantNode(t, "par 1 1 { par 2 1 { ok; } ok; }", api.ErrArg)
}

func TestP1302ARepeat(t *testing.T) {
	for n, err := range map[int]api.Errno{0: api.ErrArg, 1: api.OK, 2: api.OK, 100: api.OK, 999: api.OK, 1000: api.OK, 1001: api.ErrArg, 1002: api.ErrArg, 4000: api.ErrArg, 1<<32 + 1: api.ErrArg, math.MaxInt: api.ErrArg} {
		for _, node := range []string{"ok;", "seq { ok; ok; }", "repeat 1000 ok;"} {
			wantNode(t, "repeat "+strconv.Itoa(n)+" "+node, err)
			wantNode(t, "repeat 7 repeat "+strconv.Itoa(n)+" "+node, err)
		}
	}
	for _, n := range []int{-1, -1000, math.MinInt, -1<<32 + 1} {
		p := program(t, inTree("repeat 1 ok;"))
		p.Trees[1].Root.A = n
		want(t, p, "t", api.ErrArg)
	}
}

// badNodes lists nodes that are wrong, and which need not have kids.
func badNodes() map[string]api.Errno {
	return map[string]api.Errno{
		"if 1;": api.ErrKind, "if x;": api.ErrName, "set i := b;": api.ErrKind, "set x := 1;": api.ErrName, "set i := x;": api.ErrName, "use none;": api.ErrName, "plan none;": api.ErrName,
		"par 0 1 { ok; }": api.ErrArg, "par 1 2 { ok; }": api.ErrArg, "repeat 0 ok;": api.ErrArg, "repeat 1001 ok;": api.ErrArg, "pick { b: ok; }": api.ErrKind, "pick { x: ok; }": api.ErrName,
	}
}

func TestP1302ANodeAheadOfItsKids(t *testing.T) {
	for inner, err := range badNodes() {
		for outer, first := range map[string]api.Errno{
			"par 2 1 { %s }": api.ErrArg, "par 1 0 { ok; %s }": api.ErrArg, "repeat 0 %s": api.ErrArg, "repeat 1001 seq { %s }": api.ErrArg, "pick { b: %s }": api.ErrKind, "pick { 1: %s x: ok; }": api.ErrName,
			"seq { %s if b + 1; }": err, "par 1 1 { seq { ok; %s } par 9 9 { ok; } if x; }": err, "pick { 1: %s 2: if 1; 3: use none; }": err, "not sel { repeat 5 %s repeat 0 ok; }": err,
		} {
			wantNode(t, fmt.Sprintf(outer, inner), first)
		}
	}
	wantNode(t, "par 9 9 { if 1; }", api.ErrArg)
	wantNode(t, "seq { ok; use u; if 1; }", api.ErrName)
	wantNode(t, "seq { if 1; use u; }", api.ErrKind)
}

func TestP1302TheFirstNode(t *testing.T) {
	for one, err := range badNodes() {
		for two, other := range badNodes() {
			wantNode(t, "seq { "+one+" "+two+" }", err)
			wantNode(t, "sel { seq { ok; not "+one+" } "+two+" }", err)
			wantNode(t, "par 1 2 { "+one+" seq { ok; "+two+" } }", err)
			wantNode(t, "mseq { ok; pick { 1: not "+two+" } msel { fail; "+one+" } }", other)
			// Of two trees, the first.
			wantText(t, inTree(one)+"tree u { "+two+" }", "t", err)
			wantText(t, inTree("ok;")+"tree z { seq { ok; "+two+" } } tree a { "+one+" }", "z", other)
		}
		for at := range api.MaxKids {
			texts := slices.Repeat([]string{"ok;"}, api.MaxKids)
			texts[at] = one
			wantNode(t, "seq { "+strings.Join(texts, " ")+" }", err)
		}
	}
}

func TestP1302NodesAsDeepAsMayBe(t *testing.T) {
	for one, err := range badNodes() {
		inner := 1 + strings.Count(one, "ok;")
		for _, around := range []string{"not ", "repeat 2 "} {
			wantText(t, inTree(strings.Repeat(around, api.MaxDeep-inner)+one), "t", err)
		}
		deep := strings.Repeat("seq { ok; ", api.MaxDeep-inner) + one + strings.Repeat(" if x + 1; }", api.MaxDeep-inner)
		wantText(t, inTree(deep), "t", err)
	}
	deep := strings.Repeat("sel { fail; ", api.MaxDeep-1) + "if b;" + strings.Repeat(" set p := P; }", api.MaxDeep-1)
	alone := func(text string) string { return tenKeys + "tree t { " + text + " }" }
	wantText(t, alone(deep), "", api.OK)
	wantText(t, alone(strings.Replace(deep, "if b", "if B + 1", 1)), "t", api.ErrKind)
	wantText(t, alone(deep[:len(deep)-len("set p := P; }")]+"set p := i; }"), "t", api.ErrKind)
}

// full is the text of a node with as many leaves as this, in as few others as may be.
func full(leaves int, leaf string) string {
	list := slices.Repeat([]string{leaf}, leaves)
	for len(list) > 1 {
		var next []string
		for part := range slices.Chunk(list, api.MaxKids) {
			next = append(next, "seq{"+strings.Join(part, "")+"}")
		}
		list = next
	}
	return list[0]
}

func TestP1302TreesOfAsManyNodesAsATextHas(t *testing.T) {
	// What is wrong with a node comes ahead of how many there are.
	const leaves = 19600
	text := "tree t{" + full(leaves, "ok;") + "}"
	if len(text) > api.MaxText-50 || len(text) < api.MaxText-1500 {
		t.Fatalf("the text has %d bytes", len(text))
	}
	wantText(t, text, "t", api.ErrMany)
	wantText(t, text+"tree u{if 1;}", "u", api.ErrKind)
	wantText(t, text+"tree u{use u;}", "u", api.ErrRing)
	last := strings.LastIndex(text, "ok;")
	wantText(t, text[:last]+"if 1;"+text[last+3:], "t", api.ErrKind)
	wantText(t, text[:last]+"if x;"+text[last+3:], "t", api.ErrName)
	wantText(t, "tree a{use t;}"+text[:last]+"use none;"+text[last+3:], "t", api.ErrName)
	wantText(t, "tree a{use t;}"+text[:last]+"use a;"+text[last+3:], "a", api.ErrRing)
	wantText(t, "tree a{use t;}"+text, "a", api.ErrMany)
	// In many trees, of which each has few.
	text = ""
	for i := range api.MaxTrees {
		text += fmt.Sprintf("tree t%d{%s}", i, full(192, "ok;"))
	}
	wantRight(t, text)
	last = strings.LastIndex(text, "ok;")
	wantText(t, text[:last]+"if 1;"+text[last+3:], fmt.Sprint("t", api.MaxTrees-1), api.ErrKind)
}
