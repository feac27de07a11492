package printer_test

import (
	"math"
	"slices"
	"strconv"
	"strings"
	"testing"

	"puppeteer/api"
	"puppeteer/printer"
	"puppeteer/samples"
	"puppeteer/tree"
)

// A form is one that nodes have: as it is read, and as it is written. "@" stands
// for a node in it.
type form struct{ text, want string }

// leaves are the forms without a node in them.
func leaves() []form {
	return []form{
		{"ok;", "ok;\n"},
		{"fail ;", "fail;\n"},
		{"wait\n;", "wait;\n"},
		{"do a;", "do a;\n"},
		{"use\tb_2 ;", "use b_2;\n"},
		{"plan C;", "plan C;\n"},
		{"if a;", "if a;\n"},
		{"if 1 <a+ 2 ;", "if (1 < (a + 2));\n"},
		{"set a:=1;", "set a := 1;\n"},
		{"set  bc :=  ( 1,x ) ;", "set bc := (1, x);\n"},
	}
}

// inner are the forms with a node in them.
func inner() []form {
	return []form{
		{"seq{@}", "seq {\n  @\n}\n"},
		{"sel { @ }", "sel {\n  @\n}\n"},
		{"mseq\n{ @ }", "mseq {\n  @\n}\n"},
		{"msel { @ }", "msel {\n  @\n}\n"},
		{"par 2 13 { @ }", "par 2 13 {\n  @\n}\n"},
		{"not @", "not\n  @\n"},
		{"repeat 7 @", "repeat 7\n  @\n"},
		{"pick{a:@}", "pick {\n  a :\n    @\n}\n"},
	}
}

// wider are the forms with several nodes in them.
func wider() []form {
	return []form{
		{"seq { ok; @ fail; }", "seq {\n  ok;\n  @\n  fail;\n}\n"},
		{"sel { @ @ }", "sel {\n  @\n  @\n}\n"},
		{"mseq { not ok; @ repeat 0 wait; }", "mseq {\n  not\n    ok;\n  @\n  repeat 0\n    wait;\n}\n"},
		{"msel { seq { ok; } @ }", "msel {\n  seq {\n    ok;\n  }\n  @\n}\n"},
		{"par 0 1 { @ do x; @ }", "par 0 1 {\n  @\n  do x;\n  @\n}\n"},
		{"pick { -1 : ok; re p : @ 2 : fail; }", "pick {\n  -1 :\n    ok;\n  re p :\n    @\n  2 :\n    fail;\n}\n"},
		{"pick { 1 + 2 * 3 : @ ((a)) : @ }", "pick {\n  (1 + (2 * 3)) :\n    @\n  a :\n    @\n}\n"},
		{"not not @", "not\n  not\n    @\n"},
		{"repeat 1 repeat 2 not @", "repeat 1\n  repeat 2\n    not\n      @\n"},
	}
}

// with is a form with another one in it.
func (f form) with(kid form) form {
	var want strings.Builder
	for line := range strings.Lines(f.want) {
		indent, mark := strings.CutSuffix(line, "@\n")
		if mark {
			line = shifted(kid.want, len(indent)/2)
		}
		want.WriteString(line)
	}
	return form{strings.ReplaceAll(f.text, "@", kid.text), want.String()}
}

func TestP1201EachFormAlone(t *testing.T) {
	for _, f := range leaves() {
		wantNode(t, parsed(t, f.text), f.want)
	}
	all := map[string]api.Node{
		"ok;\n":         {Kind: api.NOk},
		"fail;\n":       {Kind: api.NFail},
		"wait;\n":       {Kind: api.NWait},
		"do a;\n":       {Kind: api.NDo, Name: "a"},
		"use a;\n":      {Kind: api.NUse, Name: "a"},
		"plan a;\n":     {Kind: api.NPlan, Name: "a"},
		"if a;\n":       {Kind: api.NIf, Expr: api.Expr{Kind: api.EName, Name: "a"}},
		"set b := 3;\n": {Kind: api.NSet, Name: "b", Expr: api.Expr{N: 3}},
	}
	for want, n := range all {
		wantNode(t, n, want)
	}
	ok := node(api.NOk)
	wantNode(t, node(api.NSeq, ok), "seq {\n  ok;\n}\n")
	wantNode(t, node(api.NSel, ok, ok), "sel {\n  ok;\n  ok;\n}\n")
	wantNode(t, node(api.NMSeq, ok), "mseq {\n  ok;\n}\n")
	wantNode(t, node(api.NMSel, ok), "msel {\n  ok;\n}\n")
	wantNode(t, api.Node{Kind: api.NPar, A: 3, B: 4, Kids: []api.Node{ok}}, "par 3 4 {\n  ok;\n}\n")
	wantNode(t, node(api.NNot, ok), "not\n  ok;\n")
	wantNode(t, api.Node{Kind: api.NRepeat, A: 5, Kids: []api.Node{ok}}, "repeat 5\n  ok;\n")
	wantNode(t, api.Node{Kind: api.NPick, Kids: []api.Node{ok}, Weights: []api.Expr{{N: 6}}}, "pick {\n  6 :\n    ok;\n}\n")
}

func TestP1201EachFormInEveryOther(t *testing.T) {
	around := append(inner(), wider()...)
	for _, kid := range leaves() {
		for _, f := range around {
			one := f.with(kid)
			wantNode(t, parsed(t, one.text), one.want)
			for _, g := range around {
				two := g.with(one)
				wantNode(t, parsed(t, two.text), two.want)
			}
		}
	}
	for _, f := range around {
		for _, g := range around {
			for _, h := range around {
				three := f.with(g.with(h.with(form{"do x;", "do x;\n"})))
				n := parsed(t, three.text)
				if got := printer.Node(n, 1); got != shifted(three.want, 1) {
					t.Fatalf("%q: %q; want %q", three.text, got, shifted(three.want, 1))
				}
			}
		}
	}
}

func TestP1201LevelsAreLimitedForTheNodeOnly(t *testing.T) {
	n := parsed(t, "seq { not pick { 1 : repeat 2 ok; } }")
	wantNode(t, n, "seq {\n  not\n    pick {\n      1 :\n        repeat 2\n          ok;\n    }\n}\n")
	var want strings.Builder
	for _, line := range []struct {
		spaces int
		text   string
	}{{200, "seq {"}, {202, "not"}, {204, "pick {"}, {206, "1 :"}, {208, "repeat 2"}, {210, "ok;"}, {204, "}"}, {200, "}"}} {
		want.WriteString(strings.Repeat(" ", line.spaces) + line.text + "\n")
	}
	for _, deep := range []int{100, 101, 1000, math.MaxInt} {
		if got := printer.Node(n, deep); got != want.String() {
			t.Fatalf("Node at %d: %q", deep, got)
		}
	}
	for deep := -300; deep < 300; deep++ {
		if got := printer.Node(node(api.NOk), deep); got != strings.Repeat(" ", 2*min(max(deep, 0), 100))+"ok;\n" {
			t.Fatalf("Node at %d: %q", deep, got)
		}
	}
}

// wantDeep checks what is nested as deep as may be in these forms.
func wantDeep(t *testing.T, forms []form) {
	t.Helper()
	for _, f := range leaves()[3:7] {
		for _, around := range slices.Backward(forms) {
			f = around.with(f)
		}
		wantNode(t, parsed(t, f.text), f.want)
	}
}

func TestP1201NodesAsDeepAsMayBe(t *testing.T) {
	for _, f := range inner() {
		wantDeep(t, slices.Repeat([]form{f}, api.MaxDeep-1))
		for _, g := range inner() {
			wantDeep(t, slices.Repeat([]form{f, g}, api.MaxDeep)[:api.MaxDeep-1])
			wantDeep(t, append(slices.Repeat([]form{f}, api.MaxDeep-2), g))
		}
	}
	d := samples.Dice(40)
	for range 50 {
		var list []form
		for range api.MaxDeep - 1 {
			list = append(list, samples.Pick(&d, inner()...))
		}
		wantDeep(t, list)
	}
	text := ""
	for i := range api.MaxDeep - 1 {
		text += strings.Repeat("  ", 2*i+100) + "pick {\n" + strings.Repeat("  ", 2*i+101) + strconv.Itoa(i) + " :\n"
	}
	text += strings.Repeat("  ", 2*(api.MaxDeep-1)+100) + "ok;\n"
	n := node(api.NOk)
	for i := range api.MaxDeep - 1 {
		deep := api.MaxDeep - 2 - i
		text += strings.Repeat("  ", 2*deep+100) + "}\n"
		n = api.Node{Kind: api.NPick, Kids: []api.Node{n}, Weights: []api.Expr{{N: deep}}}
	}
	if got := printer.Node(n, 100); got != text {
		t.Fatalf("%q; want %q", got, text)
	}
}

func TestP1201AnyNumberOfNodesBetweenBraces(t *testing.T) {
	for _, kid := range []form{{"do x;", "do x;\n"}, {"not ok;", "not\n  ok;\n"}, {"sel { ok; wait; }", "sel {\n  ok;\n  wait;\n}\n"}} {
		for n := 1; n <= api.MaxKids; n++ {
			for _, head := range []string{"seq", "sel", "mseq", "msel", "par 1 0", "par 16 17"} {
				text := head + "{" + strings.Repeat(kid.text, n) + "}"
				wantNode(t, parsed(t, text), head+" {\n"+strings.Repeat(shifted(kid.want, 1), n)+"}\n")
			}
			text, want := "pick {", "pick {\n"
			for i := range n {
				text += strconv.Itoa(i) + "+x:" + kid.text
				want += "  (" + strconv.Itoa(i) + " + x) :\n" + shifted(kid.want, 2)
			}
			wantNode(t, parsed(t, text+"}"), want+"}\n")
		}
	}
	// The nodes in a node may differ.
	text, want := "par 3 3 {", "par 3 3 {\n"
	for _, f := range leaves() {
		text, want = text+f.text, want+shifted(f.want, 1)
	}
	for _, f := range inner()[:6] {
		f = f.with(leaves()[0])
		text, want = text+f.text, want+shifted(f.want, 1)
	}
	wantNode(t, parsed(t, text+"}"), want+"}\n")
}

func TestP1201NumbersOfNodes(t *testing.T) {
	numbers := []int{0, 1, 9, 10, 16, 17, 99, 100, 1000, 65536, 1 << 31, 1 << 40, 1_000_000_000_000_000_000, math.MaxInt - 1, math.MaxInt}
	for _, a := range numbers {
		one := strconv.Itoa(a)
		wantNode(t, parsed(t, "repeat "+one+" ok;"), "repeat "+one+"\n  ok;\n")
		wantNode(t, parsed(t, "if "+one+";"), "if "+one+";\n")
		wantNode(t, parsed(t, "set a := -"+one+";"), "set a := "+strconv.Itoa(-a)+";\n")
		for _, b := range numbers {
			two := strconv.Itoa(b)
			wantNode(t, parsed(t, "par "+one+" "+two+" { ok; }"), "par "+one+" "+two+" {\n  ok;\n}\n")
			wantNode(t, parsed(t, "pick { "+one+": ok; -"+two+": ok; }"), "pick {\n  "+one+" :\n    ok;\n  "+strconv.Itoa(-b)+" :\n    ok;\n}\n")
		}
	}
	if got := printer.Node(parsed(t, "repeat 9223372036854775807 ok;"), 0); got != "repeat 9223372036854775807\n  ok;\n" {
		t.Fatalf("%q", got)
	}
	// Tokens that lex.Tokens does not return may have a number below 0.
	l := some(t, "par 1 2 { repeat 3 ok; }")
	l[1].N, l[2].N, l[5].N = -5, math.MinInt, -1
	n, _, err := tree.Node(l, 0)
	if err != api.OK {
		t.Fatalf("error %d", err)
	}
	wantNode(t, n, "par -5 -9223372036854775808 {\n  repeat -1\n    ok;\n}\n")
}

// expressions tells how expressions of every form are written.
func expressions() map[string]string {
	return map[string]string{
		"0": "0", "5": "5", "-5": "-5", "- 0": "0", "true": "true", "false": "false", "a": "a", "' a": "'a", "self": "self", "time": "time", "(a)": "a", "((7))": "7",
		"1+2": "(1 + 2)", "a-b": "(a - b)", "3*c": "(3 * c)", "4/-5": "(4 / -5)", "a==b": "(a == b)", "a<b": "(a < b)", "a and b": "(a and b)", "a or b": "(a or b)",
		"not a": "not a", "re p": "re p", "im p": "im p", "turn p": "turn p", "( 1,2 )": "(1, 2)", "far ( p,q )": "far(p, q)",
		"1+2*c": "(1 + (2 * c))", "1-2-3": "((1 - 2) - 3)", "1-(2-3)": "(1 - (2 - 3))", "not not a or b": "(not not a or b)", "turn (1,2)": "turn (1, 2)",
		"re far((1,2),turn p)": "re far((1, 2), turn p)", "not (a or b)": "not (a or b)", "(a and b,'x==self)": "((a and b), ('x == self))",
		"-9223372036854775807": "-9223372036854775807", "9223372036854775807": "9223372036854775807",
		samples.LongestName(): samples.LongestName(),
	}
}

func TestP1201ExpressionsOfEveryForm(t *testing.T) {
	text, want := "pick {", "pick {\n"
	n := 0
	for one, is := range expressions() {
		wantNode(t, parsed(t, "if "+one+";"), "if "+is+";\n")
		wantNode(t, parsed(t, "set a := "+one+";"), "set a := "+is+";\n")
		wantNode(t, parsed(t, "pick {"+one+": ok; }"), "pick {\n  "+is+" :\n    ok;\n}\n")
		for two, also := range expressions() {
			both := parsed(t, "pick { "+one+": set b := "+two+"; "+two+" : if "+one+"; }")
			wantNode(t, both, "pick {\n  "+is+" :\n    set b := "+also+";\n  "+also+" :\n    if "+is+";\n}\n")
		}
		if n < api.MaxKids {
			text, want = text+one+": if "+one+";", want+"  "+is+" :\n    if "+is+";\n"
			n++
		}
	}
	wantNode(t, parsed(t, text+"}"), want+"}\n")
	deep := strings.Repeat("turn ", api.MaxDeep-1) + "a"
	wantNode(t, parsed(t, "not if "+deep+";"), "not\n  if "+deep+";\n")
}

func TestP1201RandomNodes(t *testing.T) {
	d := samples.Dice(1201)
	bytes := 0
	for range 3000 {
		n := d.Node(1+d.Roll(api.MaxDeep), d.Roll(100))
		level := d.Roll(101)
		got := printer.Node(n, level)
		bytes += len(got)
		if want := laid(samples.WrittenNode(n), level); got != want {
			t.Fatalf("%q; want %q", got, want)
		}
		if got != shifted(printer.Node(n, 0), level) {
			t.Fatalf("%q is another text at level 0", got)
		}
		back, _, err := tree.Node(some(t, strings.Join(strings.Fields(got), " ")), 0)
		if err != api.OK || !samples.SameNode(back, n) {
			t.Fatalf("%q is read as %v, error %d", got, back, err)
		}
	}
	if bytes < 1<<22 {
		t.Fatalf("the texts have %d bytes only", bytes)
	}
}
