package printer_test

import (
	"fmt"
	"slices"
	"strings"
	"sync"
	"testing"

	"puppeteer/api"
	"puppeteer/expr"
	"puppeteer/printer"
	"puppeteer/samples"
	"puppeteer/tree"
)

func TestP1202EachDeclarationIsReadAgain(t *testing.T) {
	texts := append(declarations(), declared, "")
	for _, f := range slices.Concat(leaves(), inner(), wider()) {
		texts = append(texts, "tree t{"+f.with(leaves()[3]).text+"}")
	}
	for x := range expressions() {
		texts = append(texts, "tree t{if "+x+";}", "tree t{set a:="+x+";}", "tree t{pick{"+x+":ok;}}")
	}
	for _, one := range texts {
		p := program(t, one)
		wantSame(t, p, printer.Print(p))
		for _, two := range texts {
			p := program(t, one+two)
			wantSame(t, p, printer.Print(p))
		}
	}
}

func TestP1202DeepNodesAreReadAgain(t *testing.T) {
	d := samples.Dice(1202)
	for range 300 {
		f := samples.Pick(&d, leaves()...)
		for range api.MaxDeep - 1 {
			f = samples.Pick(&d, inner()...).with(f)
		}
		p := program(t, "tree t{"+f.text+"}")
		wantSame(t, p, printer.Print(p))
	}
	// The expressions in them may be as deep.
	for sign := range strings.FieldsSeq("or and + - * /") {
		x := strings.Repeat("a "+sign+" ", api.MaxDeep-1) + "a"
		p := program(t, "tree t{"+strings.Repeat("not ", api.MaxDeep-2)+"pick { "+x+": if "+x+"; }}")
		wantSame(t, p, printer.Print(p))
	}
}

// loosened lists the same tokens, of which an expression is one, with expressions
// that have more parentheses, or less.
func loosened(t *testing.T, d *samples.Dice, list []string) []string {
	t.Helper()
	list = slices.Clone(list)
	for i, one := range list {
		if !strings.HasPrefix(one, "(") {
			continue
		}
		x, _, err := expr.Parse(some(t, one), 0)
		if err != api.OK {
			t.Fatalf("Parse of %q: error %d", one, err)
		}
		switch {
		case d.Roll(3) == 0:
			list[i] = "(" + one + ")"
		case x.Kind >= api.EAdd && x.Kind <= api.EOr && d.Roll(2) == 0:
			list[i] = one[1 : len(one)-1]
		}
	}
	return list
}

func TestP1202RandomProgramsInRandomLayouts(t *testing.T) {
	d := samples.Dice(2202)
	bytes, others := 0, 0
	for range 1200 {
		made := d.Program(d.Roll(20))
		list := loosened(t, &d, samples.Written(made, d.Mix))
		text := d.Lay(samples.Texts(some(t, strings.Join(list, " "))))
		want := laid(samples.Written(made, samples.InOrder), 0)
		if max(len(text), len(want)) > api.MaxText {
			continue
		}
		p := program(t, text)
		wantProgram(t, p, want)
		wantSame(t, p, want)
		if !samples.SameProgram(p, made) {
			t.Fatalf("%q is read as %v; want %v", text, p, made)
		}
		bytes += len(text)
		if text != want {
			others++
		}
	}
	if bytes < 1<<20 || others < 1000 {
		t.Fatalf("the texts have %d bytes only, or %d of them only are laid out in another way", bytes, others)
	}
}

func TestP1202OnlyATextThatGrowsTooLongIsNotReadAgain(t *testing.T) {
	// The layout takes more room than the text that was read, which may fill api.MaxText.
	kid, text := "not do x;", ""
	for range api.MaxDeep - 4 {
		kid = "not " + kid
	}
	for len(text)+len(kid) < api.MaxText/2 {
		text += "tree t { seq { " + strings.Repeat(kid, 4) + " } }"
	}
	p := program(t, text)
	printed := printer.Print(p)
	if want := laid(samples.Written(p, samples.InOrder), 0); printed != want || len(printed) <= api.MaxText {
		t.Fatalf("%d bytes, want %d, and more than may be", len(printed), len(want))
	}
	if q, at, err := tree.Parse([]byte(printed)); at != 0 || err != api.ErrLong || !samples.SameProgram(q, api.Program{}) {
		t.Fatalf("%d, error %d", at, err)
	}
	narrow := strings.Join(strings.Fields(printed), " ")
	if !samples.SameProgram(p, program(t, narrow)) {
		t.Fatal("without its layout, the text is that of another program")
	}
}

// small is the text of a tree that has n bytes, from 19 to 42.
func small(n int) string { return "tree t {\n  do " + strings.Repeat("x", n-18) + ";\n}\n" }

func TestP1202TheLongestTextIsReadAgain(t *testing.T) {
	wide := "do " + samples.LongestName() + ";\n"
	for range 2 {
		wide = "seq {\n" + strings.Repeat(shifted(wide, 1), api.MaxKids) + "}\n"
	}
	text := strings.Repeat("tree t {\n"+shifted(wide, 1)+"}\n", 7)
	for len(text) < api.MaxText-84 {
		text += small(42)
	}
	rest := api.MaxText - len(text)
	text += small(rest/2) + small(rest-rest/2)
	if len(text) != api.MaxText {
		t.Fatalf("the text has %d bytes", len(text))
	}
	p := program(t, text)
	wantProgram(t, p, text)
	wantSame(t, p, text)
}

// roomy is a list with spare capacity, in which a mark lies.
func roomy[T any](l []T, mark T) []T {
	return append(slices.Clone(l), mark)[:len(l)]
}

func roomyExpr(x api.Expr) api.Expr {
	x.Kids = roomy(x.Kids, api.Expr{Name: "spare"})
	for i := range x.Kids {
		x.Kids[i] = roomyExpr(x.Kids[i])
	}
	return x
}

func roomyNode(n api.Node) api.Node {
	n.Expr = roomyExpr(n.Expr)
	n.Kids, n.Weights = roomy(n.Kids, api.Node{Name: "spare"}), roomy(n.Weights, api.Expr{Name: "spare"})
	for i := range n.Kids {
		n.Kids[i] = roomyNode(n.Kids[i])
	}
	for i := range n.Weights {
		n.Weights[i] = roomyExpr(n.Weights[i])
	}
	return n
}

func roomyProgram(p api.Program) api.Program {
	p.Keys, p.Trees, p.Domains = roomy(p.Keys, api.Key{Name: "spare"}), roomy(p.Trees, api.Tree{Name: "spare"}), roomy(p.Domains, api.Domain{Name: "spare"})
	for i := range p.Trees {
		p.Trees[i].Root = roomyNode(p.Trees[i].Root)
	}
	for i := range p.Domains {
		d := &p.Domains[i]
		d.Vars, d.Acts, d.Goal = roomy(d.Vars, api.Var{Name: "spare"}), roomy(d.Acts, api.Act{Name: "spare"}), roomy(d.Goal, api.Cond{Name: "spare"})
		for j := range d.Acts {
			a := &d.Acts[j]
			a.Need, a.Make = roomy(a.Need, api.Cond{Name: "spare"}), roomy(a.Make, api.Make{Name: "spare"})
		}
	}
	return p
}

// everything tells a program with the spare capacity of its lists.
func everything(p api.Program) string {
	all := fmt.Sprint(p.Keys[:cap(p.Keys)], p.Trees[:cap(p.Trees)], p.Domains[:cap(p.Domains)])
	var inNode func(n api.Node)
	var inExpr func(x api.Expr)
	inExpr = func(x api.Expr) {
		all += fmt.Sprint(x.Kids[:cap(x.Kids)])
		for _, kid := range x.Kids {
			inExpr(kid)
		}
	}
	inNode = func(n api.Node) {
		all += fmt.Sprint(n.Kids[:cap(n.Kids)], n.Weights[:cap(n.Weights)])
		inExpr(n.Expr)
		for _, weight := range n.Weights {
			inExpr(weight)
		}
		for _, kid := range n.Kids {
			inNode(kid)
		}
	}
	for _, one := range p.Trees {
		inNode(one.Root)
	}
	for _, d := range p.Domains {
		all += fmt.Sprint(d.Vars[:cap(d.Vars)], d.Acts[:cap(d.Acts)], d.Goal[:cap(d.Goal)])
		for _, a := range d.Acts {
			all += fmt.Sprint(a.Need[:cap(a.Need)], a.Make[:cap(a.Make)])
		}
	}
	return all
}

func TestP1202TheProgramStaysAsItIs(t *testing.T) {
	d := samples.Dice(1)
	for range 150 {
		p := roomyProgram(d.Program(4))
		was := everything(p)
		printer.Print(p)
		for _, one := range p.Trees {
			printer.Node(one.Root, d.Roll(120))
		}
		if now := everything(p); now != was {
			t.Fatalf("%s has become %s", was, now)
		}
	}
}

func TestP1202TheProgramIsNotKept(t *testing.T) {
	p := program(t, declared)
	text, n := printer.Print(p), printer.Node(p.Trees[1].Root, 2)
	p.Keys[0].Name, p.Trees[0].Root.Kind, p.Trees[1].Root.Kids[0].Name = "other", api.NFail, "other"
	p.Domains[1].Vars[0].Low, p.Domains[1].Acts[0].Need[0].N, p.Domains[1].Acts[0].Make[0].N, p.Domains[1].Goal[0].N = 7, 7, 7, 7
	if text != declared || n != "    not\n      do x;\n" {
		t.Fatalf("%q and %q", text, n)
	}
	want := strings.NewReplacer("own a", "own other", "ok;", "fail;", "do x", "do other", "-1", "7", "- 5", "+ 7", "4;", "7;", "6;", "7;").Replace(declared)
	if got := printer.Print(p); got != want {
		t.Fatalf("%q; want %q", got, want)
	}
	if got := printer.Node(p.Trees[1].Root, 2); got != "    not\n      do other;\n" {
		t.Fatalf("%q", got)
	}
}

func TestP1202TextsDependOnTheArgumentsOnly(t *testing.T) {
	d := samples.Dice(2)
	var programs []api.Program
	var nodes []api.Node
	for range 60 {
		programs, nodes = append(programs, d.Program(5)), append(nodes, d.Node(1+d.Roll(9), d.Roll(50)))
	}
	var all sync.WaitGroup
	for i := range 8 {
		all.Go(func() {
			for j := range 4 * len(programs) {
				p, n := programs[(7*i+j)%len(programs)], nodes[(5*i+j)%len(nodes)]
				if got, want := printer.Print(p), laid(samples.Written(p, samples.InOrder), 0); got != want {
					t.Errorf("%.500q; want %.500q", got, want)
				}
				if got, want := printer.Node(n, j%120), laid(samples.WrittenNode(n), min(j%120, 100)); got != want {
					t.Errorf("%.500q; want %.500q", got, want)
				}
			}
		})
	}
	all.Wait()
}
