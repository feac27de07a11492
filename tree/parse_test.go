package tree_test

import (
	"fmt"
	"math"
	"slices"
	"strconv"
	"strings"
	"testing"

	"puppeteer/api"
	"puppeteer/samples"
	"puppeteer/tree"
)

func TestP1102AnEmptyTextIsTheZeroProgram(t *testing.T) {
	for _, text := range []string{"", " ", "\n", "\t\r\n ", "// x", "//", " // x", "// x\n", "// key own a int;\n  ", "\n\n//\n//\n"} {
		wantProgram(t, text, api.Program{})
	}
	p, at, err := tree.Parse(nil)
	if at != 0 || err != api.OK || !samples.SameProgram(p, api.Program{}) {
		t.Fatalf("Parse of nil: %v, %d, error %d", p, at, err)
	}
}

// declared lists texts of one declaration each, and what they declare.
func declared() map[string]api.Program {
	key := func(k api.Key) api.Program { return api.Program{Keys: []api.Key{k}} }
	root := func(name string, n api.Node) api.Program {
		return api.Program{Trees: []api.Tree{{Name: name, Root: n}}}
	}
	domain := func(d api.Domain) api.Program { return api.Program{Domains: []api.Domain{d}} }
	return map[string]api.Program{
		"key own a int;":                             key(api.Key{Name: "a", Kind: api.KInt}),
		"key own b bool;":                            key(api.Key{Name: "b", Kind: api.KBool}),
		"key own c ref;":                             key(api.Key{Name: "c", Kind: api.KRef}),
		"key own d sym;":                             key(api.Key{Name: "d", Kind: api.KSym}),
		"key own e point;":                           key(api.Key{Name: "e", Kind: api.KPoint}),
		"key shared f int;":                          key(api.Key{Name: "f", Kind: api.KInt, Shared: true}),
		"key shared g bool;":                         key(api.Key{Name: "g", Kind: api.KBool, Shared: true}),
		"key shared h ref;":                          key(api.Key{Name: "h", Kind: api.KRef, Shared: true}),
		"key shared i sym;":                          key(api.Key{Name: "i", Kind: api.KSym, Shared: true}),
		"key shared j point;":                        key(api.Key{Name: "j", Kind: api.KPoint, Shared: true}),
		"key own " + samples.LongestName() + " int;": key(api.Key{Name: samples.LongestName()}),
		"tree t { ok; }":                             root("t", node(api.NOk)),
		"tree u { not do t; }":                       root("u", node(api.NNot, named(api.NDo, "t"))),
		"tree v_2 { seq { set a := 1; wait; } }":     root("v_2", node(api.NSeq, set("a", number(1)), node(api.NWait))),
		"tree w { par 3 4 { pick { 5 : use t; } repeat 6 plan d; } }": root("w", par(3, 4, choose(number(5), named(api.NUse, "t")),
			repeat(6, named(api.NPlan, "d")))),
		"domain d { }":                  domain(api.Domain{Name: "d"}),
		"domain d { var v 1 2; }":       domain(api.Domain{Name: "d", Vars: []api.Var{{Name: "v", Low: 1, High: 2}}}),
		"domain d { var v - 3 - 4; }":   domain(api.Domain{Name: "d", Vars: []api.Var{{Name: "v", Low: -3, High: -4}}}),
		"domain d { goal v >= 5; }":     domain(api.Domain{Name: "d", Goal: []api.Cond{{Name: "v", Op: api.CLeast, N: 5}}}),
		"domain d { goal v <= -6; }":    domain(api.Domain{Name: "d", Goal: []api.Cond{{Name: "v", Op: api.CMost, N: -6}}}),
		"domain d { goal v == 0; }":     domain(api.Domain{Name: "d", Goal: []api.Cond{{Name: "v", Op: api.CSame}}}),
		"domain d { act a cost 7 { } }": domain(api.Domain{Name: "d", Acts: []api.Act{{Name: "a", Cost: 7}}}),
		"domain d { act a cost 0 { need v >= 1; } }": domain(api.Domain{Name: "d", Acts: []api.Act{{Name: "a",
			Need: []api.Cond{{Name: "v", Op: api.CLeast, N: 1}}}}}),
		"domain d { act a cost 1 { make v = 2; } }": domain(api.Domain{Name: "d", Acts: []api.Act{{Name: "a", Cost: 1,
			Make: []api.Make{{Name: "v", N: 2}}}}}),
		"domain d { act a cost 1 { make v = - 2; } }": domain(api.Domain{Name: "d", Acts: []api.Act{{Name: "a", Cost: 1,
			Make: []api.Make{{Name: "v", N: -2}}}}}),
		"domain d { act a cost 1 { make v + 2; } }": domain(api.Domain{Name: "d", Acts: []api.Act{{Name: "a", Cost: 1,
			Make: []api.Make{{Name: "v", Add: true, N: 2}}}}}),
		"domain d { act a cost 1 { make v - 2; } }": domain(api.Domain{Name: "d", Acts: []api.Act{{Name: "a", Cost: 1,
			Make: []api.Make{{Name: "v", Add: true, N: -2}}}}}),
		"domain e { goal w == 2; var v -3 4; act x cost 7 { make v + 2; need v <= 3; } goal v >= -1; act y cost 0 { } var w 0 1; }": domain(api.Domain{
			Name: "e", Vars: []api.Var{{Name: "v", Low: -3, High: 4}, {Name: "w", High: 1}},
			Acts: []api.Act{{Name: "x", Cost: 7, Need: []api.Cond{{Name: "v", Op: api.CMost, N: 3}}, Make: []api.Make{{Name: "v", Add: true, N: 2}}}, {Name: "y"}},
			Goal: []api.Cond{{Name: "w", Op: api.CSame, N: 2}, {Name: "v", Op: api.CLeast, N: -1}}}),
	}
}

// both is the program of two texts.
func both(p, q api.Program) api.Program {
	return api.Program{Keys: slices.Concat(p.Keys, q.Keys), Trees: slices.Concat(p.Trees, q.Trees), Domains: slices.Concat(p.Domains, q.Domains)}
}

func TestP1102EachDeclaration(t *testing.T) {
	for text, p := range declared() {
		wantProgram(t, text, p)
		wantProgram(t, " "+text+"\n", p)
		wantProgram(t, "// "+text+"\n"+text+"// "+text, p)
		wantModelText(t, text)
		wantProgram(t, program(p), p)
	}
}

func TestP1102TwoDeclarations(t *testing.T) {
	for one, p := range declared() {
		for two, q := range declared() {
			wantProgram(t, one+two, both(p, q))
			wantProgram(t, one+"\n//\n"+two+one+two, both(both(p, q), both(p, q)))
		}
	}
}

func TestP1102DeclarationsInEveryOrder(t *testing.T) {
	parts := []string{"key own a int;", "key shared i sym;", "tree t { ok; }", "tree u { not do t; }", "domain d { }", "domain d { goal v >= 5; }"}
	all, n := declared(), 0
	samples.EveryOrder(parts, func(list []string) {
		var p api.Program
		for _, text := range list {
			p = both(p, all[text])
		}
		wantProgram(t, strings.Join(list, ""), p)
		wantProgram(t, strings.Join(list, "\n"), p)
		n++
	})
	if n != 720 {
		t.Fatalf("%d orders", n)
	}
}

func TestP1102ElementsOfADomainInEveryOrder(t *testing.T) {
	samples.EveryOrder([]string{"var v 1 2;", "var w 3 4;", "act a cost 5 { }", "act b cost 6 { need v == 7; }", "goal v >= 8;", "goal w <= 9;"}, func(list []string) {
		d := api.Domain{Name: "d"}
		for _, text := range list {
			switch f := strings.Fields(text); f[0] {
			case "var":
				d.Vars = append(d.Vars, map[string]api.Var{"v": {Name: "v", Low: 1, High: 2}, "w": {Name: "w", Low: 3, High: 4}}[f[1]])
			case "act":
				a := api.Act{Name: "a", Cost: 5}
				if f[1] == "b" {
					a = api.Act{Name: "b", Cost: 6, Need: []api.Cond{{Name: "v", Op: api.CSame, N: 7}}}
				}
				d.Acts = append(d.Acts, a)
			case "goal":
				d.Goal = append(d.Goal, map[string]api.Cond{"v": {Name: "v", Op: api.CLeast, N: 8}, "w": {Name: "w", Op: api.CMost, N: 9}}[f[1]])
			}
		}
		wantProgram(t, "domain d {"+strings.Join(list, " ")+"}", api.Program{Domains: []api.Domain{d}})
	})
}

func TestP1102NeedsAndMakesInEveryOrder(t *testing.T) {
	samples.EveryOrder([]string{"need v == 1;", "need w >= 2;", "need v <= 3;", "make v = 4;", "make w + 5;", "make v - 6;"}, func(list []string) {
		a := api.Act{Name: "a", Cost: 1}
		for _, text := range list {
			switch text[len(text)-2] {
			case '1':
				a.Need = append(a.Need, api.Cond{Name: "v", Op: api.CSame, N: 1})
			case '2':
				a.Need = append(a.Need, api.Cond{Name: "w", Op: api.CLeast, N: 2})
			case '3':
				a.Need = append(a.Need, api.Cond{Name: "v", Op: api.CMost, N: 3})
			case '4':
				a.Make = append(a.Make, api.Make{Name: "v", N: 4})
			case '5':
				a.Make = append(a.Make, api.Make{Name: "w", Add: true, N: 5})
			case '6':
				a.Make = append(a.Make, api.Make{Name: "v", Add: true, N: -6})
			}
		}
		wantProgram(t, "domain d {act a cost 1{"+strings.Join(list, "")+"}}", api.Program{Domains: []api.Domain{{Name: "d", Acts: []api.Act{a}}}})
	})
}

func TestP1102AnyNumberOfElements(t *testing.T) {
	for vars := range api.MaxVars + 1 {
		for _, acts := range []int{0, 1, 2, api.MaxActs - 1, api.MaxActs} {
			for goals := range api.MaxVars + 1 {
				wantProgram(t, program(elements(vars, acts, goals)), elements(vars, acts, goals))
			}
		}
	}
	for needs := range api.MaxVars + 1 {
		for makes := range api.MaxVars + 1 {
			p := elements(1, 2, 1)
			for i := range needs {
				p.Domains[0].Acts[1].Need = append(p.Domains[0].Acts[1].Need, api.Cond{Name: fmt.Sprint("x", i), Op: i % 3, N: i - 3})
			}
			for i := range makes {
				p.Domains[0].Acts[1].Make = append(p.Domains[0].Acts[1].Make, api.Make{Name: fmt.Sprint("y", i), Add: i%2 == 0, N: i - 4})
			}
			wantProgram(t, program(p), p)
		}
	}
}

// elements is a program of one domain with some elements of each sort.
func elements(vars, acts, goals int) api.Program {
	d := api.Domain{Name: "d"}
	for i := range vars {
		d.Vars = append(d.Vars, api.Var{Name: fmt.Sprint("v", i), Low: i - 3, High: i})
	}
	for i := range acts {
		d.Acts = append(d.Acts, api.Act{Name: fmt.Sprint("a", i), Cost: i})
	}
	for i := range goals {
		d.Goal = append(d.Goal, api.Cond{Name: fmt.Sprint("g", i), Op: i % 3, N: i})
	}
	return api.Program{Domains: []api.Domain{d}}
}

func TestP1102Numbers(t *testing.T) {
	most := strconv.Itoa(math.MaxInt)
	numbers := map[string]int{"0": 0, "1": 1, "-1": -1, "- 1": -1, "-0": 0, "- 0": 0, "100": 100, "-100": -100, "101": 101, "-\n//x\n7": -7, most: math.MaxInt, "-" + most: -math.MaxInt}
	for low, l := range numbers {
		for high, h := range numbers {
			wantProgram(t, "domain d { var v "+low+" "+high+"; }", api.Program{Domains: []api.Domain{{Name: "d", Vars: []api.Var{{Name: "v", Low: l, High: h}}}}})
		}
		for op, sign := range []string{">=", "<=", "=="} {
			c := []api.Cond{{Name: "v", Op: op, N: l}}
			wantProgram(t, "domain d { goal v "+sign+" "+low+"; }", api.Program{Domains: []api.Domain{{Name: "d", Goal: c}}})
			wantProgram(t, "domain d { act a cost 1 { need v"+sign+low+"; } }", api.Program{Domains: []api.Domain{{Name: "d", Acts: []api.Act{{Name: "a", Cost: 1, Need: c}}}}})
		}
		makes := []api.Make{{Name: "v", N: l}}
		wantProgram(t, "domain d { act a cost 1 { make v = "+low+"; } }", api.Program{Domains: []api.Domain{{Name: "d", Acts: []api.Act{{Name: "a", Cost: 1, Make: makes}}}}})
		if strings.HasPrefix(low, "-") {
			continue
		}
		wantProgram(t, "domain d { act a cost "+low+" { } }", api.Program{Domains: []api.Domain{{Name: "d", Acts: []api.Act{{Name: "a", Cost: l}}}}})
		for sign, n := range map[string]int{"+": l, "-": -l} {
			makes := []api.Make{{Name: "v", Add: true, N: n}}
			wantProgram(t, "domain d { act a cost 1 { make v "+sign+" "+low+"; } }", api.Program{Domains: []api.Domain{{Name: "d", Acts: []api.Act{{Name: "a", Cost: 1, Make: makes}}}}})
		}
	}
	// A number that no int can hold is an error of the lexer.
	wantError(t, "domain d { var v 0 9223372036854775808; }", 19, api.ErrSyntax)
	wantError(t, "domain d { var v - 9223372036854775808 0; }", 19, api.ErrSyntax)
}

func TestP1102NamesAreNotChecked(t *testing.T) {
	// Names that are there twice, or that there are not, are for chapter 13.
	k := api.Key{Name: "a"}
	d := api.Domain{Name: "a", Vars: []api.Var{{Name: "a", Low: 9, High: -9}, {Name: "a"}}, Acts: []api.Act{{Name: "a", Cost: math.MaxInt, Need: []api.Cond{{Name: "z"}}}, {Name: "a"}}}
	p := api.Program{Keys: []api.Key{k, k}, Domains: []api.Domain{d, d},
		Trees: []api.Tree{{Name: "a", Root: named(api.NUse, "a")}, {Name: "a", Root: named(api.NPlan, "none")}}}
	wantProgram(t, program(p), p)
}

func TestP1102AsManyAsMayBe(t *testing.T) {
	var p api.Program
	for i := range api.MaxKeys {
		p.Keys = append(p.Keys, api.Key{Name: fmt.Sprint("k", i), Kind: i % 5, Shared: i%3 == 0})
	}
	wantProgram(t, program(p), p)
	for i := range api.MaxTrees {
		p.Trees = append(p.Trees, api.Tree{Name: fmt.Sprint("t", i), Root: named(api.NUse, fmt.Sprint("t", i+1))})
	}
	wantProgram(t, program(p), p)
	for i := range api.MaxTrees {
		p.Domains = append(p.Domains, api.Domain{Name: fmt.Sprint("d", i)})
	}
	wantProgram(t, program(p), p)
	p.Domains[99] = elements(api.MaxVars, api.MaxActs, api.MaxVars).Domains[0]
	for i := range p.Domains[99].Acts {
		a := &p.Domains[99].Acts[i]
		for j := range api.MaxVars {
			a.Need = append(a.Need, api.Cond{Name: fmt.Sprint("v", j), Op: j % 3, N: i})
			a.Make = append(a.Make, api.Make{Name: fmt.Sprint("v", j), Add: j < 4, N: -i})
		}
	}
	p.Domains[0] = p.Domains[99]
	wantProgram(t, program(p), p)
	d := dice{5}
	for range 20 {
		text := d.Lay(strings.Fields(strings.Join(samples.Written(p, d.Mix), " ")))
		wantProgram(t, text, p)
	}
}

func TestP1102ALongText(t *testing.T) {
	text := "key own a int;"
	p := api.Program{Keys: []api.Key{{Name: "a"}}}
	for _, fill := range []string{" ", "\n", "/"} {
		wantProgram(t, text+strings.Repeat(fill, api.MaxText-len(text)), p)
		wantError(t, text+strings.Repeat(fill, api.MaxText-len(text)+1), 0, api.ErrLong)
	}
	wantProgram(t, strings.Repeat(" ", api.MaxText-len(text))+text, p)
	wantError(t, strings.Repeat(" ", api.MaxText-len(text)+1)+text, 0, api.ErrLong)
	wantError(t, strings.Repeat(" ", api.MaxText-len(text))+"]"+text, 0, api.ErrLong)
	wantError(t, strings.Repeat(" ", api.MaxText-3)+"key", api.MaxText, api.ErrSyntax)
	wantError(t, strings.Repeat(" ", api.MaxText-3)+"ke", api.MaxText-3, api.ErrSyntax)
	// As many nodes as fit in.
	n, nodes := node(api.NOk), "ok;"
	for range 3 {
		n, nodes = node(api.NMSel, slices.Repeat([]api.Node{n}, api.MaxKids)...), "msel{"+strings.Repeat(nodes, api.MaxKids)+"}"
	}
	all := api.Program{Trees: []api.Tree{{Name: "a", Root: n}, {Name: "b", Root: n}, {Name: "c", Root: n}, {Name: "d", Root: n}}}
	text = ""
	for _, one := range all.Trees {
		text += "tree " + one.Name + "{" + nodes + "}"
	}
	if len(text) < api.MaxText*3/4 {
		t.Fatalf("the text has %d bytes only", len(text))
	}
	wantProgram(t, text, all)
}

func TestP1102RandomPrograms(t *testing.T) {
	d := dice{1102}
	bytes := 0
	for range 1500 {
		p := d.Program(d.Roll(20))
		if len(program(p)) > api.MaxText/3 {
			continue
		}
		wantProgram(t, program(p), p)
		l := some(t, strings.Join(samples.Written(p, d.Mix), " "))
		text := d.Lay(samples.Texts(l))
		bytes += len(text)
		if len(text) > api.MaxText {
			wantError(t, text, 0, api.ErrLong)
			continue
		}
		wantProgram(t, text, p)
		wantModelText(t, text)
	}
	if bytes < 1<<20 {
		t.Fatalf("the texts have %d bytes only", bytes)
	}
}
