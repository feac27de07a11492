package printer_test

import (
	"fmt"
	"math"
	"slices"
	"strconv"
	"strings"
	"testing"

	"puppeteer/api"
	"puppeteer/printer"
	"puppeteer/samples"
)

func TestP1201TheZeroProgramIsAnEmptyText(t *testing.T) {
	wantProgram(t, api.Program{}, "")
	wantProgram(t, api.Program{Keys: []api.Key{}, Trees: []api.Tree{}, Domains: []api.Domain{}}, "")
	for _, text := range []string{"", " ", "\n", "// key own a int;"} {
		wantProgram(t, program(t, text), "")
	}
}

func TestP1201EachKey(t *testing.T) {
	kinds := map[string]int{"int": api.KInt, "bool": api.KBool, "ref": api.KRef, "sym": api.KSym, "point": api.KPoint}
	for word, kind := range kinds {
		wantProgram(t, api.Program{Keys: []api.Key{{Name: "a", Kind: kind}}}, "key own a "+word+";\n")
		wantProgram(t, api.Program{Keys: []api.Key{{Name: "B_2", Kind: kind, Shared: true}}}, "key shared B_2 "+word+";\n")
		for _, owner := range []string{"own", "shared"} {
			line := "key " + owner + " " + samples.LongestName() + " " + word + ";\n"
			wantProgram(t, program(t, strings.ReplaceAll(line, " ", "\t// x\n ")), line)
			for other := range kinds {
				two := line + "key shared x " + other + ";\nkey own y " + other + ";\n"
				wantProgram(t, program(t, two), two)
			}
		}
	}
}

func TestP1201EachTree(t *testing.T) {
	for _, f := range slices.Concat(leaves(), inner(), wider()) {
		f = f.with(form{"wait;", "wait;\n"})
		wantProgram(t, program(t, "tree t{"+f.text+"}"), "tree t {\n"+shifted(f.want, 1)+"}\n")
		wantProgram(t, program(t, "tree a{"+f.text+"}tree b{ok;}tree a{"+f.text+"}"),
			"tree a {\n"+shifted(f.want, 1)+"}\ntree b {\n  ok;\n}\ntree a {\n"+shifted(f.want, 1)+"}\n")
	}
	wantProgram(t, program(t, "tree "+samples.LongestName()+" { fail; }"), "tree "+samples.LongestName()+" {\n  fail;\n}\n")
	text, want := "", ""
	for i := range api.MaxDeep - 1 {
		text += "repeat " + strconv.Itoa(i) + " "
		want += strings.Repeat("  ", i+1) + "repeat " + strconv.Itoa(i) + "\n"
	}
	wantProgram(t, program(t, "tree t {"+text+"ok;}"), "tree t {\n"+want+strings.Repeat("  ", api.MaxDeep)+"ok;\n}\n")
}

// declared is the canonical text of a program with each sort of declaration, and
// declarations lists these in this order.
const declared = `key own a int;
key shared b sym;
tree t {
  ok;
}
tree u {
  not
    do x;
}
domain d {
}
domain e {
  var v -1 2;
  act y cost 3 {
    need v >= 4;
    make v - 5;
  }
  goal v == 6;
}
`

func declarations() []string {
	return []string{"key own a int;", "key shared b sym;", "tree t{ok;}", "tree u{not do x;}", "domain d{}", "domain e{var v -1 2;goal v==6;act y cost 3{need v>=4;make v-5;}}"}
}

func TestP1201KeysThenTreesThenDomains(t *testing.T) {
	all, n := declarations(), 0
	lines := []string{"key own a int;\n", "key shared b sym;\n", "tree t {\n  ok;\n}\n", "tree u {\n  not\n    do x;\n}\n", "domain d {\n}\n",
		"domain e {\n  var v -1 2;\n  act y cost 3 {\n    need v >= 4;\n    make v - 5;\n  }\n  goal v == 6;\n}\n"}
	if strings.Join(lines, "") != declared {
		t.Fatal("the example is wrong")
	}
	samples.EveryOrder(all, func(list []string) {
		want := ""
		for _, sort := range []string{"key", "tree", "domain"} {
			for _, one := range list {
				if strings.HasPrefix(one, sort) {
					want += lines[slices.Index(all, one)]
				}
			}
		}
		p := program(t, strings.Join(list, ""))
		wantProgram(t, p, want)
		wantSame(t, p, want)
		if slices.Equal(list, all) && want != declared {
			t.Fatalf("%q", want)
		}
		n++
	})
	if n != 720 {
		t.Fatalf("%d orders", n)
	}
	// Each of them alone, and there twice.
	for i, one := range all {
		wantProgram(t, program(t, one), lines[i])
		wantProgram(t, program(t, one+" "+one), lines[i]+lines[i])
		for j, two := range all[i/2*2 : i/2*2+2] {
			j += i / 2 * 2
			wantProgram(t, program(t, one+two+one), lines[i]+lines[j]+lines[i])
		}
	}
}

func TestP1201VarsThenActsThenGoals(t *testing.T) {
	all := []string{"var v 1 2;", "var w 3 4;", "act a cost 5 { }", "act b cost 6 { need v == 7; }", "goal v >= 8;", "goal w <= 9;"}
	lines := []string{"  var v 1 2;\n", "  var w 3 4;\n", "  act a cost 5 {\n  }\n", "  act b cost 6 {\n    need v == 7;\n  }\n", "  goal v >= 8;\n", "  goal w <= 9;\n"}
	samples.EveryOrder(all, func(list []string) {
		want := "domain d {\n"
		for _, sort := range []string{"var", "act", "goal"} {
			for _, one := range list {
				if strings.HasPrefix(one, sort) {
					want += lines[slices.Index(all, one)]
				}
			}
		}
		wantProgram(t, program(t, "domain d {"+strings.Join(list, "")+"}"), want+"}\n")
	})
}

func TestP1201NeedsThenMakes(t *testing.T) {
	all := []string{"need v==1;", "need w>=2;", "need v<=-3;", "make v=4;", "make w+5;", "make v-6;"}
	lines := []string{"    need v == 1;\n", "    need w >= 2;\n", "    need v <= -3;\n", "    make v = 4;\n", "    make w + 5;\n", "    make v - 6;\n"}
	samples.EveryOrder(all, func(list []string) {
		want := "domain d {\n  act a cost 7 {\n"
		for _, sort := range []string{"need", "make"} {
			for _, one := range list {
				if strings.HasPrefix(one, sort) {
					want += lines[slices.Index(all, one)]
				}
			}
		}
		wantProgram(t, program(t, "domain d {act a cost 7{"+strings.Join(list, "")+"}}"), want+"  }\n}\n")
	})
}

// elements is a domain with some elements of each sort, and its text.
func elements(vars, acts, goals, needs, makes int) (api.Domain, string) {
	d, text := api.Domain{Name: "d"}, "domain d {\n"
	for i := range vars {
		d.Vars = append(d.Vars, api.Var{Name: fmt.Sprint("v", i), Low: i - 3, High: i})
		text += fmt.Sprintf("  var v%d %d %d;\n", i, i-3, i)
	}
	for i := range acts {
		a := api.Act{Name: fmt.Sprint("a", i), Cost: i}
		text += fmt.Sprintf("  act a%d cost %d {\n", i, i)
		for j := range needs {
			a.Need = append(a.Need, api.Cond{Name: fmt.Sprint("x", j), Op: []int{api.CSame, api.CMost, api.CLeast}[j%3], N: j - i})
			text += fmt.Sprintf("    need x%d %s %d;\n", j, []string{"==", "<=", ">="}[j%3], j-i)
		}
		for j := range makes {
			a.Make = append(a.Make, api.Make{Name: fmt.Sprint("y", j), N: j - i})
			text += fmt.Sprintf("    make y%d = %d;\n", j, j-i)
		}
		d.Acts = append(d.Acts, a)
		text += "  }\n"
	}
	for i := range goals {
		d.Goal = append(d.Goal, api.Cond{Name: fmt.Sprint("g", i), Op: i % 3, N: 7 * i})
		text += fmt.Sprintf("  goal g%d %s %d;\n", i, []string{">=", "<=", "=="}[i%3], 7*i)
	}
	return d, text + "}\n"
}

func TestP1201AnyNumberOfElements(t *testing.T) {
	want := func(list ...int) {
		t.Helper()
		d, text := elements(list[0], list[1], list[2], list[3], list[4])
		p := api.Program{Domains: []api.Domain{d}}
		wantProgram(t, p, text)
		wantSame(t, p, text)
		p.Domains = append(p.Domains, api.Domain{Name: "e"}, d)
		wantProgram(t, p, text+"domain e {\n}\n"+text)
		wantSame(t, p, text+"domain e {\n}\n"+text)
	}
	for vars := range api.MaxVars + 1 {
		for _, acts := range []int{0, 1, 2, api.MaxActs} {
			for goals := range api.MaxVars + 1 {
				want(vars, acts, goals, 1, 1)
			}
		}
	}
	for needs := range api.MaxVars + 1 {
		for makes := range api.MaxVars + 1 {
			want(1, 3, 1, needs, makes)
		}
	}
	want(api.MaxVars, api.MaxActs, api.MaxVars, api.MaxVars, api.MaxVars)
}

// alone is the text of a domain with one line at level 1, or in an act with one at
// level 2.
func alone(line string) string { return "domain d {\n  " + line + "\n}\n" }

func inAct(line string) string { return alone("act a cost 1 {\n    " + line + "\n  }") }

func TestP1201NumbersOfDomains(t *testing.T) {
	numbers := []int{-math.MaxInt, -math.MaxInt + 1, -1 << 40, -1000, -101, -100, -10, -9, -1, 0, 1, 2, 9, 10, 99, 100, 101, 1000, 1 << 40, math.MaxInt - 1, math.MaxInt}
	for _, n := range numbers {
		one := strconv.Itoa(n)
		for _, m := range numbers {
			line := "var v " + one + " " + strconv.Itoa(m) + ";"
			wantProgram(t, program(t, alone(line)), alone(line))
			wantProgram(t, api.Program{Domains: []api.Domain{{Name: "d", Vars: []api.Var{{Name: "v", Low: n, High: m}}}}}, alone(line))
		}
		for op, sign := range map[int]string{api.CLeast: ">=", api.CMost: "<=", api.CSame: "=="} {
			c := []api.Cond{{Name: "v", Op: op, N: n}}
			goal, need := "goal v "+sign+" "+one+";", "need v "+sign+" "+one+";"
			wantProgram(t, program(t, alone(goal)), alone(goal))
			wantProgram(t, program(t, inAct(need)), inAct(need))
			wantProgram(t, api.Program{Domains: []api.Domain{{Name: "d", Goal: c}}}, alone(goal))
			wantProgram(t, api.Program{Domains: []api.Domain{{Name: "d", Acts: []api.Act{{Name: "a", Cost: 1, Need: c}}}}}, inAct(need))
		}
		if n >= 0 {
			act := "act a cost " + one + " {\n  }"
			wantProgram(t, program(t, alone(act)), alone(act))
			wantProgram(t, api.Program{Domains: []api.Domain{{Name: "d", Acts: []api.Act{{Name: "a", Cost: n}}}}}, alone(act))
		}
	}
}

func TestP1201EachFormOfAMake(t *testing.T) {
	most := "9223372036854775807"
	for text, want := range map[string]string{
		"v=0": "v = 0", "v=5": "v = 5", "v=-5": "v = -5", "v=- 0": "v = 0", "v=" + most: "v = " + most, "v=-" + most: "v = -" + most,
		"v+0": "v + 0", "v-0": "v + 0", "v+5": "v + 5", "v-5": "v - 5", "v+1": "v + 1", "v-1": "v - 1",
		"v+" + most: "v + " + most, "v-" + most: "v - " + most, "v - 9223372036854775806": "v - 9223372036854775806",
	} {
		p := program(t, inAct("make "+text+";"))
		wantProgram(t, p, inAct("make "+want+";"))
		wantSame(t, p, inAct("make "+want+";"))
	}
	for want, m := range map[string]api.Make{
		"v = 0": {Name: "v"}, "w = -1": {Name: "w", N: -1}, "v = 7": {Name: "v", N: 7}, "v = " + most: {Name: "v", N: math.MaxInt}, "v = -" + most: {Name: "v", N: -math.MaxInt},
		"v + 0": {Name: "v", Add: true}, "v + 1": {Name: "v", Add: true, N: 1}, "v - 1": {Name: "v", Add: true, N: -1}, "w - 100": {Name: "w", Add: true, N: -100},
		"v + " + most: {Name: "v", Add: true, N: math.MaxInt}, "v - " + most: {Name: "v", Add: true, N: -math.MaxInt},
	} {
		wantProgram(t, api.Program{Domains: []api.Domain{{Name: "d", Acts: []api.Act{{Name: "a", Cost: 1, Make: []api.Make{m}}}}}}, inAct("make "+want+";"))
	}
}

func TestP1201AsManyDeclarationsAsMayBe(t *testing.T) {
	var p api.Program
	keys, trees, domains := "", "", ""
	for i := range api.MaxKeys {
		p.Keys = append(p.Keys, api.Key{Name: fmt.Sprint("k", i), Kind: api.KSym, Shared: true})
		keys += fmt.Sprintf("key shared k%d sym;\n", i)
	}
	for i := range api.MaxTrees {
		p.Trees = append(p.Trees, api.Tree{Name: fmt.Sprint("t", i), Root: api.Node{Kind: api.NUse, Name: fmt.Sprint("t", i+1)}})
		trees += fmt.Sprintf("tree t%d {\n  use t%d;\n}\n", i, i+1)
		p.Domains = append(p.Domains, api.Domain{Name: fmt.Sprint("d", i)})
		domains += fmt.Sprintf("domain d%d {\n}\n", i)
	}
	wantProgram(t, p, keys+trees+domains)
	wantSame(t, p, keys+trees+domains)
	wantProgram(t, program(t, domains+keys+trees), keys+trees+domains)
	wantProgram(t, api.Program{Trees: p.Trees, Domains: p.Domains}, trees+domains)
	wantProgram(t, api.Program{Keys: p.Keys, Domains: p.Domains}, keys+domains)
	wantProgram(t, api.Program{Keys: p.Keys, Trees: p.Trees}, keys+trees)
}

func TestP1201RandomProgramsAreLaidOutByTheRules(t *testing.T) {
	d := samples.Dice(2201)
	bytes := 0
	for range 1500 {
		p := d.Program(d.Roll(20))
		got := printer.Print(p)
		bytes += len(got)
		if want := laid(samples.Written(p, samples.InOrder), 0); got != want {
			t.Fatalf("%q; want %q", got, want)
		}
	}
	if bytes < 1<<20 {
		t.Fatalf("the texts have %d bytes only", bytes)
	}
}
