package check_test

import (
	"fmt"
	"math"
	"strconv"
	"strings"
	"testing"

	"puppeteer/api"
	"puppeteer/samples"
)

func TestP1302TreesThatAreThereTwice(t *testing.T) {
	for _, c := range []struct{ text, name string }{
		{"tree t { ok; } tree t { ok; }", "t"}, {"tree t { ok; } tree u { fail; } tree t { ok; } tree u { ok; }", "t"}, {"tree t { ok; } tree u { fail; } tree u { ok; } tree t { ok; }", "u"},
		{"tree t { ok; } tree T { ok; } tree t_ { ok; } tree tt { ok; }", ""}, {"tree " + samples.LongestName() + " { ok; } tree " + samples.LongestName() + " { use t; }", samples.LongestName()},
		// All that is wrong otherwise comes later.
		{"tree t { if 1; } tree t { use none; }", "t"}, {"tree t { use t; } tree u { if x; } tree u { use u; }", "u"}, {"domain d { goal v == 1; } domain d { } tree u { ok; } tree u { ok; }", "u"},
		// A tree may have the name of a domain.
		{"tree d { plan d; } domain d { } tree e { use d; } domain e { }", ""},
	} {
		wantText(t, c.text, c.name, map[bool]api.Errno{true: api.OK, false: api.ErrTwice}[c.name == ""])
	}
	wantManyNames(t, "tree", "ok;", "if 1;", api.ErrKind)
}

// wantManyNames checks for many declarations of a sort that the last one may have none
// of their names, whatever is in it.
func wantManyNames(t *testing.T, sort, right, wrong string, err api.Errno) {
	t.Helper()
	for n := 2; n <= api.MaxTrees; n += 7 {
		text := ""
		for i := range n - 1 {
			text += fmt.Sprintf("%s x%d { %s } ", sort, i, right)
		}
		for at := range n - 1 {
			wantText(t, text+fmt.Sprintf("%s x%d { %s }", sort, at, wrong), fmt.Sprint("x", at), api.ErrTwice)
			wantText(t, text+fmt.Sprintf("%s y%d { %s }", sort, at, wrong), fmt.Sprint("y", at), err)
		}
	}
}

func TestP1302DomainsThatAreThereTwice(t *testing.T) {
	for _, c := range []struct {
		text, name string
		err        api.Errno
	}{
		{"domain d { } domain d { }", "d", api.ErrTwice}, {"domain d { } domain e { } domain d { } domain e { }", "d", api.ErrTwice}, {"domain d { } domain e { } domain e { } domain d { }", "e", api.ErrTwice},
		{"domain d { } domain D { } domain d_ { } domain dd { }", "", api.OK},
		// A domain is checked whole ahead of the next one, and its name ahead of what is in it.
		{"domain d { } domain d { goal v == 1; }", "d", api.ErrTwice}, {"domain d { goal v == 1; } domain d { }", "d", api.ErrName}, {"domain d { act a cost 0 { } } domain e { } domain e { }", "d", api.ErrArg},
		{"domain d { } domain e { goal v == 1; } domain d { }", "e", api.ErrName}, {"domain d { } domain d { } domain e { goal v == 1; }", "d", api.ErrTwice},
		// All that is wrong in trees, but for their names, comes later.
		{"tree t { if 1; } domain d { goal v == 1; }", "d", api.ErrName}, {"tree t { use t; } domain d { } domain d { }", "d", api.ErrTwice}, {"tree t { if 1; } tree u { plan none; } domain d { act a cost 0 { } }", "d", api.ErrArg},
	} {
		wantText(t, c.text, c.name, c.err)
	}
	wantManyNames(t, "domain", "", "goal v == 1;", api.ErrName)
}

// domainKeys declares keys that may be variables, and one of each kind that may not.
const domainKeys = "key own v int; key shared w int; key own u int; key own b bool; key own r ref; key shared s sym; key own p point;"

// inDomain is a program with a domain of these elements, ahead of and behind which
// there are others that are right.
func inDomain(elements string) string {
	return domainKeys + "domain first { var v 0 1; act a cost 1 { } goal v == 1; } domain d { " + elements + " } domain last { var u 0 0; } tree t { plan d; }"
}

// wantDomain checks what Check answers for a domain of these elements.
func wantDomain(t *testing.T, elements string, err api.Errno) {
	t.Helper()
	name := "d"
	if err == api.OK {
		name = ""
	}
	wantText(t, inDomain(elements), name, err)
}

// high tells what is wrong with a number of a domain.
func high(n int) api.Errno {
	if n < -api.MaxHigh || n > api.MaxHigh {
		return api.ErrArg
	}
	return api.OK
}

func bounds() []int {
	return []int{-math.MaxInt, -1 << 32, -1000, -102, -101, -100, -99, -2, -1, 0, 1, 2, 99, 100, 101, 102, 1000, 1 << 32, math.MaxInt}
}

func TestP1302TheRangeOfAVar(t *testing.T) {
	for _, low := range bounds() {
		for _, top := range bounds() {
			want := api.OK
			if low > top || low < -100 || top > 100 {
				want = api.ErrArg
			}
			element := fmt.Sprintf("var %%s %d %d;", low, top)
			wantDomain(t, fmt.Sprintf(element, "v"), want)
			wantDomain(t, fmt.Sprintf(element, "w"), want)
			for name, err := range map[string]api.Errno{"none": api.ErrName, "t": api.ErrName, "d": api.ErrName, "a": api.ErrName, "V": api.ErrName, "b": api.ErrKind, "r": api.ErrKind, "s": api.ErrKind, "p": api.ErrKind} {
				if want != api.OK {
					err = want
				}
				wantDomain(t, fmt.Sprintf(element, name), err)
			}
			// One that is there already.
			wantDomain(t, "var v 0 1;"+fmt.Sprintf(element, "v"), api.ErrTwice)
		}
	}
}

func TestP1302ANumberThatNoTextHas(t *testing.T) {
	p := program(t, inDomain("var v 0 1; act a cost 1 { need v == 1; make v = 1; } goal v == 1;"))
	for _, set := range []func(d *api.Domain, n int){
		func(d *api.Domain, n int) { d.Vars[0].Low, d.Vars[0].High = n, n },
		func(d *api.Domain, n int) { d.Acts[0].Cost = n },
		func(d *api.Domain, n int) { d.Acts[0].Need[0].N = n },
		func(d *api.Domain, n int) { d.Acts[0].Make[0].N = n },
		func(d *api.Domain, n int) { d.Goal[0].N = n },
	} {
		want(t, p, "", api.OK)
		set(&p.Domains[1], math.MinInt)
		want(t, p, "d", api.ErrArg)
		set(&p.Domains[1], 1)
	}
	p.Domains[1].Acts[0].Cost = -1
	want(t, p, "d", api.ErrArg)
}

func TestP1302VarsThatAreThereTwice(t *testing.T) {
	wantDomain(t, "var v 0 1; var w 0 1; var u 0 1;", api.OK)
	wantDomain(t, "var v 0 1; var w 0 1; var v 0 1;", api.ErrTwice)
	wantDomain(t, "var v 0 1; var w 0 1; var w -5 5;", api.ErrTwice)
	// The first of the vars that are wrong counts, whatever its error.
	wantDomain(t, "var v 0 1; var w 2 1; var v 0 1;", api.ErrArg)
	wantDomain(t, "var v 0 1; var v 0 1; var w 2 1;", api.ErrTwice)
	wantDomain(t, "var v 2 1; var v 0 1;", api.ErrArg)
	wantDomain(t, "var none 0 1; var none 0 1;", api.ErrName)
	wantDomain(t, "var b 0 1; var b 0 1;", api.ErrKind)
	keys, vars := "", ""
	for i := range api.MaxVars {
		keys += fmt.Sprintf("key own x%d int; ", i)
		vars += fmt.Sprintf("var x%d -1 1; ", i)
	}
	wantRight(t, keys+"domain d { "+vars+"} domain e { "+vars+"}")
	for i := range api.MaxVars {
		last := fmt.Sprintf("var x%d -1 1; ", api.MaxVars-1)
		again := fmt.Sprintf("var x%d -1 1; ", i)
		if again != last {
			wantText(t, keys+"domain d { "+strings.Replace(vars, last, again, 1)+"}", "d", api.ErrTwice)
		}
		wantText(t, strings.Replace(keys, fmt.Sprintf("key own x%d int;", i), "", 1)+"domain d { "+vars+"}", "d", api.ErrName)
		wantText(t, strings.Replace(keys, fmt.Sprintf("x%d int;", i), fmt.Sprintf("x%d sym;", i), 1)+"domain d { "+vars+"}", "d", api.ErrKind)
		wantText(t, keys+"domain d { "+strings.Replace(vars, fmt.Sprintf("x%d -1 1", i), fmt.Sprintf("x%d 1 -1", i), 1)+"}", "d", api.ErrArg)
	}
}

func TestP1302TheCostOfAnAct(t *testing.T) {
	for cost, err := range map[int]api.Errno{0: api.ErrArg, 1: api.OK, 2: api.OK, 100: api.OK, 101: api.OK, 999: api.OK, 1000: api.OK, 1001: api.ErrArg, 1002: api.ErrArg, 1 << 32: api.ErrArg, 1<<32 + 1: api.ErrArg, math.MaxInt: api.ErrArg} {
		one := "act %s cost " + strconv.Itoa(cost) + " { "
		wantDomain(t, fmt.Sprintf(one, "a")+"}", err)
		wantDomain(t, "act z cost 1 { }"+fmt.Sprintf(one, "a")+"}", err)
		wantDomain(t, "act a cost 1 { }"+fmt.Sprintf(one, "a")+"}", api.ErrTwice)
		if err == api.OK {
			err = api.ErrName
		}
		wantDomain(t, fmt.Sprintf(one, "a")+"need none == 1; }", err)
		wantDomain(t, fmt.Sprintf(one, "a")+"make none = 1; }", err)
	}
}

func TestP1302ActsThatAreThereTwice(t *testing.T) {
	acts := ""
	for i := range api.MaxActs - 1 {
		acts += fmt.Sprintf("act a%d cost %d { } ", i, i+1)
	}
	wantDomain(t, acts+"act v cost 1 { } ", api.OK)
	for i := range api.MaxActs - 1 {
		wantDomain(t, acts+fmt.Sprintf("act a%d cost 1 { } ", i), api.ErrTwice)
		wantDomain(t, acts+fmt.Sprintf("act A%d cost 1 { } ", i), api.OK)
		wantDomain(t, strings.Replace(acts, fmt.Sprintf("cost %d ", i+1), "cost 0 ", 1)+"act a0 cost 1 { }", api.ErrArg)
	}
	// Acts of other domains do not count, and an act may have the name of a variable.
	wantRight(t, domainKeys+"domain d { act a cost 1 { } } domain e { act a cost 1 { } var v 0 1; act v cost 1 { } act e cost 1 { } }")
}

func TestP1302NeedsMakesAndGoals(t *testing.T) {
	forms := []string{"goal %s >= %d;", "goal %s <= %d;", "goal %s == %d;"}
	for _, part := range []string{"need %s >= %d;", "need %s <= %d;", "need %s == %d;", "make %s = %d;"} {
		forms = append(forms, "act a cost 1 { "+part+" }", "act a cost 1 { need v == 1; make v = 1; "+part+" }")
	}
	for _, form := range forms {
		for _, n := range bounds() {
			for _, name := range []string{"v", "w"} {
				wantDomain(t, "var v 0 1; var w 0 0;"+fmt.Sprintf(form, name, n), high(n))
				wantDomain(t, fmt.Sprintf(form, name, n)+"var v 0 1; var w 0 0;", high(n))
			}
			// No variable: a key, one of another domain, an act, a domain, another name.
			for _, name := range []string{"u", "b", "a", "d", "none", "V"} {
				wantDomain(t, "var v 0 1; var w 0 0;"+fmt.Sprintf(form, name, n), api.ErrName)
			}
		}
	}
	for _, n := range bounds() {
		for _, sign := range []string{"+", "-"} {
			part := fmt.Sprintf("make %%s %s %d; }", sign, max(n, -n))
			wantDomain(t, "var v 0 1; act a cost 1 { "+fmt.Sprintf(part, "v"), high(n))
			wantDomain(t, "var v 0 1; act a cost 1 { "+fmt.Sprintf(part, "w"), api.ErrName)
		}
	}
}

// needs and makes that are wrong.
func badParts() (needs, makes map[string]api.Errno) {
	needs = map[string]api.Errno{"need none == 1;": api.ErrName, "need v >= 101;": api.ErrArg, "need w <= -101;": api.ErrArg, "need u == 1000;": api.ErrName}
	makes = map[string]api.Errno{"make none = 1;": api.ErrName, "make v = 101;": api.ErrArg, "make w - 101;": api.ErrArg, "make v + 101;": api.ErrArg, "make u + 1000;": api.ErrName}
	return needs, makes
}

func TestP1302EachNeedThenEachMake(t *testing.T) {
	needs, makes := badParts()
	act := func(parts string, err api.Errno) {
		t.Helper()
		wantDomain(t, "var v 0 1; var w 0 1; act a cost 1 { need v == 1; make v = 1; "+parts+" need v == 1; make v = 1; }", err)
	}
	for one, err := range needs {
		for two := range needs {
			act(one+two, err)
			act(one+"need w == 1;"+two, err)
		}
		for two := range makes {
			act(one+two, err)
			act(two+one, err)
		}
	}
	for one, err := range makes {
		for two := range makes {
			act(one+two, err)
			act(one+"make w - 1;"+two, err)
		}
	}
	for at := range api.MaxVars {
		for one, err := range needs {
			parts := strings.Repeat("need v == 1;", at) + one + strings.Repeat("need none == 101;", api.MaxVars-at-1)
			wantDomain(t, "var v 0 1; var w 0 1; act a cost 1 { "+parts+" }", err)
		}
		for one, err := range makes {
			parts := strings.Repeat("make v = 1;", at) + one + strings.Repeat("make none = 101;", api.MaxVars-at-1)
			wantDomain(t, "var v 0 1; var w 0 1; act a cost 1 { "+parts+" }", err)
		}
		goals := strings.Repeat("goal v == 1;", at) + "goal v == 101;" + strings.Repeat("goal none == 1;", api.MaxVars-at-1)
		wantDomain(t, "var v 0 1;"+goals, api.ErrArg)
	}
}

// An element is one that is wrong, of a sort: 0 of a var, 1 of an act, 2 of a goal.
type element struct {
	sort int
	text string
	err  api.Errno
}

// elements lists such ones, if there are the vars v and w and the act z already.
func elements() []element {
	list := []element{
		{0, "var v 0 1;", api.ErrTwice}, {0, "var v 2 1;", api.ErrTwice}, {0, "var v 0 101;", api.ErrTwice}, {0, "var u 2 1;", api.ErrArg}, {0, "var u -101 0;", api.ErrArg},
		{0, "var u 0 101;", api.ErrArg}, {0, "var none 2 1;", api.ErrArg}, {0, "var b 2 1;", api.ErrArg}, {0, "var none 0 1;", api.ErrName}, {0, "var b 0 1;", api.ErrKind}, {0, "var p 0 1;", api.ErrKind},
		{1, "act z cost 1 { }", api.ErrTwice}, {1, "act z cost 0 { need none == 1; }", api.ErrTwice}, {1, "act y cost 0 { need none == 1; }", api.ErrArg}, {1, "act y cost 1001 { }", api.ErrArg},
		{2, "goal none == 101;", api.ErrName}, {2, "goal none == 1;", api.ErrName}, {2, "goal v <= -101;", api.ErrArg}, {2, "goal w == 101;", api.ErrArg}, {2, "goal b == 1;", api.ErrName},
	}
	needs, makes := badParts()
	for part, err := range needs {
		list = append(list, element{1, "act y cost 1 { " + part + " make none = 101; }", err})
	}
	for part, err := range makes {
		list = append(list, element{1, "act y cost 1 { need v == 1; " + part + " }", err})
	}
	return list
}

func TestP1302VarsThenActsThenGoals(t *testing.T) {
	right := "var v 0 1; var w 0 1; act z cost 1 { need v == 1; make w = 1; } goal v == 1;"
	for _, one := range elements() {
		wantDomain(t, right+one.text, one.err)
		for _, two := range elements() {
			err := one.err
			if two.sort < one.sort {
				err = two.err
			}
			wantDomain(t, right+one.text+two.text, err)
			wantDomain(t, right+one.text+"act x cost 1 { } goal w == 1;"+two.text, err)
			// Of two domains, the first counts.
			in := "domain %s { " + right + "%s } "
			wantText(t, domainKeys+fmt.Sprintf(in, "d", one.text)+fmt.Sprintf(in, "e", two.text), "d", one.err)
			wantText(t, domainKeys+fmt.Sprintf(in, "e", "")+fmt.Sprintf(in, "d", one.text)+fmt.Sprintf(in, "d", two.text), "d", one.err)
			wantText(t, domainKeys+fmt.Sprintf(in, "d", "")+fmt.Sprintf(in, "d", one.text)+fmt.Sprintf(in, "e", two.text), "d", api.ErrTwice)
		}
	}
}

func TestP1302TheVarsOfADomainAreItsOwn(t *testing.T) {
	for part, err := range map[string]api.Errno{"goal v == 1;": api.ErrName, "goal w == 1;": api.OK, "act a cost 1 { need v == 1; }": api.ErrName, "act a cost 1 { make v = 1; }": api.ErrName, "act a cost 1 { make w = 1; }": api.OK, "var v 0 1;": api.OK, "var w 0 1;": api.ErrTwice} {
		name := ""
		if err != api.OK {
			name = "e"
		}
		wantText(t, domainKeys+"domain d { var v 0 1; act a cost 1 { } } domain e { var w 0 1; "+part+" } domain f { var v 0 1; }", name, err)
	}
}
