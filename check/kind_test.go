package check_test

import (
	"fmt"
	"math"
	"slices"
	"strconv"
	"strings"
	"testing"

	"puppeteer/api"
	"puppeteer/check"
	"puppeteer/samples"
)

// operands lists expressions of each kind, at its number.
func operands() [][]string {
	return [][]string{
		api.KInt:   {"0", "-7", "time", "i", "I", "(i + 1)", "(i - I)", "(2 * i)", "(i / 0)", "re p", "im P", "far(p, (1, 2))"},
		api.KBool:  {"true", "false", "b", "B", "not b", "(b and B)", "(b or true)", "(r == self)", "(i < I)"},
		api.KRef:   {"self", "r", "R"},
		api.KSym:   {"'i", "'x", "s", "S"},
		api.KPoint: {"p", "P", "(i, -1)", "turn p", "(p + P)", "(p - (0, 0))"},
	}
}

// filled is a form with texts in the places of its kids.
func filled(form string, kids ...string) string {
	for _, kid := range kids {
		form = strings.Replace(form, "%", kid, 1)
	}
	return form
}

func TestP1301EachKindWithoutKids(t *testing.T) {
	for text, kind := range map[string]int{
		"0": api.KInt, "1": api.KInt, "-1": api.KInt, "9223372036854775807": api.KInt, "-9223372036854775807": api.KInt, "time": api.KInt,
		"true": api.KBool, "false": api.KBool, "self": api.KRef, "'a": api.KSym, "'i": api.KSym, "'b": api.KSym, "'times": api.KSym,
		"i": api.KInt, "b": api.KBool, "r": api.KRef, "s": api.KSym, "p": api.KPoint, "I": api.KInt, "B": api.KBool, "R": api.KRef, "S": api.KSym, "P": api.KPoint,
	} {
		wantKindOf(t, text, kind, api.OK)
		wantKindOf(t, "("+text+")", kind, api.OK)
	}
}

func TestP1301EachFormOfKidsOfEveryKinds(t *testing.T) {
	right, wrong := 0, 0
	wantForm := func(form string, kinds []int, kids ...string) {
		t.Helper()
		kind := ruled(form, kinds...)
		if kind < 0 {
			wrong++
			wantKindOf(t, filled(form, kids...), 0, api.ErrKind)
			return
		}
		right++
		wantKindOf(t, filled(form, kids...), kind, api.OK)
	}
	for _, form := range forms() {
		for one, list := range operands() {
			for _, kid := range list {
				if strings.Count(form, "%") == 1 {
					wantForm(form, []int{one}, kid)
					continue
				}
				for two, others := range operands() {
					for _, other := range others {
						wantForm(form, []int{one, two}, kid, other)
					}
				}
			}
		}
	}
	if right < 1000 || wrong < 5000 {
		t.Fatalf("%d are right, %d wrong", right, wrong)
	}
}

func TestP1301TheFormsByTheirTexts(t *testing.T) {
	for text, kind := range map[string]int{
		"1 + i": api.KInt, "i - 1": api.KInt, "i * 2": api.KInt, "i / 2": api.KInt, "p + p": api.KPoint, "p - (1, 2)": api.KPoint,
		"re p": api.KInt, "im (1, 2)": api.KInt, "far(p, p)": api.KInt, "turn p": api.KPoint, "(1, i)": api.KPoint,
		"not b": api.KBool, "b and true": api.KBool, "b or b": api.KBool, "i < 2": api.KBool,
		"i == 1": api.KBool, "b == b": api.KBool, "r == self": api.KBool, "s == 'x": api.KBool, "p == p": api.KBool,
		"i + re turn (p + (far(p, P), time)) * 2": api.KInt, "not (i == 2) and b or s == 's": api.KBool, "(i == 2) == b": api.KBool, "turn turn p - p == P": api.KBool,
	} {
		wantKindOf(t, text, kind, api.OK)
	}
	for _, text := range []string{
		"i + p", "p + i", "i - p", "p - i", "b + b", "s - s", "r + r", "p * p", "p * i", "i * p", "p / 1", "i / b", "not 1", "not p", "not s", "b and 1", "1 or b", "i and i",
		"i == b", "b == i", "r == s", "s == r", "p == i", "i == r", "b == s", "p < p", "b < b", "s < s", "i < p", "p < i", "r < r",
		"(b, 1)", "(1, b)", "(p, p)", "(1, p)", "(s, 1)", "re 1", "re b", "im i", "im s", "turn b", "turn i", "turn r", "far(p, 1)", "far(1, p)", "far(i, i)", "far(b, b)", "far(s, p)",
		"re re p", "not re p", "turn far(p, p)", "(i == i) == b + 1", "not i == b", "(i + p, 1)",
	} {
		wantKindOf(t, "("+text+")", 0, api.ErrKind)
	}
}

// wrongs lists expressions that have errors.
func wrongs() map[string]api.Errno {
	return map[string]api.Errno{
		"x": api.ErrName, "not x": api.ErrName, "(x + 1)": api.ErrName, "(1 + x)": api.ErrName, "(true + x)": api.ErrName, "(x + true)": api.ErrName, "far(x, 1)": api.ErrName, "turn re x": api.ErrName,
		"(1 + true)": api.ErrKind, "not 1": api.ErrKind, "re 1": api.ErrKind, "((1 + true) + x)": api.ErrKind, "(not 1, x)": api.ErrKind, "far(turn 1, x)": api.ErrKind, "(i == b)": api.ErrKind, "not (p < p)": api.ErrKind,
	}
}

func TestP1301TheFirstError(t *testing.T) {
	for one, err := range wrongs() {
		wantKindOf(t, one, 0, err)
		for _, form := range forms() {
			if strings.Count(form, "%") == 1 {
				wantKindOf(t, filled(form, one), 0, err)
				continue
			}
			// Ahead of, and behind, what is right, or right in another place only.
			for _, list := range operands() {
				for _, other := range list[:3] {
					wantKindOf(t, filled(form, one, other), 0, err)
					wantKindOf(t, filled(form, other, one), 0, err)
				}
			}
			for two, other := range wrongs() {
				wantKindOf(t, filled(form, one, two), 0, err)
				wantKindOf(t, filled(form, two, one), 0, other)
			}
		}
	}
}

func TestP1301TheFirstErrorDeepInside(t *testing.T) {
	for one, err := range wrongs() {
		for two := range wrongs() {
			for _, outer := range []string{"(1 + %) + true", "not %", "re turn %", "(%, true)", "far(not b, %)", "% and 1", "(p * (% / true))"} {
				pair := filled("(% == %)", one, two)
				if strings.Contains(outer, "not b") {
					pair = filled("(% or %)", one, two)
				}
				wantKindOf(t, "("+filled(outer, pair)+")", 0, err)
			}
		}
		// A sum of many, of which one has an error ahead of the one that is last.
		for at := range 30 {
			terms := slices.Repeat([]string{"i"}, 30)
			terms[at] = one
			wantKindOf(t, strings.Join(append(terms, "x"), " + "), 0, err)
			wantKindOf(t, strings.Join(append(terms, "not i"), " + "), 0, err)
		}
	}
	wantKindOf(t, "1 + true + x", 0, api.ErrKind)
	wantKindOf(t, "x + (1 + true)", 0, api.ErrName)
	wantKindOf(t, "1 + (true + x)", 0, api.ErrName)
	wantKindOf(t, "(not 1 == 2) == x", 0, api.ErrKind)
}

// invalid lists expressions that are not valid.
func invalid() []api.Expr {
	one := api.Expr{N: 1}
	list := []api.Expr{
		{N: math.MinInt}, {Name: "i"}, {Kind: api.EBool, N: 2}, {Kind: api.EBool, N: -1}, {Kind: api.EBool, Name: "b"}, {Kind: api.EName}, {Kind: api.EName, Name: "i", N: 1},
		{Kind: api.EName, Name: "int"}, {Kind: api.EName, Name: "9"}, {Kind: api.EName, Name: "i "}, {Kind: api.EName, Name: samples.LongestName() + "n"}, {Kind: api.ESym}, {Kind: api.ESym, Name: "'a"},
		{Kind: api.ESym, Name: "seq"}, {Kind: api.ESelf, N: 1}, {Kind: api.ETime, Name: "i"}, {Kind: -1}, {Kind: 20}, {Kind: 99}, {Kind: math.MinInt}, {Kind: math.MaxInt}, {Kind: api.EAdd, N: 1, Kids: []api.Expr{one, one}},
		{Kind: api.ENot, Name: "b", Kids: []api.Expr{{Kind: api.EBool}}},
	}
	for kind := range api.EFar + 1 {
		for kids := range 4 {
			if want := strings.Count(slices.Concat(make([]string, api.EAdd), forms())[kind], "%"); kids != want {
				list = append(list, api.Expr{Kind: kind, Kids: slices.Repeat([]api.Expr{one}, kids)})
			}
		}
	}
	return list
}

func TestP1301WhatIsNotValid(t *testing.T) {
	for _, x := range invalid() {
		wantKind(t, x, ten(), 0, api.ErrArg)
		wantKind(t, x, nil, 0, api.ErrArg)
	}
}

func TestP1301WhatIsNotValidComesAheadOfAllOtherErrors(t *testing.T) {
	for text := range wrongs() {
		wrong := expression(t, text)
		for _, bad := range invalid() {
			for kind := api.EAdd; kind <= api.EFar; kind++ {
				kids := []api.Expr{wrong, bad}
				if strings.Count(forms()[kind-api.EAdd], "%") == 1 {
					kids = kids[1:]
				}
				x := api.Expr{Kind: kind, Kids: kids}
				wantKind(t, x, ten(), 0, api.ErrArg)
				slices.Reverse(kids)
				wantKind(t, x, ten(), 0, api.ErrArg)
				wantKind(t, api.Expr{Kind: api.EAdd, Kids: []api.Expr{wrong, {Kind: api.ENot, Kids: []api.Expr{x}}}}, ten(), 0, api.ErrArg)
			}
		}
	}
}

func TestP1301NamesThatLHasNot(t *testing.T) {
	long := samples.LongestName()
	l := []api.Key{{Name: "Ab", Kind: api.KBool}, {Name: "a_1", Kind: api.KRef}, {Name: long, Kind: api.KSym}}
	for name, kind := range map[string]int{"Ab": api.KBool, "a_1": api.KRef, long: api.KSym} {
		wantKind(t, api.Expr{Kind: api.EName, Name: name}, l, kind, api.OK)
		wantKind(t, api.Expr{Kind: api.EName, Name: name}, nil, 0, api.ErrName)
		wantKind(t, api.Expr{Kind: api.EName, Name: name}, []api.Key{}, 0, api.ErrName)
	}
	for _, name := range []string{"ab", "AB", "aB", "A", "b", "Abb", "a_", "a_11", "a", long[1:], long[1:] + "N"} {
		wantKind(t, api.Expr{Kind: api.EName, Name: name}, l, 0, api.ErrName)
	}
	// The name of an ESym is no name of a key.
	wantKind(t, api.Expr{Kind: api.ESym, Name: "Ab"}, l, api.KSym, api.OK)
	wantKind(t, api.Expr{Kind: api.ESym, Name: "other"}, nil, api.KSym, api.OK)
}

func TestP1301TheFirstKeyOfANameCounts(t *testing.T) {
	x := expression(t, "a")
	for one := range 5 {
		for two := range 5 {
			for three := range 5 {
				for shared := range 8 {
					l := []api.Key{{Name: "a", Kind: one, Shared: shared&1 > 0}, {Name: "a", Kind: two, Shared: shared&2 > 0}, {Name: "a", Kind: three, Shared: shared&4 > 0}}
					wantKind(t, x, l, one, api.OK)
					wantKind(t, x, l[1:], two, api.OK)
					l[0].Name = "b"
					wantKind(t, x, l, two, api.OK)
					l[1].Name = "A"
					wantKind(t, x, l, three, api.OK)
					l[2].Name = "c"
					wantKind(t, x, l, 0, api.ErrName)
				}
			}
		}
	}
	wantKind(t, expression(t, "a + 1"), []api.Key{{Name: "a"}, {Name: "a", Kind: api.KBool}}, api.KInt, api.OK)
	wantKind(t, expression(t, "a + 1"), []api.Key{{Name: "a", Kind: api.KBool}, {Name: "a"}}, 0, api.ErrKind)
}

func TestP1301AsManyKeysAsMayBeAndMore(t *testing.T) {
	for _, n := range []int{1, 2, api.MaxKeys - 1, api.MaxKeys, api.MaxKeys + 1, 500} {
		var l []api.Key
		for i := range n {
			l = append(l, api.Key{Name: "k" + strconv.Itoa(i), Kind: i % 5, Shared: i%3 == 0})
		}
		for i := range n {
			wantKind(t, api.Expr{Kind: api.EName, Name: l[i].Name}, l, i%5, api.OK)
		}
		wantKind(t, api.Expr{Kind: api.EName, Name: "k" + strconv.Itoa(n)}, l, 0, api.ErrName)
		// What l has no room for is not in it.
		wantKind(t, api.Expr{Kind: api.EName, Name: l[n-1].Name}, l[:n-1], 0, api.ErrName)
	}
}

func TestP1301KeysThatCannotBeDeclared(t *testing.T) {
	// Only their names and kinds count.
	for _, kind := range []int{-1, 5, 99, math.MinInt, math.MaxInt} {
		l := []api.Key{{Name: ""}, {Name: "a b"}, {Name: "a", Kind: kind}, {Name: "c", Kind: kind}, {Name: "d", Kind: api.KInt}}
		for text, wants := range map[string]int{"a": kind, "a == c": api.KBool, "a == a": api.KBool, "d": api.KInt} {
			if got, err := check.Kind(expression(t, text), l); got != wants || err != api.OK {
				t.Fatalf("Kind of %s, where keys have the kind %d: %d, error %d", text, kind, got, err)
			}
		}
		for _, text := range []string{"a + c", "a - a", "a * a", "a / a", "a == d", "d == a", "a < a", "a and a", "a or a", "not a", "(a, a)", "re a", "im a", "turn a", "far(a, a)"} {
			if got, err := check.Kind(expression(t, text), l); got != 0 || err != api.ErrKind {
				t.Fatalf("Kind of %s, where keys have the kind %d: %d, error %d", text, kind, got, err)
			}
		}
	}
	if got, err := check.Kind(api.Expr{Kind: api.EName}, []api.Key{{}}); got != 0 || err != api.ErrArg {
		t.Fatalf("Kind of an empty name: %d, error %d", got, err)
	}
}

// nest puts an expression into forms with other operands so often, on the left or
// on the right.
func nest(form, text, other string, times int, left bool) string {
	for range times {
		if left {
			text = filled(form, text, other)
		} else {
			text = filled(form, other, text)
		}
	}
	return text
}

func TestP1301AsDeepAsMayBe(t *testing.T) {
	for _, c := range []struct {
		form, inner, other string
		kind               int
	}{
		{"(% + %)", "i", "1", api.KInt}, {"(% - %)", "p", "P", api.KPoint}, {"(% * %)", "1", "i", api.KInt}, {"(% and %)", "b", "true", api.KBool},
		{"(% or %)", "true", "b", api.KBool}, {"(% == %)", "b", "B", api.KBool},
	} {
		for _, left := range []bool{true, false} {
			text := nest(c.form, c.inner, c.other, api.MaxDeep-2, left)
			wantKindOf(t, text, c.kind, api.OK)
			x, other := expression(t, text), expression(t, c.other)
			kids := []api.Expr{x, other}
			if !left {
				slices.Reverse(kids)
			}
			x = api.Expr{Kind: x.Kind, Kids: kids}
			wantKind(t, x, ten(), c.kind, api.OK)
			wantKind(t, x, nil, 0, api.ErrName)
			wantKind(t, api.Expr{Kind: x.Kind, Kids: []api.Expr{x, other}}, ten(), 0, api.ErrArg)
			wantKind(t, api.Expr{Kind: x.Kind, Kids: []api.Expr{other, x}}, nil, 0, api.ErrArg)
			wantKindOf(t, nest(c.form, "x", c.other, api.MaxDeep-2, left), 0, api.ErrName)
			wantKindOf(t, nest(c.form, "re true", c.other, api.MaxDeep-3, left), 0, api.ErrKind)
		}
	}
	for word, ends := range map[string][]string{"not ": {"b", "i", "x"}, "turn ": {"p", "i", "x"}} {
		kinds := map[string]int{"b": api.KBool, "p": api.KPoint}
		for n, inner := range ends {
			wantKindOf(t, strings.Repeat(word, api.MaxDeep-1)+inner, kinds[inner], []api.Errno{api.OK, api.ErrKind, api.ErrName}[n])
		}
	}
}

// broad is a text of all sums of this depth, with 2^depth operands.
func broad(sign string, depth int, leaf func() string) string {
	if depth == 0 {
		return leaf()
	}
	return "(" + broad(sign, depth-1, leaf) + " " + sign + " " + broad(sign, depth-1, leaf) + ")"
}

func TestP1301BroadExpressions(t *testing.T) {
	for at := range 1 << 10 {
		n := -1
		text := broad("+", 10, func() string {
			n++
			switch {
			case n == at:
				return "x"
			case n == at+1:
				return "(1 + true)"
			}
			return "i"
		})
		if got, err := check.Kind(expression(t, text), ten()); got != 0 || err != api.ErrName {
			t.Fatalf("%d: %d, error %d", at, got, err)
		}
	}
	wantKindOf(t, broad("+", 12, func() string { return "i" }), api.KInt, api.OK)
	wantKindOf(t, broad("-", 12, func() string { return "P" }), api.KPoint, api.OK)
	wantKindOf(t, broad("==", 1, func() string { return broad("and", 9, func() string { return "b" }) }), api.KBool, api.OK)
}

func TestP1301EveryPairOfFormsInEachOther(t *testing.T) {
	// All expressions of a form in a form, with each operand.
	texts := []string{"1", "true", "self", "'a", "p", "x"}
	var inner []string
	for _, form := range forms() {
		for _, one := range texts {
			for _, two := range texts {
				inner = append(inner, "("+filled(form, one, two)+")")
			}
		}
	}
	slices.Sort(inner)
	inner = slices.Compact(inner)
	got := map[api.Errno]int{}
	for _, form := range forms() {
		for _, one := range inner {
			for _, two := range texts {
				for _, text := range []string{filled(form, one, two), filled(form, two, one)} {
					x := expression(t, text)
					kind, err := modelKind(x, ten())
					got[err]++
					wantKind(t, x, ten(), kind, err)
				}
			}
		}
	}
	if got[api.OK] < 300 || got[api.ErrName] < 3000 || got[api.ErrKind] < 3000 {
		t.Fatalf("the errors are %v", got)
	}
}

func TestP1301RandomExpressions(t *testing.T) {
	got := map[string]int{}
	for seed := range 20000 {
		d := samples.Maker{Dice: samples.Dice(seed), Wrongs: []int{0, 3, 10, 40}[seed%4]}
		x := d.Expr(d.Roll(5), 1+d.Roll(12))
		kind, err := modelKind(x, ten())
		got[fmt.Sprint(kind, err)]++
		wantKind(t, x, ten(), kind, err)
		some := ten()[d.Roll(6):]
		kind, err = modelKind(x, some)
		wantKind(t, x, some, kind, err)
	}
	for kind := range 5 {
		if got[fmt.Sprint(kind, api.OK)] < 1000 {
			t.Fatalf("the answers are %v", got)
		}
	}
	if got["0 5"] < 1000 || got["0 7"] < 500 {
		t.Fatalf("the answers are %v", got)
	}
}
