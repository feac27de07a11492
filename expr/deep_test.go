package expr_test

import (
	"slices"
	"strings"
	"testing"

	"puppeteer/api"
)

// A wrap is a way of nesting an expression: what stands ahead of it, in n tokens,
// and behind it, and what it makes of it.
type wrap struct {
	ahead, behind string
	n             int
	kind          int // of the expression around it, or -1 if it is the same one
	second        bool
}

func wraps() []wrap {
	return []wrap{
		{"(", ")", 1, -1, false},
		{"(", ", a)", 1, api.EPoint, false},
		{"(a, ", ")", 3, api.EPoint, true},
		{"far(", ", a)", 2, api.EFar, false},
		{"far(a, ", ")", 4, api.EFar, true},
		{"not ", "", 1, api.ENot, false},
		{"re ", "", 1, api.ERe, false},
		{"im ", "", 1, api.EIm, false},
		{"turn ", "", 1, api.ETurn, false},
	}
}

// around is the expression that a wrap makes of x.
func (w wrap) around(x api.Expr) api.Expr {
	switch a := name("a"); {
	case w.kind == -1:
		return x
	case w.kind != api.EPoint && w.kind != api.EFar:
		return of(w.kind, x)
	case w.second:
		return of(w.kind, a, x)
	default:
		return of(w.kind, x, a)
	}
}

// nested returns a text in all these wraps, from the outermost one on, what they
// make of its expression, and at which token the text begins.
func nested(text string, x api.Expr, list ...wrap) (string, api.Expr, int) {
	at := 0
	for _, w := range slices.Backward(list) {
		text, x, at = w.ahead+text+w.behind, w.around(x), at+w.n
	}
	return text, x, at
}

// wantNesting checks that an expression may be in these wraps, of which there are
// api.MaxDeep - 1, but in no more.
func wantNesting(t *testing.T, list []wrap) {
	t.Helper()
	for text, x := range map[string]api.Expr{"a": name("a"), "-5": number(-5)} {
		whole, x, _ := nested(text, x, list...)
		wantWhole(t, whole, x)
	}
	for _, w := range wraps() {
		more, _, _ := nested("a", name("a"), append(slices.Clone(list), w)...)
		_, _, at := nested("", api.Expr{}, append(slices.Clone(list), w)...)
		if w.second {
			// The first half is nested too deep already.
			at -= 2
		}
		wantWrong(t, more, at, api.ErrDeep)
		wantModel(t, tokens(t, more), 0)
	}
}

func TestP1001NestingIsLimited(t *testing.T) {
	for _, w := range wraps() {
		wantNesting(t, slices.Repeat([]wrap{w}, api.MaxDeep-1))
	}
	for i, one := range wraps() {
		for j, two := range wraps() {
			list := slices.Repeat([]wrap{one, two, wraps()[(i+j)%9]}, api.MaxDeep)[:api.MaxDeep-1]
			wantNesting(t, list)
			wantNesting(t, append(slices.Repeat([]wrap{one}, api.MaxDeep-2), two))
			wantNesting(t, append([]wrap{one}, slices.Repeat([]wrap{two}, api.MaxDeep-2)...))
		}
	}
	d := dice{40}
	for range 100 {
		var list []wrap
		for range api.MaxDeep - 1 {
			list = append(list, pick(&d, wraps()...))
		}
		wantNesting(t, list)
	}
}

func TestP1001TooDeepWhateverFollows(t *testing.T) {
	for _, w := range wraps() {
		_, _, n := nested("", api.Expr{}, slices.Repeat([]wrap{w}, api.MaxDeep)...)
		if w.second {
			n -= 2
		}
		ahead := tokens(t, strings.Repeat(w.ahead, api.MaxDeep))[:n]
		for _, token := range everyToken() {
			everywhere(t, slices.Concat(ahead, []api.Token{token}), api.Expr{}, n, api.ErrDeep)
		}
		everywhere(t, ahead, api.Expr{}, n, api.ErrDeep)
		// One less is only wrong if an operand cannot begin there.
		ahead = tokens(t, strings.Repeat(w.ahead, api.MaxDeep-1))
		ahead = ahead[:len(ahead)-1]
		for _, token := range everyToken() {
			wantModel(t, slices.Concat(ahead, []api.Token{token}), 0)
		}
		everywhere(t, ahead, api.Expr{}, len(ahead), api.ErrSyntax)
	}
}

func TestP1001OperatorsDoNotNest(t *testing.T) {
	for sign := range binaries() {
		// The operands of a chain are nested no deeper for being many, but its depth is limited.
		if sign == "==" || sign == "<" {
			continue
		}
		deep := strings.Repeat("(", api.MaxDeep-1)
		wantWrong(t, deep+"a"+strings.Repeat(" "+sign+" a", api.MaxDeep), api.MaxDeep-1+2*api.MaxDeep+1, api.ErrDeep)
		_, to, err := parse(some(t, deep+"a"+strings.Repeat(" "+sign+" a", api.MaxDeep-1)), 0)
		if err != api.ErrSyntax || to != api.MaxDeep-1+2*api.MaxDeep-1 {
			t.Fatalf("the model: %d, error %d", to, err)
		}
		wantWrong(t, deep+"a"+strings.Repeat(" "+sign+" a", api.MaxDeep-1), to, api.ErrSyntax)
	}
	// Operators of all strengths lie within a nesting of one.
	text := "a"
	for _, sign := range signs() {
		text += " " + sign + " a"
	}
	wantModel(t, tokens(t, text), 0)
	deep := strings.Repeat("not (", api.MaxDeep/2-1)
	wantModel(t, tokens(t, deep+"a or b and c == d + e * f"+strings.Repeat(")", api.MaxDeep/2-1)), 0)
}

// chain is a with n operators in a row, and the expression that this is.
func chain(sign string, n int) (string, api.Expr) {
	text, x := "a", name("a")
	for range n {
		text, x = text+" "+sign+" b", of(binaries()[sign][0], x, name("b"))
	}
	return text, x
}

func TestP1001DepthOfAChainIsLimited(t *testing.T) {
	for _, sign := range []string{"or", "and", "+", "-", "*", "/"} {
		text, x := chain(sign, api.MaxDeep-1)
		wantWhole(t, text, x)
		wantWhole(t, "("+text+")", x)
		wantWhole(t, strings.Repeat("(", api.MaxDeep-1)+text+strings.Repeat(")", api.MaxDeep-1), x)
		for _, more := range []int{0, 1, 5, 1000} {
			longer, _ := chain(sign, api.MaxDeep+more)
			wantWrong(t, longer, 2*api.MaxDeep+1, api.ErrDeep)
			wantWrong(t, "("+longer+")", 2*api.MaxDeep+2, api.ErrDeep)
			wantWrong(t, longer+" ; a", 2*api.MaxDeep+1, api.ErrDeep)
		}
		// Each other expression around it counts as well.
		for _, w := range wraps() {
			if w.kind == -1 {
				continue
			}
			text, x, _ := nested("("+text+")", x, w)
			n := len(some(t, text))
			wantWrong(t, text, n, api.ErrDeep)
			wantWrong(t, text+" + 1", n, api.ErrDeep)
			if depth(x) != api.MaxDeep+1 {
				t.Fatal("the depth of the example is wrong")
			}
			shorter, y := chain(sign, api.MaxDeep-2)
			shorter, y, _ = nested("("+shorter+")", y, w)
			wantWhole(t, shorter, y)
		}
		for other := range binaries() {
			n := 2*api.MaxDeep + 3
			wantWrong(t, "("+text+") "+other+" 1", n, api.ErrDeep)
			wantWrong(t, "1 "+other+" ("+text+")", n, api.ErrDeep)
			wantWrong(t, "("+text+") "+other+" ("+text+") ;", 4*api.MaxDeep+3, api.ErrDeep)
			shorter, y := chain(sign, api.MaxDeep-2)
			wantWhole(t, "("+shorter+") "+other+" 1", of(binaries()[other][0], y, number(1)))
			wantWhole(t, "1 "+other+" ("+shorter+")", of(binaries()[other][0], number(1), y))
		}
	}
}

func TestP1001DepthOfAnExpressionThatIsFormedLater(t *testing.T) {
	// The sum is formed where the product ends, the product as soon as it is read.
	sum, _ := chain("+", api.MaxDeep-1)
	n := 2*api.MaxDeep - 1
	wantWrong(t, sum+" + c * d", n+4, api.ErrDeep)
	wantWrong(t, sum+" + c * d * e * f", n+8, api.ErrDeep)
	wantWrong(t, sum+" + c == d", n+2, api.ErrDeep)
	wantWrong(t, sum+" + (c, d)", n+6, api.ErrDeep)
	wantWrong(t, sum+" + not not c", n+4, api.ErrDeep)
	wantWrong(t, sum+" == c + d", n+4, api.ErrDeep)
	wantWrong(t, sum+" == c and d", n+2, api.ErrDeep)
	wantWrong(t, sum+" == c == d", n+2, api.ErrDeep)
	wantWrong(t, sum+" and c == d", n+4, api.ErrDeep)
	wantWrong(t, sum+" and c or d", n+2, api.ErrDeep)
	wantWrong(t, sum+" or c and d", n+4, api.ErrDeep)
	product, _ := chain("*", api.MaxDeep-1)
	wantWrong(t, product+" * c + d", n+2, api.ErrDeep)
	wantWrong(t, "c + "+product, n+2, api.ErrDeep)
	wantWrong(t, "c + "+product+" + d", n+2, api.ErrDeep)
	wantWrong(t, "c + "+product+" * d", n+4, api.ErrDeep)
	wantWrong(t, "c or "+product+" and d", n+4, api.ErrDeep)
	wantWrong(t, "c == "+product+" == d", n+2, api.ErrDeep)
	wantWrong(t, "(c, "+product+")", n+4, api.ErrDeep)
	wantWrong(t, "far("+product+", d)", n+5, api.ErrDeep)
	wantWrong(t, "far(c, "+product+") ;", n+5, api.ErrDeep)
	wantWrong(t, "turn ("+product+") ;", n+3, api.ErrDeep)
	wantWrong(t, "turn turn ("+product+") ;", n+4, api.ErrDeep)
	wantWrong(t, "turn ("+product+") * 2", n+3, api.ErrDeep)
	wantWrong(t, "2 * turn ("+product+") * 2", n+5, api.ErrDeep)
}

func TestP1001TheFirstOfTwoErrorsCounts(t *testing.T) {
	deep := strings.Repeat("(", api.MaxDeep)
	chained, _ := chain("+", api.MaxDeep)
	n := 2*api.MaxDeep + 1
	// ErrDeep, then ErrSyntax.
	wantWrong(t, deep+"+ )", api.MaxDeep, api.ErrDeep)
	wantWrong(t, deep+")", api.MaxDeep, api.ErrDeep)
	wantWrong(t, deep, api.MaxDeep, api.ErrDeep)
	wantWrong(t, deep+"seq", api.MaxDeep, api.ErrDeep)
	wantWrong(t, "a + "+deep+"a + ;", api.MaxDeep+2, api.ErrDeep)
	wantWrong(t, "("+chained+" ;", n+1, api.ErrDeep)
	wantWrong(t, "("+chained, n+1, api.ErrDeep)
	wantWrong(t, "(a, "+chained+" ;", n+3, api.ErrDeep)
	wantWrong(t, "far("+chained+")", n+2, api.ErrDeep)
	wantWrong(t, "("+chained+" seq", n+1, api.ErrDeep)
	wantWrong(t, chained+" + ;", n, api.ErrDeep)
	wantWrong(t, chained+" + + a", n, api.ErrDeep)
	wantWrong(t, "("+chained+" == b == c)", n+1, api.ErrDeep)
	// ErrSyntax, then ErrDeep.
	wantWrong(t, "a + ; "+deep, 2, api.ErrSyntax)
	wantWrong(t, "("+strings.Repeat(" not", api.MaxDeep-2)+" ) "+deep, api.MaxDeep-1, api.ErrSyntax)
	wantWrong(t, "(a b "+deep+"a", 2, api.ErrSyntax)
	wantWrong(t, deep[:api.MaxDeep-1]+") "+deep, api.MaxDeep-1, api.ErrSyntax)
	wantWrong(t, deep[:api.MaxDeep-1]+"a b "+deep, api.MaxDeep, api.ErrSyntax)
	wantWrong(t, deep[:api.MaxDeep-1]+"far a "+deep, api.MaxDeep, api.ErrSyntax)
	wantWrong(t, deep[:api.MaxDeep-1]+"far "+deep, api.MaxDeep+1, api.ErrDeep)
	wantWrong(t, deep[:api.MaxDeep-1]+"- "+deep, api.MaxDeep, api.ErrSyntax)
	wantWrong(t, deep[:api.MaxDeep-1]+"' "+deep, api.MaxDeep, api.ErrSyntax)
	shorter, _ := chain("+", api.MaxDeep-1)
	wantWrong(t, shorter+" + ;", n-1, api.ErrSyntax)
	wantWrong(t, shorter+" + ", n-1, api.ErrSyntax)
	wantWrong(t, "("+shorter+" ; + b)", n-1, api.ErrSyntax)
	wantWrong(t, "(a b, "+chained+")", 2, api.ErrSyntax)
	wantWrong(t, "(a, b, "+chained+")", 4, api.ErrSyntax)
	wantWrong(t, "far(a) + "+chained, 3, api.ErrSyntax)
	// Where the expression ends, nothing behind it counts.
	wantPart(t, "a ; "+deep, name("a"), 1)
	wantPart(t, "a "+chained, name("a"), 1)
	wantPart(t, "(a) "+deep, name("a"), 3)
	wantPart(t, "a == b == "+deep, of(api.ESame, name("a"), name("b")), 3)
}

func TestP1001RandomDeepTexts(t *testing.T) {
	d := dice{4040}
	for range 3000 {
		l := tokens(t, d.text(api.MaxDeep-4+d.Roll(24)))
		wantModel(t, l, 0)
		wantModel(t, l, d.Roll(len(l)))
		for range d.Roll(3) {
			l[d.Roll(len(l))] = pick(&d, everyToken()...)
			wantModel(t, l, 0)
		}
	}
}
