package expr_test

import (
	"fmt"
	"math"
	"regexp"
	"slices"
	"strings"
	"sync"
	"testing"

	"puppeteer/api"
	"puppeteer/expr"
	"puppeteer/lex"
	"puppeteer/samples"
)

// wantPrint checks what Right and Print answer; "" is the text of an expression
// that is not valid.
func wantPrint(t *testing.T, x api.Expr, text string) {
	t.Helper()
	if right, got := expr.Right(x), expr.Print(x); right != (text != "") || got != text {
		t.Fatalf("%.300s: Right is %t, Print is %.300q; want %.300q", fmt.Sprint(x), right, got, text)
	}
}

// A sort is how the expressions of a kind are: the text, with %s for each Kid, and
// whether N and Name are theirs.
type sort struct {
	text     string
	n, named bool
}

func sorts() []sort {
	return []sort{
		{"", true, false}, {"", true, false}, {"", false, true}, {"'", false, true}, {"self", false, false}, {"time", false, false},
		{"(%s + %s)", false, false}, {"(%s - %s)", false, false}, {"(%s * %s)", false, false}, {"(%s / %s)", false, false},
		{"(%s == %s)", false, false}, {"(%s < %s)", false, false}, {"(%s and %s)", false, false}, {"(%s or %s)", false, false},
		{"not %s", false, false}, {"(%s, %s)", false, false}, {"re %s", false, false}, {"im %s", false, false}, {"turn %s", false, false}, {"far(%s, %s)", false, false},
	}
}

var nameForm = regexp.MustCompile(`^[a-zA-Z][a-zA-Z0-9_]{0,23}$`)

// modelText tells Print another way, by the texts of the sorts.
func modelText(x api.Expr, deep int) string {
	if deep > 40 || x.Kind < 0 || x.Kind >= len(sorts()) {
		return ""
	}
	s := sorts()[x.Kind]
	if strings.Count(s.text, "%s") != len(x.Kids) || !s.n && x.N != 0 || !s.named && x.Name != "" {
		return ""
	}
	switch {
	case s.named && (!nameForm.MatchString(x.Name) || !lex.Name(x.Name)):
		return ""
	case s.named:
		return s.text + x.Name
	case x.Kind == 0 && x.N == -1<<63 || x.Kind == 1 && x.N != 0 && x.N != 1:
		return ""
	case x.Kind == 0:
		return fmt.Sprint(x.N)
	case x.Kind == 1:
		return fmt.Sprint(x.N == 1)
	}
	var texts []any
	for _, kid := range x.Kids {
		text := modelText(kid, deep+1)
		if text == "" {
			return ""
		}
		texts = append(texts, text)
	}
	return fmt.Sprintf(s.text, texts...)
}

func TestP1002EachKind(t *testing.T) {
	a, b := name("a"), name("b")
	for text, x := range map[string]api.Expr{
		"0": number(0), "7": number(7), "-7": number(-7), "1000000": number(1000000), "9223372036854775807": number(math.MaxInt), "-9223372036854775807": number(-math.MaxInt),
		"true": truth(1), "false": truth(0), "a": a, "Z_9": name("Z_9"), "'a": sym("a"), "'Z_9": sym("Z_9"), "self": of(api.ESelf), "time": of(api.ETime),
		"(a + b)": of(api.EAdd, a, b), "(a - b)": of(api.ESub, a, b), "(a * b)": of(api.EMul, a, b), "(a / b)": of(api.EDiv, a, b),
		"(a == b)": of(api.ESame, a, b), "(a < b)": of(api.ELess, a, b), "(a and b)": of(api.EAnd, a, b), "(a or b)": of(api.EOr, a, b),
		"not a": of(api.ENot, a), "re a": of(api.ERe, a), "im a": of(api.EIm, a), "turn a": of(api.ETurn, a),
		"(a, b)": of(api.EPoint, a, b), "far(a, b)": of(api.EFar, a, b),
		"(1 - -2)": of(api.ESub, number(1), number(-2)), "re -5": of(api.ERe, number(-5)), "not not 'a": of(api.ENot, of(api.ENot, sym("a"))),
		"not (a + b)": of(api.ENot, of(api.EAdd, a, b)), "turn (a, b)": of(api.ETurn, of(api.EPoint, a, b)), "im far(a, b)": of(api.EIm, of(api.EFar, a, b)),
		"((a + b), (b - a))": of(api.EPoint, of(api.EAdd, a, b), of(api.ESub, b, a)), "far((a, b), (a, b))": of(api.EFar, of(api.EPoint, a, b), of(api.EPoint, a, b)),
		"((a == b) == b)": of(api.ESame, of(api.ESame, a, b), b), "(a == (a == b))": of(api.ESame, a, of(api.ESame, a, b)), "(not a and not b)": of(api.EAnd, of(api.ENot, a), of(api.ENot, b)),
	} {
		wantPrint(t, x, text)
		x.Kids = slices.Grow(x.Kids, 9)
		wantPrint(t, x, text)
		if len(x.Kids) == 0 {
			x.Kids = []api.Expr{}
			wantPrint(t, x, text)
			x.Kids = []api.Expr{a}[:0]
			wantPrint(t, x, text)
		}
	}
}

func large() (api.Expr, string) {
	a, b := name("a"), sym("b_1")
	point := of(api.EPoint, of(api.EMul, number(-3), of(api.ERe, name("Pos"))), of(api.EDiv, of(api.ETime), number(10)))
	far := of(api.EFar, of(api.ETurn, of(api.ETurn, point)), of(api.ESub, name("q"), point))
	less := of(api.ELess, far, of(api.EAdd, of(api.EIm, a), number(0)))
	is := of(api.ENot, of(api.ESame, b, of(api.ESelf)))
	return of(api.EOr, of(api.EAnd, less, is), of(api.EAnd, truth(0), truth(1))),
		"(((far(turn turn ((-3 * re Pos), (time / 10)), (q - ((-3 * re Pos), (time / 10)))) < (im a + 0)) and not ('b_1 == self)) or (false and true))"
}

func TestP1002ALargeExpression(t *testing.T) {
	x, text := large()
	wantPrint(t, x, text)
}

func TestP1002KindsThatThereAreNot(t *testing.T) {
	a := name("a")
	for _, kind := range []int{-1, -2, 20, 21, 100, 256, 1 << 32, math.MinInt, math.MaxInt, -1 << 32, 1<<32 + api.EAdd} {
		for n := range 4 {
			for _, s := range []string{"", "a"} {
				for _, m := range []int{0, 1} {
					x := api.Expr{Kind: kind, N: m, Name: s, Kids: slices.Repeat([]api.Expr{a}, n)}
					wantPrint(t, x, "")
					wantPrint(t, of(api.ENot, x), "")
				}
			}
		}
	}
}

func TestP1002EveryFieldOfEveryKind(t *testing.T) {
	for kind := -2; kind <= api.EFar+2; kind++ {
		for _, n := range []int{0, 1, 2, -1, -2, 1 << 32, 1<<32 + 1, math.MaxInt, math.MinInt, math.MinInt + 1} {
			for _, s := range []string{"", "a", "Z_9", "seq", "self", "true", "not", "a b", "9", "_", "'a", "é", "a\x00", " ", samples.LongestName(), samples.LongestName() + "n", strings.Repeat("n", 1<<16)} {
				for kids := range 5 {
					for _, kid := range []api.Expr{name("b"), number(-1), {Kind: api.EBool, N: 2}} {
						x := api.Expr{Kind: kind, N: n, Name: s, Kids: slices.Repeat([]api.Expr{kid}, kids)}
						wantPrint(t, x, modelText(x, 1))
					}
				}
			}
		}
	}
}

func TestP1002TheNumberOfAnInt(t *testing.T) {
	wantPrint(t, number(math.MinInt), "")
	wantPrint(t, number(math.MinInt+1), "-9223372036854775807")
	wantPrint(t, of(api.EAdd, number(1), number(math.MinInt)), "")
	wantPrint(t, of(api.EAdd, number(1), number(math.MinInt+1)), "(1 + -9223372036854775807)")
	for n := range 3000 {
		wantPrint(t, number(n), fmt.Sprint(n))
		wantPrint(t, number(-n), fmt.Sprint(-n))
		wantPrint(t, truth(n+2), "")
		wantPrint(t, truth(-n-1), "")
	}
}

func TestP1002ANameIsALexName(t *testing.T) {
	for _, token := range everyToken() {
		if lex.Name(token.Text) {
			wantPrint(t, name(token.Text), token.Text)
			wantPrint(t, sym(token.Text), "'"+token.Text)
		} else {
			wantPrint(t, name(token.Text), "")
			wantPrint(t, sym(token.Text), "")
		}
	}
	for n := range 2 * api.MaxName {
		s := strings.Repeat("n", n)
		if n == 0 || n > api.MaxName {
			wantPrint(t, name(s), "")
			wantPrint(t, sym(s), "")
		} else {
			wantPrint(t, name(s), s)
			wantPrint(t, sym(s), "'"+s)
		}
	}
	for a := range 256 {
		for _, s := range []string{string([]byte{byte(a)}), "a" + string([]byte{byte(a)}), string([]byte{byte(a)}) + "a"} {
			wantPrint(t, name(s), modelText(name(s), 1))
			wantPrint(t, sym(s), modelText(sym(s), 1))
			wantPrint(t, of(api.ENot, sym(s)), modelText(of(api.ENot, sym(s)), 1))
		}
	}
}

func TestP1002DepthIsLimited(t *testing.T) {
	d := dice{1002}
	for range 200 {
		for deep := 1; deep <= api.MaxDeep; deep++ {
			x := d.valid(deep)
			if depth(x) != deep {
				t.Fatal("the depth of the example is wrong")
			}
			wantPrint(t, x, modelText(x, 1))
			if deep == api.MaxDeep {
				wantPrint(t, of(api.ENot, x), "")
				wantPrint(t, of(api.EFar, name("a"), x), "")
				wantPrint(t, of(api.EOr, x, name("a")), "")
				wantPrint(t, of(api.EPoint, of(api.EPoint, x, x), of(api.ERe, x)), "")
			}
		}
	}
	for kind := api.EAdd; kind <= api.EFar; kind++ {
		one := strings.Count(sorts()[kind].text, "%s") == 1
		for side := range 2 {
			x, text := name("a"), "a"
			for n := 1; n <= 3*api.MaxDeep; n++ {
				if n > api.MaxDeep {
					text = ""
				}
				wantPrint(t, x, text)
				switch form := sorts()[kind].text; {
				case one:
					x, text = of(kind, x), fmt.Sprintf(form, text)
				case side == 0:
					x, text = of(kind, x, name("b")), fmt.Sprintf(form, text, "b")
				default:
					x, text = of(kind, name("b"), x), fmt.Sprintf(form, "b", text)
				}
			}
		}
	}
}

func TestP1002AnExpressionThatIsInItself(t *testing.T) {
	for kind := -1; kind <= api.EFar+1; kind++ {
		for n := 1; n <= 3; n++ {
			kids := make([]api.Expr, n)
			for i := range kids {
				kids[i] = of(kind, kids...)
				kids[i].Kids = kids
			}
			wantPrint(t, of(kind, kids...), "")
			wantPrint(t, of(api.EAdd, name("a"), kids[0]), "")
			kids[0] = name("a")
			if n > 1 {
				wantPrint(t, of(kind, kids...), "")
			}
		}
	}
	// Two halves that are the same list, and again, deeper than any expression.
	x := name("a")
	for n := 2; n <= 3*api.MaxDeep; n++ {
		x = of(api.EAdd, x, x)
		if n <= 12 {
			wantPrint(t, x, modelText(x, 1))
		}
		if n > api.MaxDeep {
			wantPrint(t, x, "")
		}
	}
}

// inside calls see with each expression in x, which it may change.
func inside(x *api.Expr, see func(x *api.Expr)) {
	see(x)
	for i := range x.Kids {
		inside(&x.Kids[i], see)
	}
}

func TestP1002AnErrorDeepInside(t *testing.T) {
	d := dice{2}
	list := []api.Expr{d.valid(5), d.valid(12), d.valid(api.MaxDeep), d.valid(api.MaxDeep)}
	x, _ := large()
	for _, x := range append(list, x) {
		text := modelText(x, 1)
		inside(&x, func(part *api.Expr) {
			was := *part
			for _, wrong := range []api.Expr{number(math.MinInt), truth(2), name(""), name("seq"), sym("a b"), {Kind: -1}, {Kind: 20}, {Kind: api.ESelf, N: 1}, {Kind: api.ETime, Name: "a"}, of(api.EAdd), of(api.ENot), of(api.ESelf, name("a"))} {
				*part = wrong
				wantPrint(t, x, "")
			}
			*part = was
			part.N = was.N + 2
			wantPrint(t, x, modelText(x, 1))
			*part = was
			part.Name = was.Name + "!"
			wantPrint(t, x, "")
			*part = was
			part.Kids = append(slices.Clone(was.Kids), name("a"))
			wantPrint(t, x, modelText(x, 1))
			*part = was
			wantPrint(t, x, text)
		})
	}
}

// wantBack checks that Parse returns x from the tokens of its text, up to the end.
func wantBack(t *testing.T, x api.Expr) {
	t.Helper()
	text := expr.Print(x)
	if text == "" || !expr.Right(x) {
		t.Fatalf("%.300s has no text", fmt.Sprint(x))
	}
	l := tokens(t, text)
	want(t, l, 0, x, len(l)-1, api.OK)
	want(t, l[:len(l)-1], 0, x, len(l)-1, api.OK)
	want(t, samples.Other(l), 0, x, len(l)-1, api.OK)
}

func TestP1003ParseOfPrintIsTheExpression(t *testing.T) {
	for _, x := range plain() {
		wantBack(t, x)
	}
	x, _ := large()
	wantBack(t, x)
	d := dice{1003}
	for range 200 {
		for deep := 1; deep <= api.MaxDeep; deep++ {
			wantBack(t, d.valid(deep))
		}
	}
}

func TestP1003EveryPairOfKinds(t *testing.T) {
	all := func(kind int, kid, other api.Expr) []api.Expr {
		switch kind {
		case api.ENot, api.ERe, api.EIm, api.ETurn:
			return []api.Expr{of(kind, kid)}
		}
		return []api.Expr{of(kind, kid, other), of(kind, other, kid), of(kind, kid, kid)}
	}
	for one := api.EAdd; one <= api.EFar; one++ {
		for two := api.EAdd; two <= api.EFar; two++ {
			for three := api.EAdd; three <= api.EFar; three++ {
				for _, x := range all(one, number(-1), name("a")) {
					for _, y := range all(two, x, sym("a")) {
						for _, z := range all(three, y, of(api.ESelf)) {
							wantBack(t, z)
						}
					}
				}
			}
		}
	}
}

func TestP1003PrintOfParseStaysTheSame(t *testing.T) {
	d := dice{31}
	good := 0
	for range 20000 {
		l := tokens(t, d.text(d.Roll(16)))
		for range d.Roll(3) {
			l[d.Roll(len(l))] = pick(&d, everyToken()...)
		}
		x, _, err := expr.Parse(l, 0)
		if err != api.OK {
			continue
		}
		good++
		wantBack(t, x)
		y, _, _ := expr.Parse(tokens(t, expr.Print(x)), 0)
		if expr.Print(y) != expr.Print(x) {
			t.Fatalf("%q, then %q", expr.Print(x), expr.Print(y))
		}
	}
	if good < 1000 {
		t.Fatalf("%d texts only are expressions", good)
	}
}

func TestP1003ArgumentsStayAsTheyAre(t *testing.T) {
	d := dice{8}
	for range 500 {
		l := append(tokens(t, d.text(d.Roll(9))), anInt(1), aName("spare"))
		whole := slices.Clone(l)
		part := l[:len(l)-2]
		for at := -1; at <= len(part); at++ {
			expr.Parse(part, at)
		}
		if !slices.Equal(l, whole) {
			t.Fatalf("Parse makes %s of %s", samples.Show(l), samples.Show(whole))
		}
		x := d.valid(1 + d.Roll(9))
		inside(&x, func(part *api.Expr) {
			spare := append(slices.Clone(part.Kids), name("spare"), name("spare"))
			part.Kids = spare[:len(part.Kids)]
		})
		was := clone(x)
		expr.Right(x)
		expr.Print(x)
		inside(&x, func(part *api.Expr) {
			n := len(part.Kids)
			if spare := part.Kids[n : n+2]; !samples.SameExpr(spare[0], name("spare")) || !samples.SameExpr(spare[1], name("spare")) {
				t.Fatalf("the spare capacity is %v", spare)
			}
		})
		if !samples.SameExpr(x, was) {
			t.Fatalf("%v has become %v", was, x)
		}
	}
}

func TestP1003ResultsStayAsTheyAre(t *testing.T) {
	d := dice{9}
	for range 500 {
		l := tokens(t, d.text(1+d.Roll(9)))
		first, to, err := expr.Parse(l, 0)
		if err != api.OK {
			continue
		}
		was, again := clone(first), slices.Clone(l)
		second, _, _ := expr.Parse(l, 0)
		for i := range l {
			l[i] = api.Token{Kind: api.TWord, N: 9, Text: "not"}
		}
		if !samples.SameExpr(first, was) || !samples.SameExpr(second, was) {
			t.Fatalf("Parse keeps the tokens of %s", samples.Show(again))
		}
		// A result is the caller's: neither another one nor a part of it changes with it.
		inside(&first, func(part *api.Expr) {
			_ = append(part.Kids, name("more"), name("more"))
		})
		if !samples.SameExpr(first, was) {
			t.Fatalf("parts of a result of %s share memory", samples.Show(again))
		}
		inside(&first, func(part *api.Expr) {
			kids := part.Kids
			*part = api.Expr{Kind: api.EFar, N: 1, Name: "other", Kids: kids}
		})
		want(t, again, 0, was, to, api.OK)
		if !samples.SameExpr(second, was) {
			t.Fatalf("two results of %s share memory", samples.Show(again))
		}
		text := expr.Print(second)
		inside(&second, func(part *api.Expr) { part.N, part.Name = 7, "other" })
		if text != modelText(was, 1) {
			t.Fatalf("Print of %v has become %q", was, text)
		}
	}
}

func TestP1003NoTwoPartsOfAResultShareMemory(t *testing.T) {
	d := dice{10}
	for range 500 {
		l := tokens(t, d.text(1+d.Roll(9)))
		x, _, err := expr.Parse(l, 0)
		if err != api.OK {
			continue
		}
		seen := map[*api.Expr]bool{}
		inside(&x, func(part *api.Expr) {
			if seen[part] {
				t.Fatalf("a part of the result of %s is there twice", samples.Show(l))
			}
			seen[part] = true
			for i := range cap(part.Kids) - len(part.Kids) {
				if spare := &part.Kids[:cap(part.Kids)][len(part.Kids)+i]; seen[spare] {
					t.Fatalf("spare capacity of the result of %s is a part of it", samples.Show(l))
				}
			}
		})
	}
}

func TestP1003ResultsDependOnTheArgumentsOnly(t *testing.T) {
	x, text := large()
	l := tokens(t, text)
	wrong := tokens(t, "(a + b")
	deep := tokens(t, strings.Repeat("not ", 99))
	var all sync.WaitGroup
	for range 8 {
		all.Go(func() {
			for range 50 {
				got, to, err := expr.Parse(l, 0)
				_, wrongTo, wrongErr := expr.Parse(wrong, 0)
				_, deepTo, deepErr := expr.Parse(deep, 0)
				if err != api.OK || to != len(l)-1 || !samples.SameExpr(got, x) || expr.Print(x) != text || !expr.Right(x) {
					t.Errorf("Parse: %v, %d, error %d", got, to, err)
				}
				if wrongTo != 4 || wrongErr != api.ErrSyntax || deepTo != api.MaxDeep || deepErr != api.ErrDeep {
					t.Errorf("Parse: %d, error %d; %d, error %d", wrongTo, wrongErr, deepTo, deepErr)
				}
			}
		})
	}
	all.Wait()
}

func TestP1001LongLists(t *testing.T) {
	// Many operands, none of them deep: 2^13 leaves in a balanced expression.
	x := name("a")
	for range 13 {
		x = of(api.EAdd, x, clone(x))
	}
	text := expr.Print(x)
	if want := 1<<13 + (1<<13-1)*5; len(text) != want {
		t.Fatalf("the text has %d bytes, not %d", len(text), want)
	}
	wantBack(t, x)
	l := slices.Repeat(some(t, "( a , "), 1<<16)
	want(t, l, 0, api.Expr{}, 118, api.ErrDeep)
	l = slices.Repeat(some(t, "a + "), 1<<16)
	want(t, l, 0, api.Expr{}, 2*api.MaxDeep+1, api.ErrDeep)
	l = slices.Repeat(some(t, "a "), 1<<16)
	want(t, l, 1<<16-1, name("a"), 1<<16, api.OK)
}
