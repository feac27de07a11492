package expr_test

import (
	"fmt"
	"math"
	"slices"
	"strings"
	"testing"

	"puppeteer/api"
	"puppeteer/expr"
	"puppeteer/lex"
	"puppeteer/samples"
)

func number(n int) api.Expr { return api.Expr{Kind: api.EInt, N: n} }

func truth(n int) api.Expr { return api.Expr{Kind: api.EBool, N: n} }

func name(s string) api.Expr { return api.Expr{Kind: api.EName, Name: s} }

func sym(s string) api.Expr { return api.Expr{Kind: api.ESym, Name: s} }

func of(kind int, kids ...api.Expr) api.Expr { return api.Expr{Kind: kind, Kids: kids} }

func anInt(n int) api.Token { return api.Token{Kind: api.TInt, N: n} }

func aName(s string) api.Token { return api.Token{Kind: api.TName, Text: s} }

func aSign(s string) api.Token { return api.Token{Kind: api.TSign, Text: s} }

func aWord(s string) api.Token { return api.Token{Kind: api.TWord, Text: s} }

// tokens returns the tokens of a text, with the TEnd.
func tokens(t *testing.T, text string) []api.Token {
	t.Helper()
	l, at, err := lex.Tokens([]byte(text))
	if err != api.OK {
		t.Fatalf("Tokens of %.200q: error %d at %d", text, err, at)
	}
	return l
}

// some returns the tokens of a text, without the TEnd.
func some(t *testing.T, text string) []api.Token {
	t.Helper()
	l := tokens(t, text)
	return l[:len(l)-1]
}

// clone copies an expression with all that is in it.
func clone(x api.Expr) api.Expr {
	var kids []api.Expr
	for _, kid := range x.Kids {
		kids = append(kids, clone(kid))
	}
	x.Kids = kids
	return x
}

func depth(x api.Expr) int {
	deepest := 0
	for _, kid := range x.Kids {
		deepest = max(deepest, depth(kid))
	}
	return deepest + 1
}

// want checks what Parse answers.
func want(t *testing.T, l []api.Token, at int, x api.Expr, to int, err api.Errno) {
	t.Helper()
	got, gotTo, gotErr := expr.Parse(l, at)
	if gotTo != to || gotErr != err || !samples.SameExpr(got, x) {
		t.Fatalf("Parse of %s from %d: %.300s, %d, error %d; want %.300s, %d, error %d", samples.Show(l), at, fmt.Sprint(got), gotTo, gotErr, fmt.Sprint(x), to, err)
	}
	if err == api.OK && !expr.Right(got) {
		t.Fatalf("Parse of %s from %d is not valid", samples.Show(l), at)
	}
}

// wantModel checks what Parse answers against the model.
func wantModel(t *testing.T, l []api.Token, at int) {
	t.Helper()
	x, to, err := parse(l, at)
	want(t, l, at, x, to, err)
}

// wantGrammar checks the end, or the error, of what is not too deep against the
// rules alone.
func wantGrammar(t *testing.T, l []api.Token) {
	t.Helper()
	wantTo, wantErr := len(l), api.ErrSyntax
	if len(l) > 0 {
		to, whole := grammatical(l)
		wantTo = to
		if whole {
			wantErr = api.OK
		}
	}
	if _, to, err := expr.Parse(l, 0); to != wantTo || err != wantErr {
		t.Fatalf("Parse of %s: %d, error %d; by the rules %d, error %d", samples.Show(l), to, err, wantTo, wantErr)
	}
}

// everywhere checks what Parse answers for tokens from the first one on, also if
// others stand ahead of them, and if they are written another way.
func everywhere(t *testing.T, l []api.Token, x api.Expr, to int, err api.Errno) {
	t.Helper()
	want(t, l, 0, x, to, err)
	want(t, samples.Other(l), 0, x, to, err)
	for _, ahead := range []string{"1", "a +", "((not", "1 == 2 ==", "seq { far", strings.Repeat("(", api.MaxDeep)} {
		first := some(t, ahead)
		want(t, slices.Concat(first, l), len(first), x, len(first)+to, err)
	}
}

// wantWhole checks that a text is an expression, with its end, without it, and
// with other tokens behind it that cannot continue it.
func wantWhole(t *testing.T, text string, x api.Expr) {
	t.Helper()
	l := some(t, text)
	n := len(l)
	everywhere(t, l, x, n, api.OK)
	everywhere(t, tokens(t, text), x, n, api.OK)
	for _, behind := range []string{";", ")", ",", "}", ":", "a", "7", "'a", "true", "not", "self", "(1)", "{", ":=", "far"} {
		want(t, slices.Concat(l, tokens(t, behind)), 0, x, n, api.OK)
	}
}

// wantPart checks that the first n tokens of a text are the longest expression.
func wantPart(t *testing.T, text string, x api.Expr, n int) {
	t.Helper()
	everywhere(t, tokens(t, text), x, n, api.OK)
	everywhere(t, some(t, text), x, n, api.OK)
}

// wantWrong checks that the first error of a text is at its n-th token.
func wantWrong(t *testing.T, text string, n int, err api.Errno) {
	t.Helper()
	everywhere(t, tokens(t, text), api.Expr{}, n, err)
	everywhere(t, some(t, text), api.Expr{}, n, err)
}

// signs lists the binary operators, the weakest first.
func signs() []string { return strings.Fields("or and == < + - * /") }

// words lists the words of one operand.
func words() []string { return strings.Fields("not re im turn") }

// everyToken lists a token of each sort, and some that are of none.
func everyToken() []api.Token {
	return append(samples.Tokens(), api.Token{},
		api.Token{Kind: 5, N: 5, Text: "a"}, api.Token{Kind: -1, N: 1, Text: "("}, api.Token{Kind: math.MaxInt, Text: "true"},
		aSign(""), aWord(""), aSign("a"), aWord("1"), aSign("&"), aWord("Not"), aWord("not "), aSign("(("))
}

// dice make expressions.
type dice struct{ samples.Dice }

func pick[T any](d *dice, list ...T) T { return samples.Pick(&d.Dice, list...) }

// leaf is a valid expression without Kids.
func (d *dice) leaf() api.Expr {
	return pick(d, number(pick(d, 0, 1, -1, 7, -45, 1000, math.MaxInt, -math.MaxInt)), number(d.Roll(1<<30)-1<<29), truth(0), truth(1),
		name(pick(d, "a", "B", "x_1", "selfish", "Not", samples.LongestName())), sym(pick(d, "a", "B", "times", "Far", samples.LongestName())), of(api.ESelf), of(api.ETime))
}

// valid is a valid expression of this depth.
func (d *dice) valid(deep int) api.Expr {
	if deep == 1 {
		return d.leaf()
	}
	kind, kid := api.EAdd+d.Roll(api.EFar-api.EAdd+1), d.valid(deep-1)
	switch kind {
	case api.ENot, api.ERe, api.EIm, api.ETurn:
		return of(kind, kid)
	}
	other := d.valid(1 + d.Roll(min(deep-1, 4)))
	if d.Roll(2) == 0 {
		return of(kind, kid, other)
	}
	return of(kind, other, kid)
}

// text is the text of an expression that is built up in this many steps, with
// parentheses or without.
func (d *dice) text(steps int) string {
	if steps == 0 {
		return pick(d, "1", "- 5", "0", "true", "false", "a", "bc", "'a", "'b_", "self", "time")
	}
	one, other := d.text(steps-1), d.text(d.Roll(min(steps, 3)))
	if d.Roll(2) == 0 {
		one, other = other, one
	}
	switch d.Roll(9) {
	case 0:
		return "(" + one + ")"
	case 1:
		return "(" + one + ", " + other + ")"
	case 2:
		return "far(" + one + ", " + other + ")"
	case 3, 4:
		return pick(d, words()...) + " " + one
	}
	return one + " " + pick(d, signs()...) + " " + other
}
