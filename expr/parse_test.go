package expr_test

import (
	"math"
	"slices"
	"strings"
	"testing"

	"puppeteer/api"
	"puppeteer/expr"
	"puppeteer/samples"
)

// plain lists primary and unary expressions that are written without parentheses.
func plain() map[string]api.Expr {
	return map[string]api.Expr{
		"1": number(1), "0": number(0), "42": number(42), "9223372036854775807": number(math.MaxInt),
		"true": truth(1), "false": truth(0), "a": name("a"), "Z_9": name("Z_9"), "selfish": name("selfish"), samples.LongestName(): name(samples.LongestName()),
		"'a": sym("a"), "' a": sym("a"), "'Z_9": sym("Z_9"), "'" + samples.LongestName(): sym(samples.LongestName()),
		"self": of(api.ESelf), "time": of(api.ETime),
		"-1": number(-1), "- 1": number(-1), "-0": number(0), "-9223372036854775807": number(-math.MaxInt),
	}
}

func TestP1001PrimaryExpressionsAndNegativeNumbers(t *testing.T) {
	for text, x := range plain() {
		wantWhole(t, text, x)
		wantWhole(t, "("+text+")", x)
		wantWhole(t, "(((("+text+"))))", x)
		wantWhole(t, "("+text+", b)", of(api.EPoint, x, name("b")))
		wantWhole(t, "(b, "+text+")", of(api.EPoint, name("b"), x))
		wantWhole(t, "far("+text+", b)", of(api.EFar, x, name("b")))
		wantWhole(t, "far (b, "+text+")", of(api.EFar, name("b"), x))
		wantWhole(t, "far("+text+", "+text+")", of(api.EFar, x, x))
	}
}

func TestP1001PairsWithinPairs(t *testing.T) {
	point := of(api.EPoint, number(1), number(2))
	wantWhole(t, "(1, 2)", point)
	wantWhole(t, "((1, 2))", point)
	wantWhole(t, "((1), (2))", point)
	wantWhole(t, "((1, 2), a)", of(api.EPoint, point, name("a")))
	wantWhole(t, "(a, (1, 2))", of(api.EPoint, name("a"), point))
	wantWhole(t, "far((1, 2), (1, 2))", of(api.EFar, point, point))
	wantWhole(t, "far(far(1, 2), a)", of(api.EFar, of(api.EFar, number(1), number(2)), name("a")))
	wantWhole(t, "far(((1)), ((1, 2)))", of(api.EFar, number(1), point))
	wantWhole(t, "(1 or 2, 3 == 4)", of(api.EPoint, of(api.EOr, number(1), number(2)), of(api.ESame, number(3), number(4))))
	wantWhole(t, "far(1 < 2, not 3)", of(api.EFar, of(api.ELess, number(1), number(2)), of(api.ENot, number(3))))
}

func TestP1001WordsOfOneOperand(t *testing.T) {
	a, b := name("a"), name("b")
	for word, kind := range prefixes() {
		for text, x := range plain() {
			wantWhole(t, word+" "+text, of(kind, x))
			wantWhole(t, word+"("+text+")", of(kind, x))
			wantWhole(t, "("+word+" "+text+")", of(kind, x))
		}
		wantWhole(t, word+"(a, b)", of(kind, of(api.EPoint, a, b)))
		wantWhole(t, word+" far(a, b)", of(kind, of(api.EFar, a, b)))
		for second, inner := range prefixes() {
			wantWhole(t, word+" "+second+" a", of(kind, of(inner, a)))
			wantWhole(t, word+"("+second+"(a))", of(kind, of(inner, a)))
			wantWhole(t, word+" "+second+" "+word+" -5", of(kind, of(inner, of(kind, number(-5)))))
		}
		for sign, operator := range binaries() {
			wantWhole(t, word+" a "+sign+" b", of(operator[0], of(kind, a), b))
			wantWhole(t, "a "+sign+" "+word+" b", of(operator[0], a, of(kind, b)))
			wantWhole(t, word+" a "+sign+" "+word+" b", of(operator[0], of(kind, a), of(kind, b)))
			wantWhole(t, word+"(a "+sign+" b)", of(kind, of(operator[0], a, b)))
		}
	}
}

func TestP1001AMinusAheadOfANumberOnly(t *testing.T) {
	a := name("a")
	wantWhole(t, "1 - 2", of(api.ESub, number(1), number(2)))
	wantWhole(t, "1 -2", of(api.ESub, number(1), number(2)))
	wantWhole(t, "1-2", of(api.ESub, number(1), number(2)))
	wantWhole(t, "1 - -2", of(api.ESub, number(1), number(-2)))
	wantWhole(t, "-1 - -2", of(api.ESub, number(-1), number(-2)))
	wantWhole(t, "-1-2", of(api.ESub, number(-1), number(2)))
	wantWhole(t, "a-1", of(api.ESub, a, number(1)))
	wantWhole(t, "-1 * a", of(api.EMul, number(-1), a))
	wantWhole(t, "a * -1", of(api.EMul, a, number(-1)))
	wantWhole(t, "a + -0", of(api.EAdd, a, number(0)))
	wantWhole(t, "not -1", of(api.ENot, number(-1)))
	wantWhole(t, "(-1, -2)", of(api.EPoint, number(-1), number(-2)))
	for _, behind := range []string{"a", "true", "false", "self", "time", "'a", "(1)", "-1", "--1", "not 1", "re 1", "turn 1", "far(1, 2)", "+1", ";", ")", "seq", ""} {
		wantWrong(t, "-"+behind, 1, api.ErrSyntax)
		wantWrong(t, "1 - -"+behind, 3, api.ErrSyntax)
		wantWrong(t, "(-"+behind, 2, api.ErrSyntax)
		wantWrong(t, "im -"+behind, 2, api.ErrSyntax)
	}
}

func TestP1001TokensThatNoTextHas(t *testing.T) {
	minus := aSign("-")
	for n, x := range map[int]api.Expr{-5: number(-5), -math.MaxInt: number(-math.MaxInt)} {
		everywhere(t, []api.Token{anInt(n)}, x, 1, api.OK)
		everywhere(t, []api.Token{minus, anInt(n)}, number(-n), 2, api.OK)
	}
	// Parse returns valid expressions only, and so none with N = -2^63.
	everywhere(t, []api.Token{anInt(math.MinInt)}, api.Expr{}, 0, api.ErrSyntax)
	everywhere(t, []api.Token{minus, anInt(math.MinInt)}, api.Expr{}, 1, api.ErrSyntax)
	// The same holds for names.
	for _, s := range []string{"", "seq", "not", "self", "true", "+", "1", "a b", "_", "é", samples.LongestName() + "n", "a\x00"} {
		everywhere(t, []api.Token{aName(s)}, api.Expr{}, 0, api.ErrSyntax)
		everywhere(t, []api.Token{aSign("'"), aName(s)}, api.Expr{}, 1, api.ErrSyntax)
		everywhere(t, []api.Token{aName("a"), aSign("+"), aName(s), aSign(")")}, api.Expr{}, 2, api.ErrSyntax)
		everywhere(t, []api.Token{aName("a"), aName(s)}, name("a"), 1, api.OK)
	}
	for _, token := range everyToken() {
		wantModel(t, []api.Token{token}, 0)
		wantGrammar(t, []api.Token{token})
	}
}

func TestP1001TwoOperatorsSideBySide(t *testing.T) {
	a, b, c := name("a"), name("b"), name("c")
	for first, one := range binaries() {
		for second, two := range binaries() {
			left, right := of(two[0], of(one[0], a, b), c), of(one[0], a, of(two[0], b, c))
			wantWhole(t, "(a "+first+" b) "+second+" c", left)
			wantWhole(t, "a "+first+" (b "+second+" c)", right)
			text := "a " + first + " b " + second + " c"
			switch {
			case one[1] == 3 && two[1] == 3:
				wantPart(t, text, of(one[0], a, b), 3)
				wantWrong(t, "("+text+")", 4, api.ErrSyntax)
			case one[1] >= two[1]:
				wantWhole(t, text, left)
				wantWhole(t, "("+text+")", left)
			default:
				wantWhole(t, text, right)
				wantWhole(t, "("+text+")", right)
			}
		}
	}
}

func TestP1001UpToFourOperatorsSideBySide(t *testing.T) {
	for i := range 8 * 8 * 8 * 8 {
		var list []string
		for n := i; n > 0 || len(list) < 2; n /= 8 {
			list = append(list, "a", signs()[n%8])
		}
		l := some(t, strings.Join(list, " ")+" b")
		wantModel(t, l, 0)
		wantGrammar(t, l)
	}
}

func TestP1001ASecondComparisonEndsTheExpression(t *testing.T) {
	a, b, c := name("a"), name("b"), name("c")
	for _, first := range []string{"==", "<"} {
		one := of(binaries()[first][0], a, b)
		for _, second := range []string{"==", "<"} {
			two := func(x, y api.Expr) api.Expr { return of(binaries()[second][0], x, y) }
			ab, cd := "a "+first+" b ", second+" c"
			wantPart(t, ab+cd, one, 3)
			wantPart(t, ab+cd+" "+cd, one, 3)
			wantPart(t, ab+second, one, 3)
			wantPart(t, ab+cd+" and d", one, 3)
			wantPart(t, ab+cd+" + d", one, 3)
			wantPart(t, "a "+first+" b + c "+cd, of(binaries()[first][0], a, of(api.EAdd, b, c)), 5)
			wantPart(t, "c - a "+first+" b * c "+cd, of(binaries()[first][0], of(api.ESub, c, a), of(api.EMul, b, c)), 7)
			wantPart(t, "a "+first+" not b "+cd, of(binaries()[first][0], a, of(api.ENot, b)), 4)
			wantPart(t, "c and "+ab+cd, of(api.EAnd, c, one), 5)
			wantPart(t, "c or "+ab+cd, of(api.EOr, c, one), 5)
			wantPart(t, "c or a and "+ab+cd, of(api.EOr, c, of(api.EAnd, a, one)), 7)
			for _, word := range []string{"and", "or"} {
				kind := binaries()[word][0]
				wantWhole(t, ab+word+" b "+cd, of(kind, one, two(b, c)))
				wantPart(t, ab+word+" b "+cd+" "+cd, of(kind, one, two(b, c)), 7)
				wantWhole(t, ab+word+" b "+word+" b "+cd, of(kind, of(kind, one, b), two(b, c)))
			}
			wantWhole(t, "("+ab+") "+cd, two(one, c))
			wantWhole(t, "c "+second+" ("+ab+")", two(c, one))
			wantWhole(t, "("+ab+") "+second+" ("+ab+")", two(one, one))
			wantPart(t, "("+ab+") "+cd+" "+cd, two(one, c), 7)
			wantWhole(t, "(a, "+ab+") "+cd, two(of(api.EPoint, a, one), c))
			wantWhole(t, "far(c "+cd+", "+ab+")", of(api.EFar, two(c, c), one))
			wantWrong(t, "("+ab+cd+")", 4, api.ErrSyntax)
			wantWrong(t, "(c, "+ab+cd+")", 6, api.ErrSyntax)
			wantWrong(t, "far("+ab+cd+", c)", 5, api.ErrSyntax)
			wantWrong(t, "not ("+ab+cd+")", 5, api.ErrSyntax)
			wantWrong(t, "(c and "+ab+cd+")", 6, api.ErrSyntax)
			wantWrong(t, "a "+first+" "+second+" b", 2, api.ErrSyntax)
		}
	}
}

func TestP1001AnExpressionEndsAheadOfOtherTokens(t *testing.T) {
	for _, text := range []string{"a", "-5", "'a", "(a)", "(a, b)", "far(a, b)", "not a", "re turn a", "a + b", "a == b", "a or b * c"} {
		x, n, err := expr.Parse(some(t, text), 0)
		if err != api.OK || n != len(some(t, text)) {
			t.Fatalf("Parse of %q: %d, error %d", text, n, err)
		}
		for _, token := range everyToken() {
			l := append(some(t, text), token)
			wantModel(t, l, 0)
			wantGrammar(t, l)
			l = append(l, anInt(1), aSign(")"), api.Token{})
			wantModel(t, l, 0)
			wantGrammar(t, l)
			if binaries()[token.Text][1] == 0 || token.Kind != api.TWord && token.Kind != api.TSign {
				everywhere(t, l, x, n, api.OK)
			}
		}
	}
}

func TestP1001AtMustBeAnIndex(t *testing.T) {
	for _, l := range [][]api.Token{nil, {}, make([]api.Token, 0, 9), some(t, "a + b")[:0], {{}}, tokens(t, "a"), some(t, "a"), some(t, "1 + 2"), make([]api.Token, 300)} {
		for _, at := range []int{-1, -2, math.MinInt, -1 << 32, len(l), len(l) + 1, len(l) + 2, 1 << 32, math.MaxInt} {
			want(t, l, at, api.Expr{}, len(l), api.ErrSyntax)
		}
		// No token follows within the spare capacity.
		if at := len(l); at < cap(l) {
			want(t, l[:at:at+1], at, api.Expr{}, at, api.ErrSyntax)
		}
	}
	want(t, nil, 0, api.Expr{}, 0, api.ErrSyntax)
	want(t, some(t, "( a )")[:2], 0, api.Expr{}, 2, api.ErrSyntax)
	want(t, some(t, "a + b")[:1], 0, name("a"), 1, api.OK)
}

func TestP1001AnyIndexOfAList(t *testing.T) {
	a, b := name("a"), name("b")
	l := tokens(t, "seq { if a + b == 1 ; set x := ( a , b ) ; }")
	want(t, l, 3, of(api.ESame, of(api.EAdd, a, b), number(1)), 8, api.OK)
	want(t, l, 5, of(api.ESame, b, number(1)), 8, api.OK)
	want(t, l, 7, number(1), 8, api.OK)
	want(t, l, 10, name("x"), 11, api.OK)
	want(t, l, 12, of(api.EPoint, a, b), 17, api.OK)
	want(t, l, 13, a, 14, api.OK)
	for at := range l {
		wantModel(t, l, at)
	}
	for _, at := range []int{0, 1, 2, 4, 6, 8, 9, 11, 14, 16, 17, 18} {
		want(t, l, at, api.Expr{}, at, api.ErrSyntax)
	}
	want(t, l, 19, api.Expr{}, 19, api.ErrSyntax)
}

func TestP1001AMissingOrWrongToken(t *testing.T) {
	for text, n := range map[string]int{
		"": 0, ";": 0, ")": 0, "(": 1, "()": 1, "(,": 1, "( )": 1, "(a": 2, "(a;": 2, "(a b)": 2, "(a,": 3, "(a,)": 3, "(a, b": 4, "(a, b;": 4, "(a, b c": 4, "(a, b, c)": 4, "(, a)": 1, "((a)": 4, "((a, b)": 6,
		"far": 1, "far a": 1, "far 1": 1, "far far(a, b)": 1, "far not": 1, "far)": 1, "far(": 2, "far()": 2, "far(,": 2, "far(a": 3, "far(a)": 3, "far(a;": 3, "far(a b": 3, "far(a,": 4, "far(a,)": 4, "far(a, b": 5, "far(a, b;": 5, "far(a, b, c)": 5, "far((a, b))": 7, "far((a), b": 7,
		"not": 1, "re": 1, "im": 1, "turn": 1, "not not": 2, "not )": 1, "not and": 1, "not + 1": 1, "turn turn ;": 2, "re seq": 1,
		"'": 1, "' 1": 1, "'seq": 1, "'self": 1, "'true": 1, "''a": 1, "'(a)": 1, "'-1": 1,
		"seq": 0, "key": 0, "int": 0, "pick": 0, "{": 0, "}": 0, ":=": 0, "<=": 0, "==": 0, "=": 0, ":": 0, ">=": 0, ",": 0,
		"+": 0, "*": 0, "/": 0, "<": 0, "and": 0, "or": 0, "+ 1": 0, "and a": 0, "* a": 0,
		"a +": 2, "a + ;": 2, "a + )": 2, "a + +": 2, "a + * b": 2, "a - -": 3, "a == ": 2, "a == ==": 2, "a and": 2, "a and or": 2, "a or and": 2, "a or": 2, "a <": 2, "a * /": 2, "a + not": 3, "a + b *": 4, "a or b and c == d + e *": 10,
		"(a +)": 3, "(a + b": 4, "(a + b;": 4, "not (a": 3, "not (a,": 4, "(a, b +)": 5, "(a + , b)": 3, "far(a +, b)": 4, "((((": 4, "a + (": 3, "a + ((b) + 'c": 9,
	} {
		wantWrong(t, text, n, api.ErrSyntax)
		l := tokens(t, text)
		wantGrammar(t, l)
		wantModel(t, l, 0)
	}
}

func TestP1001EachTokenReplacedLeftOutOrDoubled(t *testing.T) {
	for _, text := range []string{
		"a", "-5", "'a", "self", "(1)", "(a, b)", "far(a, b)", "not a", "not not -1", "a + b", "a == b and c < d or e", "((a, 'b), far(c, d))", "re turn (1 + 2, -3 * im p) < far(p, (x, y)) / 2 and not (a == b)",
	} {
		l := tokens(t, text)
		for at := range l {
			lists := [][]api.Token{l[:at], slices.Concat(l[:at], l[at+1:]), slices.Concat(l[:at+1], l[at:]), slices.Concat(l[:at], []api.Token{{}})}
			for _, token := range everyToken() {
				lists = append(lists, slices.Concat(l[:at], []api.Token{token}, l[at+1:]), slices.Concat(l[:at], []api.Token{token}, l[at:]))
			}
			for _, changed := range lists {
				wantModel(t, changed, 0)
				wantGrammar(t, changed)
				wantModel(t, samples.Other(changed), 0)
			}
		}
	}
}

func TestP1001WordsAndSignsOfEitherKind(t *testing.T) {
	for text, x := range map[string]api.Expr{
		"not true": of(api.ENot, truth(1)), "(a, -1)": of(api.EPoint, name("a"), number(-1)), "'a": sym("a"), "self == time": of(api.ESame, of(api.ESelf), of(api.ETime)),
		"far(re a, im b) < 1": of(api.ELess, of(api.EFar, of(api.ERe, name("a")), of(api.EIm, name("b"))), number(1)),
		"turn a or false":     of(api.EOr, of(api.ETurn, name("a")), truth(0)),
		"a and b":             of(api.EAnd, name("a"), name("b")), "a + b": of(api.EAdd, name("a"), name("b")), "a - b": of(api.ESub, name("a"), name("b")), "a * b": of(api.EMul, name("a"), name("b")), "a / b": of(api.EDiv, name("a"), name("b")),
	} {
		l := tokens(t, text)
		for i, token := range l {
			if token.Kind != api.TWord && token.Kind != api.TSign {
				continue
			}
			for _, kind := range []int{api.TWord, api.TSign} {
				l[i].Kind = kind
				want(t, l, 0, x, len(l)-1, api.OK)
			}
			for _, kind := range []int{api.TEnd, api.TName, api.TInt, 5, -1, math.MinInt, math.MaxInt} {
				l[i].Kind = kind
				wantModel(t, l, 0)
				wantGrammar(t, l)
				if _, to, err := expr.Parse(l, 0); err == api.OK && to == len(l)-1 && kind != api.TInt {
					t.Fatalf("Parse of %s takes the token %v", samples.Show(l), l[i])
				}
			}
			l[i] = token
		}
	}
}

func TestP1001EveryShortList(t *testing.T) {
	for length, text := range map[int]string{
		4: "1 a true - + * == < and or not re far ( ) , '",
		5: "1 a - * == and not ( ) , far '",
		6: "a - == not ( ) , far",
		7: "a + == and ( )",
		8: "a == ( )",
	} {
		list := some(t, text)
		l := make([]api.Token, length)
		var fill func(n int)
		fill = func(n int) {
			if n == length {
				wantModel(t, l, 0)
				if length == 4 {
					wantGrammar(t, l)
				}
				return
			}
			for _, token := range list {
				l[n] = token
				fill(n + 1)
			}
		}
		fill(0)
	}
}

func TestP1001RandomTexts(t *testing.T) {
	d := dice{1001}
	for i := range 20000 {
		l := tokens(t, d.text(d.Roll(8)))
		wantModel(t, l, 0)
		for range d.Roll(4) {
			at := d.Roll(len(l))
			token := pick(&d, everyToken()...)
			if d.Roll(2) == 0 {
				token = l[d.Roll(len(l))]
			}
			switch d.Roll(4) {
			case 0:
				l = slices.Delete(l, at, at+1)
				l = append(l, token)
			case 1:
				l = slices.Insert(l, at, token)
			default:
				l[at] = token
			}
			wantModel(t, l, 0)
			wantModel(t, l, d.Roll(len(l)))
		}
		if i%20 == 0 && len(l) < 40 {
			wantGrammar(t, l)
		}
	}
}
