package lex_test

import (
	"bytes"
	"fmt"
	"math"
	"math/big"
	"regexp"
	"slices"
	"strconv"
	"strings"
	"testing"

	"puppeteer/api"
	"puppeteer/lex"
	"puppeteer/value"
)

const (
	letters = "abcdefghijklmnopqrstuvwxyzABCDEFGHIJKLMNOPQRSTUVWXYZ"
	digits  = "0123456789"
)

// words lists the words as the chapter lists them.
func words() []string {
	return strings.Fields("key tree domain own shared int bool ref sym point seq sel mseq msel par not repeat if set do use pick plan ok fail wait var act cost need make goal true false self time and or re im turn far")
}

// signs lists the signs, the longer ones first.
func signs() []string {
	return strings.Fields(":= <= >= == { } ( ) ; : = < + - * / , '")
}

// run is n letters.
func run(n int) string { return strings.Repeat("n", n) }

func longest() string { return run(api.MaxName) }

func name(at int, text string) api.Token { return api.Token{Kind: api.TName, At: at, Text: text} }

func word(at int, text string) api.Token { return api.Token{Kind: api.TWord, At: at, Text: text} }

func sign(at int, text string) api.Token { return api.Token{Kind: api.TSign, At: at, Text: text} }

func number(at, n int) api.Token { return api.Token{Kind: api.TInt, At: at, N: n} }

func end(at int) api.Token { return api.Token{Kind: api.TEnd, At: at} }

// quote is a text in print, of which only the beginning counts if it is long.
func quote(text []byte) string {
	if len(text) > 200 {
		return fmt.Sprintf("%.200q.. (%d bytes)", text, len(text))
	}
	return strconv.Quote(string(text))
}

// check tells whether Tokens of a text answers as wanted.
func check(t *testing.T, text []byte, list []api.Token, at int, err api.Errno) {
	t.Helper()
	gotList, gotAt, gotErr := lex.Tokens(text)
	if gotAt != at || gotErr != err {
		t.Fatalf("Tokens of %s: %d, error %d; want %d, error %d", quote(text), gotAt, gotErr, at, err)
	}
	if err != api.OK && len(gotList) > 0 {
		t.Fatalf("Tokens of %s: error %d, and %d tokens", quote(text), err, len(gotList))
	}
	if err == api.OK && !slices.Equal(gotList, list) {
		t.Fatalf("Tokens of %s: %v, want %v", quote(text), gotList, list)
	}
}

// wantTokens checks that a text consists of these tokens, and the TEnd behind
// them.
func wantTokens(t *testing.T, text string, list ...api.Token) {
	t.Helper()
	check(t, []byte(text), append(list, end(len(text))), len(text), api.OK)
}

func wantWrong(t *testing.T, text string, at int) {
	t.Helper()
	check(t, []byte(text), nil, at, api.ErrSyntax)
}

func wantLong(t *testing.T, text string) {
	t.Helper()
	check(t, []byte(text), nil, 0, api.ErrLong)
}

// wantModel checks a text against the model.
func wantModel(t *testing.T, text []byte) {
	t.Helper()
	list, at, err := model(text)
	check(t, text, list, at, err)
}

// within lists what may stand around a text: ahead of it and behind it, so that
// no token comes to stand beside it directly.
func within() [][2]string {
	return [][2]string{{"", ""}, {"a ", " b"}, {"7 ", " 8"}, {"//\n", "//"}, {"\n\n", "\t"}, {"// x > $\n{ ", "\r\n} // > $"}}
}

// Pieces of a text, as regular expressions, which the model tries one by one.
var (
	gap      = regexp.MustCompile(`^(?:[ \t\n\r]|//[^\n]*)+`)
	runs     = regexp.MustCompile(`^[a-zA-Z][a-zA-Z0-9_]*`)
	numbers  = regexp.MustCompile(`^[0-9]+`)
	stuck    = regexp.MustCompile(`^[0-9]+[a-zA-Z_]`)
	signlike = regexp.MustCompile(`^(?::=|<=|>=|==|[{}();:=<+\-*/,'])`)
	allWords = regexp.MustCompile(`^(?:` + strings.Join(words(), "|") + `)$`)
	aName    = regexp.MustCompile(`^[a-zA-Z][a-zA-Z0-9_]{0,` + strconv.Itoa(api.MaxName-1) + `}$`)
)

// model tells the rules of Tokens another way: what remains of the text is cut by
// regular expressions, and numbers are reckoned without a limit.
func model(text []byte) ([]api.Token, int, api.Errno) {
	if len(text) > api.MaxText {
		return nil, 0, api.ErrLong
	}
	var list []api.Token
	for rest := text; ; {
		rest = rest[len(gap.Find(rest)):]
		at := len(text) - len(rest)
		if at == len(text) {
			return append(list, end(at)), at, api.OK
		}
		token, length := modelToken(rest)
		if length == 0 {
			return nil, at, api.ErrSyntax
		}
		token.At = at
		list = append(list, token)
		rest = rest[length:]
	}
}

// modelToken tells the token that a text begins with, and its length, or 0 if it
// is none.
func modelToken(rest []byte) (api.Token, int) {
	if found := runs.Find(rest); found != nil {
		switch {
		case allWords.Match(found):
			return word(0, string(found)), len(found)
		case aName.Match(found):
			return name(0, string(found)), len(found)
		}
		return api.Token{}, 0
	}
	if found := numbers.Find(rest); found != nil {
		n, _ := new(big.Int).SetString(string(found), 10)
		// A number that is written otherwise in decimal begins with a 0.
		if stuck.Match(rest) || n.Cmp(big.NewInt(math.MaxInt)) > 0 || n.String() != string(found) {
			return api.Token{}, 0
		}
		return number(0, int(n.Int64())), len(found)
	}
	found := signlike.Find(rest)
	return sign(0, string(found)), len(found)
}

// modelName tells the rule of Name another way.
func modelName(s string) bool {
	return aName.MatchString(s) && !slices.Contains(words(), s)
}

// wantAmong checks a text against the model, and that it has this token.
func wantAmong(t *testing.T, text string, token api.Token) {
	t.Helper()
	wantModel(t, []byte(text))
	if list, _, _ := lex.Tokens([]byte(text)); !slices.Contains(list, token) {
		t.Fatalf("Tokens of %q: %v, without %v", text, list, token)
	}
}

func wantName(t *testing.T, s string, want bool) {
	t.Helper()
	if got := lex.Name(s); got != want {
		t.Fatalf("Name of %s is %t, want %t", quote([]byte(s)), got, want)
	}
}

func TestP901AWordIsNoName(t *testing.T) {
	if len(words()) != 42 {
		t.Fatalf("there are %d words", len(words()))
	}
	for _, w := range words() {
		wantName(t, w, false)
		if !value.Name(w) {
			t.Fatalf("%s is no name of chapter 6", w)
		}
	}
}

func TestP901AWordWithMoreBehindItIsAName(t *testing.T) {
	for _, w := range words() {
		for _, c := range letters + digits + "_" {
			longer := w + string(c)
			wantName(t, longer, !slices.Contains(words(), longer))
		}
		for _, c := range letters {
			longer := string(c) + w
			wantName(t, longer, !slices.Contains(words(), longer))
		}
		wantName(t, "_"+w, false)
		wantName(t, "0"+w, false)
		for _, other := range words() {
			wantName(t, w+other, len(w+other) <= api.MaxName && !slices.Contains(words(), w+other))
			wantName(t, w+" "+other, false)
		}
	}
}

func TestP901AWordWithALetterCutOffIsAName(t *testing.T) {
	for _, w := range words() {
		for i := range w {
			for _, shorter := range []string{w[:i], w[i:], w[:i] + w[i+1:]} {
				wantName(t, shorter, shorter != "" && !slices.Contains(words(), shorter))
			}
		}
	}
	// What is left of some words is a word again.
	for _, w := range []string{"seq", "sel", "or", "and", "do", "ref", "re", "fa", "mse"} {
		wantName(t, w, w == "fa" || w == "mse")
	}
}

func TestP901AWordWithAnotherCharacterIsAName(t *testing.T) {
	for _, w := range words() {
		for i := range w {
			for c := range 256 {
				changed := w[:i] + string([]byte{byte(c)}) + w[i+1:]
				wantName(t, changed, modelName(changed))
			}
		}
		wantName(t, strings.ToUpper(w), true)
		wantName(t, strings.ToUpper(w[:1])+w[1:], true)
		wantName(t, w[:len(w)-1]+strings.ToUpper(w[len(w)-1:]), true)
	}
}

func TestP901TheLengthOfANameIsLimited(t *testing.T) {
	wantName(t, "", false)
	for n := 1; n <= api.MaxName; n++ {
		wantName(t, run(n), true)
		wantName(t, "Z"+strings.Repeat("_", n-1), true)
		wantName(t, "a"+strings.Repeat("9", n-1), true)
	}
	for _, n := range []int{api.MaxName + 1, api.MaxName + 2, 2 * api.MaxName, 1 << 8, 1<<8 + 1, 1 << 16, 1<<16 + 1} {
		wantName(t, run(n), false)
		wantName(t, "seq"+run(n-3), false)
		wantName(t, "Z"+strings.Repeat("_", n-1), false)
	}
	for _, w := range words() {
		wantName(t, w+run(api.MaxName-len(w)), true)
		wantName(t, w+run(api.MaxName-len(w)+1), false)
	}
}

func TestP901ATextThatChapter6DoesNotTakeIsNoName(t *testing.T) {
	for _, s := range []string{
		"_", "9", "_a", "9a", "0", " ", " a", "a ", "a b", "a-b", "a.b", "a\n", "\na", "a\x00", "\x00", "\xff", "a\xff", "é", "aé", "ä1", "ａ", "а", "a'", "'a", "seq ", " seq", "seq\n", "seq\x00", "seq;", "//", "a//", "+", ":=",
		"é" + run(api.MaxName-1), strings.Repeat("é", api.MaxName), "a\u0301", "\u200bseq", "ſeq",
	} {
		wantName(t, s, false)
	}
}

func TestP901EveryTextOfUpToTwoBytes(t *testing.T) {
	for a := range 256 {
		wantName(t, string([]byte{byte(a)}), modelName(string([]byte{byte(a)})))
		for b := range 256 {
			s := string([]byte{byte(a), byte(b)})
			wantName(t, s, modelName(s))
		}
	}
}

func TestP901EveryTextOfUpToThreeLetters(t *testing.T) {
	for _, a := range letters {
		for _, b := range letters {
			for _, c := range letters + digits + "_" {
				s := string([]rune{a, b, c})
				wantName(t, s, !slices.Contains(words(), s))
			}
		}
	}
}

func TestP902AnEmptyTextIsATEnd(t *testing.T) {
	for _, b := range [][]byte{nil, {}, make([]byte, 0, 9), []byte("seq")[:0], []byte("seq")[3:]} {
		check(t, b, []api.Token{{}}, 0, api.OK)
	}
}

func TestP902WhiteSpaceMayStandBetweenTokens(t *testing.T) {
	for c := range 256 {
		s := string([]byte{byte(c)})
		if slices.Contains([]int{32, 9, 10, 13}, c) {
			wantTokens(t, s)
			wantTokens(t, s+s+s)
			wantTokens(t, "a"+s+"b", name(0, "a"), name(2, "b"))
			wantTokens(t, "1"+s+"2"+s, number(0, 1), number(2, 2))
			wantTokens(t, s+":"+s+"=", sign(1, ":"), sign(3, "="))
			wantTokens(t, "/"+s+"/", sign(0, "/"), sign(2, "/"))
			wantTokens(t, s+"seq"+s+s+"self"+s, word(1, "seq"), word(6, "self"))
		} else {
			// Nothing else lies between two tokens and leaves no token.
			list, _, err := lex.Tokens([]byte("( " + s + " )"))
			if err == api.OK && len(list) == 3 {
				t.Fatalf("%q counts as white space", s)
			}
		}
	}
	wantTokens(t, " \t\r\n\r\n  \t ")
	wantTokens(t, strings.Repeat("\r\n \t", 1000)+"a", name(4000, "a"))
}

func TestP902ACommentGoesUpToTheNextLineOrTheEnd(t *testing.T) {
	wantTokens(t, "//")
	wantTokens(t, "///")
	wantTokens(t, "////")
	wantTokens(t, "//\n")
	wantTokens(t, "// a")
	wantTokens(t, "// a\n")
	wantTokens(t, "// a\nb", name(5, "b"))
	wantTokens(t, "a//b", name(0, "a"))
	wantTokens(t, "a//\nb", name(0, "a"), name(4, "b"))
	wantTokens(t, "a//b\n//c\n\nd//", name(0, "a"), name(10, "d"))
	wantTokens(t, "// a // b\nc", name(10, "c"))
	wantTokens(t, "//\n//\n//\n/", sign(9, "/"))
	wantTokens(t, "1//2", number(0, 1))
	wantTokens(t, "*//*", sign(0, "*"))
	// No other byte ends one.
	wantTokens(t, "// a\rb\n")
	wantTokens(t, "//\r(\n)", sign(5, ")"))
	wantTokens(t, "// \\\nb", name(5, "b"))
	wantTokens(t, "//\u2028(\u0085(\v(\f(")
	for c := range 256 {
		if c != '\n' {
			wantTokens(t, "//"+string([]byte{byte(c)})+"$")
			wantTokens(t, "("+"//"+string([]byte{byte(c)})+"\n)", sign(0, "("), sign(5, ")"))
		}
	}
	comment := "// \xff\x00\xc3 é > # _ 01 1a 9223372036854775808 " + run(99) + "\n"
	wantTokens(t, comment+"ok", word(len(comment), "ok"))
}

func TestP902OneSlashIsASign(t *testing.T) {
	wantTokens(t, "/", sign(0, "/"))
	wantTokens(t, "/ /", sign(0, "/"), sign(2, "/"))
	wantTokens(t, "/ //", sign(0, "/"))
	wantTokens(t, "/\n/", sign(0, "/"), sign(2, "/"))
	wantTokens(t, "a/b", name(0, "a"), sign(1, "/"), name(2, "b"))
	wantTokens(t, "/*/", sign(0, "/"), sign(1, "*"), sign(2, "/"))
	wantTokens(t, "/ * // */", sign(0, "/"), sign(2, "*"))
	wantTokens(t, "4/2//2/2", number(0, 4), sign(1, "/"), number(2, 2))
}

func TestP902AWordIsATWord(t *testing.T) {
	for _, w := range words() {
		n := len(w)
		for _, around := range within() {
			wantAmong(t, around[0]+w+around[1], word(len(around[0]), w))
		}
		wantTokens(t, "("+w+")", sign(0, "("), word(1, w), sign(n+1, ")"))
		wantTokens(t, w+"//"+w, word(0, w))
		wantTokens(t, w+" "+w+"1 "+w, word(0, w), name(n+1, w+"1"), word(2*n+3, w))
		wantTokens(t, strings.ToUpper(w)+" "+w+"_ x"+w, name(0, strings.ToUpper(w)), name(n+1, w+"_"), name(2*n+3, "x"+w))
		for _, other := range words() {
			wantTokens(t, w+"\n"+other, word(0, w), word(n+1, other))
		}
		wantWrong(t, "_"+w, 0)
		wantWrong(t, "1"+w, 0)
	}
	all := strings.Join(words(), " ")
	var want []api.Token
	for i, w := range words() {
		want = append(want, word(len(strings.Join(words()[:i], " "))+min(i, 1), w))
	}
	wantTokens(t, all, want...)
}

func TestP902ANameIsATName(t *testing.T) {
	for _, s := range []string{
		"a", "Z", "x1", "a_", "a__", "a_9Z", "A0", "none", "NONE", "Seq", "SEQ", "seQ", "seq1", "seq_", "sequence", "se", "keys", "doo", "selfish", "nott", "o", "k", "i", "r", "truefalse", "true0", "orand", "e1", "x0x1", longest(), "a" + strings.Repeat("_", api.MaxName-1), "seq" + run(api.MaxName-3),
	} {
		for _, around := range within() {
			wantAmong(t, around[0]+s+around[1], name(len(around[0]), s))
		}
		wantTokens(t, s, name(0, s))
		wantTokens(t, "'"+s+":"+s+";", sign(0, "'"), name(1, s), sign(len(s)+1, ":"), name(len(s)+2, s), sign(2*len(s)+2, ";"))
	}
}

func TestP902ANameAndNameAgree(t *testing.T) {
	var list []string
	for _, w := range words() {
		list = append(list, w, w+"1", w+"_", "x"+w, w+run(api.MaxName-len(w)), w+run(api.MaxName-len(w)+1), w[1:], strings.ToUpper(w))
	}
	for n := 1; n < 2*api.MaxName; n++ {
		list = append(list, run(n))
	}
	for _, s := range list {
		tokens, _, err := lex.Tokens([]byte(s))
		if isName := err == api.OK && tokens[0] == name(0, s); isName != lex.Name(s) {
			t.Fatalf("Tokens of %q: %v, error %d; but Name is %t", s, tokens, err, lex.Name(s))
		}
	}
}

func TestP902ANameThatIsTooLongIsAnError(t *testing.T) {
	wantTokens(t, longest(), name(0, longest()))
	wantTokens(t, longest()+" "+longest(), name(0, longest()), name(api.MaxName+1, longest()))
	wantTokens(t, longest()+"+"+longest(), name(0, longest()), sign(api.MaxName, "+"), name(api.MaxName+1, longest()))
	for _, n := range []int{1, 2, 3, api.MaxName, 1 << 8, 1<<16 - api.MaxName - 2} {
		for _, tail := range []string{run(n), strings.Repeat("0", n), strings.Repeat("_", n)} {
			wantWrong(t, longest()+tail, 0)
			wantWrong(t, "a "+longest()+tail, 2)
		}
	}
	for _, w := range words() {
		tail := run(api.MaxName - len(w))
		wantTokens(t, w+tail, name(0, w+tail))
		wantWrong(t, w+tail+"x", 0)
		wantWrong(t, w+" "+w+tail+"_", len(w)+1)
		wantWrong(t, w+"\n"+w+tail+"0;", len(w)+1)
		wantWrong(t, w+run(99), 0)
	}
	wantWrong(t, strings.TrimSuffix(strings.Repeat("seq_", 20), "_"), 0)
	wantWrong(t, run(api.MaxName+1)+" #", 0)
}

func TestP902DigitsAreATInt(t *testing.T) {
	for _, n := range []int{
		0, 1, 2, 3, 4, 5, 6, 7, 8, 9, 10, 11, 42, 99, 100, 101, 1000, 9999, 1234567890, 1 << 31, 1<<31 - 1, 1<<31 + 1, 1<<32 - 1, 1 << 32, 1<<53 + 1, 1 << 62, 999999999999999999, 1000000000000000000, 1000000000000000001, 922337203685477580, 922337203685477581,
		9223372036854775799, math.MaxInt - 1, math.MaxInt, math.MaxInt - 7, 9199999999999999999, 9000000000000000000, 8999999999999999999,
	} {
		text := strconv.Itoa(n)
		l := len(text)
		wantTokens(t, text, number(0, n))
		wantTokens(t, " "+text+"\n", number(1, n))
		wantTokens(t, "-"+text, sign(0, "-"), number(1, n))
		wantTokens(t, text+" "+text, number(0, n), number(l+1, n))
		wantTokens(t, text+"//"+text, number(0, n))
		for _, s := range signs() {
			wantTokens(t, text+s, number(0, n), sign(l, s))
			wantTokens(t, s+text, sign(0, s), number(len(s), n))
		}
		wantTokens(t, "a"+text, name(0, "a"+text))
		wantWrong(t, "0"+text, 0)
	}
	for n := range 3000 {
		wantTokens(t, strconv.Itoa(n), number(0, n))
	}
}

// tooGreat lists numbers that are greater than 2^63 - 1.
func tooGreat() []string {
	list := []string{
		"9223372036854775808", "9223372036854775809", "9223372036854775810", "9223372036854775817", "9223372036854775900", "9223372036854776000", "9300000000000000000", "9999999999999999999", "10000000000000000000", "10000000000000000001",
		"18446744073709551615", "18446744073709551616", "18446744073709551617", "18446744073709551623", "36893488147419103232", "92233720368547758070", "92233720368547758071", "340282366920938463463374607431768211456", "340282366920938463463374607431768211463",
	}
	for _, n := range []int{19, 20, 21, 24, 25, 99, 1000, api.MaxText - 9} {
		list = append(list, strings.Repeat("9", n), "1"+strings.Repeat("0", n), "1"+strings.Repeat("0", n-1)+"1", strings.Repeat("92", n/2+1))
	}
	return list
}

func TestP902ANumberThatIsTooGreatIsAnError(t *testing.T) {
	for _, s := range tooGreat() {
		wantWrong(t, s, 0)
		wantWrong(t, "a\n"+s+" 1", 2)
		wantWrong(t, "-"+s, 1)
		wantWrong(t, "1;"+s+";", 2)
	}
}

func TestP902ANumberThatBeginsWith0IsAnError(t *testing.T) {
	for _, s := range []string{"00", "01", "07", "08", "09", "000", "001", "010", "0000000000", "00000000000000000000", "09223372036854775807", "09223372036854775808", "0" + strings.Repeat("9", 99), strings.Repeat("0", 1<<16-9), strings.Repeat("0", 999) + "1"} {
		wantWrong(t, s, 0)
		wantWrong(t, "0 "+s, 2)
		wantWrong(t, "-"+s+";", 1)
	}
	wantTokens(t, "0", number(0, 0))
	wantTokens(t, "0 0", number(0, 0), number(2, 0))
	wantTokens(t, "0-0", number(0, 0), sign(1, "-"), number(2, 0))
	wantTokens(t, "0\n1", number(0, 0), number(2, 1))
	wantTokens(t, "100", number(0, 100))
}

func TestP902ANumberWithALetterBehindItIsAnError(t *testing.T) {
	list := append(tooGreat()[:30], "0", "1", "7", "10", "42", "00", "01", "007", "9223372036854775807", "9223372036854775808")
	for _, s := range list {
		for _, c := range letters + "_" {
			wantWrong(t, s+string(c), 0)
			wantWrong(t, "( "+s+string(c)+" )", 2)
		}
		for _, tail := range []string{"x1", "e5", "_000", "and", "seq", "a#", "_" + run(99)} {
			wantWrong(t, s+tail, 0)
			wantWrong(t, "//\n"+s+tail, 3)
		}
	}
	wantWrong(t, "1or 2", 0)
	wantWrong(t, "1 2or", 2)
	wantTokens(t, "1 or 2", number(0, 1), word(2, "or"), number(5, 2))
}

func TestP902ASignIsItself(t *testing.T) {
	if len(signs()) != 18 {
		t.Fatalf("there are %d signs", len(signs()))
	}
	for _, s := range signs() {
		n := len(s)
		wantTokens(t, s, sign(0, s))
		wantTokens(t, " "+s+" ", sign(1, s))
		wantTokens(t, "a"+s+"b", name(0, "a"), sign(1, s), name(n+1, "b"))
		wantTokens(t, "1"+s+"2", number(0, 1), sign(1, s), number(n+1, 2))
		wantTokens(t, "or"+s+"seq", word(0, "or"), sign(2, s), word(n+2, "seq"))
		wantTokens(t, s+" "+s+"\n"+s, sign(0, s), sign(n+1, s), sign(2*n+2, s))
	}
}

func TestP902TheLongestSignThatFitsCounts(t *testing.T) {
	for _, s := range []struct {
		text string
		list []string
	}{
		{":=", []string{":="}}, {"<=", []string{"<="}}, {">=", []string{">="}}, {"==", []string{"=="}},
		{"::=", []string{":", ":="}}, {":==", []string{":=", "="}}, {":===", []string{":=", "=="}}, {"===", []string{"==", "="}}, {"====", []string{"==", "=="}}, {"=====", []string{"==", "==", "="}},
		{"<<=", []string{"<", "<="}}, {"<==", []string{"<=", "="}}, {"<===", []string{"<=", "=="}}, {">==", []string{">=", "="}}, {"=>=", []string{"=", ">="}}, {"==>=", []string{"==", ">="}}, {"<>=", []string{"<", ">="}}, {"=<=", []string{"=", "<="}}, {"=:=", []string{"=", ":="}}, {":<=", []string{":", "<="}}, {"=<", []string{"=", "<"}}, {"=:", []string{"=", ":"}},
		{":", []string{":"}}, {"::", []string{":", ":"}}, {"<", []string{"<"}}, {"<<", []string{"<", "<"}}, {"=", []string{"="}}, {":=:", []string{":=", ":"}}, {"<=<", []string{"<=", "<"}}, {"+=", []string{"+", "="}}, {"-=", []string{"-", "="}}, {"*=", []string{"*", "="}}, {"/=", []string{"/", "="}}, {"**", []string{"*", "*"}}, {"++", []string{"+", "+"}}, {"--", []string{"-", "-"}}, {"''", []string{"'", "'"}}, {"()", []string{"(", ")"}}, {"{};,", []string{"{", "}", ";", ","}}, {"->=", []string{"-", ">="}},
	} {
		for _, around := range [][2]string{{"", ""}, {" ", " "}, {"\n", "//"}} {
			at := len(around[0])
			var want []api.Token
			for _, x := range s.list {
				want = append(want, sign(at, x))
				at += len(x)
			}
			wantTokens(t, around[0]+s.text+around[1], want...)
		}
	}
	for _, s := range []struct {
		text string
		at   int
	}{{">", 0}, {">>=", 0}, {"=>", 1}, {"<>", 1}, {":>", 1}, {"> =", 0}, {">=>", 2}, {"==>", 2}, {"->", 1}, {"> ", 0}, {"\n>\n=", 1}, {">//=", 0}} {
		wantWrong(t, s.text, s.at)
	}
	wantTokens(t, ": =", sign(0, ":"), sign(2, "="))
	wantTokens(t, "<\n=", sign(0, "<"), sign(2, "="))
	wantTokens(t, "= =", sign(0, "="), sign(2, "="))
	wantTokens(t, "=//=\n=", sign(0, "="), sign(5, "="))
}

func TestP902EachPairOfSigns(t *testing.T) {
	for _, a := range signs() {
		for _, b := range signs() {
			n := len(a)
			switch pair := a + b; {
			case pair == "//":
				wantTokens(t, pair)
			case n == 1 && slices.Contains(signs()[:4], pair[:2]) && b == "==":
				wantTokens(t, pair, sign(0, pair[:2]), sign(2, "="))
			case n == 1 && slices.Contains(signs()[:4], pair):
				wantTokens(t, pair, sign(0, pair))
			default:
				wantTokens(t, pair, sign(0, a), sign(n, b))
			}
			wantTokens(t, a+" "+b, sign(0, a), sign(n+1, b))
			wantModel(t, []byte("x"+a+b+"y"))
			for _, c := range append(signs(), ">") {
				wantModel(t, []byte(a+b+c))
			}
		}
	}
}

func TestP902EverySingleByte(t *testing.T) {
	for c := range 256 {
		s := string([]byte{byte(c)})
		switch {
		case strings.Contains(" \t\r\n", s):
			wantTokens(t, s)
			wantTokens(t, "( "+s+" )", sign(0, "("), sign(4, ")"))
		case strings.Contains(letters, s):
			wantTokens(t, s, name(0, s))
			wantTokens(t, "( "+s+" )", sign(0, "("), name(2, s), sign(4, ")"))
			wantTokens(t, "("+s+")", sign(0, "("), name(1, s), sign(2, ")"))
		case strings.Contains(digits, s):
			wantTokens(t, s, number(0, c-'0'))
			wantTokens(t, "( "+s+" )", sign(0, "("), number(2, c-'0'), sign(4, ")"))
			wantTokens(t, "("+s+")", sign(0, "("), number(1, c-'0'), sign(2, ")"))
		case slices.Contains(signs(), s):
			wantTokens(t, s, sign(0, s))
			wantTokens(t, "( "+s+" )", sign(0, "("), sign(2, s), sign(4, ")"))
			wantTokens(t, "("+s+")", sign(0, "("), sign(1, s), sign(2, ")"))
		default:
			wantWrong(t, s, 0)
			wantWrong(t, "( "+s+" )", 2)
			wantWrong(t, "("+s+")", 1)
		}
	}
}

func TestP902AByteThatBeginsNoTokenIsAnError(t *testing.T) {
	for _, s := range []string{"_", "#", "$", "!", "\"", "%", "&", ".", "?", "@", "[", "\\", "]", "^", "`", "|", "~", ">", "\x00", "\v", "\f", "\x1f", "\x7f", "\x80", "\xa0", "\xff", "é", "ａ", "\u00a0", "\u2028", "\u0661", "\ufeff", "_a", "__", "_1"} {
		wantWrong(t, s, 0)
		wantWrong(t, " "+s, 1)
		wantWrong(t, "seq "+s, 4)
		wantWrong(t, "//"+s+"\n"+s, 3+len(s))
		wantWrong(t, "("+s, 1)
		wantWrong(t, "()"+s+"()", 2)
		wantTokens(t, "//"+s)
		if s[0] != '_' {
			wantWrong(t, "seq"+s, 3)
			wantWrong(t, longest()+s, api.MaxName)
			wantWrong(t, "12"+s, 2)
			wantWrong(t, "a1 0"+s, 4)
		}
	}
	wantTokens(t, "a_", name(0, "a_"))
	wantWrong(t, "a _", 2)
	wantWrong(t, "a.b", 1)
	wantWrong(t, "1.5", 1)
	wantWrong(t, "a != b", 2)
	wantWrong(t, "\ufeffseq", 0)
}

func TestP902ATextMayHaveMaxTextBytes(t *testing.T) {
	const most = api.MaxText
	for _, c := range " \t\r\n" {
		wantTokens(t, strings.Repeat(string(c), most))
	}
	wantTokens(t, strings.Repeat("/", most))
	wantTokens(t, "//"+strings.Repeat("$", most-2))
	wantTokens(t, strings.Repeat(" ", most-1)+"a", name(most-1, "a"))
	wantTokens(t, "a"+strings.Repeat(" ", most-1), name(0, "a"))
	wantTokens(t, strings.Repeat("\n", most-api.MaxName)+longest(), name(most-api.MaxName, longest()))
	wantTokens(t, strings.Repeat(" ", most-19)+"9223372036854775807", number(most-19, math.MaxInt))
	wantTokens(t, strings.Repeat(" ", most-2)+">=", sign(most-2, ">="))
	wantWrong(t, strings.Repeat(" ", most-1)+">", most-1)
	wantWrong(t, strings.Repeat("a", most), 0)
	wantWrong(t, strings.Repeat("9", most), 0)
	wantWrong(t, strings.Repeat("0", most), 0)
	var many, pairs []api.Token
	for i := range most {
		many = append(many, sign(i, "("))
		if i%2 == 0 {
			pairs = append(pairs, number(i, 1), sign(i+1, "-"))
		}
	}
	wantTokens(t, strings.Repeat("(", most), many...)
	wantTokens(t, strings.Repeat("(", most-1), many[:most-1]...)
	wantTokens(t, strings.Repeat("1-", most/2), pairs...)
	wantWrong(t, strings.Repeat("(", most-1)+"#", most-1)
}

func TestP902ATextWithMoreBytesIsTooLong(t *testing.T) {
	for _, n := range []int{api.MaxText + 1, api.MaxText + 2, 2 * api.MaxText, 2*api.MaxText + 1, 1 << 20} {
		for _, begin := range []string{"", " ", "a ", "//", "#", "_", ">", "01", "1a", "9223372036854775808 ", run(99), "\xff"} {
			for _, fill := range []string{" ", "a", "0", "(", "\x00", "\n"} {
				wantLong(t, begin+strings.Repeat(fill, n-len(begin)))
			}
		}
		wantLong(t, strings.Repeat(" ", n-1)+"#")
	}
	// What lies behind the text does not count.
	b := make([]byte, 2*api.MaxText)
	check(t, append(b[:0], bytes.Repeat([]byte(" "), api.MaxText)...), []api.Token{end(api.MaxText)}, api.MaxText, api.OK)
}

func TestP902TheFirstErrorCounts(t *testing.T) {
	wrong := []string{"#", "_", ">", "é", "01", "00", "1a", "1_", "9223372036854775808", "01a", "99999999999999999999x", run(api.MaxName + 1), "seq" + run(99), "\x00", "\xff", "\""}
	for _, a := range wrong {
		for _, around := range within() {
			wantWrong(t, around[0]+a+around[1], len(around[0]))
		}
		for _, b := range wrong {
			wantWrong(t, a+" "+b, 0)
			wantWrong(t, "a "+a+"\n"+b+" b", 2)
			wantWrong(t, "if 1 ; "+a+" ;", 7)
			wantWrong(t, "seq { "+b+" } "+a, 6)
			wantWrong(t, "// "+a+"\n( "+b+" "+a, len(a)+6)
		}
	}
}

func TestP902AProgram(t *testing.T) {
	wantTokens(t, "key own hp int;\ntree main{if -1<hp; // go\n set p:=(1,2);}\ndomain d{need a>=10;}",
		word(0, "key"), word(4, "own"), name(8, "hp"), word(11, "int"), sign(14, ";"),
		word(16, "tree"), name(21, "main"), sign(25, "{"), word(26, "if"), sign(29, "-"), number(30, 1), sign(31, "<"), name(32, "hp"), sign(34, ";"),
		word(43, "set"), name(47, "p"), sign(48, ":="), sign(50, "("), number(51, 1), sign(52, ","), number(53, 2), sign(54, ")"), sign(55, ";"), sign(56, "}"),
		word(58, "domain"), name(65, "d"), sign(66, "{"), word(67, "need"), name(72, "a"), sign(73, ">="), number(75, 10), sign(77, ";"), sign(78, "}"))
}

func TestP902TheFieldsOfEachToken(t *testing.T) {
	text := "\n seq x12 9 := 'q // far\n 0"
	list, n, err := lex.Tokens([]byte(text))
	want := []api.Token{
		{Kind: 2, N: 0, At: 2, Text: "seq"}, {Kind: 1, N: 0, At: 6, Text: "x12"}, {Kind: 3, N: 9, At: 10, Text: ""}, {Kind: 4, N: 0, At: 12, Text: ":="},
		{Kind: 4, N: 0, At: 15, Text: "'"}, {Kind: 1, N: 0, At: 16, Text: "q"}, {Kind: 3, N: 0, At: 26, Text: ""}, {Kind: 0, N: 0, At: 27, Text: ""},
	}
	if err != 0 || n != 27 || !slices.Equal(list, want) {
		t.Errorf("Tokens of %q: %+v, %d, error %d; want %+v", text, list, n, err, want)
	}
}

func TestP902TheTEndIsAtTheEnd(t *testing.T) {
	for _, text := range []string{"", " ", "\n\n", "a", "a ", "a\n", "seq", "12", "12 ", ":", ":= ", "//", "// x", "// x\n", "a//", "a // b\n \t"} {
		list, n, err := lex.Tokens([]byte(text))
		if err != api.OK || n != len(text) || len(list) == 0 || list[len(list)-1] != end(len(text)) {
			t.Errorf("Tokens of %q: %v, %d, error %d", text, list, n, err)
		}
		for _, x := range list[:len(list)-1] {
			if x.Kind == api.TEnd {
				t.Errorf("Tokens of %q: %v has a TEnd ahead of the end", text, list)
			}
		}
	}
}

func TestP902EveryTextOfUpToTwoBytes(t *testing.T) {
	for a := range 256 {
		wantModel(t, []byte{byte(a)})
		for b := range 256 {
			wantModel(t, []byte{byte(a), byte(b)})
			wantModel(t, []byte{'(', byte(a), byte(b), ')'})
		}
	}
}

func TestP902EveryShortText(t *testing.T) {
	const kinds = "aZ019_ \n/:=<>(-.\xc3"
	var try func(text []byte, more int)
	try = func(text []byte, more int) {
		wantModel(t, text)
		if more == 0 {
			return
		}
		for i := range len(kinds) {
			try(append(text, kinds[i]), more-1)
		}
	}
	try(nil, 4)
}

// dice makes numbers that look random, the same ones in every run.
type dice struct{ state uint64 }

func (d *dice) roll(n int) int {
	d.state = d.state*6364136223846793005 + 1442695040888963407
	return int(d.state >> 33 % uint64(n))
}

func (d *dice) one(list []string) string { return list[d.roll(len(list))] }

// randomRun is n characters that may stand in a name.
func randomRun(d *dice, n int) string {
	all := letters + digits + "_"
	b := []byte{letters[d.roll(len(letters))]}
	for len(b) < n {
		b = append(b, all[d.roll(len(all))])
	}
	return string(b)
}

func randomDigits(d *dice, n int) string {
	b := []byte{digits[1+d.roll(9)]}
	for len(b) < n {
		b = append(b, digits[d.roll(10)])
	}
	return string(b)
}

// randomPiece is a piece of a text; few of them are wrong in themselves.
func randomPiece(d *dice) string {
	switch d.roll(16) {
	case 0, 1:
		return d.one(words())
	case 2, 3:
		return randomRun(d, 1+d.roll(api.MaxName))
	case 4, 5:
		return randomDigits(d, 1+d.roll(18))
	case 6, 7, 8:
		return d.one(signs())
	case 9:
		return "0"
	case 10:
		return "// " + d.one([]string{"", "seq", "é > #", "\xff\x00", "//", "\r"}) + "\n"
	}
	return d.one([]string{" ", "\n", "\t", "\r\n", "   "})
}

// randomFault is a piece of a text that is wrong, or makes its neighbour wrong,
// in most places.
func randomFault(d *dice) string {
	switch d.roll(6) {
	case 0:
		return randomRun(d, api.MaxName+1+d.roll(9))
	case 1:
		return randomDigits(d, 19+d.roll(3))
	case 2:
		return "0" + randomDigits(d, 1+d.roll(3))
	case 3:
		return string([]byte{byte(d.roll(256))})
	case 4:
		return randomDigits(d, 1+d.roll(3)) + randomRun(d, 1)
	}
	return d.one([]string{"_", ">", "#", "é", "//"})
}

func TestP902LongRandomTexts(t *testing.T) {
	d := &dice{state: 9}
	for i := range 1500 {
		var b []byte
		for size := d.roll(1 << (i % 11)); size >= 0; size-- {
			b = append(b, randomPiece(d)...)
			// A gap, so that most pieces stay apart.
			if d.roll(8) > 0 {
				b = append(b, " \n"[d.roll(2)])
			}
		}
		wantModel(t, b)
		if i%2 == 0 {
			wantModel(t, append(b, randomFault(d)...))
			wantModel(t, slices.Insert(slices.Clone(b), d.roll(len(b)+1), []byte(randomFault(d))...))
		}
	}
}

func TestP902RandomTextsWithoutGaps(t *testing.T) {
	d := &dice{state: 77}
	for range 20000 {
		var b []byte
		for range 1 + d.roll(6) {
			if d.roll(9) == 0 {
				b = append(b, randomFault(d)...)
			}
			b = append(b, randomPiece(d)...)
		}
		wantModel(t, b)
	}
}

func TestP902RandomBytes(t *testing.T) {
	d := &dice{state: 123456789}
	for range 20000 {
		b := make([]byte, d.roll(12))
		for i := range b {
			b[i] = byte(d.roll(256))
		}
		wantModel(t, b)
		wantModel(t, append([]byte("//"), b...))
	}
}

func TestP902TextsOfAboutMaxTextBytes(t *testing.T) {
	d := &dice{state: 4}
	for range 8 {
		var b []byte
		for len(b) < api.MaxText+api.MaxName {
			b = append(append(b, randomPiece(d)...), ' ')
		}
		for _, n := range []int{api.MaxText - 1, api.MaxText, api.MaxText + 1, len(b)} {
			wantModel(t, b[:n])
		}
	}
}

// sampleTexts lists texts with all kinds of tokens and errors.
func sampleTexts() []string {
	list := []string{"", " ", "#", "a", "seq", "12", ":=", "// x", "a b", "1 01", "seq { ok ; } // x\n if a == 'b ;", "key own hp int ; @", run(99), strings.Repeat("(", 999), strings.Repeat(" ", api.MaxText+1)}
	for _, w := range words() {
		list = append(list, w, w+" 1", w+"1;", "1"+w)
	}
	for _, s := range signs() {
		list = append(list, s, s+"x")
	}
	return list
}

func TestP903TheTextIsNotModified(t *testing.T) {
	for _, text := range sampleTexts() {
		whole := []byte("before " + text + " behind")
		lex.Tokens(whole[7 : 7+len(text)])
		lex.Tokens(whole[7 : 7+len(text) : 7+len(text)])
		if string(whole) != "before "+text+" behind" {
			t.Fatalf("the text %s became %s", quote([]byte(text)), quote(whole))
		}
	}
}

func TestP903TheTextIsNotKept(t *testing.T) {
	for _, text := range sampleTexts() {
		passed := []byte(text)
		list, _, _ := lex.Tokens(passed)
		want, _, _ := model([]byte(text))
		for i := range passed {
			passed[i] = 'X'
		}
		if !slices.Equal(list, want) {
			t.Fatalf("the tokens of %s became %v", quote([]byte(text)), list)
		}
		clear(passed)
		copy(passed, bytes.Repeat([]byte("far<=7 "), len(passed)))
		if !slices.Equal(list, want) {
			t.Fatalf("the tokens of %s became %v", quote([]byte(text)), list)
		}
	}
}

func TestP903WhatLiesBehindTheTextDoesNotCount(t *testing.T) {
	for _, text := range sampleTexts() {
		list, at, err := model([]byte(text))
		for _, behind := range []string{"", "=", "/", "//", "a", "_", "0", "9", "\n", " ", "#", "eq"} {
			whole := []byte(text + behind)
			check(t, whole[:len(text)], list, at, err)
			whole = []byte(behind + text)
			check(t, whole[len(behind):], list, at, err)
		}
	}
}

func TestP903TokensThatWereReturnedAreTheCallers(t *testing.T) {
	b := []byte("seq { a 1 := }")
	first, _, _ := lex.Tokens(b)
	second, _, _ := lex.Tokens(b)
	before := slices.Clone(second)
	for i := range first {
		first[i] = api.Token{Kind: 9, N: 9, At: 9, Text: "changed"}
	}
	_ = append(first[:0], end(1), end(2))
	clear(first[:cap(first)])
	if !slices.Equal(second, before) {
		t.Errorf("the tokens of another call became %v", second)
	}
	check(t, b, before, len(b), api.OK)
	again, _, _ := lex.Tokens(nil)
	again[0].At = 7
	check(t, nil, []api.Token{{}}, 0, api.OK)
}

// answers tells the results of all functions for texts of all kinds.
func answers() []string {
	var results []string
	for _, text := range sampleTexts() {
		list, at, err := lex.Tokens([]byte(text))
		results = append(results, fmt.Sprintf("%+v %d %d %t", list, at, err, lex.Name(text)))
	}
	return results
}

func TestP903ResultsDependOnlyOnTheArguments(t *testing.T) {
	first := answers()
	for range 20 {
		if again := answers(); !slices.Equal(first, again) {
			t.Fatalf("the same calls gave %v, then %v", first, again)
		}
	}
	// Nor on what was asked just before, be it right or wrong.
	for _, before := range sampleTexts() {
		for _, text := range []string{"", "a 1", "seq", "#", "01"} {
			lex.Tokens([]byte(before))
			wantModel(t, []byte(text))
			lex.Name(before)
			wantName(t, text, modelName(text))
		}
	}
}

func TestP903ResultsDoNotDependOnWhereATextLies(t *testing.T) {
	for _, w := range append(words(), "a", "seq1", longest(), longest()+"x", "") {
		within := "x" + w + "y"
		for _, copied := range []string{strings.Clone(w), within[1 : 1+len(w)]} {
			wantName(t, copied, modelName(w))
		}
	}
}

func TestP903ResultsDoNotDependOnOtherGoroutines(t *testing.T) {
	want := answers()
	const workers = 8
	results := make(chan []string, workers)
	for range workers {
		go func() { results <- answers() }()
	}
	for range workers {
		if got := <-results; !slices.Equal(got, want) {
			t.Errorf("a goroutine got %v, want %v", got, want)
		}
	}
}
