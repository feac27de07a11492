package tree_test

import (
	"slices"
	"strings"
	"testing"

	"puppeteer/api"
	"puppeteer/lex"
	"puppeteer/samples"
)

// wantWrongAt checks the first error of a text, in which "@" marks the place where
// it is, wherever the text stands.
func wantWrongAt(t *testing.T, marked string, err api.Errno) {
	t.Helper()
	ahead, behind, ok := strings.Cut(marked, "@")
	if !ok {
		t.Fatalf("%q has no mark", marked)
	}
	for _, first := range []string{"", " ", "// x\n", "key own a int;", "tree t { not ok; } // ; }\n", "domain d { var v 0 1; act a cost 1 { need v == 1; make v + 1; } goal v == 1; }\n"} {
		wantError(t, first+ahead+behind, len(first+ahead), err)
		if behind != "" {
			wantError(t, first+ahead+" // @\n\t"+behind, len(first+ahead)+7, err)
			wantError(t, first+ahead+behind+" ;", len(first+ahead), err)
			wantError(t, first+ahead+behind+"\nkey own b int; // x", len(first+ahead), err)
		} else {
			// The end is where the text ends, behind all that may stand between tokens.
			wantError(t, first+ahead+" // x\n\t", len(first+ahead)+7, err)
			wantError(t, first+ahead+"\n", len(first+ahead)+1, err)
			wantError(t, first+ahead+"// }", len(first+ahead)+4, err)
		}
		wantModelText(t, first+ahead+behind)
	}
}

func TestP1102AMissingOrWrongToken(t *testing.T) {
	for _, text := range []string{
		"@x", "@;", "@}", "@{", "@1", "@ok;", "@own a int;", "@a int;", "@seq { ok; }", "@var v 0 1;", "@act a cost 1 { }", "@need v == 1;", "@goal v == 1;", "@make v = 1;", "@int", "@( )", "@, key own a int;",
		"key@", "key @;", "key @a int;", "key @int a;", "key @key", "key @tree t { ok; }", "key @self a int;", "key @1", "key own@", "key own @;", "key own @own a int;", "key own @shared a int;", "key own @int int;", "key own @1 int;", "key own @'a int;",
		"key own a@", "key own a @;", "key own a @b;", "key own a @real;", "key own a @own;", "key own a @seq;", "key own a @1;", "key own a @a int;", "key own a @key;", "key own a int@", "key own a int @}", "key own a int @int;", "key own a int @, b int;", "key own a int @key own b int;", "key own a int @:= 1;",
		"key shared@", "key shared @;", "key shared a @;", "key shared a bool@", "key shared a @own int;", "key own a int; @;", "key own a int; @own b int;", "key own a int; @}",
		"tree@", "tree @;", "tree @{ ok; }", "tree @1 { ok; }", "tree @tree { ok; }", "tree @ok { ok; }", "tree t@", "tree t @ok;", "tree t @;", "tree t @t { ok; }", "tree t @( ok; )", "tree t @}", "tree t {@", "tree t { @}", "tree t { @;", "tree t { @x; }", "tree t { @1 : ok; }", "tree t { @{ ok; } }",
		"tree t { ok @}", "tree t { ok; @", "tree t { ok; @fail; }", "tree t { ok; @; }", "tree t { ok; @)", "tree t { ok; @tree u { ok; }", "tree t { ok; } @}", "tree t { ok; } @;", "tree t { ok; } @ok;", "tree t { seq { ok; }@", "tree t { seq { ok; } @tree u { ok; } }", "tree t { seq { @} }", "tree t { seq @ok; }",
		"tree t { if @; }", "tree t { if a @b; }", "tree t { if a + @; }", "tree t { if (a @; }", "tree t { set @:= 1; }", "tree t { set a @= 1; }", "tree t { set a := @}", "tree t { do @; }", "tree t { do x @}", "tree t { use @1; }", "tree t { plan @seq; }", "tree t { par 1 @{ ok; } }", "tree t { repeat @ok; }", "tree t { repeat 1 @; }", "tree t { not @}", "tree t { pick { @} }", "tree t { pick { 1 @ok; } }", "tree t { pick { 1 : @} }", "tree t { pick { 1 : ok; @ok; } }", "tree t { @key own a int; }",
		"domain@", "domain @;", "domain @{ }", "domain @1 { }", "domain @domain { }", "domain @goal { }", "domain d@", "domain d @;", "domain d @}", "domain d @var v 0 1;", "domain d @d { }", "domain d {@", "domain d { @x }", "domain d { @; }", "domain d { @{ } }", "domain d { @1 }", "domain d { @need v == 1; }", "domain d { @make v = 1; }", "domain d { @ok; }", "domain d { @key own a int; }", "domain d { @domain e { } }", "domain d { @cost 1 }", "domain d { } @}", "domain d { } @;", "domain d { } @var v 0 1;",
		"domain d { var@", "domain d { var @;", "domain d { var @1 0 1; }", "domain d { var @var 0 1; }", "domain d { var v@", "domain d { var v @;", "domain d { var v @v 0 1; }", "domain d { var v @+ 1 2; }", "domain d { var v @= 0 1; }", "domain d { var v -@", "domain d { var v - @v", "domain d { var v - @- 1 2; }", "domain d { var v 1@", "domain d { var v 1 @; }", "domain d { var v 1 @a; }", "domain d { var v 1 @, 2; }", "domain d { var v 1 -@", "domain d { var v 1 - @; }", "domain d { var v - 1 @; }", "domain d { var v 1 2@", "domain d { var v 1 2 @}", "domain d { var v 1 2 @3; }", "domain d { var v 1 2 @- 3; }", "domain d { var v 1 2 @var w 1 2; }", "domain d { var v 1 2;@", "domain d { var v 1 2; @;", "domain d { var v 1 2; @1", "domain d { var v 1 2; @w 1 2; }", "domain d { var v 1 2; } @}",
		"domain d { goal@", "domain d { goal @; }", "domain d { goal @1 == 1; }", "domain d { goal @goal == 1; }", "domain d { goal v@", "domain d { goal v @; }", "domain d { goal v @< 1; }", "domain d { goal v @= 1; }", "domain d { goal v @:= 1; }", "domain d { goal v @+ 1; }", "domain d { goal v @1; }", "domain d { goal v @and 1; }", "domain d { goal v ==@", "domain d { goal v == @; }", "domain d { goal v == @v; }", "domain d { goal v == @== 1; }", "domain d { goal v >= @true; }", "domain d { goal v <= @'a; }", "domain d { goal v <= @(1); }", "domain d { goal v <= - @; }", "domain d { goal v <= - @- 1; }", "domain d { goal v == 1@", "domain d { goal v == 1 @}", "domain d { goal v == 1 @+ 1; }", "domain d { goal v == 1 @and w == 1; }", "domain d { goal v == 1 @goal w == 1; }", "domain d { goal v == 1; @v == 1; }",
		"domain d { act@", "domain d { act @;", "domain d { act @1 cost 1 { } }", "domain d { act @act cost 1 { } }", "domain d { act @cost 1 { } }", "domain d { act a@", "domain d { act a @; }", "domain d { act a @{ } }", "domain d { act a @1 { } }", "domain d { act a @need", "domain d { act a cost@", "domain d { act a cost @{ } }", "domain d { act a cost @a { } }", "domain d { act a cost @- 1 { } }", "domain d { act a cost @cost 1 { } }", "domain d { act a cost 1@", "domain d { act a cost 1 @; }", "domain d { act a cost 1 @}", "domain d { act a cost 1 @2 { } }", "domain d { act a cost 1 @need v == 1; }", "domain d { act a cost 1 {@", "domain d { act a cost 1 { @; } }", "domain d { act a cost 1 { @v == 1; } }", "domain d { act a cost 1 { @goal v == 1; } }", "domain d { act a cost 1 { @var v 0 1; } }", "domain d { act a cost 1 { @act b cost 1 { } } }", "domain d { act a cost 1 { @{ } } }", "domain d { act a cost 1 { @1 } }", "domain d { act a cost 1 { }@", "domain d { act a cost 1 { } @;", "domain d { act a cost 1 { } @need v == 1; }", "domain d { act a cost 1 { } @{ } }", "domain d { act a cost 1 { } } @}",
		"domain d { act a cost 1 { need@", "domain d { act a cost 1 { need @; } }", "domain d { act a cost 1 { need @need == 1; } }", "domain d { act a cost 1 { need v@", "domain d { act a cost 1 { need v @; } }", "domain d { act a cost 1 { need v @= 1; } }", "domain d { act a cost 1 { need v @+ 1; } }", "domain d { act a cost 1 { need v @< 1; } }", "domain d { act a cost 1 { need v >=@", "domain d { act a cost 1 { need v >= @; } }", "domain d { act a cost 1 { need v >= - @v; } }", "domain d { act a cost 1 { need v >= 1@", "domain d { act a cost 1 { need v >= 1 @} }", "domain d { act a cost 1 { need v >= 1 @2; } }", "domain d { act a cost 1 { need v >= 1;@", "domain d { act a cost 1 { need v >= 1; @;", "domain d { act a cost 1 { need v >= 1; @goal v == 1; } }",
		"domain d { act a cost 1 { make@", "domain d { act a cost 1 { make @; } }", "domain d { act a cost 1 { make @1 = 1; } }", "domain d { act a cost 1 { make @make = 1; } }", "domain d { act a cost 1 { make v@", "domain d { act a cost 1 { make v @; } }", "domain d { act a cost 1 { make v @== 1; } }", "domain d { act a cost 1 { make v @>= 1; } }", "domain d { act a cost 1 { make v @:= 1; } }", "domain d { act a cost 1 { make v @* 2; } }", "domain d { act a cost 1 { make v @1; } }", "domain d { act a cost 1 { make v =@", "domain d { act a cost 1 { make v = @; } }", "domain d { act a cost 1 { make v = @v; } }", "domain d { act a cost 1 { make v = @+ 1; } }", "domain d { act a cost 1 { make v = - @- 1; } }", "domain d { act a cost 1 { make v = - @; } }", "domain d { act a cost 1 { make v +@", "domain d { act a cost 1 { make v + @; } }", "domain d { act a cost 1 { make v + @- 1; } }", "domain d { act a cost 1 { make v + @+ 1; } }", "domain d { act a cost 1 { make v -@", "domain d { act a cost 1 { make v - @; } }", "domain d { act a cost 1 { make v - @- 1; } }", "domain d { act a cost 1 { make v - @v; } }", "domain d { act a cost 1 { make v = 1@", "domain d { act a cost 1 { make v = 1 @} }", "domain d { act a cost 1 { make v = 1 @+ 1; } }", "domain d { act a cost 1 { make v + 1 @}", "domain d { act a cost 1 { make v - 1 @2; }", "domain d { act a cost 1 { make v - 1;@", "domain d { act a cost 1 { make v - 1; @; }", "domain d { act a cost 1 { make v - 1; @w - 1; }",
	} {
		wantWrongAt(t, text, api.ErrSyntax)
	}
}

// long is a text with all that may be in a program.
func long() string {
	return `key own a int; key shared b point; // keys
tree t { seq { if a + 1 < 2; set a := (1, -2); sel { do x; use y; plan d; } pick { 1: ok; a: not fail; } } }
domain d { var v -3 4; goal v >= -1; goal v == 5;
	act x cost 7 { make v + 2; need v <= 3; make w = -4; make v - 5; need v == 0; }
	act y cost 0 { } var w 0 1; }
tree u { par 1 2 { repeat 3 wait; mseq { ok; } msel { fail; } } } domain e { } key own c sym; key own d ref; key own e bool;`
}

func TestP1102ATextThatEndsTooEarly(t *testing.T) {
	texts := []string{long()}
	for text := range declared() {
		texts = append(texts, text)
	}
	for _, text := range texts {
		l := lexed(t, text)
		open := false
		for i, token := range l {
			cut := text[:token.At]
			switch wantModelText(t, cut) {
			case api.ErrSyntax:
				wantError(t, cut, len(cut), api.ErrSyntax)
				wantError(t, cut+" // x\n", len(cut)+6, api.ErrSyntax)
				open = true
			case api.OK:
				if i > 0 && !strings.Contains(";}", l[i-1].Text) {
					t.Fatalf("%q is no program", cut)
				}
			default:
				t.Fatalf("another error in %q", cut)
			}
		}
		if !open {
			t.Fatalf("%q has no beginning that is wrong", text)
		}
		for i := range text {
			wantModelText(t, text[:i])
			wantModelText(t, text[i:])
		}
	}
}

func TestP1102EachTokenReplacedLeftOutOrDoubled(t *testing.T) {
	list := samples.Texts(lexed(t, long()))
	list = list[:len(list)-1]
	for i := range list {
		wantInstead := func(more ...string) {
			wantModelText(t, strings.Join(slices.Concat(list[:i], more, list[i+1:]), " "))
		}
		wantInstead()
		wantInstead(list[i], list[i])
		for _, token := range samples.Tokens() {
			wantInstead(samples.Text(token))
			wantInstead(samples.Text(token), list[i])
		}
	}
}

func TestP1102ErrorsOfTheLexer(t *testing.T) {
	for _, wrong := range []string{"#", "]", "\"", "a1\x00", "_", "01", "1a", "9223372036854775808", samples.LongestName() + "n", ">", "!", "\xff", "é", "&&", ".5", "@"} {
		_, off, err := lex.Tokens([]byte(wrong))
		if err != api.ErrSyntax {
			t.Fatalf("Tokens of %q: error %d", wrong, err)
		}
		l := lexed(t, long())
		for _, token := range l {
			// It counts wherever it is, even behind another error.
			ahead, behind := long()[:token.At], long()[token.At:]
			wantError(t, ahead+" "+wrong+" "+behind, len(ahead)+1+off, api.ErrSyntax)
			wantError(t, "x ; } "+ahead+" "+wrong+" "+behind+" "+wrong, len(ahead)+7+off, api.ErrSyntax)
			wantError(t, strings.Repeat("key own a int;", api.MaxKeys+1)+ahead+"\n"+wrong, 14*(api.MaxKeys+1)+len(ahead)+1+off, api.ErrSyntax)
		}
		wantError(t, wrong, off, api.ErrSyntax)
		wantProgram(t, "// "+wrong, api.Program{})
		wantError(t, strings.Repeat(wrong+" ", api.MaxText), 0, api.ErrLong)
	}
	wantError(t, strings.Repeat("x", api.MaxText+1), 0, api.ErrLong)
	wantError(t, strings.Repeat("x", api.MaxText), 0, api.ErrSyntax)
	wantError(t, strings.Repeat("a ", api.MaxText/2), 0, api.ErrSyntax)
}

// A limit is what may be there a number of times only, between what stands ahead of
// it and behind it.
type limit struct {
	ahead, one, behind string
	most               int
}

func limits() []limit {
	return []limit{
		{"", "key own k int;", "", api.MaxKeys},
		{"", "key shared k point; ", "", api.MaxKeys},
		{"", "tree t{ok;}", "", api.MaxTrees},
		{"", "tree t { seq { not ok; } } ", "", api.MaxTrees},
		{"", "domain d{}", "", api.MaxTrees},
		{"", "domain d { var v 0 1; act a cost 1 { } goal v == 1; } ", "", api.MaxTrees},
		{"domain d { ", "var v 0 1;", "}", api.MaxVars},
		{"domain d { ", "var v - 5 - 1;", "}", api.MaxVars},
		{"domain d { ", "goal v == 1; ", "}", api.MaxVars},
		{"domain d { ", "goal v >= - 1; ", "}", api.MaxVars},
		{"domain d { ", "act a cost 1 { } ", "}", api.MaxActs},
		{"domain d { ", "act a cost 1 { need v == 1; make v = 1; } ", "}", api.MaxActs},
		{"domain d { act a cost 1 { ", "need v == 1; ", "} }", api.MaxVars},
		{"domain d { act a cost 1 { ", "make v = 1; ", "} }", api.MaxVars},
		{"domain d { act a cost 1 { ", "make v + 1; ", "} }", api.MaxVars},
		{"domain d { act a cost 1 { ", "make v - 1; ", "} }", api.MaxVars},
	}
}

func TestP1102MoreThanMayBe(t *testing.T) {
	for _, x := range limits() {
		full := x.ahead + strings.Repeat(x.one, x.most)
		if err := wantModelText(t, full+x.behind); err != api.OK {
			t.Fatalf("%q: error %d", full+x.behind, err)
		}
		word, _, _ := strings.Cut(x.one, " ")
		for _, more := range []string{x.one + x.behind, x.one + x.one + x.behind, x.one, word, word + " ;", word + word, word + " 1", word + " " + word, word + " own", word + " a b c", word + " }", word + "{"} {
			if strings.HasPrefix(more, word+word) {
				// That is a name, which can't stand there.
				wantError(t, full+more, len(full), api.ErrSyntax)
				continue
			}
			wantError(t, full+more, len(full), api.ErrMany)
			wantError(t, full+" // x\n"+more, len(full)+6, api.ErrMany)
			wantModelText(t, full+more)
			for _, first := range []string{"", "key own z int;", "tree z { ok; }", "domain z { var z 0 1; goal z == 1; act z cost 1 { need z == 1; make z = 1; } }"} {
				if x.ahead != "" {
					wantError(t, first+full+more, len(first+full), api.ErrMany)
				}
			}
		}
		// Another error there is none of too many.
		for _, more := range []string{";", "x", "1", "ok;", "{", "seq"} {
			wantError(t, full+more, len(full), api.ErrSyntax)
		}
		if x.behind != "" {
			wantError(t, full, len(full), api.ErrSyntax)
		}
		// One less: the next one is read.
		less := x.ahead + strings.Repeat(x.one, x.most-1)
		wantError(t, less+word, len(less+word), api.ErrSyntax)
		wantError(t, less+word+" ;", len(less+word)+1, api.ErrSyntax)
	}
}

func TestP1102EachSortIsCountedOnItsOwn(t *testing.T) {
	all := limits()
	for i, x := range all {
		for j, y := range all {
			if x.ahead != y.ahead || strings.Fields(x.one)[0] == strings.Fields(y.one)[0] {
				continue
			}
			full := x.ahead + strings.Repeat(x.one, x.most) + strings.Repeat(y.one, y.most)
			if err := wantModelText(t, full+x.behind); err != api.OK {
				t.Fatalf("limits %d and %d: error %d", i, j, err)
			}
			wantError(t, full+x.one+x.behind, len(full), api.ErrMany)
			wantError(t, full+y.one+x.behind, len(full), api.ErrMany)
			// In turn.
			full = x.ahead
			for k := range max(x.most, y.most) {
				if k < x.most {
					full += x.one
				}
				if k < y.most {
					full += y.one
				}
			}
			if err := wantModelText(t, full+x.behind); err != api.OK {
				t.Fatalf("limits %d and %d in turn: error %d", i, j, err)
			}
			wantError(t, full+x.one, len(full), api.ErrMany)
			wantError(t, full+y.one, len(full), api.ErrMany)
		}
	}
	// Each domain and each act counts its own.
	act := "act a cost 1 {" + strings.Repeat("need v == 1; make v = 1; ", api.MaxVars) + "} "
	domain := "domain d {" + strings.Repeat("var v 0 1; goal v == 1; ", api.MaxVars) + strings.Repeat(act, api.MaxActs) + "} "
	text := strings.Repeat(domain, 4)
	if err := wantModelText(t, text); err != api.OK {
		t.Fatalf("%d bytes: error %d", len(text), err)
	}
	at := strings.LastIndex(text, "}")
	wantError(t, text[:at]+act+"}", at, api.ErrMany)
	wantError(t, text[:at]+"var v 0 1; }", at, api.ErrMany)
	wantError(t, text[:at]+"goal v == 1; }", at, api.ErrMany)
	at = strings.LastIndex(text[:at], "}")
	wantError(t, text[:at]+"need v == 1; } }", at, api.ErrMany)
	wantError(t, text[:at]+"make v == 1; } }", at, api.ErrMany)
	// The trees' nodes count for themselves.
	wantWrongAt(t, "tree t { seq {"+strings.Repeat("ok;", api.MaxKids)+"@ok; } }", api.ErrMany)
	wantWrongAt(t, "tree t { pick {"+strings.Repeat("1: ok;", api.MaxKids)+"@", api.ErrMany)
	wantWrongAt(t, "tree t { "+strings.Repeat("not ", api.MaxDeep)+"@}", api.ErrDeep)
	wantWrongAt(t, "tree t { "+strings.Repeat("seq {", api.MaxDeep)+"@", api.ErrDeep)
	wantWrongAt(t, "tree t { if "+strings.Repeat("(", api.MaxDeep)+"@a", api.ErrDeep)
}

func TestP1102TheFirstOfTwoErrorsCounts(t *testing.T) {
	keys := strings.Repeat("key own a int;", api.MaxKeys)
	many := "tree m { seq {" + strings.Repeat("ok;", api.MaxKids) + "ok; } }"
	deep := "tree n { " + strings.Repeat("not ", api.MaxDeep) + "ok; }"
	manyAt, deepAt := len(many)-len("ok; } }"), len(deep)-len("ok; }")
	wantError(t, many+deep, manyAt, api.ErrMany)
	wantError(t, deep+many, deepAt, api.ErrDeep)
	wantError(t, many+" ; "+keys+keys, manyAt, api.ErrMany)
	wantError(t, deep+" ; "+keys+keys, deepAt, api.ErrDeep)
	wantError(t, keys+many+"key", len(keys)+manyAt, api.ErrMany)
	wantError(t, keys+"key own a int; "+deep, len(keys), api.ErrMany)
	wantError(t, keys+"; key own a int;", len(keys), api.ErrSyntax)
	wantError(t, keys+"key ; ;", len(keys), api.ErrMany)
	wantError(t, "x; "+keys+keys, 0, api.ErrSyntax)
	wantError(t, "key own a x; key own y;", 10, api.ErrSyntax)
	wantError(t, "key own a int key own b", 14, api.ErrSyntax)
	wantError(t, "tree t { ok } tree u {", 12, api.ErrSyntax)
	wantError(t, "tree t { ok; ok; } tree { }", 13, api.ErrSyntax)
	wantError(t, "domain d { var v; goal w; act x; }", 16, api.ErrSyntax)
	wantError(t, "domain d { goal v = 1; var v; }", 18, api.ErrSyntax)
	wantError(t, "domain d { act a { need; } }", 17, api.ErrSyntax)
	wantError(t, "domain d { act a cost - 1 { need; } }", 22, api.ErrSyntax)
	wantError(t, "domain 1 2", 7, api.ErrSyntax)
	wantError(t, "key own 1 2", 8, api.ErrSyntax)
	wantError(t, "key key key", 4, api.ErrSyntax)
}

func TestP1102EveryShortText(t *testing.T) {
	for _, x := range []struct {
		ahead, words string
		n            int
	}{
		{"", "key own shared a int sym ;", 6},
		{"", "tree a { ok ; } key", 6},
		{"", "domain a { } key own tree", 5},
		{"domain d {", "var a 1 - ; } goal", 6},
		{"domain d {", "goal a == >= 1 - ; }", 5},
		{"domain d {", "act a cost 1 { } -", 6},
		{"domain d { act a cost 1 {", "need a <= - 1 ; }", 6},
		{"domain d { act a cost 1 {", "make a = + - 1 ; }", 6},
		{"domain d { act a cost 1 {", "need make } ; act goal var cost", 4},
		{"", "bool ref point shared key own b ;", 5},
		{"tree t { seq {", "ok ; } not { tree", 6},
	} {
		words := strings.Fields(x.words)
		var next func(text string, n int)
		next = func(text string, n int) {
			wantModelText(t, text)
			for _, word := range words {
				if n > 0 {
					next(text+" "+word, n-1)
				}
			}
		}
		next(x.ahead, x.n)
	}
}

func TestP1102RandomErrors(t *testing.T) {
	d := dice{2211}
	got := map[api.Errno]int{}
	for range 6000 {
		p := d.Program(6)
		list := samples.Texts(some(t, strings.Join(samples.Written(p, d.Mix), " ")))
		for range 1 + d.Roll(3) {
			i := d.Roll(len(list) + 1)
			switch d.Roll(6) {
			case 0:
				list = slices.Delete(list, min(i, len(list)), min(i+1, len(list)))
			case 1:
				list = slices.Insert(list, i, samples.Text(pick(&d, samples.Tokens()...)))
			case 2:
				list = slices.Insert(list, i, slices.Clone(list[d.Roll(i+1):i])...)
			case 3:
				one := strings.Fields(pick(&d, "ok ;", "key own a int ;", "tree a { ok ; }", "domain a { }", "var v 0 1 ;", "goal v == 1 ;", "act a cost 1 { }", "need v >= - 1 ;", "make v + 1 ;"))
				list = slices.Insert(list, i, slices.Repeat(one, d.Roll(120))...)
			case 4:
				list = list[:i]
			default:
				if i < len(list) {
					list[i] = samples.Text(pick(&d, samples.Tokens()...))
				}
			}
		}
		laid := d.Lay(list)
		got[wantModelText(t, laid)]++
	}
	if got[api.OK] < 100 || got[api.ErrSyntax] < 2000 || got[api.ErrMany] < 20 {
		t.Fatalf("the errors are %v", got)
	}
}

func TestP1102RandomBytes(t *testing.T) {
	d := dice{77}
	for range 5000 {
		b := []byte(long())
		for range 1 + d.Roll(4) {
			i := d.Roll(len(b))
			switch d.Roll(4) {
			case 0:
				b = slices.Delete(b, i, i+1+d.Roll(min(9, len(b)-i)))
			case 1:
				b = slices.Insert(b, i, pick(&d, []byte(" a1_;{}:=<>+-*/(),'\n\t#")...))
			case 2:
				b = slices.Insert(b, i, b[d.Roll(i+1):i]...)
			default:
				b[i] = byte(d.Roll(256))
			}
			if len(b) == 0 {
				break
			}
		}
		wantModelText(t, string(b))
	}
}
