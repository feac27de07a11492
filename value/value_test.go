package value_test

import (
	"fmt"
	"math"
	"slices"
	"strings"
	"testing"
	"unicode/utf8"

	"puppeteer/api"
	"puppeteer/value"
)

const (
	least    = math.MinInt
	greatest = math.MaxInt
	m        = api.MaxPart

	letters = "abcdefghijklmnopqrstuvwxyzABCDEFGHIJKLMNOPQRSTUVWXYZ"
	digits  = "0123456789"
)

// at is the complex number x + yi. (A product with 1i would not keep a part
// -0 or an infinite one.)
func at(x, y float64) complex128 { return complex(x, y) }

func negativeZero() float64 { return math.Copysign(0, -1) }

// longest is a name that can have no character more.
func longest() string { return "aZ_09" + strings.Repeat("x", api.MaxName-5) }

// number is a complex number: whether it is a point without a part -0, and the
// text of a KPoint that has it.
type number struct {
	p     complex128
	plain bool
	text  string
}

func plainPoints() []number {
	var list []number
	for _, r := range []struct {
		p    complex128
		text string
	}{
		{at(0, 0), "(0,0)"}, {at(1, 0), "(1,0)"}, {at(0, 1), "(0,1)"}, {at(-1, 0), "(-1,0)"}, {at(0, -1), "(0,-1)"},
		{at(-3, 4), "(-3,4)"}, {at(3, -4), "(3,-4)"}, {at(-3, -4), "(-3,-4)"}, {at(12, 345678), "(12,345678)"},
		{at(1e6, 1e9), "(1000000,1000000000)"}, {at(123456789012, -1e12), "(123456789012,-1000000000000)"},
		{at(m, 0), "(1099511627776,0)"}, {at(0, -m), "(0,-1099511627776)"}, {at(m-1, 1-m), "(1099511627775,-1099511627775)"},
		{at(m, m), "(1099511627776,1099511627776)"}, {at(-m, -m), "(-1099511627776,-1099511627776)"}, {at(m, -m), "(1099511627776,-1099511627776)"},
	} {
		list = append(list, number{r.p, true, r.text})
	}
	return list
}

// strayParts lists what no part of a valid KPoint may be, each on either side
// of 0.
func strayParts() []float64 {
	var list []float64
	for _, f := range []float64{
		math.NaN(), math.Inf(1), 0.5, 1.5, 1e-9, math.SmallestNonzeroFloat64, math.Nextafter(1, 2), math.Nextafter(m, 0), m - 0.5,
		math.Nextafter(m, 2*m), m + 1, 2 * m, 1 << 53, 1 << 62, 1 << 63, 1 << 64, 1e300, math.MaxFloat64,
	} {
		list = append(list, f, -f)
	}
	return append(list, negativeZero())
}

func strayPoints() []number {
	var list []number
	for _, f := range strayParts() {
		for _, g := range []float64{0, 1, -7, m, f} {
			list = append(list, number{at(f, g), false, "?"}, number{at(g, f), false, "?"})
		}
	}
	return list
}

func numbers() []number { return append(plainPoints(), strayPoints()...) }

// fewNumbers lists numbers of each sort, for products with many other fields.
func fewNumbers() []number {
	list := plainPoints()[:6]
	for _, p := range []complex128{
		at(negativeZero(), 0), at(0, negativeZero()), at(negativeZero(), negativeZero()), at(negativeZero(), 1),
		at(0, 0.5), at(math.NaN(), 0), at(0, math.NaN()), at(math.Inf(-1), 0), at(0, m+1),
	} {
		list = append(list, number{p, false, "?"})
	}
	return list
}

func kindList() []int {
	list := []int{least, least + 4, -1 << 32, -100, 100, 256, 1<<32 + 1, greatest - 1, greatest}
	for kind := -3; kind <= 8; kind++ {
		list = append(list, kind)
	}
	return list
}

func intList() []int {
	return []int{least, least + 1, -1 << 32, -2, -1, 0, 1, 2, 3, 10, 1 << 32, greatest - 1, greatest}
}

func nameList() []string {
	return []string{
		"", "a", "Z", "tree", "a_9Z", "seq", "true", longest(),
		longest() + "x", "_", "_a", "9", "9a", "-", "a-b", " ", "a ", " a", "a\x00", "é", "aé", "a\xff", "'a", "?",
	}
}

// isName is a name told another way, by the alphabets in full.
func isName(s string) bool {
	if s == "" || utf8.RuneCountInString(s) > api.MaxName {
		return false
	}
	return strings.Contains(letters, s[:1]) && strings.TrimLeft(s, letters+digits+"_") == ""
}

func checkName(t *testing.T, s string, want bool) {
	t.Helper()
	if got := value.Name(s); got != want {
		t.Errorf("Name(%q) = %v, want %v", s, got, want)
	}
}

func TestP601NameOfFewTexts(t *testing.T) {
	for _, s := range []string{
		"a", "z", "A", "Z", "m", "a0", "a9", "a_", "a__", "aA", "Aa", "Z_9", "x1y2", "longer_Name_07", "seq", "true", "self", "KInt",
	} {
		checkName(t, s, true)
	}
	for _, s := range []string{
		"", "0", "9", "_", "__", "0a", "9a", "_a", "_9", "12", " ", " a", "a ", "a b", "a-b", "-a", "a.b", "'a", "a\n", "\ta", "a\x00", "\x00",
		"a\x80", "\xff", "a\xff", "\xc3", "a\xc3", "é", "aé", "éa", "aéa", "ß", "🙂",
		// Letters, digits and a tie of other scripts that look like those of a name.
		"\u00b5", "\u212a", "\uff41", "\u0430", "a\u0430", "\u0663", "a\u0663", "a\uff11", "a\u203f", "A\u030a", "\ufeffa", "\ufffd",
	} {
		checkName(t, s, false)
	}
}

func TestP601NameOfEachLength(t *testing.T) {
	for n := range 3 * api.MaxName {
		for _, rest := range []string{"a", "z", "Q", "0", "9", "_"} {
			checkName(t, "b"+strings.Repeat(rest, n), n+1 <= api.MaxName)
		}
	}
	for _, n := range []int{api.MaxName + 1, 256, 256 + api.MaxName, 1 << 16, 1<<16 + 1} {
		checkName(t, strings.Repeat("a", n), false)
	}
	checkName(t, longest(), true)
	checkName(t, longest()+"x", false)
}

func TestP601NameOfEachByteAtEachPlace(t *testing.T) {
	for n := 1; n <= api.MaxName+1; n++ {
		for place := range n {
			for c := range 256 {
				text := []byte(strings.Repeat("k", n))
				text[place] = byte(c)
				allowed := letters
				if place > 0 {
					allowed += digits + "_"
				}
				checkName(t, string(text), n <= api.MaxName && strings.IndexByte(allowed, byte(c)) >= 0)
			}
			if t.Failed() {
				return
			}
		}
	}
}

func TestP601NameOfEachCharacterBeyondASCII(t *testing.T) {
	for r := rune(utf8.RuneSelf); r <= utf8.MaxRune; r++ {
		// A surrogate becomes U+FFFD here, which is no letter either.
		c := string(r)
		if value.Name(c) || value.Name("a"+c) || value.Name(c+"a") || value.Name("a"+c+"a") {
			t.Fatalf("a text with %U is a name", r)
		}
	}
	checkName(t, "a"+strings.Repeat("é", api.MaxName-1), false)
	checkName(t, "a"+strings.Repeat("é", 3), false)
}

// combinations visits the kinds of kindList with every combination of fields,
// and with the text that each of these values must have.
func combinations(visit func(v api.Value, want string)) {
	for _, kind := range kindList() {
		for _, n := range intList() {
			for _, k := range intList() {
				for _, name := range nameList() {
					for _, c := range fewNumbers() {
						v := api.Value{Kind: kind, N: n, M: k, Name: name, P: c.p}
						visit(v, textOf(v, c))
					}
				}
			}
		}
	}
}

// textOf is what Text must return for v, whose P is c.
func textOf(v api.Value, c number) string {
	noN, noM, noName, noP := v.N == 0, v.M == 0, v.Name == "", real(c.p) == 0 && imag(c.p) == 0
	switch {
	case v.Kind == api.KInt && noM && noName && noP:
		return fmt.Sprintf("%d", v.N)
	case v.Kind == api.KBool && noN && noM && noName && noP:
		return "false"
	case v.Kind == api.KBool && v.N == 1 && noM && noName && noP:
		return "true"
	case v.Kind == api.KRef && v.N >= 0 && v.M >= 0 && noName && noP:
		return fmt.Sprintf("#%d.%d", v.N, v.M)
	case v.Kind == api.KSym && noN && noM && noP && (noName || isName(v.Name)):
		return fmt.Sprintf("'%s", v.Name)
	case v.Kind == api.KPoint && noN && noM && noName && c.plain:
		return c.text
	}
	return "?"
}

func TestP601RightAndTextOfAllCombinations(t *testing.T) {
	faults := 0
	combinations(func(v api.Value, want string) {
		right, text := value.Right(v), value.Text(v)
		if right != (want != "?") || text != want {
			faults++
			if faults < 20 {
				t.Errorf("%#v: Right %v, Text %q; want %q", v, right, text, want)
			}
		}
	})
}

// row is a value with its text, which is "?" if it is not valid.
type row struct {
	v    api.Value
	text string
}

func checkRows(t *testing.T, rows []row) {
	t.Helper()
	for _, r := range rows {
		if got := value.Right(r.v); got != (r.text != "?") {
			t.Errorf("Right(%#v) = %v", r.v, got)
		}
		if got := value.Text(r.v); got != r.text {
			t.Errorf("Text(%#v) = %q, want %q", r.v, got, r.text)
		}
	}
}

func TestP601TextOfTheZeroValue(t *testing.T) {
	checkRows(t, []row{{api.Value{}, "0"}})
}

func TestP601RightAndTextOfInts(t *testing.T) {
	checkRows(t, []row{
		{api.Value{N: 1}, "1"}, {api.Value{N: -1}, "-1"}, {api.Value{N: 10}, "10"}, {api.Value{N: 1000000}, "1000000"}, {api.Value{N: -1234567890}, "-1234567890"},
		{api.Value{N: greatest}, "9223372036854775807"}, {api.Value{N: least}, "-9223372036854775808"},
		{api.Value{N: 3, M: 1}, "?"}, {api.Value{N: 3, M: -1}, "?"}, {api.Value{M: least}, "?"}, {api.Value{Name: "a"}, "?"}, {api.Value{N: 3, Name: " "}, "?"},
		{api.Value{P: 1}, "?"}, {api.Value{P: 1i}, "?"}, {api.Value{P: 0.5}, "?"},
	})
}

func TestP601RightAndTextOfBools(t *testing.T) {
	kind := api.KBool
	checkRows(t, []row{
		{api.Value{Kind: kind}, "false"}, {api.Value{Kind: kind, N: 1}, "true"},
		{api.Value{Kind: kind, N: -1}, "?"}, {api.Value{Kind: kind, N: 2}, "?"}, {api.Value{Kind: kind, N: 3}, "?"}, {api.Value{Kind: kind, N: greatest}, "?"}, {api.Value{Kind: kind, N: least}, "?"}, {api.Value{Kind: kind, N: 1 << 32}, "?"}, {api.Value{Kind: kind, N: 1<<32 + 1}, "?"},
		{api.Value{Kind: kind, M: 1}, "?"}, {api.Value{Kind: kind, N: 1, M: -1}, "?"}, {api.Value{Kind: kind, N: 1, Name: "true"}, "?"}, {api.Value{Kind: kind, P: 1}, "?"}, {api.Value{Kind: kind, N: 1, P: 1i}, "?"},
	})
}

func TestP601RightAndTextOfRefs(t *testing.T) {
	kind := api.KRef
	checkRows(t, []row{
		{api.Value{Kind: kind}, "#0.0"}, {api.Value{Kind: kind, N: 1}, "#1.0"}, {api.Value{Kind: kind, M: 1}, "#0.1"}, {api.Value{Kind: kind, N: 3, M: 14}, "#3.14"}, {api.Value{Kind: kind, N: 99999, M: 100}, "#99999.100"}, {api.Value{Kind: kind, N: greatest, M: greatest}, "#9223372036854775807.9223372036854775807"},
		{api.Value{Kind: kind, N: -1}, "?"}, {api.Value{Kind: kind, M: -1}, "?"}, {api.Value{Kind: kind, N: -1, M: -1}, "?"}, {api.Value{Kind: kind, N: 5, M: -1}, "?"}, {api.Value{Kind: kind, N: -1, M: 5}, "?"}, {api.Value{Kind: kind, N: least}, "?"}, {api.Value{Kind: kind, M: least}, "?"},
		{api.Value{Kind: kind, N: 1, M: 1, Name: "a"}, "?"}, {api.Value{Kind: kind, N: 1, M: 1, P: 1}, "?"}, {api.Value{Kind: kind, P: 1i}, "?"},
	})
}

func TestP601RightAndTextOfSyms(t *testing.T) {
	kind := api.KSym
	checkRows(t, []row{
		{api.Value{Kind: kind}, "'"}, {api.Value{Kind: kind, Name: "a"}, "'a"}, {api.Value{Kind: kind, Name: "tree"}, "'tree"}, {api.Value{Kind: kind, Name: "a_9Z"}, "'a_9Z"}, {api.Value{Kind: kind, Name: longest()}, "'" + longest()},
		{api.Value{Kind: kind, Name: longest() + "x"}, "?"}, {api.Value{Kind: kind, Name: "9"}, "?"}, {api.Value{Kind: kind, Name: "_"}, "?"}, {api.Value{Kind: kind, Name: "9a"}, "?"}, {api.Value{Kind: kind, Name: " "}, "?"}, {api.Value{Kind: kind, Name: "'a"}, "?"}, {api.Value{Kind: kind, Name: "é"}, "?"}, {api.Value{Kind: kind, Name: "a\xff"}, "?"},
		{api.Value{Kind: kind, N: 1}, "?"}, {api.Value{Kind: kind, Name: "a", N: -1}, "?"}, {api.Value{Kind: kind, Name: "a", M: 1}, "?"}, {api.Value{Kind: kind, M: -1}, "?"}, {api.Value{Kind: kind, Name: "a", P: 1}, "?"}, {api.Value{Kind: kind, P: 1i}, "?"},
	})
}

func TestP601RightAndTextOfPoints(t *testing.T) {
	kind := api.KPoint
	for _, c := range numbers() {
		checkRows(t, []row{
			{api.Value{Kind: kind, P: c.p}, c.text},
			{api.Value{Kind: kind, P: c.p, N: 1}, "?"}, {api.Value{Kind: kind, P: c.p, N: -1}, "?"}, {api.Value{Kind: kind, P: c.p, M: 1}, "?"}, {api.Value{Kind: kind, P: c.p, M: -1}, "?"}, {api.Value{Kind: kind, P: c.p, Name: "a"}, "?"}, {api.Value{Kind: kind, P: c.p, Name: " "}, "?"},
		})
	}
}

func TestP601PartsMinusZeroCountAsZeroForOtherKinds(t *testing.T) {
	low := negativeZero()
	for _, p := range []complex128{at(low, low), at(low, 0), at(0, low)} {
		checkRows(t, []row{
			{api.Value{N: -5, P: p}, "-5"}, {api.Value{Kind: api.KBool, N: 1, P: p}, "true"}, {api.Value{Kind: api.KBool, P: p}, "false"}, {api.Value{Kind: api.KRef, N: 1, M: 2, P: p}, "#1.2"}, {api.Value{Kind: api.KSym, Name: "a", P: p}, "'a"}, {api.Value{Kind: api.KSym, P: p}, "'"},
			{api.Value{Kind: api.KPoint, P: p}, "?"}, {api.Value{Kind: 5, P: p}, "?"},
		})
	}
	checkRows(t, []row{
		{api.Value{Kind: api.KPoint, P: at(low, 4)}, "?"}, {api.Value{Kind: api.KPoint, P: at(4, low)}, "?"}, {api.Value{Kind: api.KPoint, P: at(-m, low)}, "?"}, {api.Value{Kind: api.KPoint, P: at(low, -m)}, "?"},
		{api.Value{P: at(low, 4)}, "?"}, {api.Value{P: at(4, low)}, "?"}, {api.Value{P: at(low, math.NaN())}, "?"},
	})
}

func TestP601NoOtherKindIsValid(t *testing.T) {
	for _, kind := range kindList() {
		if kind >= 0 && kind <= 4 {
			continue
		}
		checkRows(t, []row{
			{api.Value{Kind: kind}, "?"}, {api.Value{Kind: kind, N: 1}, "?"}, {api.Value{Kind: kind, N: 1, M: 1}, "?"}, {api.Value{Kind: kind, Name: "a"}, "?"}, {api.Value{Kind: kind, P: 1 + 1i}, "?"},
		})
	}
}

// sameFields is Same told another way, field by field and part by part.
func sameFields(a, b api.Value) bool {
	return a.Kind == b.Kind && a.N == b.N && a.M == b.M && a.Name == b.Name && real(a.P) == real(b.P) && imag(a.P) == imag(b.P)
}

// alike lists values that are close to each other: each field has values that
// differ a little, whether they are valid or not.
func alike() []api.Value {
	var list []api.Value
	for _, kind := range []int{-1, api.KInt, api.KSym, api.KPoint, 5, greatest} {
		for _, n := range []int{-1, 0, 1, least} {
			for _, k := range []int{0, 1, greatest} {
				for _, name := range []string{"", "a", "A", "ab", "a\x00", " "} {
					for _, p := range []complex128{0, 1, 1i, 0.5} {
						list = append(list, api.Value{Kind: kind, N: n, M: k, Name: name, P: p})
					}
				}
			}
		}
	}
	return list
}

func TestP601SameOfAllPairs(t *testing.T) {
	list := alike()
	for i, a := range list {
		for k, b := range list {
			b.Name = strings.Clone(b.Name)
			if got := value.Same(a, b); got != (i == k) {
				t.Fatalf("Same(%#v, %#v) = %v", a, b, got)
			}
		}
	}
}

func TestP601SameOfAllNumbers(t *testing.T) {
	for _, kind := range kindList() {
		for _, c := range numbers() {
			for _, d := range numbers() {
				a, b := api.Value{Kind: kind, P: c.p}, api.Value{Kind: kind, P: d.p}
				if got := value.Same(a, b); got != sameFields(a, b) {
					t.Fatalf("Same(%#v, %#v) = %v", a, b, got)
				}
			}
		}
	}
}

func TestP601SameWithOneOtherField(t *testing.T) {
	whole := api.Value{Kind: api.KPoint, N: 1, M: 2, Name: "n", P: 3 + 4i}
	for _, start := range []api.Value{whole, {}, {Kind: api.KRef, N: 7, M: 8}, {Kind: 9, N: -1, Name: " "}} {
		for _, change := range []func(v *api.Value){
			func(v *api.Value) { v.Kind++ }, func(v *api.Value) { v.Kind-- },
			func(v *api.Value) { v.N++ }, func(v *api.Value) { v.N += 1 << 32 }, func(v *api.Value) { v.N ^= least },
			func(v *api.Value) { v.M-- }, func(v *api.Value) { v.M += 1 << 32 }, func(v *api.Value) { v.M ^= least },
			func(v *api.Value) { v.Name += "x" }, func(v *api.Value) { v.Name = "other" }, func(v *api.Value) { v.Name += "\x00" },
			func(v *api.Value) { v.P++ }, func(v *api.Value) { v.P -= 1i }, func(v *api.Value) { v.P += 0.5i },
			func(v *api.Value) { v.P = at(math.Nextafter(real(v.P), 9), imag(v.P)) }, func(v *api.Value) { v.P = at(real(v.P), math.NaN()) }, func(v *api.Value) { v.P = at(math.NaN(), imag(v.P)) }, func(v *api.Value) { v.P = at(math.Inf(1), imag(v.P)) },
		} {
			other := start
			change(&other)
			if !value.Same(start, start) {
				t.Errorf("%#v is not the same as itself", start)
			}
			if value.Same(start, other) || value.Same(other, start) {
				t.Errorf("Same of %#v and %#v", start, other)
			}
		}
	}
}

func TestP601SameOfPartsZeroAndMinusZero(t *testing.T) {
	low := negativeZero()
	for kind := range 6 {
		for _, x := range []float64{0, low} {
			for _, y := range []float64{0, low} {
				a, b := api.Value{Kind: kind, P: at(x, y)}, api.Value{Kind: kind}
				if !value.Same(a, b) || !value.Same(b, a) || !value.Same(a, a) {
					t.Errorf("%#v is not the same as %#v", a, b)
				}
			}
			a, b := api.Value{Kind: kind, P: at(x, 3)}, api.Value{Kind: kind, P: at(0, 3)}
			c, d := api.Value{Kind: kind, P: at(3, x)}, api.Value{Kind: kind, P: at(3, 0)}
			if !value.Same(a, b) || !value.Same(d, c) || value.Same(a, c) {
				t.Errorf("Same of %#v and %#v, or of %#v and %#v", a, b, c, d)
			}
		}
	}
}

func TestP601SameOfNaNParts(t *testing.T) {
	nan := math.NaN()
	for kind := range 6 {
		for _, p := range []complex128{at(nan, 0), at(0, nan), at(nan, nan), at(nan, 7), at(math.Inf(1), nan)} {
			a := api.Value{Kind: kind, P: p}
			b := a
			if value.Same(a, a) || value.Same(a, b) || value.Same(a, api.Value{Kind: kind}) || value.Same(api.Value{Kind: kind}, a) {
				t.Errorf("%#v is the same as something", a)
			}
		}
		infinite := api.Value{Kind: kind, P: at(math.Inf(1), math.Inf(-1))}
		if !value.Same(infinite, infinite) {
			t.Errorf("%#v is not the same as itself", infinite)
		}
	}
}

func TestP601Zero(t *testing.T) {
	kinds := append(kindList(), 1<<31, -1<<31, 1<<16+2, 1<<32, 1<<32+4)
	for kind := -1000; kind <= 1000; kind++ {
		kinds = append(kinds, kind)
	}
	for _, kind := range kinds {
		want := api.KInt
		switch kind {
		case api.KBool, api.KRef, api.KSym, api.KPoint:
			want = kind
		}
		v := value.Zero(kind)
		if v != (api.Value{Kind: want}) || math.Signbit(real(v.P)) || math.Signbit(imag(v.P)) {
			t.Errorf("Zero(%d) = %#v, want the Kind %d and zeros", kind, v, want)
		}
		if !value.Right(v) {
			t.Errorf("Zero(%d) = %#v is not valid", kind, v)
		}
	}
}

func TestP601TextOfZeros(t *testing.T) {
	for kind, want := range []string{"0", "false", "#0.0", "'", "(0,0)", "0"} {
		if got := value.Text(value.Zero(kind)); got != want {
			t.Errorf("Text of Zero(%d) = %q, want %q", kind, got, want)
		}
	}
}

func mixedValues() []api.Value {
	list := []api.Value{
		{}, {N: greatest}, {N: least}, {M: 1}, {Name: "a"}, {P: 1},
		{Kind: api.KBool}, {Kind: api.KBool, N: 1}, {Kind: api.KBool, N: 2}, {Kind: api.KRef, N: 3, M: 4}, {Kind: api.KRef, N: -3},
		{Kind: api.KSym}, {Kind: api.KSym, Name: "name"}, {Kind: api.KSym, Name: "9"}, {Kind: 5}, {Kind: -1, N: 4},
	}
	for _, p := range []complex128{0, 3 - 4i, at(-m, m), at(negativeZero(), 0), 0.5, at(math.NaN(), 0), at(0, math.Inf(1))} {
		list = append(list, api.Value{Kind: api.KPoint, P: p})
	}
	return list
}

// answers tells the results of all functions for all pairs of the values.
func answers(list []api.Value) []string {
	var results []string
	for _, a := range list {
		results = append(results, fmt.Sprint(value.Name(a.Name), value.Right(a), value.Zero(a.Kind)), value.Text(a))
		for _, b := range list {
			results = append(results, fmt.Sprint(value.Same(a, b)))
		}
	}
	return results
}

func TestP602ResultsDependOnlyOnTheArguments(t *testing.T) {
	list := mixedValues()
	first := answers(list)
	// Other calls in between must leave no trace.
	slices.Reverse(list)
	answers(list)
	slices.Reverse(list)
	if second := answers(list); !slices.Equal(first, second) {
		t.Errorf("the same calls gave %v, then %v", first, second)
	}
	if want := mixedValues(); fmt.Sprint(list) != fmt.Sprint(want) {
		t.Errorf("the arguments became %v, want %v", list, want)
	}
}

func TestP602ResultsDoNotDependOnWhereATextLies(t *testing.T) {
	for _, s := range nameList() {
		within := "x" + s + "y"
		for _, copied := range []string{strings.Clone(s), within[1 : 1+len(s)]} {
			a, b := api.Value{Kind: api.KSym, Name: s}, api.Value{Kind: api.KSym, Name: copied}
			if value.Name(s) != value.Name(copied) || value.Right(a) != value.Right(b) || value.Text(a) != value.Text(b) || !value.Same(a, b) {
				t.Errorf("%q and its copy are told apart", s)
			}
		}
	}
}

func TestP602ResultsDoNotDependOnOtherGoroutines(t *testing.T) {
	want := answers(mixedValues())
	const workers = 8
	results := make(chan []string, workers)
	for range workers {
		go func() { results <- answers(mixedValues()) }()
	}
	for range workers {
		if got := <-results; !slices.Equal(got, want) {
			t.Errorf("a goroutine got %v, want %v", got, want)
		}
	}
}
