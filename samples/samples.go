// Package samples makes what the tests of several packages begin with: numbers that
// look like chance, tokens of each sort and in print, and programs, their texts and
// whether they are the same. Only tests use it.
package samples

import (
	"math"
	"slices"
	"strconv"
	"strings"

	"puppeteer/api"
)

// Dice are numbers that look like chance and are always the same.
type Dice uint64

// Roll returns a number from 0 to n - 1.
func (d *Dice) Roll(n int) int {
	*d = *d*6364136223846793005 + 1442695040888963407
	return int(uint64(*d)>>33) % n
}

// Pick returns one of a list that is not empty.
func Pick[T any](d *Dice, list ...T) T { return list[d.Roll(len(list))] }

// OddNumbers lists numbers that are kinds of something, and such that are not.
func OddNumbers() []int {
	list := []int{math.MinInt, math.MinInt + 1, -1 << 40, -100, -2, -1, 1 << 40, math.MaxInt - 1, math.MaxInt}
	for n := range 30 {
		list = append(list, n)
	}
	return list
}

const (
	words = "key tree domain own shared int bool ref sym point seq sel mseq msel par not repeat if set do use pick plan ok fail wait var act cost need make goal true false self time and or re im turn far"
	signs = ":= <= >= == { } ( ) ; : = < + - * / , '"
)

// Tokens lists all words and signs, and some numbers and names.
func Tokens() []api.Token {
	var all []api.Token
	for word := range strings.FieldsSeq(words) {
		all = append(all, api.Token{Kind: api.TWord, Text: word})
	}
	for sign := range strings.FieldsSeq(signs) {
		all = append(all, api.Token{Kind: api.TSign, Text: sign})
	}
	for _, n := range []int{0, 5, math.MaxInt} {
		all = append(all, api.Token{Kind: api.TInt, N: n})
	}
	for _, name := range []string{"b", "times"} {
		all = append(all, api.Token{Kind: api.TName, Text: name})
	}
	return all
}

// Other returns tokens that mean the same to a parser as l: words and signs are of
// the other kind, and the fields that do not count are not zero.
func Other(l []api.Token) []api.Token {
	l = slices.Clone(l)
	for i := range l {
		token := &l[i]
		token.At = 5 - 3*i
		switch token.Kind {
		case api.TWord:
			token.Kind, token.N = api.TSign, i-3
		case api.TSign:
			token.Kind, token.N = api.TWord, i-3
		case api.TName:
			token.N = math.MinInt + i
		case api.TInt:
			token.Text = []string{")", "a", "not", "1", "}", ";", "seq", "-"}[i%8]
		case api.TEnd:
			token.Text, token.N = []string{"+", "(", "1", "and", ",", "}", "ok", ";", "{", "a", ":"}[i%11], i-3
		}
	}
	return l
}

// Text returns a token as it stands in a text.
func Text(token api.Token) string {
	if token.Kind == api.TInt {
		return strconv.Itoa(token.N)
	}
	return token.Text
}

// Texts returns tokens as they stand in a text.
func Texts(l []api.Token) []string {
	var list []string
	for _, token := range l {
		list = append(list, Text(token))
	}
	return list
}

// Show is a list of tokens in print, of which only the beginning counts if it is
// long.
func Show(l []api.Token) string {
	var b strings.Builder
	for _, token := range l[:min(len(l), 300)] {
		switch token.Kind {
		case api.TInt:
			b.WriteString(strconv.Itoa(token.N))
		case api.TName, api.TWord, api.TSign:
			b.WriteString(token.Text)
		default:
			b.WriteString("KIND " + strconv.Itoa(token.Kind) + " " + strconv.Quote(token.Text))
		}
		b.WriteByte(' ')
	}
	return b.String() + "(" + strconv.Itoa(len(l)) + " tokens)"
}

// EveryOrder calls do for each order of a list.
func EveryOrder(list []string, do func([]string)) {
	list = slices.Clone(list)
	var next func(n int)
	next = func(n int) {
		if n == len(list) {
			do(list)
			return
		}
		for i := n; i < len(list); i++ {
			list[n], list[i] = list[i], list[n]
			next(n + 1)
			list[n], list[i] = list[i], list[n]
		}
	}
	next(0)
}
