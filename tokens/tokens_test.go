package tokens_test

import (
	"math"
	"testing"

	"puppeteer/api"
	"puppeteer/samples"
	"puppeteer/tokens"
)

func list() []api.Token {
	return []api.Token{{Kind: api.TWord, Text: "seq"}, {Kind: api.TSign, Text: "{"}, {Kind: api.TName, Text: "a"}, {Kind: api.TInt, N: -5}, {Kind: api.TEnd}}
}

func TestReadsOneTokenAfterTheOther(t *testing.T) {
	for _, l := range [][]api.Token{list(), samples.Other(list())} {
		r := tokens.New(l, 0)
		if r.Accept("{") || r.Is("sequence") || !r.Is("seq") || !r.Accept("seq") || r.At != 1 {
			t.Fatalf("the word is not read: %v", r)
		}
		r.Expect("{")
		if name, n := r.Name(), r.Number(); name != "a" || n != -5 || r.At != 4 || r.Err != api.OK || r.Next() != l[4] {
			t.Fatalf("%q, %d: %v", name, n, r)
		}
	}
}

func TestTheFirstErrorStays(t *testing.T) {
	for at, read := range map[int]func(r *tokens.Reader){
		0: func(r *tokens.Reader) { r.Expect("{") },
		1: func(r *tokens.Reader) { r.Name() },
		2: func(r *tokens.Reader) { r.Number() },
		3: func(r *tokens.Reader) { r.Name() },
		4: func(r *tokens.Reader) { r.Expect("") },
		5: func(r *tokens.Reader) { r.Number() },
	} {
		r := tokens.New(list(), at)
		read(&r)
		r.Fail(api.ErrMany)
		r.Expect("seq")
		r.Expect("{")
		if name, n := r.Name(), r.Number(); name != "" || n != 0 || r.At != at || r.Err != api.ErrSyntax || r.Next() != (api.Token{}) || r.Is("seq") {
			t.Errorf("from %d: %q, %d, %v", at, name, n, r)
		}
	}
	r := tokens.New(list(), 2)
	r.Fail(api.ErrDeep)
	r.Fail(api.ErrSyntax)
	if r.At != 2 || r.Err != api.ErrDeep || r.Name() != "" {
		t.Errorf("%v", r)
	}
}

func TestNoIndexIsBehindTheLastToken(t *testing.T) {
	for _, at := range []int{math.MinInt, -1, 5, 6, math.MaxInt} {
		if r := tokens.New(list(), at); r.At != 5 || r.Next() != (api.Token{}) || r.Accept("seq") {
			t.Errorf("%d: %v", at, r)
		}
	}
	for _, l := range [][]api.Token{nil, list()[:0]} {
		if r := tokens.New(l, 0); r.At != 0 || r.Next() != (api.Token{}) || r.Accept("seq") {
			t.Errorf("%v", r)
		}
	}
	var r tokens.Reader
	if r.Next() != (api.Token{}) || r.Is("") || r.Number() != 0 || r.Err != api.ErrSyntax {
		t.Errorf("%v", r)
	}
}
