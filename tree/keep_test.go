package tree_test

import (
	"slices"
	"strings"
	"sync"
	"testing"

	"puppeteer/api"
	"puppeteer/samples"
	"puppeteer/tree"
)

// claim adds a slice to what results take, in which it must not be already.
func claim[T any](t *testing.T, m samples.Memory, l []T) {
	t.Helper()
	wantFree(t, samples.Claim(m, l))
}

func wantFree(t *testing.T, free bool) {
	t.Helper()
	if !free {
		t.Fatal("two slices share memory")
	}
}

func claimProgram(t *testing.T, m samples.Memory, p api.Program) {
	t.Helper()
	claim(t, m, p.Keys)
	claim(t, m, p.Trees)
	claim(t, m, p.Domains)
	for _, one := range p.Trees {
		wantFree(t, m.Node(one.Root))
	}
	for _, d := range p.Domains {
		claim(t, m, d.Vars)
		claim(t, m, d.Acts)
		claim(t, m, d.Goal)
		for _, a := range d.Acts {
			claim(t, m, a.Need)
			claim(t, m, a.Make)
		}
	}
}

func TestP1103NoTwoSlicesOfResultsShareMemory(t *testing.T) {
	d := dice{1103}
	for range 200 {
		m := samples.Memory{}
		n := d.Node(1+d.Roll(12), d.Roll(60))
		l := some(t, strings.Join(samples.WrittenNode(n), " "))
		for range 3 {
			got, _, err := tree.Node(l, 0)
			if err != api.OK {
				t.Fatalf("Node of %s: error %d", samples.Show(l), err)
			}
			wantFree(t, m.Node(got))
		}
		text := program(d.Program(8))
		for range 3 {
			p, _, err := tree.Parse([]byte(text))
			if err != api.OK {
				t.Fatalf("Parse of %.500q: error %d", text, err)
			}
			claimProgram(t, m, p)
		}
	}
}

func TestP1103ResultsAreTheCallers(t *testing.T) {
	l := some(t, "seq { if a + 1 < 2; pick { a: set b := (1, 2); 3: repeat 4 ok; } }")
	first, _, _ := tree.Node(l, 0)
	second, _, _ := tree.Node(l, 0)
	was := strings.Join(samples.WrittenNode(second), " ")
	pick := &first.Kids[1]
	pick.Weights[0], pick.Kids[0].Expr.Kids[0] = number(9), number(9)
	pick.Kids[1].Kids[0], first.Kids[0].Expr.Kids[0] = node(api.NFail), number(9)
	_ = append(first.Kids[:1], node(api.NWait))
	if got := strings.Join(samples.WrittenNode(second), " "); got != was {
		t.Fatalf("%q has become %q", was, got)
	}
	third, _, _ := tree.Node(l, 0)
	if !samples.SameNode(third, second) {
		t.Fatalf("Node now returns %v", third)
	}
	p, _, _ := tree.Parse([]byte(long()))
	q, _, _ := tree.Parse([]byte(long()))
	text := program(q)
	p.Keys[0].Name, p.Trees[0].Root.Kids[0].Expr.Kids[0].N, p.Trees[1].Name = "z", 9, "z"
	p.Domains[0].Vars[0].Low, p.Domains[0].Goal[0].N, p.Domains[0].Acts[0].Need[0].N, p.Domains[0].Acts[0].Make[0].N = 9, 9, 9, 9
	if program(q) != text {
		t.Fatalf("%q has become %q", text, program(q))
	}
	wantProgram(t, long(), q)
}

func TestP1103TokensStayAsTheyAre(t *testing.T) {
	d := dice{1}
	for range 500 {
		l := append(some(t, strings.Join(samples.WrittenNode(d.Node(1+d.Roll(9), d.Roll(30))), " ")), pick(&d, samples.Tokens()...), pick(&d, samples.Tokens()...))
		was := slices.Clone(l)
		for range 10 {
			tree.Node(l[:d.Roll(len(l)+1)], d.Roll(len(l)+1)-1)
		}
		if !slices.Equal(l, was) {
			t.Fatalf("Node makes %s of %s", samples.Show(l), samples.Show(was))
		}
	}
}

func TestP1103TokensAreNotKept(t *testing.T) {
	d := dice{2}
	for range 500 {
		n := d.Node(1+d.Roll(9), d.Roll(30))
		l := some(t, strings.Join(samples.WrittenNode(n), " "))
		got, _, _ := tree.Node(l, 0)
		for i := range l {
			l[i] = api.Token{Kind: api.TWord, N: 7, At: 7, Text: "not"}
		}
		if !samples.SameNode(got, n) {
			t.Fatalf("%v has become %v", n, got)
		}
		want(t, l, 0, api.Node{}, min(len(l), api.MaxDeep), map[bool]api.Errno{true: api.ErrDeep, false: api.ErrSyntax}[len(l) >= api.MaxDeep])
	}
}

func TestP1103TheTextStaysAsItIs(t *testing.T) {
	d := dice{3}
	for range 300 {
		text := program(d.Program(6))
		b := []byte(text + "; key own spare int;")
		part := b[:len(text)]
		if d.Roll(2) == 0 {
			part = b[:d.Roll(len(text)+1)]
		}
		tree.Parse(part)
		if string(b) != text+"; key own spare int;" {
			t.Fatalf("Parse makes %.300q of %.300q", b, text)
		}
	}
}

func TestP1103TheTextIsNotKept(t *testing.T) {
	d := dice{4}
	for range 300 {
		p := d.Program(6)
		b := []byte(program(p))
		got, at, err := tree.Parse(b)
		for i := range b {
			b[i] = '#'
		}
		if at != len(b) || err != api.OK || !samples.SameProgram(got, p) {
			t.Fatalf("%v has become %v", p, got)
		}
		if len(b) > 0 {
			wantError(t, string(b), 0, api.ErrSyntax)
		}
	}
}

func TestP1103WhatLiesBehindTheTextDoesNotCount(t *testing.T) {
	text := long()
	for _, behind := range []string{" key own z int;", "}", ";", "#", strings.Repeat(" ", api.MaxText)} {
		p, at, err := tree.Parse([]byte(text + behind)[:len(text)])
		q, _, _ := tree.Parse([]byte(text))
		if at != len(text) || err != api.OK || !samples.SameProgram(p, q) || len(p.Keys) != 5 {
			t.Fatalf("%d, error %d: %v", at, err, p)
		}
	}
}

func TestP1103ResultsDependOnTheArgumentsOnly(t *testing.T) {
	d := dice{5}
	type call struct {
		text string
		at   int
		err  api.Errno
		p    api.Program
	}
	var calls []call
	for range 100 {
		text := program(d.Program(5))
		if d.Roll(2) == 0 {
			text = text[:d.Roll(len(text)+1)]
		}
		p, at, err := tree.Parse([]byte(text))
		calls = append(calls, call{text, at, err, p})
	}
	l := lexed(t, "seq {"+strings.Repeat("not do x; ", api.MaxKids)+"}")
	n := node(api.NSeq, slices.Repeat([]api.Node{node(api.NNot, named(api.NDo, "x"))}, api.MaxKids)...)
	var all sync.WaitGroup
	for i := range 8 {
		all.Go(func() {
			for j := range 4 * len(calls) {
				c := calls[(7*i+j)%len(calls)]
				p, at, err := tree.Parse([]byte(c.text))
				if at != c.at || err != c.err || !samples.SameProgram(p, c.p) {
					t.Errorf("Parse of %.300q: %d, error %d, then %d, error %d", c.text, c.at, c.err, at, err)
				}
				if got, to, err := tree.Node(l, 0); to != len(l)-1 || err != api.OK || !samples.SameNode(got, n) {
					t.Errorf("Node: %v, %d, error %d", got, to, err)
				}
				if _, to, err := tree.Node(l[:len(l)-2], 0); to != len(l)-2 || err != api.ErrMany {
					t.Errorf("Node: %d, error %d", to, err)
				}
			}
		})
	}
	all.Wait()
}
