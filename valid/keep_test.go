package valid_test

import (
	"slices"
	"sync"
	"testing"

	"puppeteer/api"
	"puppeteer/flat"
	"puppeteer/samples"
	"puppeteer/valid"
)

// lists makes lists of all sorts, some of which are right.
func lists(n int) [][]api.Flat {
	all := [][]api.Flat{nil, flat.Make(sized(300)), flat.Make(sized(4001)), flat.Make(chain(api.NNot, 50, of(api.NIf)))}
	d := samples.Dice(1602)
	for i := range n {
		one := rightNode(&d, 1+d.Roll(10), d.Roll(60))
		for range i % 3 {
			changeNode(&d, &one)
		}
		l := flat.Make(one)
		if i%5 == 0 {
			d.Misplace(l)
		}
		all = append(all, l)
	}
	return all
}

func TestP1602ListsStayAsTheyAre(t *testing.T) {
	got := map[bool]int{}
	for _, l := range lists(3000) {
		wide := samples.WideFlats(l)
		var watch samples.Watch
		watch.Flats(wide)
		right := valid.Right(wide)
		got[right]++
		if !watch.Stays() {
			t.Fatalf("Right changes %s", shown(l))
		}
		// What is in the spare capacity does not count.
		if right != modelRight(l) {
			t.Fatalf("Right of %s: %t", shown(l), right)
		}
	}
	if got[true] < 500 || got[false] < 500 {
		t.Fatalf("right or not: %v", got)
	}
}

func TestP1602WhatIsBehindAListDoesNotCount(t *testing.T) {
	l := flat.Make(of(api.NPick, of(api.NPar, oks(3)...), of(api.NSet)))
	all := append(slices.Clone(l), api.Flat{Kind: api.NUse, Parent: 0})
	want(t, all[:len(l)], true)
	want(t, all, false)
	all[len(l)-1].Expr.Kids = []api.Expr{{}, {Kind: -1}}[:0]
	all[0].Weights = append(slices.Clone(l[0].Weights), api.Expr{Kind: -1})[:2]
	want(t, all[:len(l)], true)
	all[0].Weights = all[0].Weights[:3]
	want(t, all[:len(l)], false)
}

func TestP1602NothingIsKept(t *testing.T) {
	all := lists(300)
	var rights []bool
	for _, l := range all {
		rights = append(rights, modelRight(l))
	}
	var memory []api.Flat
	for i := range 3 * len(all) {
		// The same memory becomes a list after the other.
		at := i * 7 % len(all)
		memory = append(memory[:0], all[at]...)
		want(t, memory, rights[at])
		want(t, memory, rights[at])
	}
	l := flat.Make(of(api.NSeq, of(api.NSet), of(api.NIf)))
	for range 3 {
		want(t, l, true)
		x := &l[1].Expr
		*x = api.Expr{Kind: api.EPoint, Kids: make([]api.Expr, 2)}
		want(t, l, true)
		x.Kids[1].Kind = -1
		want(t, l, false)
		x.Kids[1].Kind = api.ESelf
		want(t, l, true)
		l[2].Kind = api.NUse
		want(t, l, false)
		l[2].Kind = api.NIf
	}
}

func TestP1602AnswersDependOnTheArgumentsOnly(t *testing.T) {
	all := lists(300)
	var rights []bool
	for _, l := range all {
		rights = append(rights, modelRight(l))
	}
	var calls sync.WaitGroup
	for i := range 8 {
		calls.Go(func() {
			for j := range 3 * len(all) {
				at := (7*i + j) % len(all)
				if got := valid.Right(all[at]); got != rights[at] {
					t.Errorf("Right of %s: %t", shown(all[at]), got)
				}
			}
		})
	}
	calls.Wait()
}
