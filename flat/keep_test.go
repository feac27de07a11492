package flat_test

import (
	"slices"
	"sync"
	"testing"

	"puppeteer/api"
	"puppeteer/flat"
	"puppeteer/samples"
)

// nodes lists nodes with all that there may be in them, and others.
func nodes(n int) []api.Node {
	var all []api.Node
	d := samples.Dice(1504)
	for range n {
		all = append(all, d.Node(1+d.Roll(10), d.Roll(60)))
	}
	inner := samples.RichNode(api.NPick, samples.RichNode(api.NIf), samples.RichNode(api.NSet), samples.RichNode(api.NPar, samples.RichNode(-5), samples.RichNode(api.NOk)))
	return append(all, inner, samples.RichNode(api.NSeq, inner, samples.RichNode(api.NNot, inner), samples.RichNode(api.NUse)), samples.RichNode(99), api.Node{})
}

// wrong makes lists that are no node's out of one that is.
func wrong(l []api.Flat) [][]api.Flat {
	all := [][]api.Flat{l[:len(l)-1], l[1:], append(slices.Clone(l), l[0])}
	for _, by := range []int{-1, 1} {
		one := slices.Clone(l)
		one[len(l)/2].End += by
		other := slices.Clone(l)
		other[len(l)-1].Parent += by
		all = append(all, one, other)
	}
	return all
}

func TestP1502NodesStayAsTheyAre(t *testing.T) {
	for _, n := range nodes(300) {
		wide := samples.WideNode(n)
		var watch samples.Watch
		watch.Node(wide)
		want := modelMake(n)
		got := flat.Make(wide)
		if !watch.Stays() || !samples.SameFlats(got, want) {
			t.Fatalf("Make of %s changes it, or returns %s", shown(n), shown(got))
		}
		// A caller may do with the result what it likes.
		samples.SpoilFlats(got)
		if !watch.Stays() {
			t.Fatalf("the result of Make of %s is not the caller's", shown(n))
		}
		wantMake(t, wide, want)
		// What becomes of the node is not seen in the result.
		got = flat.Make(wide)
		samples.SpoilNode(&wide)
		if !samples.SameFlats(got, want) {
			t.Fatalf("the result of Make of %s has become %s", shown(n), shown(got))
		}
	}
}

func TestP1502ListsStayAsTheyAre(t *testing.T) {
	for _, n := range nodes(300) {
		right := modelMake(n)
		for _, l := range append(wrong(right), right) {
			wide := samples.WideFlats(l)
			var watch samples.Watch
			watch.Flats(wide)
			got, back := flat.Back(wide)
			kids := flat.Kids(wide, len(l)/2)
			if want, right := modelBack(l); !watch.Stays() || back != right || !samples.SameNode(got, want) {
				t.Fatalf("Back of %s changes it, or returns %s, %t", shown(l), shown(got), back)
			}
			samples.SpoilNode(&got)
			kids = kids[:cap(kids)]
			for i := range kids {
				kids[i] = -99
			}
			if !watch.Stays() {
				t.Fatalf("the results of Back and Kids of %s are not the caller's", shown(l))
			}
			got, _ = flat.Back(wide)
			samples.SpoilFlats(wide)
			if want, _ := modelBack(l); !samples.SameNode(got, want) {
				t.Fatalf("the result of Back of %s has become %s", shown(l), shown(got))
			}
		}
	}
}

func TestP1502NoTwoSlicesOfResultsShareMemory(t *testing.T) {
	for _, n := range nodes(60) {
		m := samples.Memory{}
		wide := samples.WideNode(n)
		list := samples.WideFlats(modelMake(n))
		if !m.Node(wide) || !m.Flats(list) {
			t.Fatal("the arguments share memory")
		}
		for range 3 {
			l := flat.Make(wide)
			back, _ := flat.Back(list)
			if !m.Flats(l) || !m.Node(back) {
				t.Fatalf("Make or Back of %s shares memory", shown(n))
			}
			for at := range l {
				if !samples.Claim(m, flat.Kids(l, at)) {
					t.Fatalf("Kids of %s at %d shares memory", shown(l), at)
				}
			}
			again, _ := flat.Back(l)
			if !m.Node(again) {
				t.Fatalf("Back of %s shares memory", shown(l))
			}
		}
	}
}

func TestP1502AnEmptySliceKeepsNoMemory(t *testing.T) {
	kids, weights, parts, deep := make([]api.Node, 3), make([]api.Expr, 3), make([]api.Expr, 3), make([]api.Expr, 3)
	inner := api.Node{Kind: api.NPick, Kids: kids[:0], Weights: weights[:0], Expr: api.Expr{Kids: parts[:0]}}
	outer := seq(inner, inner)
	outer.Expr, outer.Weights = api.Expr{Kids: []api.Expr{{Kids: deep[:0]}}}, []api.Expr{{Kids: deep[:0]}}
	grow := func(x api.Expr, weights []api.Expr) {
		_, _ = append(x.Kids, api.Expr{N: 9}), append(weights, api.Expr{N: 9})
	}
	l := flat.Make(outer)
	back, _ := flat.Back(modelMake(outer))
	for i := range 2 {
		grow(l[1+i].Expr, l[1+i].Weights)
		grow(l[0].Expr.Kids[0], l[0].Weights[0].Kids)
		grow(back.Kids[i].Expr, back.Kids[i].Weights)
		grow(back.Expr.Kids[0], back.Weights[0].Kids)
		_ = append(back.Kids[i].Kids, api.Node{Kind: 9})
	}
	for i := range 3 {
		if kids[i].Kind != 0 || weights[i].N != 0 || parts[i].N != 0 || deep[i].N != 0 {
			t.Fatal("the result has memory of the arguments")
		}
	}
}

func TestP1502NothingIsKept(t *testing.T) {
	all := nodes(100)
	var memory []api.Flat
	for i := range 3 * len(all) {
		// The same memory becomes a list after the other.
		n := all[i*7%len(all)]
		want := modelMake(n)
		memory = append(memory[:0], want...)
		wantBack(t, memory, n)
		wantMake(t, n, want)
		memory[len(memory)-1].End++
		wantNone(t, memory)
	}
	n := seq(ok(), nots(3, ok()))
	both(t, n)
	n.Kids[1] = ok()
	both(t, n)
	l := flat.Make(n)
	wantKids(t, l, 0, []int{1, 2})
	l[1].Parent = 5
	wantKids(t, l, 0, []int{2})
	wantKids(t, l, 5, []int{1})
}

func TestP1502AnswersDependOnTheArgumentsOnly(t *testing.T) {
	all := nodes(60)
	var calls sync.WaitGroup
	var lists [][]api.Flat
	for _, n := range all {
		lists = append(lists, modelMake(n))
	}
	for i := range 8 {
		calls.Go(func() {
			for j := range 3 * len(all) {
				at := (7*i + j) % len(all)
				l := flat.Make(all[at])
				n, back := flat.Back(lists[at])
				kids := flat.Kids(lists[at], 0)
				if !samples.SameFlats(l, lists[at]) || !back || !samples.SameNode(n, all[at]) || len(kids) != len(all[at].Kids) {
					t.Errorf("Make of %s: %s; Back: %s, %t; Kids: %v", shown(all[at]), shown(l), shown(n), back, kids)
				}
			}
		})
	}
	calls.Wait()
}
