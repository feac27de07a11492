package inline_test

import (
	"slices"
	"sync"
	"testing"

	"puppeteer/api"
	"puppeteer/inline"
	"puppeteer/samples"
)

// lists lists trees, of which t0 or t may be asked for: some are wrong.
func lists(n int) [][]api.Tree {
	var all [][]api.Tree
	d := samples.Dice(1402)
	for range n {
		all = append(all, randomTrees(&d))
	}
	inner := samples.RichNode(api.NPick, samples.RichNode(api.NIf), samples.RichNode(api.NSet), use("v"), samples.RichNode(api.NPar, use("v"), samples.RichNode(api.NOk)))
	right := []api.Tree{named("t", samples.RichNode(api.NSeq, use("u"), samples.RichNode(api.NNot, use("u")), use("v"), samples.RichNode(api.NUse))), named("u", inner), named("v", samples.RichNode(api.NSel, samples.RichNode(-5))), named("t", use("none"))}
	right[0].Root.Kids[3].Name = "v"
	for _, last := range []api.Node{use("none"), use("t"), nots(50, ok()), wide(4000, ok())} {
		wrong := slices.Clone(right)
		wrong[1].Root.Kids = append(slices.Clone(inner.Kids), last)
		all = append(all, wrong)
	}
	return append(all, right)
}

// nameIn is the name that a list of lists is asked for.
func nameIn(l []api.Tree) string {
	if slices.ContainsFunc(l, func(t api.Tree) bool { return t.Name == "t" }) {
		return "t"
	}
	return "t0"
}

func TestP1402TreesStayAsTheyAre(t *testing.T) {
	got := map[api.Errno]int{}
	for _, l := range lists(300) {
		name := nameIn(l)
		all := samples.WideTrees(l)
		var watch samples.Watch
		watch.Trees(all)
		root, err := inline.Tree(all, name)
		got[err]++
		inline.Count(all[0].Root)
		inline.Depth(all[0].Root)
		if !watch.Stays() {
			t.Fatalf("Tree of %q in %s changes it", name, shown(l))
		}
		// What is in the spare capacity does not count.
		same(t, l, name, root, err)
		want(t, all, name, err)
		// A caller may do with the result what it likes.
		samples.SpoilNode(&root)
		if !watch.Stays() {
			t.Fatalf("the result of Tree of %q in %s is not the caller's", name, shown(l))
		}
	}
	if got[api.OK] < 50 || len(got) < 5 {
		t.Fatalf("the errors are %v", got)
	}
}

func TestP1402NoTwoSlicesOfResultsShareMemory(t *testing.T) {
	times := 0
	for _, l := range lists(100) {
		name, m := nameIn(l), samples.Memory{}
		all := samples.WideTrees(l)
		if !samples.Claim(m, all) {
			t.Fatal("the trees share memory")
		}
		for _, one := range all {
			if !m.Node(one.Root) {
				t.Fatal("the trees share memory")
			}
		}
		for range 3 {
			root, err := inline.Tree(all, name)
			if !m.Node(root) {
				t.Fatalf("Tree of %q in %s shares memory", name, shown(l))
			}
			if err == api.OK {
				times++
			}
		}
	}
	if times < 50 {
		t.Fatalf("there are %d results", times)
	}
}

func TestP1402AnEmptySliceKeepsNoMemory(t *testing.T) {
	kids, weights, parts, deep := make([]api.Node, 3), make([]api.Expr, 3), make([]api.Expr, 3), make([]api.Expr, 3)
	inner := api.Node{Kind: api.NPick, Kids: kids[:0], Weights: weights[:0], Expr: api.Expr{Kind: api.ENot, Kids: parts[:0]}}
	outer := seq(inner, use("u"))
	outer.Expr = api.Expr{Kids: []api.Expr{{Kids: deep[:0]}}}
	outer.Weights = []api.Expr{{Kids: deep[:0]}}
	l := []api.Tree{named("t", outer), named("u", inner)}
	for range 2 {
		got, err := inline.Tree(l, "t")
		if err != api.OK {
			t.Fatalf("Tree returns error %d", err)
		}
		samples.SpoilNode(&got)
		for _, kid := range got.Kids[:2] {
			_, _ = append(kid.Kids, fail()), append(kid.Weights, api.Expr{N: 9})
			_ = append(kid.Expr.Kids, api.Expr{N: 9})
		}
		_ = append(got.Expr.Kids[0].Kids, api.Expr{N: 9})
		_ = append(got.Weights[0].Kids, api.Expr{N: 9})
	}
	for i := range 3 {
		if kids[i].Kind != 0 || weights[i].N != 0 || parts[i].N != 0 || deep[i].N != 0 {
			t.Fatal("the result has memory of the trees")
		}
	}
}

func TestP1402ResultsAreTheCallers(t *testing.T) {
	for _, l := range lists(60) {
		name := nameIn(l)
		root, err := modelTree(l, name)
		first, _ := inline.Tree(l, name)
		second, _ := inline.Tree(l, name)
		samples.SpoilNode(&first)
		if !samples.SameNode(second, root) {
			t.Fatalf("the result of Tree of %q in %s has become %s", name, shown(l), shown(second))
		}
		same(t, l, name, root, err)
		// Nor do the trees that it comes from belong to it.
		all := samples.WideTrees(l)
		third, _ := inline.Tree(all, name)
		for i := range all {
			all[i].Name = "spoiled"
			samples.SpoilNode(&all[i].Root)
		}
		if !samples.SameNode(third, root) {
			t.Fatalf("the result of Tree of %q in %s has become %s", name, shown(l), shown(third))
		}
		same(t, all, name, api.Node{}, api.ErrName)
	}
}

func TestP1402NothingIsKept(t *testing.T) {
	all := lists(60)
	var memory []api.Tree
	for i := range 3 * len(all) {
		// The same memory becomes a list after the other.
		l := samples.WideTrees(all[i*7%len(all)])
		memory = append(memory[:0], l...)
		root, err := modelTree(l, nameIn(l))
		same(t, memory, nameIn(l), root, err)
		if len(l) > 1 {
			memory[0], memory[len(l)-1] = memory[len(l)-1], memory[0]
			root, err = modelTree(memory, "t1")
			same(t, memory, "t1", root, err)
		}
	}
	n := seq(ok(), nots(3, ok()))
	wantSize(t, n, 6, 5)
	n.Kids[1] = fail()
	wantSize(t, n, 3, 2)
}

func TestP1402AnswersDependOnTheArgumentsOnly(t *testing.T) {
	type answer struct {
		root  api.Node
		err   api.Errno
		sizes [2]int
	}
	all := lists(40)
	var answers []answer
	for _, l := range all {
		root, err := inline.Tree(samples.WideTrees(l), nameIn(l))
		answers = append(answers, answer{root, err, [2]int{inline.Count(l[0].Root), inline.Depth(l[0].Root)}})
	}
	var calls sync.WaitGroup
	for i := range 8 {
		calls.Go(func() {
			for j := range 2 * len(all) {
				at := (7*i + j) % len(all)
				l, want := all[at], answers[at]
				root, err := inline.Tree(l, nameIn(l))
				sizes := [2]int{inline.Count(l[0].Root), inline.Depth(l[0].Root)}
				if err != want.err || sizes != want.sizes || !samples.SameNode(root, want.root) {
					t.Errorf("Tree of %q in %s: %s, error %d, then %s, error %d", nameIn(l), shown(l), shown(want.root), want.err, shown(root), err)
				}
			}
		})
	}
	calls.Wait()
}
