package printer_test

import (
	"math"
	"slices"
	"strings"
	"testing"

	"puppeteer/api"
	"puppeteer/printer"
	"puppeteer/samples"
)

// ends calls Node and Print for a node that nothing returns, alone and in others: it
// is specified only that this ends.
func ends(n api.Node) {
	for _, deep := range []int{math.MinInt, 0, 100, math.MaxInt} {
		printer.Node(n, deep)
	}
	printer.Print(api.Program{Trees: []api.Tree{{Root: n}, {Name: "t", Root: n}}})
	printer.Node(node(api.NSeq, node(api.NOk), n), 3)
}

func TestP1201NodesOfOddFormsEnd(t *testing.T) {
	ok, x := node(api.NOk), api.Expr{Kind: api.EName, Name: "a"}
	expressions := []api.Expr{{}, x, {Kind: -1}, {Kind: 20}, {Kind: api.EAdd}, {Kind: api.ENot, Kids: []api.Expr{x, x}}, {Kind: api.EFar, Kids: []api.Expr{x}}, {N: math.MinInt}, {Kind: api.ESym, Name: "seq"}}
	for _, kind := range samples.OddNumbers() {
		for _, number := range []int{math.MinInt, -5, -1, 0, 1, math.MaxInt} {
			for kids := range 4 {
				for weights := range 4 {
					n := node(kind, slices.Repeat([]api.Node{ok}, kids)...)
					n.A, n.B, n.Name, n.Weights = number, -number, "a", slices.Repeat([]api.Expr{x}, weights)
					ends(n)
				}
			}
		}
		for _, name := range []string{"", "seq", "a b", ";", "\n", "{", "}", "é\x00", strings.Repeat("n", 1<<16)} {
			for _, x := range expressions {
				ends(api.Node{Kind: kind, Name: name, Expr: x, Kids: []api.Node{ok}, Weights: []api.Expr{x}})
			}
		}
		for _, other := range samples.OddNumbers() {
			ends(node(kind, node(other), node(kind, node(other, ok))))
		}
	}
	ends(node(api.NSeq, slices.Repeat([]api.Node{ok}, 100_000)...))
	ends(node(api.NNot, slices.Repeat([]api.Node{ok}, 100_000)...))
	ends(api.Node{Kind: api.NPick, Weights: slices.Repeat([]api.Expr{x}, 100_000)})
}

func TestP1201NodesThatAreNestedTooDeepEnd(t *testing.T) {
	for kind := -1; kind <= api.NWait+1; kind++ {
		n := node(api.NOk)
		for range 100_000 {
			n = api.Node{Kind: kind, Kids: []api.Node{n}, Weights: []api.Expr{{}}}
		}
		ends(n)
		n = node(api.NOk)
		for range 2 * api.MaxDeep {
			n = api.Node{Kind: kind, Kids: slices.Repeat([]api.Node{n}, 16), Weights: make([]api.Expr, 16)}
		}
		ends(n)
	}
	// What is not written may be any number of nodes.
	n := node(api.NOk)
	for range api.MaxDeep - 3 {
		n = api.Node{Kind: api.NOk, Kids: slices.Repeat([]api.Node{n}, 16)}
	}
	ends(n)
}

func TestP1201NodesThatAreInThemselvesEnd(t *testing.T) {
	for kind := -1; kind <= api.NWait+1; kind++ {
		for _, width := range []int{1, 2, 3, api.MaxKids, 1000} {
			for _, from := range []int{0, width / 2, width - 1} {
				kids := slices.Repeat([]api.Node{node(api.NOk)}, width)
				for i := from; i < width; i++ {
					kids[i] = api.Node{Kind: kind, Kids: kids, Weights: make([]api.Expr, width)}
				}
				ends(api.Node{Kind: kind, Kids: kids, Weights: make([]api.Expr, width)})
				ends(kids[from])
			}
		}
		// Two that are in each other.
		one, two := make([]api.Node, 2), make([]api.Node, 2)
		one[1], two[0], two[1] = node(kind, two...), node(api.NNot, one...), node(api.NPick, two...)
		ends(node(kind, one...))
	}
	// Expressions that are in themselves.
	for kind := -1; kind <= api.EFar+1; kind++ {
		for width := 1; width <= 3; width++ {
			kids := make([]api.Expr, width)
			for i := range kids {
				kids[i] = api.Expr{Kind: kind, Kids: kids}
			}
			ends(api.Node{Kind: api.NIf, Expr: kids[0]})
			ends(api.Node{Kind: api.NSet, Name: "a", Expr: kids[0]})
			ends(api.Node{Kind: api.NPick, Kids: []api.Node{node(api.NOk)}, Weights: kids})
		}
	}
}

func TestP1201ProgramsOfOddFormsEnd(t *testing.T) {
	for _, number := range samples.OddNumbers() {
		for _, name := range []string{"", "a", "key", ";\n", "é\x00", samples.LongestName() + "n"} {
			cond := []api.Cond{{Name: name, Op: number, N: number}, {Name: name, Op: number}}
			printer.Print(api.Program{
				Keys:  []api.Key{{Name: name, Kind: number}, {Name: name, Kind: number, Shared: true}},
				Trees: []api.Tree{{Name: name, Root: api.Node{Kind: number, Name: name}}, {}},
				Domains: []api.Domain{{}, {Name: name, Vars: []api.Var{{Name: name, Low: number, High: -number}}, Goal: cond,
					Acts: []api.Act{{}, {Name: name, Cost: number, Need: cond, Make: []api.Make{{Name: name, N: number}, {Name: name, Add: true, N: number}}}}}},
			})
		}
	}
	if printer.Print(api.Program{Domains: []api.Domain{{Acts: []api.Act{{Make: []api.Make{{Add: true, N: math.MinInt}}}}}}}) == "" {
		t.Fatal("a domain has no text")
	}
	many := api.Program{Keys: make([]api.Key, 10_000), Trees: make([]api.Tree, 10_000), Domains: make([]api.Domain, 10_000)}
	many.Domains[0] = api.Domain{Vars: make([]api.Var, 10_000), Acts: make([]api.Act, 10_000), Goal: make([]api.Cond, 10_000)}
	many.Domains[0].Acts[0] = api.Act{Need: make([]api.Cond, 10_000), Make: make([]api.Make, 10_000)}
	printer.Print(many)
}
