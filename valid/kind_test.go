package valid_test

import (
	"math"
	"slices"
	"strings"
	"testing"

	"puppeteer/api"
	"puppeteer/flat"
	"puppeteer/samples"
)

func TestP1601EachKind(t *testing.T) {
	for _, kind := range append(samples.OddNumbers(), math.MinInt32, math.MaxInt32, 1<<32, 1<<32+13) {
		least, most := kidsOf(kind)
		exists := slices.Contains([]int{0, 1, 2, 3, 4, 5, 6, 7, 8, 9, 11, 12, 13, 14, 15}, kind)
		for kids := range 20 {
			wantNode(t, of(kind, oks(kids)...), exists && least <= kids && kids <= most)
		}
		n := of(api.NSeq, of(kind, oks(least)...))
		wantNode(t, n, exists)
		// A name makes no right node of a use.
		n.Kids[0].Name = "a"
		wantNode(t, n, kind == api.NSet || kind == api.NDo || kind == api.NPlan)
	}
}

func TestP1601NoKindHasMoreKidsThanMaxKids(t *testing.T) {
	if api.MaxKids != 16 || api.MaxDeep != 40 || api.MaxNodes != 4000 {
		t.Fatal("the numbers of these tests are those of other limits")
	}
	for _, kind := range kinds() {
		least, most := kidsOf(kind)
		for _, kids := range []int{15, 16, 17, 32, 100, 255, 256, 257, 3999, 4000} {
			want(t, flat.Make(of(kind, oks(kids)...)), least <= kids && kids <= most)
		}
	}
}

// numbersFor lists numbers for an A or B of a node that has so many kids.
func numbersFor(kids int) []int {
	return []int{0, 1, -1, 2, kids - 1, kids, kids + 1, -kids, 16, 17, 999, 1000, 1001, 1 << 32, 1<<32 + 1, -1 << 32, math.MinInt, math.MinInt + 1, math.MaxInt - 1, math.MaxInt}
}

func TestP1601AAndBOfEachKind(t *testing.T) {
	for _, kind := range samples.OddNumbers() {
		for _, kids := range []int{0, 1, 2, 3, 15, 16, 17} {
			n := of(kind, oks(kids)...)
			for _, n.A = range numbersFor(kids) {
				for _, n.B = range numbersFor(kids) {
					right := n.A == 0 && n.B == 0
					switch kind {
					case api.NPar:
						right = n.A >= 1 && n.A <= kids && n.B >= 1 && n.B <= kids
					case api.NRepeat:
						right = n.A >= 1 && n.A <= 1000 && n.B == 0
					}
					least, most := kidsOf(kind)
					right = right && kind >= 0 && kind <= 15 && kind != api.NUse && least <= kids && kids <= most
					want(t, flat.Make(n), right)
				}
			}
		}
	}
}

func TestP1601EachAAndBThatIsRight(t *testing.T) {
	for times := -5; times <= 1100; times++ {
		n := of(api.NRepeat, oks(1)...)
		n.A = times
		wantNode(t, n, 1 <= times && times <= 1000)
	}
	for kids := 1; kids <= 16; kids++ {
		n := of(api.NPar, oks(kids)...)
		for n.A = -2; n.A <= 20; n.A++ {
			for n.B = -2; n.B <= 20; n.B++ {
				wantNode(t, n, 1 <= n.A && n.A <= kids && 1 <= n.B && n.B <= kids)
			}
		}
	}
}

// rightNames and wrongNames list texts that are names of the language, and others.
func rightNames() []string {
	return []string{"a", "Z", "z9_", "a_", "Seq", "SEQ", "seqs", "okay", "self_", "domains", "n0", samples.LongestName()}
}

func wrongNames() []string {
	list := []string{"_", "_a", "9", "9a", "a b", " a", "a ", "a;", "a-b", "'a", "a\x00", "\x00", "é", "aé", "\xff", "a\n", "//", samples.LongestName() + "n", strings.Repeat("n", 1<<16)}
	for _, token := range samples.Tokens() {
		if token.Kind == api.TWord || token.Kind == api.TSign {
			list = append(list, token.Text)
		}
	}
	return list
}

func TestP1601NamesOfEachKind(t *testing.T) {
	for _, kind := range kinds() {
		least, _ := kidsOf(kind)
		named := kind == api.NSet || kind == api.NDo || kind == api.NPlan
		n := of(kind, oks(least)...)
		n.Name = ""
		wantNode(t, n, !named)
		for _, n.Name = range rightNames() {
			wantNode(t, n, named)
		}
		for _, n.Name = range wrongNames() {
			wantNode(t, n, false)
		}
	}
	for _, name := range append(rightNames(), wrongNames()...) {
		wantNode(t, api.Node{Kind: api.NUse, Name: name}, false)
	}
}

// turns is an expression of the depth deep.
func turns(deep int) api.Expr {
	x := api.Expr{Kind: api.EName, Name: "p"}
	for range deep - 1 {
		x = api.Expr{Kind: api.ETurn, Kids: []api.Expr{x}}
	}
	return x
}

// rightExprs lists expressions that are valid and not zero, wrongExprs such as are not
// valid.
func rightExprs() []api.Expr {
	leaf, two := api.Expr{Kind: api.EBool}, []api.Expr{{}, {Kind: api.ESelf}}
	list := []api.Expr{{N: 1}, {N: -1}, {N: math.MaxInt}, {N: math.MinInt + 1}, leaf, {Kind: api.EBool, N: 1}, {Kind: api.ESelf}, {Kind: api.ETime}, turns(2), turns(39), turns(40)}
	for _, name := range rightNames() {
		list = append(list, api.Expr{Kind: api.EName, Name: name}, api.Expr{Kind: api.ESym, Name: name})
	}
	for _, kind := range []int{api.EAdd, api.ESub, api.EMul, api.EDiv, api.ESame, api.ELess, api.EAnd, api.EOr, api.EPoint, api.EFar} {
		list = append(list, api.Expr{Kind: kind, Kids: two}, api.Expr{Kind: kind, Kids: []api.Expr{turns(39), {Kind: kind, Kids: two}}})
	}
	for _, kind := range []int{api.ENot, api.ERe, api.EIm, api.ETurn} {
		list = append(list, api.Expr{Kind: kind, Kids: two[1:]}, api.Expr{Kind: kind, Kids: []api.Expr{turns(39)}})
	}
	return list
}

func wrongExprs() []api.Expr {
	leaf := api.Expr{}
	list := []api.Expr{{N: math.MinInt}, {Name: "a"}, {Kids: []api.Expr{leaf}}, {Kids: make([]api.Expr, 100)}, {N: 1, Name: "a"}, {Kind: api.EBool, N: 2}, {Kind: api.EBool, N: -1}, {Kind: api.ESelf, N: 1}, {Kind: api.ESelf, Name: "a"}, {Kind: api.ETime, Kids: []api.Expr{leaf}}, {Kind: api.EName}, {Kind: api.ESym}, {Kind: api.EName, Name: "a", N: 1}, turns(41), turns(42), turns(1000)}
	for _, name := range wrongNames() {
		list = append(list, api.Expr{Kind: api.EName, Name: name}, api.Expr{Kind: api.ESym, Name: name})
	}
	for kind := api.EAdd; kind <= api.EFar; kind++ {
		list = append(list, api.Expr{Kind: kind}, api.Expr{Kind: kind, Kids: make([]api.Expr, 3)}, api.Expr{Kind: kind, Kids: []api.Expr{leaf, {Kind: -1}}}, api.Expr{Kind: kind, Kids: []api.Expr{turns(40)}}, api.Expr{Kind: kind, Kids: []api.Expr{leaf, turns(40)}})
	}
	for _, kind := range samples.OddNumbers() {
		if kind < 0 || kind > api.EFar {
			list = append(list, api.Expr{Kind: kind}, api.Expr{Kind: kind, Kids: make([]api.Expr, 2)})
		}
	}
	return list
}

func TestP1601ExpressionsOfEachKind(t *testing.T) {
	for _, kind := range kinds() {
		least, _ := kidsOf(kind)
		asked := kind == api.NIf || kind == api.NSet
		n := of(kind, oks(least)...)
		for _, n.Expr = range []api.Expr{{}, {Kids: []api.Expr{}}, {Kids: make([]api.Expr, 0, 5)}} {
			wantNode(t, n, true)
		}
		for _, n.Expr = range rightExprs() {
			wantNode(t, n, asked)
		}
		for _, n.Expr = range wrongExprs() {
			wantNode(t, n, false)
		}
	}
}

func TestP1601AnExpressionWithASingleField(t *testing.T) {
	for _, kind := range append(kinds(), api.NUse, -1, 16) {
		least, _ := kidsOf(kind)
		n := of(kind, oks(least)...)
		for _, number := range samples.OddNumbers() {
			n.Expr = api.Expr{Kind: number}
			wantNode(t, n, number == 0 && kind != api.NUse && kind >= 0 && kind < 16 || (kind == api.NIf || kind == api.NSet) && (number == api.EBool || number == api.ESelf || number == api.ETime))
			n.Expr = api.Expr{N: number}
			wantNode(t, n, number == 0 && kind != api.NUse && kind >= 0 && kind < 16 || (kind == api.NIf || kind == api.NSet) && number > math.MinInt)
		}
		for _, n.Expr = range []api.Expr{{Name: "a"}, {Name: "seq"}, {Name: "\x00"}, {Kids: make([]api.Expr, 1)}, {Kids: make([]api.Expr, 2)}} {
			wantNode(t, n, false)
		}
	}
}

func TestP1601WeightsOfEachKind(t *testing.T) {
	for _, kind := range kinds() {
		least, most := kidsOf(kind)
		for kids := least; kids <= most; kids++ {
			n := of(kind, oks(kids)...)
			for weights := range 20 {
				n.Weights = slices.Repeat([]api.Expr{{N: 7}}, weights)
				wantNode(t, n, kind == api.NPick && weights == kids || kind != api.NPick && weights == 0)
			}
			n.Weights = []api.Expr{}
			wantNode(t, n, kind != api.NPick)
		}
	}
}

func TestP1601EachWeightIsToBeValid(t *testing.T) {
	rights, wrongs := rightExprs(), wrongExprs()
	for kids := 1; kids <= 16; kids++ {
		n := of(api.NPick, oks(kids)...)
		for at := range kids {
			for i := range max(len(rights), len(wrongs)) {
				n.Weights[at] = rights[(i+at)%len(rights)]
				if i%7 == at%7 {
					wantNode(t, n, true)
				}
				n.Weights[at] = wrongs[i%len(wrongs)]
				if i%7 == at%7 || kids < 4 {
					wantNode(t, n, false)
				}
			}
			n.Weights[at] = api.Expr{}
			wantNode(t, n, true)
			for _, wrong := range []int{0, kids - 1, at / 2} {
				was := n.Weights[wrong]
				n.Weights[wrong] = turns(41)
				wantNode(t, n, false)
				n.Weights[wrong] = was
			}
		}
	}
}

func TestP1601AllThatANodeMayHave(t *testing.T) {
	names := []string{"", "a", "seq", "9"}
	exprs := []api.Expr{{}, {N: 1}, {Kind: api.ESelf}, {Kind: api.EName}, turns(41)}
	weights := [][]api.Expr{nil, {{}}, {{N: 1}, {Kind: api.ESelf}}, {{}, {Name: "a"}}}
	got := map[bool]int{}
	for kind := -1; kind <= 17; kind++ {
		for kids := range 4 {
			for number := range 9 {
				for i := range len(names) * len(exprs) * len(weights) {
					n := api.Node{Kind: kind, A: number%3 - kids%2, B: number/3 - kids%2, Kids: oks(kids)}
					n.Name, n.Expr, n.Weights = names[i%4], exprs[i/4%5], weights[i/20]
					got[wantBoth(t, flat.Make(n))]++
				}
			}
		}
	}
	if got[true] < 30 || got[false] < 50_000 {
		t.Fatalf("right or not: %v", got)
	}
}
