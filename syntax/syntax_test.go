package syntax_test

import (
	"math"
	"slices"
	"strings"
	"testing"

	"puppeteer/api"
	"puppeteer/syntax"
)

func TestWordsStandAtTheirNumbers(t *testing.T) {
	for want, list := range map[string][]string{
		"seq sel mseq msel par not repeat if set do use pick plan ok fail wait": syntax.Nodes(),
		"own shared":             syntax.Owners(),
		"int bool ref sym point": syntax.Values(),
		">= <= ==":               syntax.Comparisons(),
	} {
		if !slices.Equal(list, strings.Fields(want)) {
			t.Fatalf("%q; want %q", list, want)
		}
	}
}

func TestListsAreTheCallers(t *testing.T) {
	for _, list := range []func() []string{syntax.Nodes, syntax.Owners, syntax.Values, syntax.Comparisons} {
		was := strings.Join(list(), " ")
		clear(list())
		if got := strings.Join(list(), " "); got != was {
			t.Fatalf("%q has become %q", was, got)
		}
	}
}

func TestMostKids(t *testing.T) {
	most := []int{16, 16, 16, 16, 16, 1, 1, 0, 0, 0, 0, 16, 0, 0, 0, 0}
	for kind, n := range most {
		if got := syntax.MostKids(kind); got != n {
			t.Fatalf("MostKids of %d: %d; want %d", kind, got, n)
		}
	}
	for _, kind := range []int{math.MinInt, -1, len(most), math.MaxInt} {
		if got := syntax.MostKids(kind); got != 0 {
			t.Fatalf("MostKids of %d: %d; want 0", kind, got)
		}
	}
	if api.MaxKids != 16 {
		t.Fatal("the numbers are those of other limits")
	}
}

func TestMayHave(t *testing.T) {
	least := []int{1, 1, 1, 1, 1, 1, 1, 0, 0, 0, 0, 1, 0, 0, 0, 0}
	numbers := []int{math.MinInt, -2, -1, 0, 1, 2, 3, 15, 16, 17, 18, 1 << 32, math.MaxInt - 1, math.MaxInt}
	for _, kind := range append(numbers, 4, 5, 6, 7, 8, 9, 10, 11, 12, 13, 14) {
		for _, kids := range numbers {
			for _, weights := range numbers {
				want := kind >= 0 && kind < len(least) && kids >= least[kind] && kids <= syntax.MostKids(kind)
				if kind == api.NPick {
					want = want && weights == kids
				} else {
					want = want && weights == 0
				}
				if got := syntax.MayHave(kind, kids, weights); got != want {
					t.Fatalf("MayHave of %d, %d, %d: %t; want %t", kind, kids, weights, got, want)
				}
			}
		}
	}
	if syntax.MostTimes != 1000 {
		t.Fatal("a node may be repeated another number of times")
	}
}
