package clamp_test

import (
	"math"
	"math/big"
	"slices"
	"testing"

	"puppeteer/clamp"
)

const (
	least    = math.MinInt
	greatest = math.MaxInt
)

// operation is a function of the package under its name, with the same
// function on numbers of any size.
type operation struct {
	name  string
	run   func(a, b int) int
	exact func(a, b *big.Int) *big.Int
}

func operations() []operation {
	return []operation{
		{"Add", clamp.Add, func(a, b *big.Int) *big.Int { return new(big.Int).Add(a, b) }},
		{"Sub", clamp.Sub, func(a, b *big.Int) *big.Int { return new(big.Int).Sub(a, b) }},
		{"Mul", clamp.Mul, func(a, b *big.Int) *big.Int { return new(big.Int).Mul(a, b) }},
		{"Div", clamp.Div, exactQuotient},
	}
}

func exactQuotient(a, b *big.Int) *big.Int {
	if b.Sign() == 0 {
		return new(big.Int)
	}
	// Quo truncates towards 0; big.Int's Div would not.
	return new(big.Int).Quo(a, b)
}

// limited cuts n to the range -2^63 to 2^63 - 1.
func limited(n *big.Int) int {
	if n.IsInt64() {
		return int(n.Int64())
	}
	if n.Sign() < 0 {
		return least
	}
	return greatest
}

// arguments lists numbers of every sign, near 0, near each power of 2, near
// the root of the greatest int, and at both ends of the range.
func arguments() []int {
	list := []int{0, least, least + 1, greatest, 1_000_003, -1_000_003, 3_037_000_499, 3_037_000_500, -3_037_000_499, -3_037_000_500}
	for n := 1; n <= 12; n++ {
		list = append(list, n, -n)
	}
	for shift := 4; shift < 63; shift++ {
		power := 1 << shift
		list = append(list, power-1, power, power+1, -power-1, -power, -power+1)
	}
	for n := 1; n <= 3; n++ {
		list = append(list, greatest/2+n, greatest/2-n, least/2+n, least/2-n, greatest/3+n, least/3-n, greatest-n, least+n)
	}
	slices.Sort(list)
	return slices.Compact(list)
}

func TestP101ResultsAreLimitedToTheRange(t *testing.T) {
	list := arguments()
	for _, op := range operations() {
		for _, a := range list {
			for _, b := range list {
				want := limited(op.exact(big.NewInt(int64(a)), big.NewInt(int64(b))))
				if got := op.run(a, b); got != want {
					t.Errorf("%s(%d, %d) = %d, want %d", op.name, a, b, got, want)
				}
			}
		}
	}
}

// row is a call with two arguments and what it must return.
type row struct{ a, b, want int }

func checkRows(t *testing.T, name string, run func(a, b int) int, rows []row) {
	t.Helper()
	for _, r := range rows {
		if got := run(r.a, r.b); got != r.want {
			t.Errorf("%s(%d, %d) = %d, want %d", name, r.a, r.b, got, r.want)
		}
	}
}

func TestP101Add(t *testing.T) {
	checkRows(t, "Add", clamp.Add, []row{
		{2, 3, 5}, {-2, 3, 1}, {2, -3, -1}, {-2, -3, -5}, {0, 0, 0},
		{greatest, 1, greatest}, {1, greatest, greatest}, {greatest, 0, greatest}, {greatest, -1, greatest - 1},
		{least, -1, least}, {-1, least, least}, {least, 0, least}, {least, 1, least + 1},
		{greatest, greatest, greatest}, {least, least, least}, {greatest, least, -1}, {least, greatest, -1},
		{greatest - 1, 1, greatest}, {least + 1, -1, least},
	})
}

func TestP101Sub(t *testing.T) {
	checkRows(t, "Sub", clamp.Sub, []row{
		{2, 3, -1}, {-2, 3, -5}, {2, -3, 5}, {-2, -3, 1}, {0, 0, 0},
		{greatest, -1, greatest}, {greatest, 1, greatest - 1}, {least, 1, least}, {least, -1, least + 1},
		{0, least, greatest}, {-1, least, greatest}, {-2, least, greatest - 1}, {0, greatest, -greatest},
		{-1, greatest, least}, {-2, greatest, least},
		{least, least, 0}, {greatest, greatest, 0}, {greatest, least, greatest}, {least, greatest, least},
	})
}

func TestP101Mul(t *testing.T) {
	checkRows(t, "Mul", clamp.Mul, []row{
		{2, 3, 6}, {-2, 3, -6}, {2, -3, -6}, {-2, -3, 6}, {0, 0, 0},
		{0, greatest, 0}, {greatest, 0, 0}, {0, least, 0}, {least, 0, 0},
		{greatest, 1, greatest}, {greatest, -1, -greatest}, {least, 1, least}, {1, least, least},
		{least, -1, greatest}, {-1, least, greatest},
		{greatest, 2, greatest}, {greatest, -2, least}, {least, 2, least}, {least, -2, greatest},
		{greatest, greatest, greatest}, {least, least, greatest}, {greatest, least, least}, {least, greatest, least},
		{1 << 31, 1 << 32, greatest}, {-1 << 31, 1 << 32, least}, {1 << 31, 1<<32 - 1, 1<<63 - 1<<31},
		{1 << 32, 1 << 32, greatest}, {1 << 32, -1 << 32, least}, {-1 << 32, -1 << 32, greatest},
	})
}

func TestP101Div(t *testing.T) {
	checkRows(t, "Div", clamp.Div, []row{
		{7, 2, 3}, {-7, 2, -3}, {7, -2, -3}, {-7, -2, 3}, {1, 2, 0}, {-1, 2, 0}, {6, 3, 2}, {-6, 3, -2},
		{0, 5, 0}, {0, -5, 0},
		{0, 0, 0}, {1, 0, 0}, {-1, 0, 0}, {greatest, 0, 0}, {least, 0, 0},
		{least, -1, greatest}, {least, 1, least}, {least + 1, -1, greatest}, {greatest, -1, -greatest}, {greatest, 1, greatest},
		{least, least, 1}, {greatest, greatest, 1}, {least, greatest, -1}, {greatest, least, 0},
		{least, 2, -1 << 62}, {least, -2, 1 << 62},
	})
}

func TestP101Within(t *testing.T) {
	for _, r := range []struct{ n, low, high, want int }{
		{5, 0, 9, 5}, {0, 0, 9, 0}, {9, 0, 9, 9}, {-1, 0, 9, 0}, {10, 0, 9, 9},
		{-5, -9, -1, -5}, {-10, -9, -1, -9}, {0, -9, -1, -1}, {-3, -3, 3, -3}, {3, -3, 3, 3},
		{4, 3, 3, 3}, {2, 3, 3, 3}, {3, 3, 3, 3},
		{2, 7, 3, 7}, {3, 7, 3, 7}, {5, 7, 3, 7}, {7, 7, 3, 7}, {9, 7, 3, 7}, {0, 1, -1, 1}, {-9, -1, -2, -1},
		{least, least, greatest, least}, {greatest, least, greatest, greatest}, {0, least, greatest, 0},
		{0, greatest, least, greatest}, {least, greatest, least, greatest}, {greatest, greatest, least, greatest},
		{greatest, -3, -2, -2}, {least, 2, 3, 2}, {0, least, least, least}, {0, greatest, greatest, greatest},
	} {
		if got := clamp.Within(r.n, r.low, r.high); got != r.want {
			t.Errorf("Within(%d, %d, %d) = %d, want %d", r.n, r.low, r.high, got, r.want)
		}
	}
}

func TestP101WithinForAllOrdersOfItsArguments(t *testing.T) {
	list := []int{least, least + 1, -8, -1, 0, 1, 8, greatest - 1, greatest}
	for _, n := range list {
		for _, low := range list {
			for _, high := range list {
				if got, want := clamp.Within(n, low, high), limitedBetween(n, low, high); got != want {
					t.Errorf("Within(%d, %d, %d) = %d, want %d", n, low, high, got, want)
				}
			}
		}
	}
}

func limitedBetween(n, low, high int) int {
	switch {
	case high < low, n < low:
		return low
	case n > high:
		return high
	}
	return n
}

// answers lists the results of all functions for all pairs of the arguments.
func answers(list []int) []int {
	var results []int
	for _, a := range list {
		for _, b := range list {
			for _, op := range operations() {
				results = append(results, op.run(a, b))
			}
			results = append(results, clamp.Within(a, b, 100), clamp.Within(a, -100, b))
		}
	}
	return results
}

func TestP102ResultsDependOnlyOnTheArguments(t *testing.T) {
	list := []int{least, -1 << 40, -7, -1, 0, 1, 7, 1 << 40, greatest}
	given := slices.Clone(list)
	first := answers(list)
	// Other calls in between must leave no trace.
	slices.Reverse(list)
	answers(list)
	slices.Reverse(list)
	if second := answers(list); !slices.Equal(first, second) {
		t.Errorf("the same calls gave %v, then %v", first, second)
	}
	if !slices.Equal(list, given) {
		t.Errorf("the arguments became %v, want %v", list, given)
	}
}

func TestP102ResultsDoNotDependOnOtherGoroutines(t *testing.T) {
	list := []int{least, -7, -1, 0, 1, 7, greatest}
	want := answers(list)
	const workers = 8
	results := make(chan []int, workers)
	for range workers {
		go func() { results <- answers(list) }()
	}
	for range workers {
		if got := <-results; !slices.Equal(got, want) {
			t.Errorf("a goroutine got %v, want %v", got, want)
		}
	}
}
