package point_test

import (
	"math"
	"math/big"
	"slices"
	"testing"

	"puppeteer/api"
	"puppeteer/point"
)

const (
	m        = api.MaxPart
	least    = math.MinInt
	greatest = math.MaxInt
)

func negativeZero() float64 { return math.Copysign(0, -1) }

// same tells whether p and q have the same parts, with -0 apart from 0.
func same(p, q complex128) bool {
	return math.Float64bits(real(p)) == math.Float64bits(real(q)) &&
		math.Float64bits(imag(p)) == math.Float64bits(imag(q))
}

// at is the point (x, y), made without the package.
func at(x, y int) complex128 { return complex(float64(x), float64(y)) }

// cut limits n to the range of a part.
func cut(n int) int {
	switch {
	case n < -m:
		return -m
	case n > m:
		return m
	}
	return n
}

// partList lists parts of points of both signs, near 0, of middle size, and
// near both ends of the range.
func partList() []int {
	return []int{-m, -m + 1, -m / 2, -12345, -7, -2, -1, 0, 1, 2, 7, 12345, m / 2, m - 1, m}
}

// place is a point as a pair of ints.
type place struct{ x, y int }

func (a place) point() complex128 { return at(a.x, a.y) }

func placeList() []place {
	var list []place
	for _, x := range partList() {
		for _, y := range partList() {
			list = append(list, place{x, y})
		}
	}
	return list
}

// strayParts lists numbers that are no part of a point.
func strayParts() []float64 {
	return []float64{
		math.NaN(), math.Inf(1), math.Inf(-1),
		0.5, -0.5, 0.25, 1.5, -1.5, math.Nextafter(1, 2), math.Nextafter(1, 0),
		math.SmallestNonzeroFloat64, -math.SmallestNonzeroFloat64,
		m - 0.5, -m + 0.5, math.Nextafter(m, 0), math.Nextafter(-m, 0),
		m + 0.5, -m - 0.5, math.Nextafter(m, math.Inf(1)), math.Nextafter(-m, math.Inf(-1)),
		m + 1, -m - 1, 2 * m, -2 * m, 1 << 53, 1 << 62, 1 << 63, -1 << 63, 1 << 64, 1 << 65, 1e300, -1e300,
		math.MaxFloat64, -math.MaxFloat64,
	}
}

// strays lists complex numbers that are no points: by the real part, by the
// imaginary part, by both.
func strays() []complex128 {
	var list []complex128
	for _, f := range strayParts() {
		list = append(list, complex(f, 0), complex(f, 3), complex(0, f), complex(-4, f), complex(f, f), complex(f, m), complex(-m, f))
	}
	return list
}

func TestP201Of(t *testing.T) {
	for _, r := range []struct {
		x, y int
		want complex128
	}{
		{0, 0, 0}, {3, -4, 3 - 4i}, {-3, 4, -3 + 4i}, {1, 0, 1}, {0, 1, 1i}, {0, -1, complex(0, -1)}, {-1, 0, complex(-1, 0)},
		{m, m, complex(m, m)}, {-m, -m, complex(-m, -m)}, {m - 1, -m + 1, complex(m-1, -m+1)},
		{m + 1, -m - 1, complex(m, -m)}, {-m - 1, m + 1, complex(-m, m)}, {m + 1, 5, complex(m, 5)}, {5, -m - 1, complex(5, -m)},
		{greatest, least, complex(m, -m)}, {least, greatest, complex(-m, m)}, {greatest, 0, m}, {0, least, complex(0, -m)},
	} {
		if got := point.Of(r.x, r.y); !same(got, r.want) {
			t.Errorf("Of(%d, %d) = %v, want %v", r.x, r.y, got, r.want)
		}
	}
}

func TestP201OfLimitsEachPartAlone(t *testing.T) {
	list := append(partList(), least, least+1, -m-2, -m-1, m+1, m+2, 1<<53+1, greatest-1, greatest)
	for _, x := range list {
		for _, y := range list {
			if got, want := point.Of(x, y), at(cut(x), cut(y)); !same(got, want) {
				t.Errorf("Of(%d, %d) = %v, want %v", x, y, got, want)
			}
		}
	}
}

func TestP201PartsOfPoints(t *testing.T) {
	for _, a := range placeList() {
		if x, y, ok := point.Parts(a.point()); x != a.x || y != a.y || !ok {
			t.Errorf("Parts(%v) = %d, %d, %v", a.point(), x, y, ok)
		}
	}
}

func TestP201PartsCountNegativeZeroAsZero(t *testing.T) {
	low := negativeZero()
	for _, r := range []struct {
		p    complex128
		x, y int
	}{
		{complex(low, low), 0, 0}, {complex(low, 0), 0, 0}, {complex(0, low), 0, 0},
		{complex(low, 5), 0, 5}, {complex(-5, low), -5, 0}, {complex(low, -m), 0, -m}, {complex(m, low), m, 0},
	} {
		if x, y, ok := point.Parts(r.p); x != r.x || y != r.y || !ok {
			t.Errorf("Parts(%v) = %d, %d, %v, want %d, %d, true", r.p, x, y, ok, r.x, r.y)
		}
	}
}

func TestP201PartsOfStrays(t *testing.T) {
	for _, p := range strays() {
		if x, y, ok := point.Parts(p); x != 0 || y != 0 || ok {
			t.Errorf("Parts(%v) = %d, %d, %v, want 0, 0, false", p, x, y, ok)
		}
	}
}

// row is a call with two points and the point that it must return.
type row struct{ p, q, want complex128 }

func checkRows(t *testing.T, name string, run func(p, q complex128) complex128, rows []row) {
	t.Helper()
	for _, r := range rows {
		if got := run(r.p, r.q); !same(got, r.want) {
			t.Errorf("%s(%v, %v) = %v, want %v", name, r.p, r.q, got, r.want)
		}
	}
}

func TestP201Add(t *testing.T) {
	low := negativeZero()
	checkRows(t, "Add", point.Add, []row{
		{0, 0, 0}, {3 + 4i, 1 - 9i, 4 - 5i}, {1 - 9i, 3 + 4i, 4 - 5i}, {-2 - 2i, 2 + 2i, 0},
		{m, 1, m}, {m, -1, m - 1}, {m - 1, 1, m}, {-m, -1, at(-m, 0)}, {at(0, m), 5i, at(0, m)}, {at(0, -m), at(0, -5), at(0, -m)},
		{at(m, m), at(m, m), at(m, m)}, {at(-m, -m), at(-m, -m), at(-m, -m)}, {at(m, -m), at(-m, m), 0}, {at(m, 3), 4 + 4i, at(m, 7)},
		{complex(low, low), complex(low, low), 0}, {complex(low, 2), complex(low, 3), 5i}, {complex(low, low), 0, 0},
	})
}

func TestP201Sub(t *testing.T) {
	low := negativeZero()
	checkRows(t, "Sub", point.Sub, []row{
		{0, 0, 0}, {3 + 4i, 1 - 9i, 2 + 13i}, {1 - 9i, 3 + 4i, -2 - 13i}, {2 + 2i, 2 + 2i, 0}, {0, 2, at(-2, 0)}, {0, 2i, at(0, -2)},
		{at(-m, 0), 1, at(-m, 0)}, {at(-m, 0), -1, at(-m+1, 0)}, {m, -1, m}, {m, 1, m - 1}, {at(0, m), at(0, -5), at(0, m)}, {at(0, -m), 5i, at(0, -m)},
		{at(m, m), at(-m, -m), at(m, m)}, {at(-m, -m), at(m, m), at(-m, -m)}, {at(m, m), at(m, m), 0}, {at(-m, 3), 4 + 4i, at(-m, -1)},
		{complex(low, low), 0, 0}, {complex(low, low), complex(low, low), 0}, {complex(low, 2), complex(0, 3), at(0, -1)},
	})
}

func TestP201AddAndSubPartByPart(t *testing.T) {
	for _, a := range placeList() {
		for _, b := range placeList() {
			p, q := a.point(), b.point()
			if got, want := point.Add(p, q), at(cut(a.x+b.x), cut(a.y+b.y)); !same(got, want) {
				t.Errorf("Add(%v, %v) = %v, want %v", p, q, got, want)
			}
			if got, want := point.Sub(p, q), at(cut(a.x-b.x), cut(a.y-b.y)); !same(got, want) {
				t.Errorf("Sub(%v, %v) = %v, want %v", p, q, got, want)
			}
		}
	}
}

func TestP201TurnGivesTheExample(t *testing.T) {
	if got := point.Turn(1, 1); !same(got, 1i) {
		t.Errorf("Turn(1, 1) = %v, want 1i", got)
	}
}

// turned is a after n quarter turns to the left, for any n.
func turned(a place, n int) place {
	rest := new(big.Int).Mod(big.NewInt(int64(n)), big.NewInt(4))
	for range rest.Int64() {
		a = place{-a.y, a.x}
	}
	return a
}

func TestP201Turn(t *testing.T) {
	counts := []int{least, least + 1, least + 2, least + 3, -1 << 40, -1<<40 - 1, greatest - 3, greatest - 2, greatest - 1, greatest, 1 << 40, 1<<40 + 1}
	for n := -9; n <= 9; n++ {
		counts = append(counts, n)
	}
	for _, a := range placeList() {
		for _, n := range counts {
			if got, want := point.Turn(a.point(), n), turned(a, n).point(); !same(got, want) {
				t.Errorf("Turn(%v, %d) = %v, want %v", a.point(), n, got, want)
			}
		}
	}
}

func TestP201TurnLeftAndRight(t *testing.T) {
	for _, r := range []struct {
		n    int
		want complex128
	}{
		{0, 3 + 4i}, {1, -4 + 3i}, {2, -3 - 4i}, {3, 4 - 3i}, {4, 3 + 4i}, {5, -4 + 3i},
		{-1, 4 - 3i}, {-2, -3 - 4i}, {-3, -4 + 3i}, {-4, 3 + 4i}, {-5, 4 - 3i},
		{greatest, 4 - 3i}, {greatest - 1, -3 - 4i}, {least, 3 + 4i}, {least + 1, -4 + 3i},
	} {
		if got := point.Turn(3+4i, r.n); !same(got, r.want) {
			t.Errorf("Turn(3+4i, %d) = %v, want %v", r.n, got, r.want)
		}
	}
}

func TestP201TurnLeavesNoNegativeZero(t *testing.T) {
	low := negativeZero()
	for _, p := range []complex128{0, complex(low, 0), complex(0, low), complex(low, low)} {
		for n := -5; n <= 5; n++ {
			if got := point.Turn(p, n); !same(got, 0) {
				t.Errorf("Turn(%v, %d) = %v, want 0", p, n, got)
			}
		}
	}
	for n, want := range []complex128{7, 7i, at(-7, 0), at(0, -7)} {
		if got := point.Turn(complex(7, low), n); !same(got, want) {
			t.Errorf("Turn(7-0i, %d) = %v, want %v", n, got, want)
		}
	}
}

func distance(a, b int) int {
	if a < b {
		return b - a
	}
	return a - b
}

func TestP201Far(t *testing.T) {
	low := negativeZero()
	for _, r := range []struct {
		p, q complex128
		want int
	}{
		{0, 0, 0}, {1 + 2i, 4 - 2i, 7}, {4 - 2i, 1 + 2i, 7}, {3, -3, 6}, {3i, at(0, -3), 6}, {2 + 2i, 2 + 2i, 0},
		{at(-m, -m), at(m, m), 4 * m}, {at(m, -m), at(-m, m), 4 * m}, {at(-m, 1), at(m, 1), 2 * m}, {at(0, m), 0, m},
		{complex(low, low), 0, 0}, {complex(low, 2), complex(5, low), 7},
	} {
		if got := point.Far(r.p, r.q); got != r.want {
			t.Errorf("Far(%v, %v) = %d, want %d", r.p, r.q, got, r.want)
		}
	}
	for _, a := range placeList() {
		for _, b := range placeList() {
			if got, want := point.Far(a.point(), b.point()), distance(a.x, b.x)+distance(a.y, b.y); got != want {
				t.Errorf("Far(%v, %v) = %d, want %d", a.point(), b.point(), got, want)
			}
		}
	}
}

func TestP201Step(t *testing.T) {
	low := negativeZero()
	checkRows(t, "Step", point.Step, []row{
		{0, 5 + 3i, 1}, {0, -5 + 3i, at(-1, 0)}, {0, 3 + 5i, 1i}, {0, 3 - 5i, at(0, -1)}, {5, at(0, -1), 4}, {1 + 9i, 1 - 9i, 1 + 8i},
		{0, 4 + 4i, 1}, {0, -4 + 4i, at(-1, 0)}, {0, 4 - 4i, 1}, {0, -4 - 4i, at(-1, 0)}, {7 + 7i, 6 + 8i, 6 + 7i}, {2 + 3i, 3 + 2i, 3 + 3i},
		{0, 0, 0}, {2 + 2i, 2 + 2i, 2 + 2i}, {at(m, -m), at(m, -m), at(m, -m)}, {at(-m, m), at(-m, m), at(-m, m)},
		{0, 1, 1}, {1, 0, 0}, {at(-1, 0), 0, 0}, {at(0, -1), 0, 0}, {1i, 0, 0},
		{at(-m, 0), m, at(-m+1, 0)}, {at(0, m), at(0, -m), at(0, m-1)}, {at(-m, -m), at(m, m), at(-m+1, -m)}, {at(m-1, 3), at(m, 3), at(m, 3)},
		{complex(low, low), 0, 0}, {complex(low, low), complex(low, low), 0}, {0, complex(low, low), 0},
		{complex(low, 2), complex(0, 5), 3i}, {complex(2, low), 5, 3}, {complex(low, 3), complex(low, low), 2i},
	})
}

// stepped is a moved by 1 towards b.
func stepped(a, b place) place {
	switch alongX := distance(a.x, b.x) >= distance(a.y, b.y); {
	case a == b:
	case alongX && a.x < b.x:
		a.x++
	case alongX:
		a.x--
	case a.y < b.y:
		a.y++
	default:
		a.y--
	}
	return a
}

func TestP201StepBetweenAllPlaces(t *testing.T) {
	for _, a := range placeList() {
		for _, b := range placeList() {
			if got, want := point.Step(a.point(), b.point()), stepped(a, b).point(); !same(got, want) {
				t.Errorf("Step(%v, %v) = %v, want %v", a.point(), b.point(), got, want)
			}
		}
	}
}

func TestP201StraysCountAsZero(t *testing.T) {
	const q = 6 - 2i
	for _, p := range strays() {
		for _, r := range []struct {
			name      string
			got, want complex128
		}{
			{"Add(p, q)", point.Add(p, q), q}, {"Add(q, p)", point.Add(q, p), q}, {"Add(p, p)", point.Add(p, p), 0},
			{"Sub(p, q)", point.Sub(p, q), -q}, {"Sub(q, p)", point.Sub(q, p), q}, {"Sub(p, p)", point.Sub(p, p), 0},
			{"Turn(p, 0)", point.Turn(p, 0), 0}, {"Turn(p, 1)", point.Turn(p, 1), 0}, {"Turn(p, -2)", point.Turn(p, -2), 0},
			{"Step(p, q)", point.Step(p, q), 1}, {"Step(q, p)", point.Step(q, p), 5 - 2i}, {"Step(p, p)", point.Step(p, p), 0}, {"Step(p, 0)", point.Step(p, 0), 0}, {"Step(0, p)", point.Step(0, p), 0},
		} {
			if !same(r.got, r.want) {
				t.Errorf("%s = %v for p = %v, want %v", r.name, r.got, p, r.want)
			}
		}
		if a, b, c := point.Far(p, q), point.Far(q, p), point.Far(p, p); a != 8 || b != 8 || c != 0 {
			t.Errorf("Far to and from %v: %d, %d, %d, want 8, 8, 0", p, a, b, c)
		}
	}
}

func TestP202FourTurnsChangeNothing(t *testing.T) {
	for _, a := range placeList() {
		for _, n := range []int{1, -1} {
			p := a.point()
			for range 4 {
				p = point.Turn(p, n)
			}
			if !same(p, a.point()) {
				t.Errorf("four Turns of %v by %d gave %v", a.point(), n, p)
			}
		}
		if got := point.Turn(a.point(), 4); !same(got, a.point()) {
			t.Errorf("Turn(%v, 4) = %v", a.point(), got)
		}
	}
}

func TestP202TurnDistributesOverAdd(t *testing.T) {
	for _, a := range placeList() {
		for _, b := range placeList() {
			if sum := (place{a.x + b.x, a.y + b.y}); sum != (place{cut(sum.x), cut(sum.y)}) {
				continue
			}
			for n := -3; n <= 3; n++ {
				p, q := a.point(), b.point()
				whole, parts := point.Turn(point.Add(p, q), n), point.Add(point.Turn(p, n), point.Turn(q, n))
				if !same(whole, parts) {
					t.Errorf("a Turn of %v and %v by %d gave %v for the sum, %v for the parts", p, q, n, whole, parts)
				}
			}
		}
	}
}

func TestP202FarIsZeroForEqualPointsAndSymmetric(t *testing.T) {
	for _, a := range placeList() {
		for _, b := range placeList() {
			there, back := point.Far(a.point(), b.point()), point.Far(b.point(), a.point())
			if there != back {
				t.Errorf("Far of %v and %v: %d there, %d back", a, b, there, back)
			}
			if (there == 0) != (a == b) || there < 0 {
				t.Errorf("Far of %v and %v: %d", a, b, there)
			}
		}
	}
}

func TestP202EachStepTakesOneFromFar(t *testing.T) {
	for _, a := range placeList() {
		for _, b := range placeList() {
			p, q := a.point(), b.point()
			want := max(point.Far(p, q)-1, 0)
			if got := point.Far(point.Step(p, q), q); got != want {
				t.Errorf("Far behind a Step from %v to %v: %d, want %d", p, q, got, want)
			}
		}
	}
}

func TestP202StepsLeadToTheOtherPoint(t *testing.T) {
	for _, r := range []struct {
		p, q  complex128
		steps int
	}{{-6 + 3i, 5 - 4i, 18}, {5 - 4i, -6 + 3i, 18}, {0, 9i, 9}, {at(m, m), at(m-20, m-5), 25}, {at(-m, 4), at(-m+3, -4), 11}} {
		p := r.p
		for range r.steps {
			if same(p, r.q) {
				t.Errorf("Steps from %v reached %v too early", r.p, r.q)
			}
			p = point.Step(p, r.q)
		}
		if !same(p, r.q) {
			t.Errorf("%d Steps from %v led to %v, want %v", r.steps, r.p, p, r.q)
		}
	}
}

// answers lists the results of all functions for all pairs of the arguments,
// as bits, so that every NaN and every zero is told apart.
func answers(list []complex128) []uint64 {
	var results []uint64
	tell := func(p complex128) {
		results = append(results, math.Float64bits(real(p)), math.Float64bits(imag(p)))
	}
	for _, p := range list {
		x, y, ok := point.Parts(p)
		if ok {
			results = append(results, uint64(x), uint64(y))
		}
		tell(point.Of(x, y))
		for n := -4; n <= 4; n++ {
			tell(point.Turn(p, n))
		}
		for _, q := range list {
			tell(point.Add(p, q))
			tell(point.Sub(p, q))
			tell(point.Step(p, q))
			results = append(results, uint64(point.Far(p, q)))
		}
	}
	return results
}

func mixedList() []complex128 {
	return []complex128{0, 3 + 4i, -7 + 1i, at(m, -m), at(-m, m), complex(negativeZero(), 2), complex(math.NaN(), 1), complex(1, math.Inf(1)), 0.5}
}

func TestP202ResultsDependOnlyOnTheArguments(t *testing.T) {
	list := mixedList()
	first := answers(list)
	// Other calls in between must leave no trace.
	slices.Reverse(list)
	answers(list)
	slices.Reverse(list)
	if second := answers(list); !slices.Equal(first, second) {
		t.Errorf("the same calls gave %v, then %v", first, second)
	}
}

func TestP202ResultsDoNotDependOnOtherGoroutines(t *testing.T) {
	want := answers(mixedList())
	const workers = 8
	results := make(chan []uint64, workers)
	for range workers {
		go func() { results <- answers(mixedList()) }()
	}
	for range workers {
		if got := <-results; !slices.Equal(got, want) {
			t.Errorf("a goroutine got %v, want %v", got, want)
		}
	}
}
