package table_test

import (
	"math"
	"slices"
	"sync"
	"testing"

	"puppeteer/api"
	"puppeteer/table"
)

func at(index, gen int) api.Id { return api.Id{Index: index, Gen: gen} }

func cell(comp, value int) api.Cell { return api.Cell{Comp: comp, Value: value} }

// model is a Table told another way: a list of rows, each with all 16 values,
// without columns or an index.
type model struct {
	comps []int // ascending
	rows  []modelRow
}

type modelRow struct {
	id     api.Id
	values [16]int
}

func newModel(mask uint16) *model {
	m := &model{}
	for comp, bit := 0, 1; comp < 16; comp, bit = comp+1, bit*2 {
		if int(mask)/bit%2 == 1 {
			m.comps = append(m.comps, comp)
		}
	}
	return m
}

func (m *model) row(id api.Id) int {
	return slices.IndexFunc(m.rows, func(r modelRow) bool { return r.id == id })
}

func (m *model) has(row, comp int) bool {
	return row >= 0 && row < len(m.rows) && slices.Contains(m.comps, comp)
}

func (m *model) add(id api.Id, cells []api.Cell) int {
	if m.row(id) != -1 {
		return -1
	}
	r := modelRow{id: id}
	for _, c := range cells {
		if slices.Contains(m.comps, c.Comp) {
			r.values[c.Comp] = c.Value
		}
	}
	m.rows = append(m.rows, r)
	return len(m.rows) - 1
}

func (m *model) remove(row int) ([]api.Cell, bool) {
	if row < 0 || row >= len(m.rows) {
		return nil, false
	}
	var cells []api.Cell
	for _, comp := range m.comps {
		cells = append(cells, cell(comp, m.rows[row].values[comp]))
	}
	last := m.rows[len(m.rows)-1]
	m.rows[row] = last
	m.rows = slices.Delete(m.rows, len(m.rows)-1, len(m.rows))
	return cells, true
}

func (m *model) get(row, comp int) (int, bool) {
	if !m.has(row, comp) {
		return 0, false
	}
	return m.rows[row].values[comp], true
}

func (m *model) set(row, comp, value int) bool {
	if !m.has(row, comp) {
		return false
	}
	m.rows[row].values[comp] = value
	return true
}

func (m *model) ids() []api.Id {
	var list []api.Id
	for _, r := range m.rows {
		list = append(list, r.id)
	}
	return list
}

func (m *model) column(comp int) []int {
	if !slices.Contains(m.comps, comp) {
		return nil
	}
	var list []int
	for _, r := range m.rows {
		list = append(list, r.values[comp])
	}
	return list
}

func wantAdd(t *testing.T, x *table.Table, id api.Id, cells []api.Cell, want int) {
	t.Helper()
	if got := x.Add(id, cells); got != want {
		t.Fatalf("Add(%v, %v): %d; want %d", id, cells, got, want)
	}
}

func wantRemove(t *testing.T, x *table.Table, row int, want ...api.Cell) {
	t.Helper()
	if got, ok := x.Remove(row); !ok || !slices.Equal(got, want) {
		t.Fatalf("Remove(%d): %v, %v; want %v, true", row, got, ok, want)
	}
}

func wantNoRemove(t *testing.T, x *table.Table, row int) {
	t.Helper()
	if got, ok := x.Remove(row); ok || len(got) != 0 {
		t.Fatalf("Remove(%d): %v, %v; want nothing, false", row, got, ok)
	}
}

func wantRow(t *testing.T, x *table.Table, id api.Id, want int) {
	t.Helper()
	if got := x.Row(id); got != want {
		t.Fatalf("Row(%v): %d; want %d", id, got, want)
	}
}

func wantGet(t *testing.T, x *table.Table, row, comp, want int) {
	t.Helper()
	if got, ok := x.Get(row, comp); got != want || !ok {
		t.Fatalf("Get(%d, %d): %d, %v; want %d, true", row, comp, got, ok, want)
	}
}

func wantNoGet(t *testing.T, x *table.Table, row, comp int) {
	t.Helper()
	if got, ok := x.Get(row, comp); got != 0 || ok {
		t.Fatalf("Get(%d, %d): %d, %v; want 0, false", row, comp, got, ok)
	}
}

func wantSet(t *testing.T, x *table.Table, row, comp, value int, want bool) {
	t.Helper()
	if got := x.Set(row, comp, value); got != want {
		t.Fatalf("Set(%d, %d, %d): %v; want %v", row, comp, value, got, want)
	}
}

func wantIds(t *testing.T, x *table.Table, want ...api.Id) {
	t.Helper()
	if got := x.Ids(); !slices.Equal(got, want) {
		t.Fatalf("Ids: %v; want %v", got, want)
	}
}

func wantColumn(t *testing.T, x *table.Table, comp int, want ...int) {
	t.Helper()
	if got := x.Column(comp); !slices.Equal(got, want) {
		t.Fatalf("Column(%d): %v; want %v", comp, got, want)
	}
}

// strange lists numbers that are no component, and no row of a small table.
func strange() []int {
	return []int{
		-1, -2, -15, -16, -17, 16, 17, 31, 32, 63, 64, 65, 256, 65536, 1 << 31, 1 << 32, 1<<32 + 1, -1 << 32,
		math.MinInt, math.MinInt + 1, math.MaxInt, math.MaxInt - 1,
	}
}

// compare holds all that x tells against m, also of the rows and components
// that there are not.
func compare(t *testing.T, x *table.Table, m *model) {
	t.Helper()
	wantIds(t, x, m.ids()...)
	for row, r := range m.rows {
		wantRow(t, x, r.id, row)
	}
	for comp := -1; comp <= 16; comp++ {
		wantColumn(t, x, comp, m.column(comp)...)
		for row := -1; row <= len(m.rows)+1; row++ {
			got, ok := x.Get(row, comp)
			if want, wantOk := m.get(row, comp); got != want || ok != wantOk {
				t.Fatalf("Get(%d, %d): %d, %v; want %d, %v", row, comp, got, ok, want, wantOk)
			}
		}
	}
}

// masks lists those with no bit, with one, with some and with all.
func masks() []uint16 {
	list := []uint16{0, 1<<15 | 1, 1<<3 | 1<<2, 0x5555, 0xaaaa, 0x7ffe, 0x7fff, 0xfffe, 0xffff}
	for comp := range 16 {
		list = append(list, 1<<comp)
	}
	return list
}

// three returns a table with the components 0, 4 and 15, and a row for each of
// the entities (0, 1) to (n-1, 1), with the values 10 * row + 1, + 2 and + 3.
func three(t *testing.T, n int) *table.Table {
	t.Helper()
	x := table.New(1<<15 | 1<<4 | 1)
	for i := range n {
		wantAdd(t, x, at(i, 1), []api.Cell{cell(15, 10*i+3), cell(0, 10*i+1), cell(4, 10*i+2)}, i)
	}
	return x
}

// wantThree holds the rows of a table that three made against those that are
// left, each told by the number that it was made with.
func wantThree(t *testing.T, x *table.Table, left ...int) {
	t.Helper()
	var ids []api.Id
	var a, b, c []int
	for row, i := range left {
		ids = append(ids, at(i, 1))
		a, b, c = append(a, 10*i+1), append(b, 10*i+2), append(c, 10*i+3)
		wantRow(t, x, at(i, 1), row)
		wantGet(t, x, row, 0, 10*i+1)
		wantGet(t, x, row, 4, 10*i+2)
		wantGet(t, x, row, 15, 10*i+3)
	}
	wantIds(t, x, ids...)
	wantColumn(t, x, 0, a...)
	wantColumn(t, x, 4, b...)
	wantColumn(t, x, 15, c...)
	wantNoGet(t, x, len(left), 0)
	wantSet(t, x, len(left), 0, 1, false)
	wantNoRemove(t, x, len(left))
}

func wantThreeRemoved(t *testing.T, x *table.Table, row, i int) {
	t.Helper()
	wantRemove(t, x, row, cell(0, 10*i+1), cell(4, 10*i+2), cell(15, 10*i+3))
	wantRow(t, x, at(i, 1), -1)
}

func TestP401ANewTableHasNoRows(t *testing.T) {
	for _, mask := range masks() {
		x := table.New(mask)
		for _, id := range []api.Id{{}, at(0, 1), at(1, 0), at(-1, -1), at(math.MaxInt, math.MinInt)} {
			wantRow(t, x, id, -1)
		}
		wantIds(t, x)
		for comp := range 16 {
			wantColumn(t, x, comp)
			wantNoGet(t, x, 0, comp)
			wantSet(t, x, 0, comp, 1, false)
		}
		for _, n := range strange() {
			wantColumn(t, x, n)
			wantNoGet(t, x, n, 0)
			wantNoGet(t, x, 0, n)
			wantSet(t, x, n, n, 1, false)
			wantNoRemove(t, x, n)
		}
		wantNoRemove(t, x, 0)
		wantIds(t, x)
	}
}

func TestP401ColumnsAreThoseOfTheMask(t *testing.T) {
	for _, mask := range masks() {
		x, m := table.New(mask), newModel(mask)
		for row := range 3 {
			wantAdd(t, x, at(row, 5), nil, m.add(at(row, 5), nil))
		}
		compare(t, x, m)
		for comp := range 16 {
			wantSet(t, x, 1, comp, comp-7, m.set(1, comp, comp-7))
			compare(t, x, m)
		}
		for _, n := range strange() {
			wantColumn(t, x, n)
			wantNoGet(t, x, 1, n)
			wantSet(t, x, 1, n, 5, false)
		}
		compare(t, x, m)
		want, _ := m.remove(1)
		wantRemove(t, x, 1, want...)
		compare(t, x, m)
	}
}

// TestP401EveryMask adds one row to a table of each of the 65,536 masks.
func TestP401EveryMask(t *testing.T) {
	var cells []api.Cell
	for comp := -2; comp < 18; comp++ {
		cells = append(cells, cell(comp, 100+comp))
	}
	for mask := range 1 << 16 {
		x, m := table.New(uint16(mask)), newModel(uint16(mask))
		wantAdd(t, x, at(1, 1), cells, 0)
		m.add(at(1, 1), cells)
		want, _ := m.remove(0)
		if got, ok := x.Remove(0); !ok || !slices.Equal(got, want) {
			t.Fatalf("mask %x: %v, %v; want %v", mask, got, ok, want)
		}
	}
}

func TestP401AddCountsRowsFromZero(t *testing.T) {
	x := table.New(1 << 2)
	for i := range 500 {
		wantAdd(t, x, at(1000-i, i%3), []api.Cell{cell(2, i)}, i)
	}
	for i := range 500 {
		wantRow(t, x, at(1000-i, i%3), i)
		wantGet(t, x, i, 2, i)
	}
}

func TestP401AddTakesTheLastCellOfAComponent(t *testing.T) {
	for _, row := range []struct {
		cells   []api.Cell
		a, b, c int
	}{
		{nil, 0, 0, 0},
		{[]api.Cell{}, 0, 0, 0},
		{[]api.Cell{cell(0, 5)}, 5, 0, 0},
		{[]api.Cell{cell(15, 5)}, 0, 0, 5},
		{[]api.Cell{cell(4, 1), cell(4, 2)}, 0, 2, 0},
		{[]api.Cell{cell(4, 2), cell(4, 1)}, 0, 1, 0},
		{[]api.Cell{cell(4, 9), cell(0, 8), cell(4, 7), cell(15, 6), cell(0, 5), cell(4, 0)}, 5, 0, 6},
		{[]api.Cell{cell(0, math.MinInt), cell(4, math.MaxInt), cell(15, -1)}, math.MinInt, math.MaxInt, -1},
		{[]api.Cell{cell(0, 3), cell(0, 3), cell(0, 3)}, 3, 0, 0},
	} {
		x := three(t, 2)
		wantAdd(t, x, at(8, 8), row.cells, 2)
		wantColumn(t, x, 0, 1, 11, row.a)
		wantColumn(t, x, 4, 2, 12, row.b)
		wantColumn(t, x, 15, 3, 13, row.c)
		wantRemove(t, x, 2, cell(0, row.a), cell(4, row.b), cell(15, row.c))
		wantThree(t, x, 0, 1)
	}
}

func TestP401AddIgnoresOtherComponents(t *testing.T) {
	others := append(strange(), 1, 2, 3, 5, 6, 7, 8, 9, 10, 11, 12, 13, 14)
	for _, n := range others {
		x := three(t, 1)
		wantAdd(t, x, at(7, 1), []api.Cell{cell(n, 99)}, 1)
		wantAdd(t, x, at(8, 1), []api.Cell{cell(n, 99), cell(4, 6), cell(n, 98)}, 2)
		wantColumn(t, x, 0, 1, 0, 0)
		wantColumn(t, x, 4, 2, 0, 6)
		wantColumn(t, x, 15, 3, 0, 0)
		wantColumn(t, x, n)
		wantNoGet(t, x, 1, n)
	}
}

func TestP401AddAgainChangesNothing(t *testing.T) {
	x := three(t, 3)
	for i := range 3 {
		wantAdd(t, x, at(i, 1), []api.Cell{cell(0, 99), cell(4, 99), cell(15, 99)}, -1)
		wantAdd(t, x, at(i, 1), nil, -1)
		wantThree(t, x, 0, 1, 2)
	}
	wantAdd(t, x, at(3, 1), nil, 3)
}

func TestP401TheGenerationTellsEntitiesApart(t *testing.T) {
	x := table.New(1 << 1)
	ids := []api.Id{
		at(5, 1), at(5, 2), at(5, 0), at(5, -1), at(1, 5), at(0, 0), at(-5, 1), at(0, 5), at(5, 1<<32+1),
		at(1<<32+5, 1), at(math.MinInt, math.MaxInt), at(math.MaxInt, math.MinInt), at(math.MinInt, math.MinInt),
	}
	for row, id := range ids {
		wantRow(t, x, id, -1)
		wantAdd(t, x, id, []api.Cell{cell(1, row+100)}, row)
		wantAdd(t, x, id, nil, -1)
	}
	for row, id := range ids {
		wantRow(t, x, id, row)
		wantGet(t, x, row, 1, row+100)
	}
	wantRow(t, x, at(5, 3), -1)
	wantRow(t, x, at(6, 1), -1)
	wantRemove(t, x, 0, cell(1, 100))
	wantRow(t, x, at(5, 1), -1)
	wantRow(t, x, at(5, 2), 1)
	wantRow(t, x, at(math.MinInt, math.MinInt), 0)
}

func TestP401RemoveTheFirstRow(t *testing.T) {
	x := three(t, 4)
	wantThreeRemoved(t, x, 0, 0)
	wantThree(t, x, 3, 1, 2)
	wantThreeRemoved(t, x, 0, 3)
	wantThree(t, x, 2, 1)
	wantThreeRemoved(t, x, 0, 2)
	wantThree(t, x, 1)
	wantThreeRemoved(t, x, 0, 1)
	wantThree(t, x)
}

func TestP401RemoveAMiddleRow(t *testing.T) {
	x := three(t, 5)
	wantThreeRemoved(t, x, 2, 2)
	wantThree(t, x, 0, 1, 4, 3)
	wantThreeRemoved(t, x, 1, 1)
	wantThree(t, x, 0, 3, 4)
	wantThreeRemoved(t, x, 1, 3)
	wantThree(t, x, 0, 4)
}

func TestP401RemoveTheLastRow(t *testing.T) {
	x := three(t, 3)
	wantThreeRemoved(t, x, 2, 2)
	wantThree(t, x, 0, 1)
	wantThreeRemoved(t, x, 1, 1)
	wantThree(t, x, 0)
}

func TestP401RemoveTheOnlyRow(t *testing.T) {
	x := three(t, 1)
	for range 3 {
		wantThreeRemoved(t, x, 0, 0)
		wantThree(t, x)
		wantNoRemove(t, x, 0)
		wantAdd(t, x, at(0, 1), []api.Cell{cell(0, 1), cell(4, 2), cell(15, 3)}, 0)
		wantThree(t, x, 0)
	}
}

func TestP401RemoveWhereThereIsNoRow(t *testing.T) {
	x := three(t, 3)
	for _, row := range append(strange(), 3, 4, 5) {
		wantNoRemove(t, x, row)
		wantThree(t, x, 0, 1, 2)
	}
}

func TestP401RemoveReturnsWhatWasSet(t *testing.T) {
	x := three(t, 3)
	wantSet(t, x, 2, 4, 77, true)
	wantSet(t, x, 0, 15, -8, true)
	wantRemove(t, x, 0, cell(0, 1), cell(4, 2), cell(15, -8))
	wantGet(t, x, 0, 4, 77)
	wantRemove(t, x, 0, cell(0, 21), cell(4, 77), cell(15, 23))
	wantThree(t, x, 1)
}

func TestP401ARowWithoutColumns(t *testing.T) {
	x := table.New(0)
	for i := range 4 {
		wantAdd(t, x, at(i, 1), []api.Cell{cell(0, 1), cell(15, 1)}, i)
	}
	wantAdd(t, x, at(2, 1), nil, -1)
	wantRemove(t, x, 1)
	wantIds(t, x, at(0, 1), at(3, 1), at(2, 1))
	wantRow(t, x, at(3, 1), 1)
	wantNoRemove(t, x, 3)
	for comp := -1; comp <= 16; comp++ {
		wantColumn(t, x, comp)
		wantNoGet(t, x, 0, comp)
		wantSet(t, x, 0, comp, 1, false)
	}
}

func TestP401ARowAgainStartsFromZero(t *testing.T) {
	x := three(t, 3)
	wantThreeRemoved(t, x, 1, 1)
	wantAdd(t, x, at(1, 1), nil, 2)
	wantColumn(t, x, 0, 1, 21, 0)
	wantColumn(t, x, 4, 2, 22, 0)
	wantColumn(t, x, 15, 3, 23, 0)
	wantRow(t, x, at(1, 1), 2)
}

func TestP401SetReplacesOneValue(t *testing.T) {
	for _, value := range []int{0, 1, -1, math.MinInt, math.MaxInt} {
		x := three(t, 3)
		wantSet(t, x, 1, 4, value, true)
		wantColumn(t, x, 0, 1, 11, 21)
		wantColumn(t, x, 4, 2, value, 22)
		wantColumn(t, x, 15, 3, 13, 23)
		wantSet(t, x, 1, 4, 12, true)
		wantThree(t, x, 0, 1, 2)
	}
}

func TestP401SetAndGetWhereThereIsNoSuchPlace(t *testing.T) {
	x := three(t, 3)
	for _, n := range append(strange(), 3, 5, 14) {
		for _, place := range [][2]int{{n, 0}, {n, 4}, {n, 15}, {0, n}, {2, n}, {n, n}} {
			wantSet(t, x, place[0], place[1], 99, false)
			wantNoGet(t, x, place[0], place[1])
		}
		wantThree(t, x, 0, 1, 2)
	}
	// After a removal the place of the old last row is none.
	wantThreeRemoved(t, x, 0, 0)
	wantSet(t, x, 2, 4, 99, false)
	wantNoGet(t, x, 2, 4)
	wantAdd(t, x, at(9, 9), nil, 2)
	wantGet(t, x, 2, 4, 0)
}

// after is the number that follows n in a fixed sequence without a pattern.
func after(n int) int { return (n*1103515245 + 12345) & 0x7fffffff }

// play performs one call that n chooses on both.
func play(t *testing.T, x *table.Table, m *model, n int) {
	t.Helper()
	row, comp := n/4%(len(m.rows)+3)-1, n/64%18-1
	switch n % 4 {
	case 0, 1:
		var cells []api.Cell
		for k := range n / 16 % 6 {
			cells = append(cells, cell((comp+k*k*n/32)%20-2, n+k))
		}
		id := at(n/8%5, n/128%3)
		wantAdd(t, x, id, cells, m.add(id, cells))
	case 2:
		got, ok := x.Remove(row)
		if want, wantOk := m.remove(row); ok != wantOk || !slices.Equal(got, want) {
			t.Fatalf("Remove(%d): %v, %v; want %v, %v", row, got, ok, want, wantOk)
		}
	default:
		wantSet(t, x, row, comp, n, m.set(row, comp, n))
	}
}

func TestP401AllCallsInAnyOrder(t *testing.T) {
	for _, mask := range masks() {
		x, m := table.New(mask), newModel(mask)
		n := int(mask) + 1
		for range 500 {
			n = after(n)
			play(t, x, m, n>>8)
			compare(t, x, m)
			for i := range 15 {
				wantRow(t, x, at(i/3, i%3), m.row(at(i/3, i%3)))
			}
		}
	}
}

// TestP401ShortRuns performs every run of six calls on a table, each of them an
// Add of one of four entities or a Remove of one of three rows.
func TestP401ShortRuns(t *testing.T) {
	const calls, kinds = 6, 7
	runs := 1
	for range calls {
		runs *= kinds
	}
	for run := range runs {
		x, m := table.New(1<<15|1<<1), newModel(1<<15|1<<1)
		for rest, value := run, 1; rest > 0; rest, value = rest/kinds, value+1 {
			if i := rest % kinds; i < 4 {
				id, cells := at(i/2, i%2), []api.Cell{cell(15, value), cell(1, -value)}
				wantAdd(t, x, id, cells, m.add(id, cells))
			} else {
				got, ok := x.Remove(i - 4)
				if want, wantOk := m.remove(i - 4); ok != wantOk || !slices.Equal(got, want) {
					t.Fatalf("run %d: Remove(%d): %v, %v; want %v, %v", run, i-4, got, ok, want, wantOk)
				}
			}
		}
		wantIds(t, x, m.ids()...)
		wantColumn(t, x, 1, m.column(1)...)
		wantColumn(t, x, 15, m.column(15)...)
		for i := range 4 {
			wantRow(t, x, at(i/2, i%2), m.row(at(i/2, i%2)))
		}
	}
}

func TestP401ManyRows(t *testing.T) {
	const count = 20_000
	x := table.New(1 << 6)
	for i := range count {
		wantAdd(t, x, at(i, 1), []api.Cell{cell(6, i)}, i)
	}
	// Each removal of row 0 brings the last row there.
	wantRemove(t, x, 0, cell(6, 0))
	for i := count - 1; i > 1; i-- {
		wantRow(t, x, at(i, 1), 0)
		wantRemove(t, x, 0, cell(6, i))
	}
	wantIds(t, x, at(1, 1))
	wantColumn(t, x, 6, 1)
}

func TestP402CellsAreNotKeptOrChanged(t *testing.T) {
	x := table.New(1<<15 | 1<<4 | 1)
	room := []api.Cell{cell(0, 1), cell(4, 2), cell(4, 3), cell(7, 4), cell(15, 5), cell(0, 6)}
	before := slices.Clone(room)
	cells := room[:3] // with spare capacity
	wantAdd(t, x, at(1, 1), cells, 0)
	wantAdd(t, x, at(1, 1), cells, -1)
	if !slices.Equal(room, before) {
		t.Fatalf("Add changed its cells: %v", room)
	}
	for i := range room {
		room[i] = cell(15, 99)
	}
	wantAdd(t, x, at(2, 1), nil, 1)
	wantColumn(t, x, 0, 1, 0)
	wantColumn(t, x, 4, 3, 0)
	wantColumn(t, x, 15, 0, 0)
	wantSet(t, x, 0, 0, 44, true)
	wantRemove(t, x, 0, cell(0, 44), cell(4, 3), cell(15, 0))
	for _, c := range room {
		if c != cell(15, 99) {
			t.Fatalf("the table changed the cells of an earlier Add: %v", room)
		}
	}
}

// spoil overwrites a list and its spare capacity.
func spoil[T any](list []T, with T) {
	list = list[:cap(list)]
	for i := range list {
		list[i] = with
	}
}

func TestP402ListsBelongToTheCaller(t *testing.T) {
	x := three(t, 4)
	kept, keptIds, keptColumn := x.Column(4), x.Ids(), x.Column(0)
	spoil(x.Ids(), at(-9, -9))
	for comp := range 16 {
		spoil(x.Column(comp), -99)
	}
	wantThree(t, x, 0, 1, 2, 3)
	removed, _ := x.Remove(1)
	other, _ := x.Remove(1)
	spoil(removed, cell(-1, -1))
	if want := []api.Cell{cell(0, 31), cell(4, 32), cell(15, 33)}; !slices.Equal(other, want) {
		t.Errorf("another list of Remove: %v; want %v", other, want)
	}
	wantThree(t, x, 0, 2)
	wantAdd(t, x, at(3, 1), []api.Cell{cell(0, 31), cell(4, 32), cell(15, 33)}, 2)
	wantThree(t, x, 0, 2, 3)
	// Lists that were returned stay as they were when the table goes on.
	wantSet(t, x, 0, 4, 1000, true)
	wantAdd(t, x, at(8, 8), []api.Cell{cell(0, 1000), cell(4, 1000), cell(15, 1000)}, 3)
	if !slices.Equal(kept, []int{2, 12, 22, 32}) || !slices.Equal(keptColumn, []int{1, 11, 21, 31}) {
		t.Errorf("lists of Column after further calls: %v, %v", kept, keptColumn)
	}
	if !slices.Equal(keptIds, []api.Id{at(0, 1), at(1, 1), at(2, 1), at(3, 1)}) {
		t.Errorf("a list of Ids after further calls: %v", keptIds)
	}
	if want := []api.Cell{cell(0, 31), cell(4, 32), cell(15, 33)}; !slices.Equal(other, want) {
		t.Errorf("a list of Remove after further calls: %v; want %v", other, want)
	}
}

func TestP402ListsOfAnEmptiedTable(t *testing.T) {
	x := three(t, 1)
	wantThreeRemoved(t, x, 0, 0)
	_ = append(x.Ids(), at(7, 7))
	_ = append(x.Column(0), 77)
	_ = append(x.Column(4), 77)
	wantThree(t, x)
	wantAdd(t, x, at(0, 1), []api.Cell{cell(15, 3), cell(0, 1), cell(4, 2)}, 0)
	_ = append(x.Ids()[:0], at(7, 7))
	_ = append(x.Column(0)[:0], 77)
	wantThree(t, x, 0)
}

func TestP402TwoTablesInTurns(t *testing.T) {
	a, b := table.New(1<<15|1<<4|1), table.New(1<<15|1<<4|1)
	wantAdd(t, a, at(1, 1), []api.Cell{cell(0, 5)}, 0)
	wantIds(t, b)
	wantRow(t, b, at(1, 1), -1)
	wantNoGet(t, b, 0, 0)
	wantNoRemove(t, b, 0)
	wantAdd(t, b, at(2, 1), []api.Cell{cell(0, 6)}, 0)
	wantAdd(t, b, at(1, 1), []api.Cell{cell(0, 7)}, 1)
	wantAdd(t, a, at(2, 1), []api.Cell{cell(0, 8)}, 1)
	wantSet(t, a, 0, 4, 9, true)
	wantColumn(t, a, 0, 5, 8)
	wantColumn(t, b, 0, 6, 7)
	wantColumn(t, b, 4, 0, 0)
	wantRemove(t, b, 0, cell(0, 6), cell(4, 0), cell(15, 0))
	wantIds(t, a, at(1, 1), at(2, 1))
	wantIds(t, b, at(1, 1))
	wantRow(t, a, at(1, 1), 0)
	wantRow(t, b, at(1, 1), 0)
	wantRow(t, b, at(2, 1), -1)
	wantRow(t, a, at(2, 1), 1)
}

func TestP402ManyTablesInTurns(t *testing.T) {
	var list []*table.Table
	var models []*model
	for _, mask := range masks()[:8] {
		list, models = append(list, table.New(mask)), append(models, newModel(mask))
	}
	n := 3
	for range 1000 {
		n = after(n)
		i := n >> 10 % len(list)
		play(t, list[i], models[i], n>>13)
		for k := range list {
			wantIds(t, list[k], models[k].ids()...)
			wantColumn(t, list[k], 0, models[k].column(0)...)
			wantColumn(t, list[k], 3, models[k].column(3)...)
		}
	}
}

// history performs a fixed run of calls and tells all results.
func history(mask uint16) []int {
	x, n := table.New(mask), 11
	var told []int
	for range 600 {
		n = after(n)
		told = append(told, x.Add(at(n>>8%20, n>>14%2), []api.Cell{cell(n>>10%16, n), cell(n>>12%16, -n)}))
		if n>>9%3 > 0 {
			cells, _ := x.Remove(n >> 16 % 9)
			for _, c := range cells {
				told = append(told, c.Comp, c.Value)
			}
		}
		for _, id := range x.Ids() {
			told = append(told, id.Index, id.Gen, x.Row(id))
		}
		for comp := range 16 {
			told = append(told, x.Column(comp)...)
		}
	}
	return told
}

func TestP402ResultsDependOnlyOnTheCalls(t *testing.T) {
	first := history(0x8421)
	for range 5 {
		history(0xffff)
		if !slices.Equal(history(0x8421), first) {
			t.Fatal("the same calls have other results")
		}
	}
}

func TestP402ResultsDoNotDependOnOtherGoroutines(t *testing.T) {
	want := history(0x8421)
	got := make([][]int, 8)
	var wait sync.WaitGroup
	for i := range got {
		wait.Add(1)
		go func() {
			defer wait.Done()
			got[i] = history(0x8421)
		}()
	}
	wait.Wait()
	for i := range got {
		if !slices.Equal(got[i], want) {
			t.Errorf("goroutine %d: other results", i)
		}
	}
}
