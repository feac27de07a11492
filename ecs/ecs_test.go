package ecs_test

import (
	"maps"
	"math"
	"slices"
	"sync"
	"testing"

	"puppeteer/api"
	"puppeteer/ecs"
)

const (
	maxRoom   = 100_000
	maxTables = 1000
)

func at(index, gen int) api.Id { return api.Id{Index: index, Gen: gen} }

func cell(comp, value int) api.Cell { return api.Cell{Comp: comp, Value: value} }

// model is a Store told another way: each entity is a map of its values, each
// table a list of entities, and identifiers are counted here.
type model struct {
	room, tables int
	taken        []int // how often a place was taken
	dropped      []int // free places among those, the latest at the end
	live         map[api.Id]map[int]int
	rows         map[int][]api.Id // by mask; empty ones too
}

func newModel(room, tables int) *model {
	return &model{
		room: min(max(room, 0), maxRoom), tables: min(max(tables, 1), maxTables),
		live: map[api.Id]map[int]int{}, rows: map[int][]api.Id{},
	}
}

func sum(values map[int]int) int {
	mask := 0
	for comp := range values {
		mask += []int{1, 2, 4, 8, 16, 32, 64, 128, 256, 512, 1024, 2048, 4096, 8192, 16384, 32768}[comp]
	}
	return mask
}

// fits reports whether an entity with these values has a table to go to.
func (m *model) fits(values map[int]int) bool {
	_, ok := m.rows[sum(values)]
	return ok || len(m.rows) < m.tables
}

func (m *model) insert(id api.Id, values map[int]int) {
	m.live[id] = values
	m.rows[sum(values)] = append(m.rows[sum(values)], id)
}

func (m *model) remove(id api.Id) {
	mask := sum(m.live[id])
	list := m.rows[mask]
	last := list[len(list)-1]
	list[slices.Index(list, id)] = last
	m.rows[mask] = list[:len(list)-1]
	delete(m.live, id)
}

func (m *model) spawn(list []api.Cell) (api.Id, api.Errno) {
	values := map[int]int{}
	for _, c := range list {
		if _, ok := values[c.Comp]; ok || c.Comp < 0 || c.Comp > 15 {
			return api.Id{}, api.ErrArg
		}
		values[c.Comp] = c.Value
	}
	if !m.fits(values) || len(m.live) >= m.room {
		return api.Id{}, api.ErrFull
	}
	index := len(m.taken)
	if n := len(m.dropped); n > 0 {
		index, m.dropped = m.dropped[n-1], m.dropped[:n-1]
	} else {
		m.taken = append(m.taken, 0)
	}
	m.taken[index]++
	id := at(index, m.taken[index])
	m.insert(id, values)
	return id, api.OK
}

func (m *model) despawn(id api.Id) api.Errno {
	if m.live[id] == nil {
		return api.ErrStale
	}
	m.remove(id)
	m.dropped = append(m.dropped, id.Index)
	return api.OK
}

// wrong tells the error of a method with an entity and a component.
func (m *model) wrong(id api.Id, comp int) api.Errno {
	if m.live[id] == nil {
		return api.ErrStale
	}
	if comp < 0 || comp > 15 {
		return api.ErrArg
	}
	return api.OK
}

func (m *model) put(id api.Id, c api.Cell) api.Errno {
	if err := m.wrong(id, c.Comp); err != api.OK {
		return err
	}
	if _, has := m.live[id][c.Comp]; has {
		m.live[id][c.Comp] = c.Value
		return api.OK
	}
	values := maps.Clone(m.live[id])
	values[c.Comp] = c.Value
	if !m.fits(values) {
		return api.ErrFull
	}
	m.remove(id)
	m.insert(id, values)
	return api.OK
}

func (m *model) get(id api.Id, comp int) (int, api.Errno) {
	if err := m.wrong(id, comp); err != api.OK {
		return 0, err
	}
	value, has := m.live[id][comp]
	if !has {
		return 0, api.ErrNone
	}
	return value, api.OK
}

func (m *model) take(id api.Id, comp int) (int, api.Errno) {
	value, err := m.get(id, comp)
	if err != api.OK {
		return 0, err
	}
	values := maps.Clone(m.live[id])
	delete(values, comp)
	if !m.fits(values) {
		return 0, api.ErrFull
	}
	m.remove(id)
	m.insert(id, values)
	return value, api.OK
}

func (m *model) mask(id api.Id) (uint16, api.Errno) {
	if m.live[id] == nil {
		return 0, api.ErrStale
	}
	return uint16(sum(m.live[id])), api.OK
}

func (m *model) masks() []uint16 {
	var list []uint16
	for _, mask := range slices.Sorted(maps.Keys(m.rows)) {
		list = append(list, uint16(mask))
	}
	return list
}

func (m *model) query(all, none uint16) []api.Id {
	var list []api.Id
	for _, mask := range m.masks() {
		fits := true
		for comp := range 16 {
			has := mask>>comp%2 == 1
			fits = fits && (has || all>>comp%2 == 0) && !(has && none>>comp%2 == 1)
		}
		if fits {
			list = append(list, m.rows[int(mask)]...)
		}
	}
	return list
}

func wantSpawn(t *testing.T, s *ecs.Store, want api.Id, list ...api.Cell) {
	t.Helper()
	if id, err := s.Spawn(list); id != want || err != api.OK {
		t.Fatalf("Spawn(%v): %v, %v; want %v, OK", list, id, err, want)
	}
}

func wantNoSpawn(t *testing.T, s *ecs.Store, want api.Errno, list ...api.Cell) {
	t.Helper()
	if id, err := s.Spawn(list); id != (api.Id{}) || err != want {
		t.Fatalf("Spawn(%v): %v, %v; want the zero Id, %v", list, id, err, want)
	}
}

func wantDespawn(t *testing.T, s *ecs.Store, id api.Id, want api.Errno) {
	t.Helper()
	if err := s.Despawn(id); err != want {
		t.Fatalf("Despawn(%v): %v; want %v", id, err, want)
	}
}

func wantPut(t *testing.T, s *ecs.Store, id api.Id, c api.Cell, want api.Errno) {
	t.Helper()
	if err := s.Put(id, c); err != want {
		t.Fatalf("Put(%v, %v): %v; want %v", id, c, err, want)
	}
}

func wantTake(t *testing.T, s *ecs.Store, id api.Id, comp, want int, wantErr api.Errno) {
	t.Helper()
	if value, err := s.Take(id, comp); value != want || err != wantErr {
		t.Fatalf("Take(%v, %d): %d, %v; want %d, %v", id, comp, value, err, want, wantErr)
	}
}

func wantGet(t *testing.T, s *ecs.Store, id api.Id, comp, want int, wantErr api.Errno) {
	t.Helper()
	if value, err := s.Get(id, comp); value != want || err != wantErr {
		t.Fatalf("Get(%v, %d): %d, %v; want %d, %v", id, comp, value, err, want, wantErr)
	}
}

func wantMask(t *testing.T, s *ecs.Store, id api.Id, want uint16, wantErr api.Errno) {
	t.Helper()
	if mask, err := s.Mask(id); mask != want || err != wantErr {
		t.Fatalf("Mask(%v): %x, %v; want %x, %v", id, mask, err, want, wantErr)
	}
}

func wantQuery(t *testing.T, s *ecs.Store, all, none uint16, want ...api.Id) {
	t.Helper()
	if got := s.Query(all, none); !slices.Equal(got, want) {
		t.Fatalf("Query(%x, %x): %v; want %v", all, none, got, want)
	}
}

func wantMasks(t *testing.T, s *ecs.Store, want ...uint16) {
	t.Helper()
	if got := s.Masks(); !slices.Equal(got, want) {
		t.Fatalf("Masks: %x; want %x", got, want)
	}
}

// wantStale calls every method with an Id of no entity, with components that are
// valid and ones that are not.
func wantStale(t *testing.T, s *ecs.Store, id api.Id) {
	t.Helper()
	wantDespawn(t, s, id, api.ErrStale)
	wantMask(t, s, id, 0, api.ErrStale)
	for _, comp := range append(noComponents(), 0, 1, 7, 15) {
		wantPut(t, s, id, cell(comp, 99), api.ErrStale)
		wantTake(t, s, id, comp, 0, api.ErrStale)
		wantGet(t, s, id, comp, 0, api.ErrStale)
	}
}

func noComponents() []int {
	return []int{
		-1, -2, -16, 16, 17, 31, 32, 63, 64, 65, 256, 65536, 1 << 31, 1 << 32, 1<<32 + 1, -1 << 32,
		math.MinInt, math.MinInt + 1, math.MaxInt, math.MaxInt - 1,
	}
}

// compare holds what s tells against m, of every entity and every component.
func compare(t *testing.T, s *ecs.Store, m *model) {
	t.Helper()
	wantMasks(t, s, m.masks()...)
	wantQuery(t, s, 0, 0, m.query(0, 0)...)
	for index, gen := range m.taken {
		for _, id := range []api.Id{at(index, gen-1), at(index, gen), at(index, gen+1)} {
			mask, err := m.mask(id)
			wantMask(t, s, id, mask, err)
			for comp := -1; comp <= 16; comp++ {
				value, err := m.get(id, comp)
				wantGet(t, s, id, comp, value, err)
			}
		}
	}
}

// maskCells makes cells of the components of mask, with values from base on.
func maskCells(mask, base int) []api.Cell {
	var list []api.Cell
	for comp := range 16 {
		if mask>>comp%2 == 1 {
			list = append(list, cell(comp, base+comp))
		}
	}
	return list
}

// pair makes a store with entities 0, 1, .. of components 1 and 3, whose values
// are 10*i + 1 and 10*i + 3.
func pair(t *testing.T, count, tables int) *ecs.Store {
	t.Helper()
	s := ecs.New(count, tables)
	for i := range count {
		wantSpawn(t, s, at(i, 1), cell(1, 10*i+1), cell(3, 10*i+3))
	}
	return s
}

// wantPair holds the rows of such a store against entities, all with their first
// values.
func wantPair(t *testing.T, s *ecs.Store, entities ...int) {
	t.Helper()
	var list []api.Id
	for _, i := range entities {
		list = append(list, at(i, 1))
		wantMask(t, s, at(i, 1), 10, api.OK)
		wantGet(t, s, at(i, 1), 1, 10*i+1, api.OK)
		wantGet(t, s, at(i, 1), 3, 10*i+3, api.OK)
	}
	wantQuery(t, s, 10, ^uint16(10), list...)
}

func TestP501ANewStoreIsEmpty(t *testing.T) {
	for _, s := range []*ecs.Store{ecs.New(5, 5), ecs.New(0, 0), ecs.New(-1, -1)} {
		wantMasks(t, s)
		for _, mask := range []uint16{0, 1, 5, 0x8000, 0xffff} {
			wantQuery(t, s, mask, 0)
			wantQuery(t, s, 0, mask)
		}
		for _, id := range []api.Id{{}, at(0, 1), at(-1, 1), at(math.MaxInt, math.MinInt)} {
			wantStale(t, s, id)
		}
		wantMasks(t, s)
	}
}

func TestP501TheZeroStoreHasNoRoom(t *testing.T) {
	var s ecs.Store
	wantNoSpawn(t, &s, api.ErrFull)
	wantNoSpawn(t, &s, api.ErrFull, cell(0, 1))
	wantNoSpawn(t, &s, api.ErrArg, cell(16, 1))
	wantStale(t, &s, api.Id{})
	wantStale(t, &s, at(0, 1))
	wantMasks(t, &s)
	wantQuery(t, &s, 0, 0)
}

func TestP501RoomIsLimited(t *testing.T) {
	for _, row := range []struct{ room, places int }{
		{math.MinInt, 0}, {-maxRoom, 0}, {-1, 0}, {0, 0}, {1, 1}, {2, 2}, {50, 50},
		{maxRoom, maxRoom}, {maxRoom + 1, maxRoom}, {math.MaxInt, maxRoom},
	} {
		s := ecs.New(row.room, 3)
		for i := range row.places {
			wantSpawn(t, s, at(i, 1), cell(i%2, i))
		}
		for range 2 {
			wantNoSpawn(t, s, api.ErrFull)
			wantNoSpawn(t, s, api.ErrFull, cell(0, 1))
			wantNoSpawn(t, s, api.ErrFull, cell(5, 1))
		}
		if got := len(s.Query(0, 0)); got != row.places {
			t.Fatalf("room %d: %d entities; want %d", row.room, got, row.places)
		}
		if got := len(s.Masks()); got != min(row.places, 2) {
			t.Fatalf("room %d: %d tables", row.room, got)
		}
	}
}

func TestP501TablesAreLimited(t *testing.T) {
	for _, row := range []struct{ tables, want int }{
		{math.MinInt, 1}, {-maxTables, 1}, {-1, 1}, {0, 1}, {1, 1}, {2, 2}, {17, 17},
		{maxTables - 1, maxTables - 1}, {maxTables, maxTables},
		{maxTables + 1, maxTables}, {1 << 16, maxTables}, {1 << 32, maxTables}, {math.MaxInt, maxTables},
	} {
		s := ecs.New(2*maxTables, row.tables)
		for i := range row.want {
			wantSpawn(t, s, at(i, 1), maskCells(60*i, i)...)
		}
		wantNoSpawn(t, s, api.ErrFull, cell(0, 1))
		wantPut(t, s, at(0, 1), cell(0, 1), api.ErrFull)
		// Tables that are there still take entities.
		wantSpawn(t, s, at(row.want, 1), maskCells(60*(row.want-1), 5)...)
		if got := len(s.Masks()); got != row.want {
			t.Fatalf("%d tables: %d tables; want %d", row.tables, got, row.want)
		}
	}
}

func TestP501SpawnWithNoCells(t *testing.T) {
	s := ecs.New(3, 3)
	wantSpawn(t, s, at(0, 1))
	if id, err := s.Spawn([]api.Cell{}); id != at(1, 1) || err != api.OK {
		t.Fatalf("Spawn with an empty list: %v, %v", id, err)
	}
	wantMasks(t, s, 0)
	wantQuery(t, s, 0, 0xffff, at(0, 1), at(1, 1))
	for comp := range 16 {
		wantGet(t, s, at(0, 1), comp, 0, api.ErrNone)
		wantTake(t, s, at(1, 1), comp, 0, api.ErrNone)
	}
	wantMask(t, s, at(0, 1), 0, api.OK)
}

func TestP501SpawnGivesTheCells(t *testing.T) {
	s := ecs.New(20, 20)
	for comp := range 16 {
		id := at(comp, 1)
		wantSpawn(t, s, id, cell(comp, -comp))
		wantMask(t, s, id, 1<<comp, api.OK)
		wantGet(t, s, id, comp, -comp, api.OK)
		wantGet(t, s, id, (comp+1)%16, 0, api.ErrNone)
	}
	wantSpawn(t, s, at(16, 1), cell(15, math.MinInt), cell(0, math.MaxInt), cell(9, 0))
	wantMask(t, s, at(16, 1), 1<<15|1<<9|1, api.OK)
	wantGet(t, s, at(16, 1), 15, math.MinInt, api.OK)
	wantGet(t, s, at(16, 1), 0, math.MaxInt, api.OK)
	wantGet(t, s, at(16, 1), 9, 0, api.OK)
	all := maskCells(0xffff, 100)
	slices.Reverse(all)
	wantSpawn(t, s, at(17, 1), all...)
	wantMask(t, s, at(17, 1), 0xffff, api.OK)
	for comp := range 16 {
		wantGet(t, s, at(17, 1), comp, 100+comp, api.OK)
	}
}

func TestP501SpawnRejectsComponents(t *testing.T) {
	s := ecs.New(3, 3)
	wantSpawn(t, s, at(0, 1), cell(4, 40))
	for _, n := range noComponents() {
		wantNoSpawn(t, s, api.ErrArg, cell(n, 1))
		wantNoSpawn(t, s, api.ErrArg, cell(4, 1), cell(n, 1))
		wantNoSpawn(t, s, api.ErrArg, cell(n, 1), cell(5, 1))
		wantNoSpawn(t, s, api.ErrArg, cell(n, 1), cell(n, 1))
	}
	for comp := range 16 {
		other := (comp + 3) % 16
		wantNoSpawn(t, s, api.ErrArg, cell(comp, 1), cell(comp, 1))
		wantNoSpawn(t, s, api.ErrArg, cell(comp, 1), cell(other, 1), cell(comp, 2))
		wantNoSpawn(t, s, api.ErrArg, cell(other, 1), cell(comp, 0), cell(comp, 0))
	}
	wantNoSpawn(t, s, api.ErrArg, append(maskCells(0xffff, 1), cell(0, 1))...)
	wantMasks(t, s, 16)
	wantQuery(t, s, 0, 0, at(0, 1))
	wantSpawn(t, s, at(1, 1), cell(6, 1)) // the rejected ones took no place
	wantSpawn(t, s, at(2, 1), cell(7, 1)) // and no table
	wantMasks(t, s, 16, 64, 128)
}

func TestP501SpawnWithoutRoomForTheEntity(t *testing.T) {
	s := ecs.New(2, 4)
	wantSpawn(t, s, at(0, 1), cell(0, 1))
	wantSpawn(t, s, at(1, 1), cell(0, 2))
	for range 3 {
		wantNoSpawn(t, s, api.ErrFull, cell(0, 3))
		wantNoSpawn(t, s, api.ErrFull, cell(1, 3)) // would need a table
		wantNoSpawn(t, s, api.ErrArg, cell(1, 3), cell(1, 3))
		wantNoSpawn(t, s, api.ErrArg, cell(16, 3))
		wantMasks(t, s, 1)
		wantQuery(t, s, 0, 0, at(0, 1), at(1, 1))
	}
	wantDespawn(t, s, at(0, 1), api.OK)
	wantSpawn(t, s, at(0, 2), cell(1, 4))
	wantMasks(t, s, 1, 2)
	wantQuery(t, s, 0, 0, at(1, 1), at(0, 2))
}

func TestP501SpawnWithoutRoomForTheTable(t *testing.T) {
	s := ecs.New(5, 2)
	wantSpawn(t, s, at(0, 1), cell(0, 1))
	wantSpawn(t, s, at(1, 1), cell(1, 1))
	wantDespawn(t, s, at(1, 1), api.OK)
	for range 3 {
		wantNoSpawn(t, s, api.ErrFull)
		wantNoSpawn(t, s, api.ErrFull, cell(0, 1), cell(1, 1))
		wantNoSpawn(t, s, api.ErrArg, cell(0, 1), cell(1, 1), cell(-1, 1))
		wantNoSpawn(t, s, api.ErrArg, cell(2, 1), cell(2, 1))
		wantMasks(t, s, 1, 2)
		wantQuery(t, s, 0, 0, at(0, 1))
	}
	// The rejected ones took no place and counted no generation.
	wantSpawn(t, s, at(1, 2), cell(1, 5))
	wantSpawn(t, s, at(2, 1), cell(0, 6))
}

func TestP501SpawnWithoutAnyRoom(t *testing.T) {
	s := ecs.New(1, 1)
	wantSpawn(t, s, at(0, 1), cell(0, 1))
	wantNoSpawn(t, s, api.ErrFull, cell(1, 1))
	wantNoSpawn(t, s, api.ErrArg, cell(1, 1), cell(99, 1))
	wantNoSpawn(t, s, api.ErrArg, cell(99, 1))
	wantNoSpawn(t, s, api.ErrArg, cell(1, 1), cell(1, 1))
	wantDespawn(t, s, at(0, 1), api.OK)
	wantNoSpawn(t, s, api.ErrFull, cell(1, 1)) // the empty table stays
	wantSpawn(t, s, at(0, 2), cell(0, 1))
}

// TestP501StaleIdentifiers asks for entities that were never there, that are gone,
// and that are gone while another one has their place.
func TestP501StaleIdentifiers(t *testing.T) {
	s := pair(t, 3, 2)
	wantDespawn(t, s, at(0, 1), api.OK)
	wantDespawn(t, s, at(1, 1), api.OK)
	wantSpawn(t, s, at(1, 2), cell(1, 5))
	strangers := []api.Id{
		{}, at(0, 1), at(0, 2), at(0, -1), at(1, 0), at(1, 1), at(1, 3), at(2, 0), at(2, 2), at(3, 0), at(3, 1),
		at(-1, 0), at(-1, 1), at(-2, 1), at(maxRoom, 1), at(1<<32, 1), at(1<<32+1, 2), at(1, 1<<32+2),
		at(math.MinInt, 1), at(math.MaxInt, 1), at(1, math.MinInt), at(2, math.MaxInt),
	}
	for _, id := range strangers {
		wantStale(t, s, id)
		wantMasks(t, s, 2, 10)
		wantQuery(t, s, 0, 0, at(1, 2), at(2, 1))
	}
	wantGet(t, s, at(1, 2), 1, 5, api.OK)
	wantGet(t, s, at(2, 1), 3, 23, api.OK)
	// A Despawn that was rejected freed no place.
	wantSpawn(t, s, at(0, 2), cell(1, 6))
	wantNoSpawn(t, s, api.ErrFull, cell(1, 7))
}

func TestP501ComponentsThatAreNone(t *testing.T) {
	s := pair(t, 3, 2)
	for _, n := range noComponents() {
		wantPut(t, s, at(1, 1), cell(n, 99), api.ErrArg)
		wantTake(t, s, at(1, 1), n, 0, api.ErrArg)
		wantGet(t, s, at(1, 1), n, 0, api.ErrArg)
		wantPair(t, s, 0, 1, 2)
		wantMasks(t, s, 10)
	}
	// Where no table has room, too.
	full := pair(t, 1, 1)
	for _, n := range noComponents() {
		wantPut(t, full, at(0, 1), cell(n, 99), api.ErrArg)
		wantTake(t, full, at(0, 1), n, 0, api.ErrArg)
		wantPair(t, full, 0)
	}
}

func TestP501DespawnMovesTheLastRow(t *testing.T) {
	s := pair(t, 5, 1)
	wantDespawn(t, s, at(1, 1), api.OK)
	wantPair(t, s, 0, 4, 2, 3)
	wantDespawn(t, s, at(3, 1), api.OK)
	wantPair(t, s, 0, 4, 2)
	wantDespawn(t, s, at(0, 1), api.OK)
	wantPair(t, s, 2, 4)
	wantSpawn(t, s, at(0, 2), cell(3, 1), cell(1, 1))
	wantQuery(t, s, 0, 0, at(2, 1), at(4, 1), at(0, 2))
}

func TestP501DespawnFreesThePlace(t *testing.T) {
	s := ecs.New(1, 1)
	for gen := 1; gen < 300; gen++ {
		wantSpawn(t, s, at(0, gen), cell(5, gen))
		wantNoSpawn(t, s, api.ErrFull, cell(5, 0))
		wantDespawn(t, s, at(0, gen-1), api.ErrStale)
		wantGet(t, s, at(0, gen), 5, gen, api.OK)
		wantDespawn(t, s, at(0, gen), api.OK)
		wantDespawn(t, s, at(0, gen), api.ErrStale)
		wantQuery(t, s, 0, 0)
		wantMasks(t, s, 32)
	}
}

func TestP501IdentifiersAreThoseOfIds(t *testing.T) {
	s := ecs.New(5, 1)
	for i := range 4 {
		wantSpawn(t, s, at(i, 1))
	}
	for _, i := range []int{2, 0, 3} {
		wantDespawn(t, s, at(i, 1), api.OK)
	}
	wantSpawn(t, s, at(3, 2))
	wantSpawn(t, s, at(0, 2))
	wantSpawn(t, s, at(2, 2))
	wantSpawn(t, s, at(4, 1))
	wantNoSpawn(t, s, api.ErrFull)
	wantQuery(t, s, 0, 0, at(1, 1), at(3, 2), at(0, 2), at(2, 2), at(4, 1))
}

func TestP501PutOfAComponentThatIsThere(t *testing.T) {
	for _, value := range []int{0, 1, -1, math.MinInt, math.MaxInt} {
		s := pair(t, 3, 1)
		wantPut(t, s, at(1, 1), cell(3, value), api.OK)
		wantGet(t, s, at(1, 1), 3, value, api.OK)
		wantGet(t, s, at(1, 1), 1, 11, api.OK)
		wantPut(t, s, at(1, 1), cell(3, 13), api.OK)
		wantPair(t, s, 0, 1, 2) // the row stays where it was
		wantMasks(t, s, 10)
	}
}

func TestP501PutOfANewComponent(t *testing.T) {
	for comp := range 16 {
		if comp == 1 || comp == 3 {
			continue
		}
		s := pair(t, 4, 2)
		mask := uint16(10 | 1<<comp)
		wantPut(t, s, at(1, 1), cell(comp, -7), api.OK)
		wantMasks(t, s, min(mask, 10), max(mask, 10))
		wantPair(t, s, 0, 3, 2)
		wantMask(t, s, at(1, 1), mask, api.OK)
		wantGet(t, s, at(1, 1), 1, 11, api.OK)
		wantGet(t, s, at(1, 1), 3, 13, api.OK)
		wantGet(t, s, at(1, 1), comp, -7, api.OK)
		wantPut(t, s, at(0, 1), cell(comp, 0), api.OK)
		wantQuery(t, s, mask, 0, at(1, 1), at(0, 1))
		wantGet(t, s, at(0, 1), comp, 0, api.OK)
		wantPair(t, s, 2, 3)
	}
}

func TestP501PutWithoutRoomForTheTable(t *testing.T) {
	s := pair(t, 4, 2)
	wantPut(t, s, at(3, 1), cell(0, 30), api.OK)
	for range 3 {
		wantPut(t, s, at(0, 1), cell(2, 1), api.ErrFull)
		wantPut(t, s, at(3, 1), cell(2, 1), api.ErrFull)
		wantPut(t, s, at(0, 1), cell(16, 1), api.ErrArg)
		wantGet(t, s, at(0, 1), 2, 0, api.ErrNone)
		wantPair(t, s, 0, 1, 2)
		wantMask(t, s, at(3, 1), 11, api.OK)
		wantMasks(t, s, 10, 11)
	}
	wantPut(t, s, at(0, 1), cell(1, 5), api.OK) // needs no table
	wantPut(t, s, at(0, 1), cell(0, 6), api.OK) // its table is there
	wantQuery(t, s, 11, 0, at(3, 1), at(0, 1))
	wantGet(t, s, at(0, 1), 1, 5, api.OK)
}

func TestP501PutIntoAnEmptyTable(t *testing.T) {
	s := ecs.New(2, 2)
	wantSpawn(t, s, at(0, 1), cell(0, 1), cell(1, 2))
	wantSpawn(t, s, at(1, 1), cell(0, 3))
	wantDespawn(t, s, at(0, 1), api.OK)
	wantPut(t, s, at(1, 1), cell(1, 4), api.OK)
	wantMasks(t, s, 1, 3)
	wantGet(t, s, at(1, 1), 0, 3, api.OK)
	wantGet(t, s, at(1, 1), 1, 4, api.OK)
	wantQuery(t, s, 0, 2)
}

func TestP501TakeOfAComponentThatIsThere(t *testing.T) {
	s := pair(t, 4, 3)
	wantTake(t, s, at(1, 1), 3, 13, api.OK)
	wantPair(t, s, 0, 3, 2)
	wantMasks(t, s, 2, 10)
	wantMask(t, s, at(1, 1), 2, api.OK)
	wantGet(t, s, at(1, 1), 1, 11, api.OK)
	wantGet(t, s, at(1, 1), 3, 0, api.ErrNone)
	wantTake(t, s, at(1, 1), 3, 0, api.ErrNone)
	wantTake(t, s, at(0, 1), 3, 3, api.OK)
	wantQuery(t, s, 2, 8, at(1, 1), at(0, 1))
	wantPair(t, s, 2, 3)
	wantTake(t, s, at(1, 1), 1, 11, api.OK)
	wantMask(t, s, at(1, 1), 0, api.OK)
	wantMasks(t, s, 0, 2, 10)
	wantQuery(t, s, 0, 0, at(1, 1), at(0, 1), at(2, 1), at(3, 1))
}

func TestP501TakeReturnsWhatWasPut(t *testing.T) {
	for _, value := range []int{0, 1, -1, math.MinInt, math.MaxInt} {
		s := pair(t, 2, 3)
		wantPut(t, s, at(0, 1), cell(3, value), api.OK)
		wantTake(t, s, at(0, 1), 3, value, api.OK)
		wantPut(t, s, at(0, 1), cell(15, value), api.OK)
		wantTake(t, s, at(0, 1), 15, value, api.OK)
		wantPut(t, s, at(0, 1), cell(3, 3), api.OK)
		wantPair(t, s, 1, 0)
	}
}

func TestP501TakeOfAComponentThatIsMissing(t *testing.T) {
	for _, tables := range []int{1, 5} {
		s := pair(t, 3, tables)
		for comp := range 16 {
			if comp != 1 && comp != 3 {
				wantTake(t, s, at(1, 1), comp, 0, api.ErrNone)
				wantGet(t, s, at(1, 1), comp, 0, api.ErrNone)
			}
		}
		wantPair(t, s, 0, 1, 2)
		wantMasks(t, s, 10)
	}
}

func TestP501TakeWithoutRoomForTheTable(t *testing.T) {
	s := pair(t, 3, 1)
	for range 3 {
		wantTake(t, s, at(0, 1), 1, 0, api.ErrFull)
		wantTake(t, s, at(1, 1), 3, 0, api.ErrFull)
		wantTake(t, s, at(1, 1), 2, 0, api.ErrNone)
		wantTake(t, s, at(1, 1), 16, 0, api.ErrArg)
		wantPair(t, s, 0, 1, 2)
		wantMasks(t, s, 10)
	}
	// The table that it would move to is there, though empty.
	s = ecs.New(2, 2)
	wantSpawn(t, s, at(0, 1), cell(1, 5))
	wantSpawn(t, s, at(1, 1), cell(1, 6), cell(2, 7))
	wantDespawn(t, s, at(0, 1), api.OK)
	wantTake(t, s, at(1, 1), 1, 0, api.ErrFull)
	wantTake(t, s, at(1, 1), 2, 7, api.OK)
	wantMasks(t, s, 2, 6)
	wantGet(t, s, at(1, 1), 1, 6, api.OK)
	wantQuery(t, s, 0, 4, at(1, 1))
}

func TestP501AComponentAgainHasItsNewValue(t *testing.T) {
	s := ecs.New(2, 4)
	wantSpawn(t, s, at(0, 1), cell(2, 5), cell(6, 7))
	wantTake(t, s, at(0, 1), 6, 7, api.OK)
	wantPut(t, s, at(0, 1), cell(6, 8), api.OK)
	wantGet(t, s, at(0, 1), 6, 8, api.OK)
	wantGet(t, s, at(0, 1), 2, 5, api.OK)
	wantDespawn(t, s, at(0, 1), api.OK)
	wantSpawn(t, s, at(0, 2), cell(2, 0))
	wantGet(t, s, at(0, 2), 6, 0, api.ErrNone)
	wantGet(t, s, at(0, 2), 2, 0, api.OK)
}

func TestP501RowsBehindPutTakeAndDespawn(t *testing.T) {
	s := pair(t, 6, 3)
	wantPut(t, s, at(2, 1), cell(0, 9), api.OK)
	wantPair(t, s, 0, 1, 5, 3, 4)
	wantPut(t, s, at(0, 1), cell(0, 9), api.OK)
	wantPair(t, s, 4, 1, 5, 3)
	wantQuery(t, s, 11, 0, at(2, 1), at(0, 1))
	wantTake(t, s, at(2, 1), 0, 9, api.OK)
	wantPair(t, s, 4, 1, 5, 3, 2)
	wantQuery(t, s, 11, 0, at(0, 1))
	wantDespawn(t, s, at(4, 1), api.OK)
	wantPair(t, s, 2, 1, 5, 3)
	// The last row goes and comes back as the last one.
	wantPut(t, s, at(3, 1), cell(0, 9), api.OK)
	wantTake(t, s, at(3, 1), 0, 9, api.OK)
	wantPair(t, s, 2, 1, 5, 3)
	wantPut(t, s, at(1, 1), cell(0, 9), api.OK)
	wantTake(t, s, at(1, 1), 0, 9, api.OK)
	wantPair(t, s, 2, 3, 5, 1)
}

func TestP501TablesStayWhenTheyAreEmpty(t *testing.T) {
	s := ecs.New(3, 3)
	wantSpawn(t, s, at(0, 1), cell(0, 1))
	wantPut(t, s, at(0, 1), cell(1, 2), api.OK)
	wantTake(t, s, at(0, 1), 0, 1, api.OK)
	wantMasks(t, s, 1, 2, 3)
	wantPut(t, s, at(0, 1), cell(4, 1), api.ErrFull)
	wantTake(t, s, at(0, 1), 1, 0, api.ErrFull)
	wantDespawn(t, s, at(0, 1), api.OK)
	wantMasks(t, s, 1, 2, 3)
	wantNoSpawn(t, s, api.ErrFull)
	wantNoSpawn(t, s, api.ErrFull, cell(4, 1))
	wantSpawn(t, s, at(0, 2), cell(1, 1), cell(0, 1))
	wantQuery(t, s, 0, 0, at(0, 2))
}

func TestP502QueryByAllAndNone(t *testing.T) {
	s := ecs.New(300, 300)
	m := newModel(300, 300)
	masks := []int{0, 1, 2, 3, 5, 8, 13, 0x8000, 0x8001, 0x8421, 0x7fff, 0xffff, 0x5555, 0xaaaa}
	for i := range 3 * len(masks) {
		// Not in the order of masks, and not all rows of one mask in turn.
		list := maskCells(masks[i*5%len(masks)], i)
		id, _ := m.spawn(list)
		wantSpawn(t, s, id, list...)
	}
	bits := append([]int{4, 0x10, 0x4000, 0x0840, 0x8002, 6, 7, 9, 0x7ffe}, masks...)
	for _, all := range bits {
		for _, none := range bits {
			wantQuery(t, s, uint16(all), uint16(none), m.query(uint16(all), uint16(none))...)
		}
	}
	wantQuery(t, s, 2, 2)
}

func TestP502QueryIsInOrderOfMasksAndRows(t *testing.T) {
	s := ecs.New(10, 10)
	wantSpawn(t, s, at(0, 1), cell(15, 1))
	wantSpawn(t, s, at(1, 1), cell(0, 1))
	wantSpawn(t, s, at(2, 1), cell(8, 1))
	wantSpawn(t, s, at(3, 1))
	wantSpawn(t, s, at(4, 1), cell(0, 1))
	wantSpawn(t, s, at(5, 1), cell(15, 1))
	wantSpawn(t, s, at(6, 1), cell(8, 1), cell(0, 1))
	wantQuery(t, s, 0, 0, at(3, 1), at(1, 1), at(4, 1), at(2, 1), at(6, 1), at(0, 1), at(5, 1))
	wantQuery(t, s, 1, 0, at(1, 1), at(4, 1), at(6, 1))
	wantQuery(t, s, 0, 1, at(3, 1), at(2, 1), at(0, 1), at(5, 1))
	wantQuery(t, s, 256, 1, at(2, 1))
	wantQuery(t, s, 0, 0x8101, at(3, 1))
	wantQuery(t, s, 2, 0)
	wantQuery(t, s, 0, 2, s.Query(0, 0)...)
	wantMasks(t, s, 0, 1, 256, 257, 0x8000)
	wantPut(t, s, at(1, 1), cell(15, 1), api.OK)
	wantQuery(t, s, 0x8000, 0, at(0, 1), at(5, 1), at(1, 1))
	wantQuery(t, s, 1, 0, at(4, 1), at(6, 1), at(1, 1))
}

func TestP502MasksAreInAscendingOrder(t *testing.T) {
	s, n := ecs.New(3000, maxTables), 5
	var want []uint16
	wantMasks(t, s)
	for len(want) < 400 {
		n = after(n)
		mask := uint16(n >> 8)
		if _, err := s.Spawn(maskCells(int(mask), 0)); err != api.OK {
			t.Fatalf("Spawn with mask %x: %v", mask, err)
		}
		if !slices.Contains(want, mask) {
			want = append(want, mask)
		}
		slices.Sort(want)
		wantMasks(t, s, want...)
	}
}

// after is the number that follows n in a fixed sequence without a pattern.
func after(n int) int { return (n*1103515245 + 12345) & 0x7fffffff }

// play performs one call that n chooses on both.
func play(t *testing.T, s *ecs.Store, m *model, n int) {
	t.Helper()
	comp, index := n>>5%5*(n>>10%4+1)-1, n>>7%(m.room+1)
	id := at(index, 1)
	if index < len(m.taken) {
		id.Gen = m.taken[index] - n>>12%9/8
	}
	switch n % 8 {
	case 0, 1:
		var list []api.Cell
		for k := range n >> 15 % 4 {
			list = append(list, cell((comp+k*(n>>3%5))%17, n+k))
		}
		want, wantErr := m.spawn(list)
		if got, err := s.Spawn(list); got != want || err != wantErr {
			t.Fatalf("Spawn(%v): %v, %v; want %v, %v", list, got, err, want, wantErr)
		}
	case 2:
		wantDespawn(t, s, id, m.despawn(id))
	case 3, 4, 5:
		wantPut(t, s, id, cell(comp, n), m.put(id, cell(comp, n)))
	default:
		value, err := m.take(id, comp)
		wantTake(t, s, id, comp, value, err)
	}
}

func TestP501AllCallsInAnyOrder(t *testing.T) {
	for _, room := range []int{0, 1, 2, 5, 12} {
		for _, tables := range []int{0, 1, 2, 3, 8, 30, maxTables} {
			s, m := ecs.New(room, tables), newModel(room, tables)
			n := 31*room + tables
			for range 1000 {
				n = after(n)
				play(t, s, m, n>>9)
				compare(t, s, m)
				all, none := uint16(1<<(n>>11%5)-1), uint16(1<<(n>>14%16))
				wantQuery(t, s, all, none, m.query(all, none)...)
			}
		}
	}
}

// call performs the call number kind on both: on the newest entities of places 0
// and 1, with components 0 and 1.
func call(t *testing.T, s *ecs.Store, m *model, kind, value int) {
	t.Helper()
	id := func(index int) api.Id {
		if index < len(m.taken) {
			return at(index, m.taken[index])
		}
		return at(index, 1)
	}(kind % 2)
	switch comp := kind / 2 % 2; kind / 4 {
	case 0:
		list := maskCells(kind, value)
		want, wantErr := m.spawn(list)
		if got, err := s.Spawn(list); got != want || err != wantErr {
			t.Fatalf("Spawn(%v): %v, %v; want %v, %v", list, got, err, want, wantErr)
		}
	case 1:
		wantPut(t, s, id, cell(comp, value), m.put(id, cell(comp, value)))
	case 2:
		taken, err := m.take(id, comp)
		wantTake(t, s, id, comp, taken, err)
	default:
		wantDespawn(t, s, id, m.despawn(id))
	}
}

// TestP501ShortRuns performs every run of four calls behind a Spawn.
func TestP501ShortRuns(t *testing.T) {
	const calls, kinds = 4, 14
	runs := 1
	for range calls {
		runs *= kinds
	}
	for run := range runs {
		for _, size := range [][2]int{{2, 2}, {2, 3}, {3, 4}, {1, 3}} {
			s, m := ecs.New(size[0], size[1]), newModel(size[0], size[1])
			call(t, s, m, run%4, 100)
			for k, rest := 0, run; k < calls; k, rest = k+1, rest/kinds {
				call(t, s, m, rest%kinds, 100*k+200)
			}
			wantMasks(t, s, m.masks()...)
			wantQuery(t, s, 0, 0, m.query(0, 0)...)
			for id, values := range m.live {
				for comp, value := range values {
					wantGet(t, s, id, comp, value, api.OK)
				}
			}
		}
	}
}

func TestP501ManyEntities(t *testing.T) {
	const count = 20_000
	s := ecs.New(count, 4)
	for i := range count {
		wantSpawn(t, s, at(i, 1), cell(0, i))
	}
	for i := range count {
		wantPut(t, s, at(i, 1), cell(1, -i), api.OK)
	}
	for i := range count / 2 {
		wantTake(t, s, at(i, 1), 0, i, api.OK)
	}
	for i := range count {
		wantGet(t, s, at(i, 1), 1, -i, api.OK)
	}
	for i := range count {
		wantDespawn(t, s, at(i, 1), api.OK)
	}
	wantQuery(t, s, 0, 0)
	wantMasks(t, s, 1, 2, 3)
}

func TestP503CellsAreNotKeptOrChanged(t *testing.T) {
	s := ecs.New(9, 9)
	room := []api.Cell{cell(3, 1), cell(0, 2), cell(9, 3), cell(9, 4), cell(77, 5)}
	before := slices.Clone(room)
	wantSpawn(t, s, at(0, 1), room[:2]...) // with spare capacity
	wantNoSpawn(t, s, api.ErrArg, room[:4]...)
	wantNoSpawn(t, s, api.ErrArg, room...)
	wantSpawn(t, s, at(1, 1), room[:3]...)
	wantPut(t, s, at(0, 1), cell(5, 50), api.OK)
	wantTake(t, s, at(1, 1), 9, 3, api.OK)
	if !slices.Equal(room, before) {
		t.Fatalf("the store changed its cells: %v", room)
	}
	for i := range room {
		room[i] = cell(1, 99)
	}
	wantMasks(t, s, 9, 41, 521)
	wantQuery(t, s, 0, 0, at(1, 1), at(0, 1))
	for i := range 2 {
		wantGet(t, s, at(i, 1), 3, 1, api.OK)
		wantGet(t, s, at(i, 1), 0, 2, api.OK)
		wantGet(t, s, at(i, 1), 1, 0, api.ErrNone)
	}
}

// spoil overwrites a list and its spare capacity.
func spoil[T any](list []T, with T) {
	list = list[:cap(list)]
	for i := range list {
		list[i] = with
	}
}

func TestP503ListsBelongToTheCaller(t *testing.T) {
	s := pair(t, 4, 4)
	wantPut(t, s, at(0, 1), cell(0, 1), api.OK)
	want := []api.Id{at(3, 1), at(1, 1), at(2, 1), at(0, 1)}
	kept, one, keptMasks := s.Query(0, 0), s.Query(1, 0), s.Masks()
	for range 2 {
		spoil(s.Query(0, 0), at(-9, -9))
		spoil(s.Query(10, 1), at(-9, -9))
		spoil(s.Query(1, 0), at(-9, -9))
		spoil(s.Masks(), 0xbeef)
		_ = append(s.Query(10, 1)[:0], at(-9, -9))
		wantQuery(t, s, 0, 0, want...)
		wantMasks(t, s, 10, 11)
		wantPair(t, s, 3, 1, 2)
	}
	// Lists that were returned stay as they were when the store goes on.
	wantPut(t, s, at(3, 1), cell(4, 1), api.OK)
	wantTake(t, s, at(0, 1), 0, 1, api.OK)
	wantDespawn(t, s, at(1, 1), api.OK)
	if !slices.Equal(kept, want) || !slices.Equal(one, want[3:]) {
		t.Errorf("lists of Query after further calls: %v, %v", kept, one)
	}
	if !slices.Equal(keptMasks, []uint16{10, 11}) {
		t.Errorf("a list of Masks after further calls: %x", keptMasks)
	}
}

func TestP503TwoStoresInTurns(t *testing.T) {
	a, b := ecs.New(2, 2), ecs.New(3, 1)
	wantSpawn(t, a, at(0, 1), cell(0, 5))
	wantMasks(t, b)
	wantQuery(t, b, 0, 0)
	wantStale(t, b, at(0, 1))
	wantSpawn(t, b, at(0, 1), cell(1, 6))
	wantGet(t, a, at(0, 1), 0, 5, api.OK)
	wantGet(t, a, at(0, 1), 1, 0, api.ErrNone)
	wantPut(t, a, at(0, 1), cell(1, 7), api.OK)
	wantPut(t, b, at(0, 1), cell(0, 8), api.ErrFull)
	wantMasks(t, a, 1, 3)
	wantMasks(t, b, 2)
	wantSpawn(t, b, at(1, 1), cell(1, 9))
	wantStale(t, a, at(1, 1))
	wantDespawn(t, b, at(0, 1), api.OK)
	wantGet(t, a, at(0, 1), 1, 7, api.OK)
	wantSpawn(t, a, at(1, 1), cell(0, 10))
	wantNoSpawn(t, a, api.ErrFull, cell(0, 11))
	wantSpawn(t, b, at(0, 2), cell(1, 12))
	wantStale(t, a, at(0, 2))
	wantQuery(t, a, 0, 0, at(1, 1), at(0, 1))
	wantQuery(t, b, 0, 0, at(1, 1), at(0, 2))
}

func TestP503ManyStoresInTurns(t *testing.T) {
	var list []*ecs.Store
	var models []*model
	for i := range 6 {
		list, models = append(list, ecs.New(i+1, 2*i)), append(models, newModel(i+1, 2*i))
	}
	n := 3
	for range 2000 {
		n = after(n)
		i := n >> 10 % len(list)
		play(t, list[i], models[i], n>>13)
		for k := range list {
			wantMasks(t, list[k], models[k].masks()...)
			wantQuery(t, list[k], 0, 0, models[k].query(0, 0)...)
		}
	}
}

// history performs a fixed run of calls and tells all results.
func history(room, tables int) []int {
	s, n := ecs.New(room, tables), 11
	var told []int
	for range 800 {
		n = after(n)
		id, err := s.Spawn(maskCells(1<<(n>>8%16)|1<<(n>>13%16), n))
		told = append(told, id.Index, id.Gen, int(err))
		all := s.Query(0, 0)
		for k, id := range all {
			told = append(told, id.Index, id.Gen)
			if n>>(k%16+4)%7 == 0 {
				told = append(told, int(s.Put(id, cell(n>>9%16, k))))
				value, err := s.Take(id, n>>15%16)
				told = append(told, value, int(err))
			}
		}
		if n>>10%3 > 0 && len(all) > 0 {
			told = append(told, int(s.Despawn(all[n>>11%len(all)])))
		}
		for _, mask := range s.Masks() {
			told = append(told, int(mask))
		}
	}
	return told
}

func TestP503ResultsDependOnlyOnTheCalls(t *testing.T) {
	first := history(20, 60)
	for range 5 {
		history(7, 900)
		if !slices.Equal(history(20, 60), first) {
			t.Fatal("the same calls have other results")
		}
	}
}

func TestP503ResultsDoNotDependOnOtherGoroutines(t *testing.T) {
	want := history(20, 60)
	got := make([][]int, 8)
	var wait sync.WaitGroup
	for i := range got {
		wait.Add(1)
		go func() {
			defer wait.Done()
			got[i] = history(20, 60)
		}()
	}
	wait.Wait()
	for i := range got {
		if !slices.Equal(got[i], want) {
			t.Errorf("goroutine %d: other results", i)
		}
	}
}
