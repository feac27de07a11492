package ids_test

import (
	"maps"
	"math"
	"slices"
	"sync"
	"testing"

	"puppeteer/api"
	"puppeteer/ids"
)

const maxRoom = 100_000

func at(index, gen int) api.Id { return api.Id{Index: index, Gen: gen} }

// model is an Ids told another way: by what was returned and dropped, in the
// order of the calls, without a stack or a count of places.
type model struct {
	room   int
	taken  map[int]int // how often a place was taken
	live   map[int]int // the generation of a place in use
	lastAt map[int]int // when a place was dropped last
	clock  int
}

func newModel(room int) *model {
	return &model{room: min(max(room, 0), maxRoom), taken: map[int]int{}, live: map[int]int{}, lastAt: map[int]int{}}
}

func (m *model) make() (api.Id, api.Errno) {
	best := -1
	for i := range m.room {
		if _, used := m.live[i]; used {
			continue
		}
		if best < 0 || m.lastAt[i] > m.lastAt[best] {
			best = i
		}
	}
	if best < 0 {
		return api.Id{}, api.ErrFull
	}
	m.taken[best]++
	m.live[best] = m.taken[best]
	return at(best, m.taken[best]), api.OK
}

func (m *model) has(id api.Id) bool {
	gen, used := m.live[id.Index]
	return used && gen == id.Gen
}

func (m *model) drop(id api.Id) api.Errno {
	if !m.has(id) {
		return api.ErrStale
	}
	m.clock++
	m.lastAt[id.Index] = m.clock
	delete(m.live, id.Index)
	return api.OK
}

func (m *model) all() []api.Id {
	var list []api.Id
	for _, i := range slices.Sorted(maps.Keys(m.live)) {
		list = append(list, at(i, m.live[i]))
	}
	return list
}

// wantMake calls Make and holds its results against what is wanted.
func wantMake(t *testing.T, s *ids.Ids, want api.Id) {
	t.Helper()
	if id, err := s.Make(); id != want || err != api.OK {
		t.Fatalf("Make: %v, %v; want %v, OK", id, err, want)
	}
}

func wantFull(t *testing.T, s *ids.Ids) {
	t.Helper()
	if id, err := s.Make(); id != (api.Id{}) || err != api.ErrFull {
		t.Fatalf("Make without a free place: %v, %v; want the zero Id, ErrFull", id, err)
	}
}

func wantDrop(t *testing.T, s *ids.Ids, id api.Id, want api.Errno) {
	t.Helper()
	if err := s.Drop(id); err != want {
		t.Fatalf("Drop(%v): %v; want %v", id, err, want)
	}
}

func wantAll(t *testing.T, s *ids.Ids, want ...api.Id) {
	t.Helper()
	if got := s.All(); !slices.Equal(got, want) {
		t.Fatalf("All: %v; want %v", got, want)
	}
}

// fill takes n places that were never taken.
func fill(t *testing.T, s *ids.Ids, n int) {
	t.Helper()
	for i := range n {
		wantMake(t, s, at(i, 1))
	}
}

func TestP301TheFirstMakeTakesPlaceZero(t *testing.T) {
	wantMake(t, ids.New(5), at(0, 1))
}

func TestP301RoomIsLimited(t *testing.T) {
	for _, row := range []struct{ room, places int }{
		{math.MinInt, 0}, {-maxRoom, 0}, {-4, 0}, {-1, 0}, {0, 0},
		{1, 1}, {2, 2}, {7, 7}, {1000, 1000},
		{maxRoom - 1, maxRoom - 1}, {maxRoom, maxRoom},
		{maxRoom + 1, maxRoom}, {1 << 20, maxRoom}, {1 << 40, maxRoom}, {math.MaxInt, maxRoom},
	} {
		s := ids.New(row.room)
		wantAll(t, s)
		fill(t, s, row.places)
		wantFull(t, s)
		wantFull(t, s)
		all := s.All()
		if len(all) != row.places {
			t.Fatalf("room %d: %d identifiers; want %d", row.room, len(all), row.places)
		}
		for i, id := range all {
			if id != at(i, 1) || !s.Has(id) {
				t.Fatalf("room %d: All has %v at %d, Has %v", row.room, id, i, s.Has(id))
			}
		}
		if s.Has(at(row.places, 1)) || s.Has(at(-1, 1)) {
			t.Errorf("room %d: Has is true beyond the places", row.room)
		}
	}
}

func TestP301NoRoom(t *testing.T) {
	s := ids.New(0)
	for range 3 {
		wantFull(t, s)
		for _, id := range []api.Id{{}, at(0, 1), at(-1, 1), at(1, 1)} {
			wantDrop(t, s, id, api.ErrStale)
		}
		wantAll(t, s)
	}
}

func TestP301OnePlace(t *testing.T) {
	s := ids.New(1)
	for gen := 1; gen <= 1000; gen++ {
		wantMake(t, s, at(0, gen))
		wantFull(t, s)
		wantDrop(t, s, at(0, gen-1), api.ErrStale)
		wantDrop(t, s, at(0, gen+1), api.ErrStale)
		wantAll(t, s, at(0, gen))
		wantDrop(t, s, at(0, gen), api.OK)
		wantDrop(t, s, at(0, gen), api.ErrStale)
		wantAll(t, s)
	}
}

func TestP301MakeTakesThePlaceThatWasDroppedLast(t *testing.T) {
	s := ids.New(5)
	fill(t, s, 5)
	for _, i := range []int{3, 0, 4, 1} {
		wantDrop(t, s, at(i, 1), api.OK)
	}
	wantMake(t, s, at(1, 2))
	wantMake(t, s, at(4, 2))
	// A drop in between comes ahead of those that wait from before.
	wantDrop(t, s, at(2, 1), api.OK)
	wantMake(t, s, at(2, 2))
	wantMake(t, s, at(0, 2))
	wantMake(t, s, at(3, 2))
	wantFull(t, s)
}

func TestP301ADropAgainCountsFromTheLastDrop(t *testing.T) {
	s := ids.New(3)
	fill(t, s, 3)
	wantDrop(t, s, at(0, 1), api.OK)
	wantDrop(t, s, at(1, 1), api.OK)
	wantMake(t, s, at(1, 2))
	wantMake(t, s, at(0, 2))
	wantDrop(t, s, at(1, 2), api.OK)
	wantDrop(t, s, at(0, 2), api.OK)
	wantMake(t, s, at(0, 3))
	wantMake(t, s, at(1, 3))
	wantFull(t, s)
}

func TestP301MakeTakesDroppedPlacesAheadOfNewOnes(t *testing.T) {
	s := ids.New(6)
	fill(t, s, 3)
	wantDrop(t, s, at(0, 1), api.OK)
	wantDrop(t, s, at(2, 1), api.OK)
	wantMake(t, s, at(2, 2))
	wantMake(t, s, at(0, 2))
	wantMake(t, s, at(3, 1))
	wantDrop(t, s, at(1, 1), api.OK)
	wantMake(t, s, at(1, 2))
	wantMake(t, s, at(4, 1))
	wantMake(t, s, at(5, 1))
	wantFull(t, s)
	wantAll(t, s, at(0, 2), at(1, 2), at(2, 2), at(3, 1), at(4, 1), at(5, 1))
}

func TestP301GenCountsEachPlaceAlone(t *testing.T) {
	s := ids.New(3)
	fill(t, s, 2)
	for gen := 1; gen < 50; gen++ {
		wantDrop(t, s, at(1, gen), api.OK)
		wantMake(t, s, at(1, gen+1))
	}
	wantDrop(t, s, at(0, 1), api.OK)
	wantMake(t, s, at(0, 2))
	wantMake(t, s, at(2, 1))
}

func TestP301MakeAgainAfterErrFull(t *testing.T) {
	s := ids.New(2)
	fill(t, s, 2)
	wantFull(t, s)
	wantFull(t, s)
	wantDrop(t, s, at(0, 1), api.OK)
	wantMake(t, s, at(0, 2)) // ErrFull counted no generation
	wantFull(t, s)
	wantAll(t, s, at(0, 2), at(1, 1))
}

// strangers lists identifiers that an Ids of three places does not have after
// the calls of TestP301StaleIdentifiers.
func strangers() []api.Id {
	list := []api.Id{
		{}, at(0, 1), at(0, 3), at(1, 1), at(1, 2), at(2, 0), at(2, 2),
		at(3, 0), at(3, 1), at(4, 1), at(maxRoom, 1),
	}
	for _, n := range []int{-1, -2, -maxRoom, math.MinInt, math.MinInt + 1, math.MaxInt, 1 << 32, 1<<32 + 1, 1 << 31} {
		list = append(list, at(n, 0), at(n, 1), at(n, 2), at(n, n), at(0, n), at(1, n), at(2, n), at(3, n))
	}
	return list
}

func TestP301StaleIdentifiers(t *testing.T) {
	s := ids.New(4)
	fill(t, s, 3)
	wantDrop(t, s, at(0, 1), api.OK)
	wantMake(t, s, at(0, 2)) // in use, with an older generation
	wantDrop(t, s, at(1, 1), api.OK)
	// Place 0 is in use, 1 was dropped, 2 is in use, 3 was never taken.
	for _, id := range strangers() {
		if s.Has(id) {
			t.Errorf("Has(%v) is true", id)
		}
		wantDrop(t, s, id, api.ErrStale)
		wantAll(t, s, at(0, 2), at(2, 1))
	}
	if !s.Has(at(0, 2)) || !s.Has(at(2, 1)) {
		t.Error("a place in use is lost")
	}
	// What was rejected freed no place and counted no drop.
	wantMake(t, s, at(1, 2))
	wantMake(t, s, at(3, 1))
	wantFull(t, s)
}

func TestP301AllIsInAscendingOrderAfterDrops(t *testing.T) {
	s := ids.New(6)
	fill(t, s, 6)
	for _, i := range []int{5, 1, 3} {
		wantDrop(t, s, at(i, 1), api.OK)
	}
	wantAll(t, s, at(0, 1), at(2, 1), at(4, 1))
	wantMake(t, s, at(3, 2))
	wantAll(t, s, at(0, 1), at(2, 1), at(3, 2), at(4, 1))
	wantMake(t, s, at(1, 2))
	wantMake(t, s, at(5, 2))
	wantAll(t, s, at(0, 1), at(1, 2), at(2, 1), at(3, 2), at(4, 1), at(5, 2))
	for _, id := range s.All() {
		wantDrop(t, s, id, api.OK)
	}
	wantAll(t, s)
}

// compare holds all that s tells against m, about the places from -1 to one
// beyond the last and the generations around those in use.
func compare(t *testing.T, s *ids.Ids, m *model) {
	t.Helper()
	wantAll(t, s, m.all()...)
	for i := -1; i <= m.room; i++ {
		for gen := m.taken[i] - 2; gen <= m.taken[i]+1; gen++ {
			if id := at(i, gen); s.Has(id) != m.has(id) {
				t.Fatalf("Has(%v): %v; want %v", id, s.Has(id), m.has(id))
			}
		}
	}
}

// play performs one call that n chooses on both.
func play(t *testing.T, s *ids.Ids, m *model, n int) {
	t.Helper()
	if n%(2*m.room+1) < m.room {
		id, err := s.Make()
		if want, wantErr := m.make(); id != want || err != wantErr {
			t.Fatalf("Make: %v, %v; want %v, %v", id, err, want, wantErr)
		}
		return
	}
	index := n%(2*m.room+1) - m.room
	id := at(index, m.taken[index]-n%7/6)
	if err, want := s.Drop(id), m.drop(id); err != want {
		t.Fatalf("Drop(%v): %v; want %v", id, err, want)
	}
}

// after is the number that follows n in a fixed sequence without a pattern.
func after(n int) int { return (n*1103515245 + 12345) & 0x7fffffff }

func TestP301AllCallsInAnyOrder(t *testing.T) {
	for room := range 9 {
		s, m := ids.New(room), newModel(room)
		n := room + 1
		for range 3000 {
			n = after(n)
			play(t, s, m, n>>8)
			compare(t, s, m)
		}
	}
}

// TestP301ShortRuns performs every run of seven calls on three places, each call
// Make or the Drop of the newest identifier of a place.
func TestP301ShortRuns(t *testing.T) {
	const calls, kinds = 7, 4
	runs := 1
	for range calls {
		runs *= kinds
	}
	for run := range runs {
		s, m := ids.New(3), newModel(3)
		for rest := run; rest > 0; rest /= kinds {
			if i := rest%kinds - 1; i < 0 {
				id, err := s.Make()
				if want, wantErr := m.make(); id != want || err != wantErr {
					t.Fatalf("run %d: Make: %v, %v; want %v, %v", run, id, err, want, wantErr)
				}
			} else if id := at(i, max(1, m.taken[i])); s.Drop(id) != m.drop(id) {
				t.Fatalf("run %d: Drop(%v)", run, id)
			}
			wantAll(t, s, m.all()...)
		}
	}
}

func TestP302NoIdentifierIsReturnedTwice(t *testing.T) {
	for _, room := range []int{1, 2, 5, 40} {
		s, seen, n := ids.New(room), map[api.Id]bool{}, 7
		var live []api.Id
		for range 5000 {
			n = after(n)
			if id, err := s.Make(); err == api.OK {
				if seen[id] {
					t.Fatalf("room %d: %v is returned twice", room, id)
				}
				seen[id] = true
				live = append(live, id)
			}
			if k := n >> 8 % 3; k > 0 && len(live) > 0 {
				i := n >> 12 % len(live)
				wantDrop(t, s, live[i], api.OK)
				live = slices.Delete(live, i, i+1)
			}
		}
		if len(seen) < 2*room {
			t.Fatalf("room %d: only %d identifiers", room, len(seen))
		}
		for id := range seen {
			if s.Has(id) != slices.Contains(live, id) {
				t.Fatalf("room %d: Has(%v): %v", room, id, s.Has(id))
			}
		}
	}
}

func TestP302ListsBelongToTheCaller(t *testing.T) {
	s := ids.New(4)
	fill(t, s, 4)
	wantDrop(t, s, at(1, 1), api.OK)
	list, other := s.All(), s.All()
	for i := range list {
		list[i] = at(-1, -1)
	}
	clear(list[:cap(list)])
	_ = append(list[:0], at(9, 9), at(9, 9), at(9, 9), at(9, 9))
	if want := []api.Id{at(0, 1), at(2, 1), at(3, 1)}; !slices.Equal(other, want) {
		t.Errorf("another list of All: %v; want %v", other, want)
	}
	wantAll(t, s, at(0, 1), at(2, 1), at(3, 1))
	wantMake(t, s, at(1, 2))
	wantFull(t, s)
	// A list that was returned stays as it was when the Ids goes on.
	wantDrop(t, s, at(0, 1), api.OK)
	wantMake(t, s, at(0, 2))
	if want := []api.Id{at(0, 1), at(2, 1), at(3, 1)}; !slices.Equal(other, want) {
		t.Errorf("a list of All after further calls: %v; want %v", other, want)
	}
}

func TestP302TwoIdsInTurns(t *testing.T) {
	a, b := ids.New(2), ids.New(3)
	wantMake(t, a, at(0, 1))
	wantAll(t, b)
	if b.Has(at(0, 1)) {
		t.Error("the other one has an identifier that it did not make")
	}
	wantDrop(t, b, at(0, 1), api.ErrStale)
	wantMake(t, b, at(0, 1))
	wantDrop(t, a, at(0, 1), api.OK)
	wantAll(t, b, at(0, 1))
	wantMake(t, b, at(1, 1))
	wantMake(t, a, at(0, 2))
	wantMake(t, a, at(1, 1))
	wantFull(t, a)
	wantMake(t, b, at(2, 1))
	wantFull(t, b)
	wantDrop(t, b, at(0, 2), api.ErrStale)
	wantAll(t, a, at(0, 2), at(1, 1))
	wantAll(t, b, at(0, 1), at(1, 1), at(2, 1))
}

func TestP302ManyIdsInTurns(t *testing.T) {
	const count = 7
	var list []*ids.Ids
	var models []*model
	for i := range count {
		list, models = append(list, ids.New(i)), append(models, newModel(i))
	}
	n := 3
	for range 4000 {
		n = after(n)
		i := n >> 10 % count
		play(t, list[i], models[i], n>>16)
		for k := range list {
			wantAll(t, list[k], models[k].all()...)
		}
	}
}

// history performs a fixed run of calls and tells all results.
func history(room int) []int {
	s, n := ids.New(room), 11
	var told []int
	for range 2000 {
		n = after(n)
		if n>>9%2 == 0 {
			id, err := s.Make()
			told = append(told, id.Index, id.Gen, int(err))
		} else if all := s.All(); len(all) > 0 {
			told = append(told, int(s.Drop(all[n>>11%len(all)])))
		}
		for _, id := range s.All() {
			told = append(told, id.Index, id.Gen)
		}
	}
	return told
}

func TestP302ResultsDependOnlyOnTheCalls(t *testing.T) {
	first := history(10)
	for range 5 {
		history(3)
		if !slices.Equal(history(10), first) {
			t.Fatal("the same calls have other results")
		}
	}
}

func TestP302ResultsDoNotDependOnOtherGoroutines(t *testing.T) {
	want := history(10)
	got := make([][]int, 8)
	var wait sync.WaitGroup
	for i := range got {
		wait.Add(1)
		go func() {
			defer wait.Done()
			got[i] = history(10)
		}()
	}
	wait.Wait()
	for i := range got {
		if !slices.Equal(got[i], want) {
			t.Errorf("goroutine %d: other results", i)
		}
	}
}
