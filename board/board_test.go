package board_test

import (
	"fmt"
	"math"
	"slices"
	"strconv"
	"strings"
	"testing"

	"puppeteer/api"
	"puppeteer/board"
	"puppeteer/schema"
)

const (
	least    = math.MinInt
	greatest = math.MaxInt
)

func at(index, gen int) api.Id { return api.Id{Index: index, Gen: gen} }

func number(n int) api.Value { return api.Value{Kind: api.KInt, N: n} }

func truth(n int) api.Value { return api.Value{Kind: api.KBool, N: n} }

func ref(n, m int) api.Value { return api.Value{Kind: api.KRef, N: n, M: m} }

func sym(name string) api.Value { return api.Value{Kind: api.KSym, Name: name} }

func spot(x, y float64) api.Value { return api.Value{Kind: api.KPoint, P: complex(x, y)} }

func negativeZero() float64 { return math.Copysign(0, -1) }

// ids lists Ids that a board must tell apart.
func ids() []api.Id {
	return []api.Id{
		{}, at(0, 1), at(1, 0), at(1, 1), at(3, 1), at(3, 2), at(3, -1), at(3, 1<<32+1), at(1<<32+3, 1), at(-3, 1), at(-1, -1), at(-1, 0), at(0, -1),
		at(least, least), at(least, greatest), at(greatest, least), at(greatest, greatest), at(least, 0), at(0, least), at(greatest, 0), at(0, greatest), at(least+1, 1), at(greatest-1, 1),
	}
}

// values lists valid values of a kind, all different; the first one is the one
// that a key of this kind has at first.
func values(kind int) []api.Value {
	switch kind {
	case api.KInt:
		return []api.Value{number(0), number(1), number(-1), number(2), number(1 << 32), number(1<<32 + 1), number(greatest), number(least)}
	case api.KBool:
		return []api.Value{truth(0), truth(1)}
	case api.KRef:
		return []api.Value{ref(0, 0), ref(0, 1), ref(1, 0), ref(1, 1), ref(1, 1<<32+1), ref(3, 14), ref(greatest, 0), ref(0, greatest), ref(greatest, greatest)}
	case api.KSym:
		return []api.Value{sym(""), sym("a"), sym("A"), sym("b"), sym("ab"), sym("a_9Z"), sym(strings.Repeat("n", api.MaxName))}
	}
	return []api.Value{spot(0, 0), spot(0, 1), spot(1, 0), spot(-1, 0), spot(0, -1), spot(3, -4), spot(api.MaxPart, -api.MaxPart), spot(-api.MaxPart, api.MaxPart)}
}

// wrongValues lists values that are not valid.
func wrongValues() []api.Value {
	list := []api.Value{
		{N: 1, M: 1}, {M: -1}, {Name: "a"}, {N: 7, Name: "a"}, {P: 1}, {P: complex(0, math.NaN())}, {N: 3, P: 1i},
		truth(2), truth(-1), truth(greatest), truth(least), truth(1<<32 + 1), {Kind: api.KBool, N: 1, M: 1}, {Kind: api.KBool, Name: "true"}, {Kind: api.KBool, P: 1},
		ref(-1, 0), ref(0, -1), ref(-1, -1), ref(least, 1), ref(1, least), {Kind: api.KRef, Name: "a"}, {Kind: api.KRef, P: 1i},
		sym("9"), sym("_a"), sym(" "), sym("a b"), sym("é"), sym("a\xff"), sym(strings.Repeat("n", api.MaxName+1)), {Kind: api.KSym, N: 1}, {Kind: api.KSym, Name: "a", M: 1}, {Kind: api.KSym, Name: "a", P: 1},
		spot(0.5, 0), spot(0, -0.5), spot(api.MaxPart+1, 0), spot(0, -api.MaxPart-1), spot(math.NaN(), 0), spot(0, math.NaN()), spot(math.Inf(1), 0), spot(0, math.Inf(-1)), spot(negativeZero(), 0), spot(0, negativeZero()), spot(3, negativeZero()),
		{Kind: api.KPoint, N: 1}, {Kind: api.KPoint, M: 1}, {Kind: api.KPoint, Name: "a"},
	}
	for _, kind := range []int{-1, 5, 6, 256, 1 << 32, 1<<32 + 4, least, greatest} {
		list = append(list, api.Value{Kind: kind}, api.Value{Kind: kind, N: 1})
	}
	return list
}

func strayNames() []string {
	return []string{"", "x", "X", "aa", "a ", " a", "a1", "A", "S", "_", "9", "own", "shared", "é", "a\x00", "\xff", strings.Repeat("a", api.MaxName+1), strings.Repeat("a", 1<<16)}
}

// mixedKeys returns keys of all kinds, Shared and not, in a mixed order.
func mixedKeys() []api.Key {
	return []api.Key{
		{Name: "s", Kind: api.KInt, Shared: true}, {Name: "n", Kind: api.KInt}, {Name: "p", Kind: api.KPoint},
		{Name: "q", Kind: api.KSym, Shared: true}, {Name: "b", Kind: api.KBool}, {Name: "o", Kind: api.KPoint, Shared: true},
		{Name: "r", Kind: api.KRef}, {Name: "t", Kind: api.KBool, Shared: true}, {Name: "y", Kind: api.KSym}, {Name: "e", Kind: api.KRef, Shared: true},
		{Name: "m", Kind: api.KInt},
	}
}

// keysOf returns n keys of all kinds. The names are not in the order of the
// alphabet.
func keysOf(n int) []api.Key {
	var list []api.Key
	for i := range n {
		list = append(list, api.Key{Name: string(rune('a'+i*7%26)) + strconv.Itoa(i), Kind: i % 5, Shared: i%3 == 1})
	}
	return list
}

// change is one that a board counted, or a Forget, which has no key.
type change struct {
	id     api.Id
	key    *api.Key
	value  api.Value
	number int
}

// model is a Board told another way: the list of all that ever happened, in which
// the latest change of a value is searched.
type model struct {
	keys    []api.Key
	changes []change
	now     int
}

func newModel(keys []api.Key) *model { return &model{keys: slices.Clone(keys)} }

func (m *model) key(name string) *api.Key {
	for i := range m.keys {
		if m.keys[i].Name == name {
			return &m.keys[i]
		}
	}
	return nil
}

// latest returns the last change of a key that an Id sees, or one with number 0.
func (m *model) latest(id api.Id, k *api.Key) change {
	for _, c := range slices.Backward(m.changes) {
		if c.key == nil && c.id == id && !k.Shared {
			break
		}
		if c.key == k && (k.Shared || c.id == id) {
			return c
		}
	}
	return change{value: values(k.Kind)[0]}
}

// write is told the error that is to come, for the model does not know values.
func (m *model) write(id api.Id, name string, v api.Value, err api.Errno) {
	if err != api.OK {
		return
	}
	k := m.key(name)
	if m.latest(id, k).value != v {
		m.now++
		m.changes = append(m.changes, change{id, k, v, m.now})
	}
}

func (m *model) forget(id api.Id) { m.changes = append(m.changes, change{id: id}) }

func (m *model) all(id api.Id) []api.Pair {
	var own, shared []api.Pair
	for i := range m.keys {
		k := &m.keys[i]
		pair := api.Pair{Name: k.Name, Value: m.latest(id, k).value}
		if k.Shared {
			shared = append(shared, pair)
		} else {
			own = append(own, pair)
		}
	}
	return append(own, shared...)
}

// both is a board and the model that it is held to.
type both struct {
	t *testing.T
	b *board.Board
	m *model
}

func wantBoard(t *testing.T, keys []api.Key) *both {
	t.Helper()
	b, err := board.New(keys)
	if err != api.OK || b == nil {
		t.Fatalf("New(%v): %v, %v; want a board and OK", keys, b, err)
	}
	return &both{t, b, newModel(keys)}
}

func (w *both) write(id api.Id, name string, v api.Value, want api.Errno) {
	w.t.Helper()
	if err := w.b.Write(id, name, v); err != want {
		w.t.Fatalf("Write(%v, %q, %#v) = %d, want %d", id, name, v, err, want)
	}
	w.m.write(id, name, v, want)
	w.wantNow("Write")
}

func (w *both) forget(id api.Id) {
	w.t.Helper()
	w.b.Forget(id)
	w.m.forget(id)
	w.wantNow("Forget")
}

func (w *both) wantNow(behind string) {
	w.t.Helper()
	if got := w.b.Now(); got != w.m.now {
		w.t.Fatalf("Now() = %d behind %s, want %d", got, behind, w.m.now)
	}
}

// check holds all that the board tells to the model, for each of the Ids.
func (w *both) check(list ...api.Id) {
	w.t.Helper()
	w.wantNow("Write or Forget")
	for _, id := range list {
		for i := range w.m.keys {
			w.checkKey(id, &w.m.keys[i])
		}
		w.checkAll(id)
		w.wantNow("All")
	}
}

func (w *both) checkKey(id api.Id, k *api.Key) {
	w.t.Helper()
	want := w.m.latest(id, k)
	if v, err := w.b.Read(id, k.Name); v != want.value || err != api.OK {
		w.t.Fatalf("Read(%v, %q) = %#v, %d; want %#v, OK", id, k.Name, v, err, want.value)
	}
	w.wantNow("Read")
	if n, err := w.b.Stamp(id, k.Name); n != want.number || err != api.OK {
		w.t.Fatalf("Stamp(%v, %q) = %d, %d; want %d, OK", id, k.Name, n, err, want.number)
	}
	w.wantNow("Stamp")
}

func (w *both) checkAll(id api.Id) {
	w.t.Helper()
	if got, want := w.b.All(id), w.m.all(id); !slices.Equal(got, want) {
		w.t.Fatalf("All(%v) = %v, want %v", id, got, want)
	}
}

// checkStray holds the board to the errors for a name that there is not.
func (w *both) checkStray(id api.Id, name string) {
	w.t.Helper()
	if v, err := w.b.Read(id, name); v != (api.Value{}) || err != api.ErrName {
		w.t.Fatalf("Read(%v, %q) = %#v, %d; want the zero Value and ErrName", id, name, v, err)
	}
	if n, err := w.b.Stamp(id, name); n != 0 || err != api.ErrName {
		w.t.Fatalf("Stamp(%v, %q) = %d, %d; want 0 and ErrName", id, name, n, err)
	}
	for kind := range 5 {
		w.write(id, name, values(kind)[1], api.ErrName)
	}
	for _, v := range wrongValues() {
		w.write(id, name, v, api.ErrName)
	}
	w.wantNow("a name that there is not")
}

func TestP801NewWithNoKey(t *testing.T) {
	for _, keys := range [][]api.Key{nil, {}, make([]api.Key, 0, 3)} {
		w := wantBoard(t, keys)
		for _, id := range ids() {
			w.check(id)
			w.checkStray(id, "a")
			w.forget(id)
			if got := w.b.All(id); len(got) != 0 {
				t.Errorf("All(%v) = %v", id, got)
			}
		}
		w.check(ids()...)
	}
}

func TestP801NewWithEachNumberOfKeys(t *testing.T) {
	for n := range api.MaxKeys + 1 {
		keys := keysOf(n)
		w := wantBoard(t, keys)
		w.check(at(1, 1), at(-7, 0))
		for i, k := range keys {
			w.write(at(1, 1), k.Name, values(k.Kind)[1], api.OK)
			if w.m.now != i+1 {
				t.Fatalf("%d changes of %d keys", w.m.now, i+1)
			}
		}
		w.check(at(1, 1), at(-7, 0))
		w.checkStray(at(1, 1), "a"+strconv.Itoa(api.MaxKeys))
	}
}

func TestP801NewReturnsTheErrorOfSchema(t *testing.T) {
	for _, c := range []struct {
		keys []api.Key
		want api.Errno
	}{
		{keysOf(api.MaxKeys + 1), api.ErrMany}, {make([]api.Key, api.MaxKeys+1), api.ErrMany}, {make([]api.Key, 1<<16), api.ErrMany},
		{[]api.Key{{}}, api.ErrName}, {append(keysOf(3), api.Key{Name: "9"}), api.ErrName}, {append(keysOf(api.MaxKeys-1), api.Key{Name: "é", Kind: 9}), api.ErrName},
		{[]api.Key{{Name: "a", Kind: 5}}, api.ErrKind}, {[]api.Key{{Name: "a", Kind: -1, Shared: true}}, api.ErrKind}, {[]api.Key{{Name: "a"}, {Name: "a", Kind: greatest}}, api.ErrKind},
		{[]api.Key{{Name: "a"}, {Name: "a"}}, api.ErrTwice}, {[]api.Key{{Name: "a"}, {Name: "b"}, {Name: "a", Kind: 1, Shared: true}}, api.ErrTwice}, {append(keysOf(50), keysOf(50)...), api.ErrTwice},
		{[]api.Key{{Name: "a"}, {Name: "a"}, {}}, api.ErrTwice}, {[]api.Key{{Name: "a"}, {Kind: 9}, {Name: "a"}}, api.ErrName},
	} {
		b, err := board.New(c.keys)
		if _, same := schema.New(c.keys); b != nil || err != c.want || err != same {
			t.Errorf("New of %d keys, the first %v: %v, %d; want nil, %d", len(c.keys), c.keys[0], b, err, c.want)
		}
	}
}

func TestP801AtFirst(t *testing.T) {
	w := wantBoard(t, mixedKeys())
	if w.b.Now() != 0 {
		t.Errorf("Now of a new board is %d", w.b.Now())
	}
	for _, id := range ids() {
		for _, k := range mixedKeys() {
			if v, err := w.b.Read(id, k.Name); v != (api.Value{Kind: k.Kind}) || err != api.OK {
				t.Errorf("Read(%v, %q) = %#v, %d", id, k.Name, v, err)
			}
			if n, err := w.b.Stamp(id, k.Name); n != 0 || err != api.OK {
				t.Errorf("Stamp(%v, %q) = %d, %d", id, k.Name, n, err)
			}
		}
	}
	w.check(ids()...)
}

func TestP801WriteEachValue(t *testing.T) {
	for _, id := range []api.Id{{}, at(3, 1), at(least, greatest)} {
		w := wantBoard(t, mixedKeys())
		for _, k := range mixedKeys() {
			list := values(k.Kind)
			for i, from := range list {
				for _, to := range slices.Concat(list[i:], list[:i]) {
					w.write(id, k.Name, from, api.OK)
					w.check(id, at(4, 4))
					before := w.b.Now()
					w.write(id, k.Name, to, api.OK)
					if grown := w.b.Now() - before; grown != 1 && from != to || grown != 0 && from == to {
						t.Fatalf("%q from %v to %v: the count grew by %d", k.Name, from, to, grown)
					}
					w.check(id, at(4, 4))
				}
			}
		}
	}
}

func TestP801WriteTheValueAtFirst(t *testing.T) {
	w := wantBoard(t, mixedKeys())
	for _, id := range ids() {
		for _, k := range mixedKeys() {
			w.write(id, k.Name, api.Value{Kind: k.Kind}, api.OK)
			if n, _ := w.b.Stamp(id, k.Name); n != 0 || w.b.Now() != 0 {
				t.Fatalf("Stamp(%v, %q) = %d, Now() = %d; nothing was changed", id, k.Name, n, w.b.Now())
			}
		}
	}
	w.check(ids()...)
	// A change back to it is one, though.
	w.write(at(1, 1), "n", number(5), api.OK)
	w.write(at(1, 1), "n", number(0), api.OK)
	w.write(at(1, 1), "n", number(0), api.OK)
	if n, _ := w.b.Stamp(at(1, 1), "n"); n != 2 {
		t.Errorf("Stamp of a value that was changed and changed back is %d, want 2", n)
	}
	w.check(ids()...)
}

func TestP801PartsMinusZeroAreTheSame(t *testing.T) {
	low := negativeZero()
	w := wantBoard(t, mixedKeys())
	for _, k := range mixedKeys() {
		if k.Kind == api.KPoint {
			continue
		}
		for _, p := range []complex128{complex(low, low), complex(low, 0), complex(0, low), 0} {
			for _, v := range values(k.Kind) {
				v.P = p
				for range 2 {
					w.write(at(1, 1), k.Name, v, api.OK)
					w.check(at(1, 1), at(2, 1))
				}
				v.P = 0
				before := w.b.Now()
				w.write(at(1, 1), k.Name, v, api.OK)
				if w.b.Now() != before {
					t.Fatalf("%q: %#v is counted as a change", k.Name, v)
				}
			}
		}
	}
}

func TestP801WriteOfNamesThatThereAreNot(t *testing.T) {
	w := wantBoard(t, append(mixedKeys(), api.Key{Name: "a"}))
	w.write(at(3, 1), "n", number(7), api.OK)
	w.write(at(3, 1), "q", sym("w"), api.OK)
	for _, name := range strayNames() {
		for _, id := range ids() {
			w.checkStray(id, name)
		}
		w.check(at(3, 1), api.Id{})
	}
}

func TestP801WriteOfWrongValues(t *testing.T) {
	w := wantBoard(t, mixedKeys())
	one, two := at(3, 1), at(3, 2)
	for range 2 {
		for _, k := range mixedKeys() {
			for _, v := range wrongValues() {
				w.write(one, k.Name, v, api.ErrKind)
				w.write(two, k.Name, v, api.ErrKind)
			}
			w.check(one, two)
		}
		// The second time, there are values to be kept.
		for _, k := range mixedKeys() {
			w.write(one, k.Name, values(k.Kind)[1], api.OK)
		}
	}
}

func TestP801WriteOfValuesOfAnotherKind(t *testing.T) {
	w := wantBoard(t, mixedKeys())
	for _, n := range []int{0, 1} {
		for _, k := range mixedKeys() {
			for kind := range 5 {
				if kind == k.Kind {
					continue
				}
				for _, v := range values(kind) {
					w.write(at(1, 1), k.Name, v, api.ErrKind)
				}
			}
			w.write(at(1, 1), k.Name, values(k.Kind)[n], api.OK)
			w.check(at(1, 1), at(2, 1))
		}
	}
}

func TestP801KeysThatAreNotSharedAreEachIdsOwn(t *testing.T) {
	w := wantBoard(t, mixedKeys())
	for i, id := range ids() {
		w.write(id, "n", number(100+i), api.OK)
		w.check(ids()...)
	}
	for _, id := range ids() {
		w.write(id, "r", ref(1, 1), api.OK)
		w.write(id, "m", number(5), api.OK)
	}
	w.check(ids()...)
	for i, id := range ids() {
		if v, _ := w.b.Read(id, "n"); v != number(100+i) {
			t.Errorf("Read(%v) = %v, want %d", id, v, 100+i)
		}
		if n, _ := w.b.Stamp(id, "n"); n != i+1 {
			t.Errorf("Stamp(%v) = %d, want %d", id, n, i+1)
		}
	}
}

func TestP801SharedKeysAreSeenThroughEachId(t *testing.T) {
	w := wantBoard(t, mixedKeys())
	for i, id := range ids() {
		w.write(id, "s", number(100+i), api.OK)
		for _, other := range ids() {
			v, _ := w.b.Read(other, "s")
			n, _ := w.b.Stamp(other, "s")
			if v != number(100+i) || n != i+1 {
				t.Fatalf("written through %v, read through %v: %v, stamp %d; want %d, %d", id, other, v, n, 100+i, i+1)
			}
			w.write(other, "s", number(100+i), api.OK)
		}
		w.check(ids()...)
	}
}

func TestP801OtherKeysOfTheSameKindStay(t *testing.T) {
	keys := keysOf(api.MaxKeys)
	w := wantBoard(t, keys)
	for i, k := range keys {
		w.write(at(i%3, 1), k.Name, values(k.Kind)[1], api.OK)
		w.check(at(i%3, 1), at((i+1)%3, 1))
	}
	for _, k := range keys {
		w.write(at(0, 1), k.Name, values(k.Kind)[1], api.OK)
		w.write(at(1, 1), k.Name, values(k.Kind)[0], api.OK)
	}
	w.check(at(0, 1), at(1, 1), at(2, 1), at(3, 1))
}

func TestP801StampsAreTheCountsOfTheLatestChanges(t *testing.T) {
	w := wantBoard(t, mixedKeys())
	one, two := at(3, 1), at(3, 2)
	stamps := func(n, s, other int) {
		t.Helper()
		a, _ := w.b.Stamp(one, "n")
		b, _ := w.b.Stamp(one, "s")
		c, _ := w.b.Stamp(two, "n")
		if a != n || b != s || c != other {
			t.Fatalf("stamps %d, %d, %d; want %d, %d, %d", a, b, c, n, s, other)
		}
		w.check(one, two, api.Id{})
	}
	stamps(0, 0, 0)
	w.write(one, "n", number(4), api.OK)
	stamps(1, 0, 0)
	w.write(one, "n", number(4), api.OK)
	w.write(one, "n", truth(1), api.ErrKind)
	w.write(one, "x", number(9), api.ErrName)
	stamps(1, 0, 0)
	w.write(two, "s", number(4), api.OK)
	stamps(1, 2, 0)
	w.write(two, "n", number(4), api.OK)
	stamps(1, 2, 3)
	w.write(one, "n", number(5), api.OK)
	stamps(4, 2, 3)
	w.forget(one)
	stamps(0, 2, 3)
	w.write(one, "s", number(0), api.OK)
	stamps(0, 5, 3)
	w.write(one, "n", number(5), api.OK)
	stamps(6, 5, 3)
}

func TestP801Forget(t *testing.T) {
	for _, id := range ids() {
		w := wantBoard(t, mixedKeys())
		for i, other := range ids() {
			w.write(other, "n", number(i+1), api.OK)
			w.write(other, "s", number(i+1), api.OK)
			w.write(other, "p", spot(float64(i), 1), api.OK)
		}
		before := w.b.Now()
		for range 2 {
			w.forget(id)
			w.check(ids()...)
			if v, _ := w.b.Read(id, "n"); v != number(0) || w.b.Now() != before {
				t.Fatalf("behind Forget(%v): %v, Now() = %d", id, v, w.b.Now())
			}
			if v, _ := w.b.Read(id, "s"); v != number(len(ids())) {
				t.Fatalf("Forget(%v) made a Shared key %v", id, v)
			}
		}
		// What is as at first is the same as that, not as it was before Forget.
		w.write(id, "n", number(0), api.OK)
		if w.b.Now() != before {
			t.Fatalf("Now() = %d, want %d", w.b.Now(), before)
		}
		w.write(id, "n", number(1+slices.Index(ids(), id)), api.OK)
		w.check(ids()...)
		if n, _ := w.b.Stamp(id, "n"); n != before+1 {
			t.Fatalf("the stamp behind a new Write is %d, want %d", n, before+1)
		}
	}
}

func TestP801ForgetOfIdsWithoutValues(t *testing.T) {
	w := wantBoard(t, mixedKeys())
	for _, id := range ids() {
		w.forget(id)
	}
	w.check(ids()...)
	w.write(at(3, 1), "n", number(7), api.OK)
	w.write(at(3, 1), "t", truth(1), api.OK)
	for _, id := range ids() {
		if id != at(3, 1) {
			w.forget(id)
			w.check(ids()...)
		}
	}
}

func TestP801ForgetLeavesEverySharedKey(t *testing.T) {
	keys := keysOf(api.MaxKeys)
	w := wantBoard(t, keys)
	one, two := api.Id{}, at(5, 5)
	for _, k := range keys {
		w.write(one, k.Name, values(k.Kind)[1], api.OK)
		w.write(two, k.Name, values(k.Kind)[1], api.OK)
	}
	for _, id := range []api.Id{one, two, one} {
		w.forget(id)
		w.check(one, two, at(6, 6))
		for _, k := range keys {
			if v, _ := w.b.Read(id, k.Name); (v == values(k.Kind)[0]) == k.Shared {
				t.Fatalf("behind Forget(%v): %v is %v", id, k, v)
			}
		}
	}
}

func TestP801AllInTheOrderOfTheSchema(t *testing.T) {
	one, two := at(3, 1), at(4, 1)
	for shared := range 16 {
		var keys []api.Key
		var own, others []string
		for i, name := range []string{"d", "b", "c", "a"} {
			k := api.Key{Name: name, Kind: (i + shared) % 5, Shared: shared>>i&1 == 1}
			keys = append(keys, k)
			if k.Shared {
				others = append(others, name)
			} else {
				own = append(own, name)
			}
		}
		w := wantBoard(t, keys)
		wantNames(t, w.b.All(one), append(own, others...))
		// Writes in another order than that of the schema.
		for _, k := range slices.Backward(keys) {
			w.write(one, k.Name, values(k.Kind)[1], api.OK)
			w.check(one, two)
		}
		wantNames(t, w.b.All(one), append(own, others...))
		w.forget(one)
		w.check(one, two)
		wantNames(t, w.b.All(two), append(own, others...))
	}
}

func wantNames(t *testing.T, list []api.Pair, want []string) {
	t.Helper()
	var names []string
	for _, p := range list {
		names = append(names, p.Name)
	}
	if !slices.Equal(names, want) {
		t.Fatalf("All lists %q, want %q", names, want)
	}
}

func TestP801AllShortRunsOfCalls(t *testing.T) {
	keys := []api.Key{{Name: "s", Shared: true}, {Name: "a"}}
	one, two := at(1, 1), at(1, 2)
	calls := []func(w *both){
		func(w *both) { w.write(one, "a", number(1), api.OK) },
		func(w *both) { w.write(one, "a", number(0), api.OK) },
		func(w *both) { w.write(two, "a", number(1), api.OK) },
		func(w *both) { w.write(one, "s", number(1), api.OK) },
		func(w *both) { w.write(two, "s", number(0), api.OK) },
		func(w *both) { w.write(one, "s", truth(0), api.ErrKind) },
		func(w *both) { w.forget(one) },
		func(w *both) { w.forget(two) },
	}
	const length = 5
	for run := range 1 << (3 * length) {
		w := wantBoard(t, keys)
		for i := range length {
			calls[run>>(3*i)&7](w)
		}
		w.check(one, two)
	}
}

// dice gives numbers that look random and are the same each time.
type dice struct{ state uint64 }

func (d *dice) roll(n int) int {
	d.state = d.state*6364136223846793005 + 1442695040888963407
	return int(d.state>>33) % n
}

func TestP801LongRunsOfCalls(t *testing.T) {
	for seed := range 20 {
		d := &dice{uint64(seed)}
		keys := keysOf(1 + d.roll(api.MaxKeys))
		if seed%2 == 0 {
			keys = mixedKeys()
		}
		w := wantBoard(t, keys)
		list := ids()[:2+d.roll(len(ids())-2)]
		for range 2000 {
			randomCall(w, d, list)
			if d.roll(10) == 0 {
				w.checkAll(list[d.roll(len(list))])
			}
		}
		w.check(ids()...)
	}
}

// randomCall makes a call, mostly a Write, and checks what it may have changed.
func randomCall(w *both, d *dice, list []api.Id) {
	w.t.Helper()
	id, k := list[d.roll(len(list))], &w.m.keys[d.roll(len(w.m.keys))]
	right := values(k.Kind)
	switch d.roll(12) {
	case 0:
		w.forget(id)
	case 1:
		w.write(id, k.Name, wrongValues()[d.roll(len(wrongValues()))], api.ErrKind)
	case 2:
		w.write(id, strayNames()[0], right[d.roll(len(right))], api.ErrName)
	case 3:
		w.write(id, k.Name, values((k.Kind + 1) % 5)[0], api.ErrKind)
	default:
		w.write(id, k.Name, right[d.roll(len(right))], api.OK)
	}
	w.checkKey(id, k)
	w.checkKey(list[d.roll(len(list))], k)
}

func TestP801ManyIds(t *testing.T) {
	keys := []api.Key{{Name: "a"}, {Name: "s", Kind: api.KBool, Shared: true}}
	b, _ := board.New(keys)
	const count = 50_000
	for i := range count {
		b.Write(at(i, -i), "a", number(i))
	}
	if b.Now() != count-1 {
		t.Errorf("Now() = %d, want %d", b.Now(), count-1)
	}
	for i := 0; i < count; i += 2 {
		b.Forget(at(i, -i))
	}
	for i := range count {
		v, _ := b.Read(at(i, -i), "a")
		n, _ := b.Stamp(at(i, -i), "a")
		if want := i * (i % 2); v != number(want) || n != want {
			t.Fatalf("Id %d: %v, stamp %d; want both %d", i, v, n, want)
		}
	}
}

func TestP802BoardsAreIndependent(t *testing.T) {
	keys := mixedKeys()
	one, two := wantBoard(t, keys), wantBoard(t, keys)
	other, none := wantBoard(t, keys[3:7]), wantBoard(t, nil)
	list := []*both{one, two, other, none}
	for i, id := range ids() {
		for _, k := range keys {
			one.write(id, k.Name, values(k.Kind)[1-i%2], api.OK)
		}
		two.write(id, "s", number(-i), api.OK)
		other.write(id, "b", truth(1), api.OK)
		other.write(id, "q", sym("other"), api.OK)
		none.write(id, "s", number(1), api.ErrName)
		two.forget(id)
		for _, w := range list {
			w.check(at(0, 1), id, at(9, 9))
		}
	}
}

func TestP802TheKeysAreNotModified(t *testing.T) {
	for _, n := range []int{1, 5, api.MaxKeys, api.MaxKeys + 1} {
		list := append(keysOf(n), api.Key{Name: "behind"}, api.Key{Name: "more", Kind: 9})
		before := slices.Clone(list)
		b, err := board.New(list[:n])
		if err == api.OK {
			b.Write(at(1, 1), list[0].Name, values(list[0].Kind)[1])
			b.All(at(1, 1))
			b.Forget(at(1, 1))
		}
		if !slices.Equal(list, before) {
			t.Errorf("the keys became %v, want %v", list, before)
		}
	}
}

func TestP802TheKeysAreNotKept(t *testing.T) {
	for _, n := range []int{1, 2, 11, api.MaxKeys} {
		passed := append(make([]api.Key, 0, 2*n), keysOf(n)...)
		w := wantBoard(t, passed)
		for i, k := range keysOf(n) {
			passed[i] = api.Key{Name: "other" + strconv.Itoa(i), Kind: 4 - k.Kind, Shared: !k.Shared}
			w.write(at(1, i), k.Name, values(k.Kind)[1], api.OK)
			w.check(at(1, i), at(1, 1))
		}
		w.checkStray(at(1, 1), "other0")
		slices.Reverse(passed)
		clear(passed)
		_ = append(passed[:0], keysOf(2 * n)[n:]...)
		w.check(at(1, 0), at(1, 1))
	}
}

func TestP802ListsThatWereReturnedAreTheCallers(t *testing.T) {
	w := wantBoard(t, mixedKeys())
	id := at(3, 1)
	for range 2 {
		for i := range w.b.All(id) {
			first, second := w.b.All(id), w.b.All(id)
			first[i] = api.Pair{Name: "changed", Value: number(99)}
			if second[i] == first[i] {
				t.Fatalf("two lists share the pair at %d", i)
			}
			_ = append(first[:i], api.Pair{Name: "more"}, api.Pair{Name: "of"})
			_ = append(first[:len(first):cap(first)], api.Pair{Name: "behind"})
			clear(first[:cap(first)])
			w.check(id, api.Id{})
		}
		// A list tells what was when it was returned.
		before := w.b.All(id)
		kept := slices.Clone(before)
		for _, k := range mixedKeys() {
			w.write(id, k.Name, values(k.Kind)[1], api.OK)
		}
		w.forget(at(4, 1))
		if !slices.Equal(before, kept) {
			t.Fatalf("a list that was returned became %v, want %v", before, kept)
		}
		w.check(id, api.Id{})
	}
}

// answers tells the results of all methods in a run of calls.
func answers() []string {
	var results []string
	d := &dice{7}
	b, _ := board.New(mixedKeys())
	for range 300 {
		id, k := ids()[d.roll(len(ids()))], mixedKeys()[d.roll(len(mixedKeys()))]
		list := values(d.roll(5))
		err := b.Write(id, k.Name, list[d.roll(len(list))])
		if d.roll(9) == 0 {
			b.Forget(id)
		}
		v, _ := b.Read(id, k.Name)
		n, _ := b.Stamp(id, k.Name)
		results = append(results, fmt.Sprint(err, v, n, b.Now(), b.All(id)))
	}
	return results
}

func TestP802ResultsDependOnlyOnTheCalls(t *testing.T) {
	first := answers()
	for range 20 {
		if again := answers(); !slices.Equal(first, again) {
			t.Fatalf("the same calls gave %v, then %v", first, again)
		}
	}
}

func TestP802QuestionsChangeNothing(t *testing.T) {
	asked, silent := wantBoard(t, mixedKeys()), wantBoard(t, mixedKeys())
	d, e := &dice{3}, &dice{3}
	for range 500 {
		for _, id := range ids()[:3] {
			asked.b.All(id)
			asked.b.Read(id, "n")
			asked.b.Read(id, "x")
			asked.b.Stamp(id, "s")
			asked.b.Stamp(id, "x")
			asked.b.Now()
		}
		randomCall(asked, d, ids()[:5])
		randomCall(silent, e, ids()[:5])
	}
	for _, id := range ids() {
		if a, b := asked.b.All(id), silent.b.All(id); !slices.Equal(a, b) {
			t.Errorf("All(%v) = %v and %v", id, a, b)
		}
	}
	asked.check(ids()...)
	silent.check(ids()...)
}

func TestP802ResultsDoNotDependOnWhereATextLies(t *testing.T) {
	name := strings.Repeat("n", api.MaxName)
	within := "x" + name + "y"
	w := wantBoard(t, []api.Key{{Name: "first", Kind: api.KSym}, {Name: name, Kind: api.KSym, Shared: true}})
	w.write(at(1, 1), within[1:1+len(name)], sym(name), api.OK)
	w.write(at(2, 1), strings.Clone(name), sym(within[1:1+len(name)]), api.OK)
	if w.b.Now() != 1 {
		t.Errorf("Now() = %d, want 1", w.b.Now())
	}
	w.check(at(1, 1), at(2, 1))
}

func TestP802ResultsDoNotDependOnOtherGoroutines(t *testing.T) {
	want := answers()
	w := wantBoard(t, mixedKeys())
	w.write(at(3, 1), "n", number(7), api.OK)
	const workers = 8
	results := make(chan []string, workers)
	for range workers {
		go func() {
			// A board that several goroutines ask at once must not be written.
			for _, id := range ids() {
				w.b.All(id)
				w.b.Read(id, "n")
				w.b.Stamp(id, "s")
			}
			results <- answers()
		}()
	}
	for range workers {
		if got := <-results; !slices.Equal(got, want) {
			t.Errorf("a goroutine got %v, want %v", got, want)
		}
	}
	w.check(ids()...)
}
