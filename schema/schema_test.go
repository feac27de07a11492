package schema_test

import (
	"fmt"
	"math"
	"slices"
	"strconv"
	"strings"
	"testing"

	"puppeteer/api"
	"puppeteer/schema"
)

const (
	least    = math.MinInt
	greatest = math.MaxInt

	letters = "abcdefghijklmnopqrstuvwxyzABCDEFGHIJKLMNOPQRSTUVWXYZ"
	digits  = "0123456789"
)

// longest is a name that can have no character more.
func longest() string { return "aZ_09" + strings.Repeat("x", api.MaxName-5) }

// isName is a name told another way, by the alphabets in full.
func isName(s string) bool {
	if s == "" || len(s) > api.MaxName {
		return false
	}
	return strings.Contains(letters, s[:1]) && strings.TrimLeft(s, letters+digits+"_") == ""
}

func validKinds() []int { return []int{0, 1, 2, 3, 4} }

func strayKinds() []int {
	return []int{least, least + 1, -1 << 32, -5, -4, -3, -2, -1, 5, 6, 7, 100, 256, 257, 1<<16 + 1, 1 << 32, 1<<32 + 4, greatest - 1, greatest}
}

func strayNames() []string {
	return []string{
		"", "0", "9", "_", "__", "0a", "9a", "_a", "_9", "12", " ", " a", "a ", "a b", "a-b", "-a", "a.b", "'a", "a\n", "\ta", "a\x00", "\x00",
		"a\x80", "\xff", "a\xff", "\xc3", "é", "aé", "éa", "aéa", "ß", "🙂", "\u212a", "\u0430", "a\u0663", "\ufeffa", "a:", "a,b", "#a", "?",
		longest() + "x", strings.Repeat("a", api.MaxName+1), strings.Repeat("a", 256), strings.Repeat("a", 256+api.MaxName), strings.Repeat("a", 1<<16),
	}
}

// keysOf returns n keys with different names, of all kinds, Shared or not. The
// names are not in the order of the alphabet.
func keysOf(n int) []api.Key {
	var list []api.Key
	for i := range n {
		name := string(letters[(i*31)%len(letters)]) + strconv.Itoa(i)
		list = append(list, api.Key{Name: name, Kind: i % 5, Shared: i%3 == 1})
	}
	return list
}

// with returns a copy of keys whose key at place is k.
func with(keys []api.Key, place int, k api.Key) []api.Key {
	keys = slices.Clone(keys)
	keys[place] = k
	return keys
}

// errorOf is the error of New told another way: by the classes of all keys, and
// then by the first of them.
func errorOf(keys []api.Key) api.Errno {
	if len(keys) >= api.MaxKeys+1 {
		return api.ErrMany
	}
	for i, k := range keys {
		switch {
		case !isName(k.Name):
			return api.ErrName
		case !slices.Contains(validKinds(), k.Kind):
			return api.ErrKind
		case slices.ContainsFunc(keys[:i], func(p api.Key) bool { return p.Name == k.Name }):
			return api.ErrTwice
		}
	}
	return api.OK
}

// wantSchema makes a schema of keys that are right.
func wantSchema(t *testing.T, keys []api.Key) *schema.Schema {
	t.Helper()
	s, err := schema.New(keys)
	if err != api.OK || s == nil {
		t.Fatalf("New(%v): %v, %v; want a schema and OK", keys, s, err)
	}
	return s
}

// wantError holds New to an error and to no schema beside it.
func wantError(t *testing.T, keys []api.Key, want api.Errno) {
	t.Helper()
	if s, err := schema.New(keys); err != want || s != nil {
		t.Fatalf("New(%v): %v, %v; want nil and error %d", keys, s, err, want)
	}
}

// checkNew holds New to errorOf, and the schema, if there is one, to the keys.
func checkNew(t *testing.T, keys []api.Key) {
	t.Helper()
	if want := errorOf(keys); want != api.OK {
		wantError(t, keys, want)
		return
	}
	checkAnswers(t, wantSchema(t, keys), keys)
}

// checkAnswers holds all that a schema tells to the keys that it was made of.
func checkAnswers(t *testing.T, s *schema.Schema, keys []api.Key) {
	t.Helper()
	var own, shared []string
	for i, k := range keys {
		wantFound(t, s, k.Name, i)
		if got, ok := s.Key(i); got != k || !ok {
			t.Fatalf("Key(%d) = %v, %v; want %v, true", i, got, ok, k)
		}
		if k.Shared {
			shared = append(shared, k.Name)
		} else {
			own = append(own, k.Name)
		}
	}
	for _, i := range []int{least, least + 1, -1 << 32, -len(keys), -2, -1, len(keys), len(keys) + 1, 1 << 32, greatest - 1, greatest} {
		wantNoKey(t, s, i, len(keys))
	}
	for _, name := range strayNames() {
		wantMissing(t, s, name)
	}
	wantLists(t, s, own, shared)
}

func wantFound(t *testing.T, s *schema.Schema, name string, want int) {
	t.Helper()
	if i, ok := s.Find(name); i != want || !ok {
		t.Fatalf("Find(%q) = %d, %v; want %d, true", name, i, ok, want)
	}
}

func wantMissing(t *testing.T, s *schema.Schema, name string) {
	t.Helper()
	if i, ok := s.Find(name); i != 0 || ok {
		t.Fatalf("Find(%q) = %d, %v; want 0, false", name, i, ok)
	}
}

// wantNoKey holds Key to false at an index that is none of the n keys'.
func wantNoKey(t *testing.T, s *schema.Schema, i, n int) {
	t.Helper()
	if i >= 0 && i < n {
		return
	}
	if k, ok := s.Key(i); k != (api.Key{}) || ok {
		t.Fatalf("Key(%d) of %d keys = %v, %v; want a zero key and false", i, n, k, ok)
	}
}

func wantLists(t *testing.T, s *schema.Schema, own, shared []string) {
	t.Helper()
	if got := s.Own(); !slices.Equal(got, own) {
		t.Fatalf("Own() = %q, want %q", got, own)
	}
	if got := s.Shared(); !slices.Equal(got, shared) {
		t.Fatalf("Shared() = %q, want %q", got, shared)
	}
}

func TestP701NoKey(t *testing.T) {
	for _, keys := range [][]api.Key{nil, {}, make([]api.Key, 0, 5)} {
		s := wantSchema(t, keys)
		checkAnswers(t, s, nil)
		wantMissing(t, s, "a")
		wantNoKey(t, s, 0, 0)
	}
}

func TestP701OneKey(t *testing.T) {
	for _, name := range []string{"a", "Z", "tree", "a_9Z", "int", "KInt", longest()} {
		for _, kind := range validKinds() {
			for _, shared := range []bool{false, true} {
				s := wantSchema(t, []api.Key{{Name: name, Kind: kind, Shared: shared}})
				checkAnswers(t, s, []api.Key{{Name: name, Kind: kind, Shared: shared}})
				wantMissing(t, s, name+"1")
				wantMissing(t, s, name[:len(name)-1])
				wantMissing(t, s, "x"+name)
			}
		}
	}
}

func TestP701EachNumberOfKeys(t *testing.T) {
	for n := range api.MaxKeys + 1 {
		keys := keysOf(n)
		s := wantSchema(t, keys)
		checkAnswers(t, s, keys)
		for _, k := range keysOf(api.MaxKeys + 1)[n:] {
			wantMissing(t, s, k.Name)
		}
		for i := range 2 * api.MaxKeys {
			wantNoKey(t, s, i, n)
			wantNoKey(t, s, -1-i, n)
		}
	}
}

func TestP701TooManyKeys(t *testing.T) {
	for _, n := range []int{api.MaxKeys + 1, api.MaxKeys + 2, 127, 128, 255, 256, 256 + 1, 256 + api.MaxKeys, 1<<16 + 1} {
		wantError(t, keysOf(n), api.ErrMany)
		wantError(t, make([]api.Key, n), api.ErrMany)
	}
}

// wrongKeys lists keys that have an error wherever a key "k" precedes them.
func wrongKeys() []api.Key {
	return []api.Key{
		{}, {Name: "_"}, {Name: "9a", Kind: 9}, {Name: "a b", Shared: true}, {Name: longest() + "x", Kind: -1},
		{Name: "good", Kind: 5}, {Name: "good", Kind: -1, Shared: true}, {Name: "k", Kind: 5}, {Name: "k", Kind: least},
		{Name: "k"}, {Name: "k", Shared: true}, {Name: "k", Kind: api.KPoint},
	}
}

func TestP701TooManyKeysAheadOfAnyOtherError(t *testing.T) {
	for _, wrong := range wrongKeys() {
		for place := range api.MaxKeys + 1 {
			keys := with(keysOf(api.MaxKeys+1), 0, api.Key{Name: "k"})
			wantError(t, with(keys, place, wrong), api.ErrMany)
		}
		wantError(t, slices.Repeat([]api.Key{wrong}, api.MaxKeys+1), api.ErrMany)
	}
}

func TestP701OneWrongKeyAmongMany(t *testing.T) {
	for _, n := range []int{2, 3, 10, api.MaxKeys - 1, api.MaxKeys} {
		keys := with(keysOf(n), 0, api.Key{Name: "k"})
		for _, wrong := range wrongKeys() {
			for place := 1; place < n; place++ {
				list := with(keys, place, wrong)
				if errorOf(list) == api.OK {
					t.Fatalf("%v has no error", wrong)
				}
				checkNew(t, list)
			}
		}
	}
}

func TestP701Names(t *testing.T) {
	for _, shared := range []bool{false, true} {
		for _, kind := range validKinds() {
			for _, name := range strayNames() {
				k := api.Key{Name: name, Kind: kind, Shared: shared}
				wantError(t, []api.Key{k}, api.ErrName)
				wantError(t, append(keysOf(7), k), api.ErrName)
				wantError(t, append([]api.Key{k}, keysOf(7)...), api.ErrName)
			}
		}
	}
}

func TestP701NamesOfEachLength(t *testing.T) {
	for n := range 3 * api.MaxName {
		for _, rest := range []string{"a", "Z", "0", "_"} {
			checkNew(t, []api.Key{{Name: "b" + strings.Repeat(rest, n)}})
		}
	}
	wantSchema(t, []api.Key{{Name: strings.Repeat("a", api.MaxName)}})
	wantError(t, []api.Key{{Name: strings.Repeat("a", api.MaxName+1)}}, api.ErrName)
}

func TestP701NamesOfEachByteAtEachPlace(t *testing.T) {
	for n := 1; n <= api.MaxName+1; n++ {
		for place := range n {
			for c := range 256 {
				text := []byte(strings.Repeat("k", n))
				text[place] = byte(c)
				allowed := letters
				if place > 0 {
					allowed += digits + "_"
				}
				want := api.ErrName
				if n <= api.MaxName && strings.IndexByte(allowed, byte(c)) >= 0 {
					want = api.OK
				}
				if _, err := schema.New([]api.Key{{Name: string(text)}}); err != want {
					t.Fatalf("New of the name %q: %d, want %d", text, err, want)
				}
			}
		}
	}
}

func TestP701Kinds(t *testing.T) {
	for _, shared := range []bool{false, true} {
		for kind := -1000; kind <= 1000; kind++ {
			checkNew(t, []api.Key{{Name: "a", Kind: kind, Shared: shared}})
		}
		for _, kind := range strayKinds() {
			k := api.Key{Name: "a", Kind: kind, Shared: shared}
			wantError(t, []api.Key{k}, api.ErrKind)
			wantError(t, append(keysOf(7), k), api.ErrKind)
			wantError(t, append([]api.Key{k}, keysOf(7)...), api.ErrKind)
		}
	}
	for _, kind := range []int{api.KInt, api.KBool, api.KRef, api.KSym, api.KPoint} {
		wantSchema(t, []api.Key{{Name: "a", Kind: kind}})
	}
}

func TestP701TwiceAtAllPairsOfPlaces(t *testing.T) {
	for _, n := range []int{2, 3, 4, api.MaxKeys} {
		keys := keysOf(n)
		for second := range n {
			for first := range second {
				other := keys[second]
				for _, k := range []api.Key{
					{Name: keys[first].Name, Kind: keys[first].Kind, Shared: keys[first].Shared},
					{Name: keys[first].Name, Kind: (keys[first].Kind + 1) % 5, Shared: keys[first].Shared},
					{Name: keys[first].Name, Kind: keys[first].Kind, Shared: !keys[first].Shared},
					{Name: keys[first].Name, Kind: other.Kind, Shared: other.Shared},
				} {
					wantError(t, with(keys, second, k), api.ErrTwice)
				}
			}
		}
	}
}

func TestP701NamesThatDifferALittle(t *testing.T) {
	var keys []api.Key
	for _, name := range []string{"b", "a", "A", "aa", "aA", "Aa", "a_", "a__", "a0", "a1", "a01", "a10", "B", "ab", "ba", longest(), longest()[1:], longest()[:api.MaxName-1], longest()[:api.MaxName-1] + "y", longest()[:api.MaxName-1] + "X"} {
		keys = append(keys, api.Key{Name: name})
	}
	// The name without its first letter begins with one as well here.
	if !isName(longest()[1:]) {
		t.Fatalf("%q is no name", longest()[1:])
	}
	s := wantSchema(t, keys)
	checkAnswers(t, s, keys)
	for _, name := range []string{"c", "C", "bb", "b_", "AA", "a00", "_", "a___", "A0", longest()[:api.MaxName-2], strings.ToUpper(longest())} {
		wantMissing(t, s, name)
	}
}

func TestP701OrderOfTheErrorsOfOneKey(t *testing.T) {
	first := api.Key{Name: "a"}
	for _, shared := range []bool{false, true} {
		for _, kind := range strayKinds() {
			for _, name := range strayNames() {
				k := api.Key{Name: name, Kind: kind, Shared: shared}
				wantError(t, []api.Key{k}, api.ErrName)
				wantError(t, []api.Key{first, k}, api.ErrName)
			}
			wantError(t, []api.Key{first, {Name: "a", Kind: kind, Shared: shared}}, api.ErrKind)
			wantError(t, []api.Key{first, {Name: "b", Kind: kind, Shared: shared}}, api.ErrKind)
		}
		wantError(t, []api.Key{first, {Name: "a", Shared: shared}}, api.ErrTwice)
	}
}

func TestP701OrderOfTheErrorsOfSeveralKeys(t *testing.T) {
	a, b := api.Key{Name: "a"}, api.Key{Name: "b"}
	noName, noKind, twice := api.Key{Name: "9"}, api.Key{Name: "c", Kind: 5}, api.Key{Name: "a", Shared: true}
	for _, r := range []struct {
		keys []api.Key
		want api.Errno
	}{
		{[]api.Key{a, noName, noKind, twice}, api.ErrName}, {[]api.Key{a, noName, twice, noKind}, api.ErrName},
		{[]api.Key{a, noKind, noName, twice}, api.ErrKind}, {[]api.Key{a, noKind, twice, noName}, api.ErrKind},
		{[]api.Key{a, twice, noName, noKind}, api.ErrTwice}, {[]api.Key{a, twice, noKind, noName}, api.ErrTwice},
		{[]api.Key{noKind, a, b, noName}, api.ErrKind}, {[]api.Key{a, b, twice, noName}, api.ErrTwice}, {[]api.Key{noName, a, twice}, api.ErrName},
		// A key is not there yet for those that precede it, and a wrong one ends
		// the search.
		{[]api.Key{{Name: "c", Kind: 5}, {Name: "c", Kind: 5}}, api.ErrKind}, {[]api.Key{{Name: "9"}, {Name: "9"}}, api.ErrName},
		{[]api.Key{a, b, a, b}, api.ErrTwice}, {[]api.Key{a, b, b, noKind}, api.ErrTwice}, {[]api.Key{a, b, noKind, b}, api.ErrKind},
	} {
		wantError(t, r.keys, r.want)
	}
}

// TestP701AllShortLists holds New to errorOf for all lists of up to five keys
// out of few that are right, or wrong in one way or in several.
func TestP701AllShortLists(t *testing.T) {
	few := []api.Key{
		{Name: "b"}, {Name: "a", Kind: api.KPoint, Shared: true}, {Name: "a", Kind: api.KSym}, {Name: "A", Kind: api.KBool, Shared: true},
		{Name: "a", Kind: 5}, {Name: "_", Kind: api.KRef}, {Name: "", Kind: -1, Shared: true},
	}
	var grow func(keys []api.Key)
	grow = func(keys []api.Key) {
		checkNew(t, keys)
		if len(keys) == 5 {
			return
		}
		for _, k := range few {
			grow(append(slices.Clone(keys), k))
		}
	}
	grow(nil)
}

func TestP701FindOfTextsThatNoKeyHas(t *testing.T) {
	for _, n := range []int{0, 1, 2, 50, api.MaxKeys} {
		keys := keysOf(n)
		s := wantSchema(t, keys)
		for _, k := range keys {
			for _, text := range []string{k.Name + " ", " " + k.Name, k.Name + "\x00", "'" + k.Name, k.Name + "é", k.Name + "_", k.Name[:1], k.Name[1:], strings.Repeat(k.Name, 100)} {
				wantMissing(t, s, text)
			}
		}
	}
}

func TestP701OwnAndSharedOfAllPatterns(t *testing.T) {
	const n = 10
	for pattern := range 1 << n {
		var keys []api.Key
		var own, shared []string
		for i, k := range keysOf(n) {
			k.Shared = pattern>>i&1 == 1
			keys = append(keys, k)
			if k.Shared {
				shared = append(shared, k.Name)
			} else {
				own = append(own, k.Name)
			}
		}
		s := wantSchema(t, keys)
		wantLists(t, s, own, shared)
		checkAnswers(t, s, keys)
	}
}

func TestP701OwnAndSharedOfMaxKeys(t *testing.T) {
	var names []string
	for _, k := range keysOf(api.MaxKeys) {
		names = append(names, k.Name)
	}
	for _, shared := range []bool{false, true} {
		keys := keysOf(api.MaxKeys)
		for i := range keys {
			keys[i].Shared = shared
		}
		if shared {
			wantLists(t, wantSchema(t, keys), nil, names)
		} else {
			wantLists(t, wantSchema(t, keys), names, nil)
		}
	}
}

func TestP702TheKeysAreNotModified(t *testing.T) {
	lists := [][]api.Key{keysOf(api.MaxKeys), keysOf(api.MaxKeys + 1), {{Name: "b"}, {Name: "a"}, {Name: "b", Shared: true}}, {{Name: "b"}, {Name: "a", Kind: 7}, {}}}
	for _, list := range lists {
		for n := range len(list) + 1 {
			before := slices.Clone(list)
			// The keys beyond n are spare capacity.
			if s, err := schema.New(list[:n]); err == api.OK {
				s.Own()
				s.Shared()
				s.Find("a")
				s.Key(0)
			}
			if !slices.Equal(list, before) {
				t.Fatalf("the keys became %v, want %v", list, before)
			}
		}
	}
}

func TestP702TheKeysAreNotKept(t *testing.T) {
	for _, n := range []int{1, 2, 5, api.MaxKeys} {
		passed := append(make([]api.Key, 0, 2*n), keysOf(n)...)
		s := wantSchema(t, passed)
		for i := range passed {
			passed[i] = api.Key{Name: "other" + strconv.Itoa(i), Kind: 4 - passed[i].Kind, Shared: !passed[i].Shared}
			checkAnswers(t, s, keysOf(n))
		}
		wantMissing(t, s, "other0")
		slices.Reverse(passed)
		clear(passed)
		_ = append(passed[:0], keysOf(2 * n)[n:]...)
		checkAnswers(t, s, keysOf(n))
	}
}

func TestP702ListsThatWereReturnedAreTheCallers(t *testing.T) {
	keys := keysOf(api.MaxKeys)
	s := wantSchema(t, keys)
	for _, call := range []func() []string{s.Own, s.Shared} {
		for i := range call() {
			first, second := call(), call()
			first[i] = "changed"
			if second[i] == "changed" {
				t.Fatalf("two lists share the name at %d", i)
			}
			_ = append(first[:i], "more", "of", "these")
			_ = append(first[:len(first):cap(first)], "behind")
			checkAnswers(t, s, keys)
		}
		clear(call())
		slices.Sort(call())
		checkAnswers(t, s, keys)
	}
	key, _ := s.Key(3)
	key.Name, key.Shared = "changed", !key.Shared
	checkAnswers(t, s, keys)
}

func TestP702OwnAndSharedShareNoMemory(t *testing.T) {
	for _, n := range []int{2, 3, api.MaxKeys} {
		keys := keysOf(n)
		s := wantSchema(t, keys)
		own, shared := s.Own(), s.Shared()
		before := slices.Clone(shared)
		_ = append(own, "more", "of", "these")
		clear(own[:cap(own)])
		if !slices.Equal(shared, before) {
			t.Fatalf("the list of Shared became %q, want %q", shared, before)
		}
		checkAnswers(t, s, keys)
	}
}

func TestP702SchemasAreIndependent(t *testing.T) {
	passed := keysOf(6)
	reversed := keysOf(6)
	slices.Reverse(reversed)
	all, same, few, other := wantSchema(t, passed), wantSchema(t, passed), wantSchema(t, passed[2:4]), wantSchema(t, reversed)
	none := wantSchema(t, nil)
	wantError(t, append(passed, api.Key{}), api.ErrName)
	for range 2 {
		checkAnswers(t, all, passed)
		checkAnswers(t, few, passed[2:4])
		checkAnswers(t, none, nil)
		checkAnswers(t, other, reversed)
		checkAnswers(t, same, passed)
	}
}

func TestP702AnErrorLeavesNoTrace(t *testing.T) {
	s := wantSchema(t, keysOf(3))
	for _, k := range wrongKeys() {
		wrong := []api.Key{{Name: "k"}, {Name: "before"}, k, {Name: "behind"}}
		for range 2 {
			wantError(t, wrong, errorOf(wrong))
		}
		checkNew(t, []api.Key{{Name: "behind"}, {Name: "before"}, {Name: "k"}})
		checkAnswers(t, s, keysOf(3))
	}
}

// answers tells the results of all functions for lists of keys that are right
// or wrong.
func answers() []string {
	var results []string
	for _, keys := range [][]api.Key{nil, keysOf(1), keysOf(12), keysOf(api.MaxKeys), keysOf(api.MaxKeys + 1), {{Name: "a"}, {Name: "a"}}, {{}}, {{Name: "a", Kind: 5}}} {
		s, err := schema.New(keys)
		results = append(results, fmt.Sprint(s == nil, err))
		if s == nil {
			continue
		}
		results = append(results, s.Own()...)
		results = append(results, s.Shared()...)
		for i, k := range keysOf(api.MaxKeys) {
			index, found := s.Find(k.Name)
			key, ok := s.Key(i)
			results = append(results, fmt.Sprint(index, found, key, ok))
		}
	}
	return results
}

func TestP702ResultsDependOnlyOnTheArguments(t *testing.T) {
	first := answers()
	for range 20 {
		if again := answers(); !slices.Equal(first, again) {
			t.Fatalf("the same calls gave %v, then %v", first, again)
		}
	}
}

func TestP702ResultsDoNotDependOnWhereATextLies(t *testing.T) {
	name := longest()
	within := "x" + name + "y"
	for _, copied := range []string{strings.Clone(name), within[1 : 1+len(name)]} {
		s := wantSchema(t, []api.Key{{Name: "first"}, {Name: name}})
		wantFound(t, s, copied, 1)
		wantError(t, []api.Key{{Name: name}, {Name: copied}}, api.ErrTwice)
	}
}

func TestP702ResultsDoNotDependOnOtherGoroutines(t *testing.T) {
	want := answers()
	keys := keysOf(api.MaxKeys)
	s := wantSchema(t, keys)
	const workers = 8
	results := make(chan []string, workers)
	for range workers {
		go func() {
			// A schema that several goroutines ask at once must not be written.
			for _, k := range keys {
				s.Find(k.Name)
				s.Own()
				s.Shared()
			}
			results <- answers()
		}()
	}
	for range workers {
		if got := <-results; !slices.Equal(got, want) {
			t.Errorf("a goroutine got %v, want %v", got, want)
		}
	}
	checkAnswers(t, s, keys)
}
