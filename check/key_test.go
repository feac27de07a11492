package check_test

import (
	"fmt"
	"math"
	"slices"
	"strings"
	"testing"

	"puppeteer/api"
	"puppeteer/samples"
)

func TestP1302TheZeroProgramIsAccepted(t *testing.T) {
	want(t, api.Program{}, "", api.OK)
	want(t, api.Program{Keys: []api.Key{}, Trees: []api.Tree{}, Domains: []api.Domain{}}, "", api.OK)
	wantRight(t, "")
	wantRight(t, " // nothing\n")
}

func TestP1302WhatIsRightIsAccepted(t *testing.T) {
	wantRight(t, tenKeys)
	wantRight(t, "tree t { ok; }")
	wantRight(t, "domain d { }")
	wantRight(t, "key own a int; tree t { set a := 1; } tree u { use t; } domain d { var a 0 5; act x cost 1 { need a >= 1; make a = 100; } goal a == -100; } tree v { plan d; }")
	wantRight(t, tenKeys+`
		domain d {
			var i -100 100;
			var I 0 0;
			act a cost 1 { need i >= -100; need i <= 100; need I == 0; make i = 1; make i + 100; make I - 100; }
			act i cost 1000 { }
			goal i == 5; goal i == 6; goal I >= 0;
		}
		domain t { }
		tree t { par 2 1 { if b and not B; repeat 1000 set p := turn P + (i, I); } }
		tree d { pick { 1: use t; far(p, P): use t; i: seq { use t; do i; do none; } } }
		tree u { msel { mseq { not wait; sel { fail; plan d; plan t; } } use d; } }`)
}

// someKeys lists n keys that are right.
func someKeys(n int) []api.Key {
	var l []api.Key
	for i := range n {
		l = append(l, api.Key{Name: fmt.Sprint("k", i), Kind: i % 5, Shared: i%3 == 0})
	}
	return l
}

// A bad is a key that is wrong, and its error.
type bad struct {
	key api.Key
	err api.Errno
}

func bads() []bad {
	return []bad{
		{api.Key{Name: "9"}, api.ErrName}, {api.Key{Name: "a b"}, api.ErrName}, {api.Key{Name: "é"}, api.ErrName}, {api.Key{Name: "_"}, api.ErrName}, {api.Key{Name: "k0 "}, api.ErrName},
		{api.Key{Name: samples.LongestName() + "n"}, api.ErrName}, {api.Key{Name: strings.Repeat("n", 1000)}, api.ErrName}, {api.Key{Name: "'", Kind: -1}, api.ErrName},
		{api.Key{Name: "a", Kind: -1}, api.ErrKind}, {api.Key{Name: "a", Kind: 5}, api.ErrKind}, {api.Key{Name: "a", Kind: 99, Shared: true}, api.ErrKind},
		{api.Key{Name: "a", Kind: math.MinInt}, api.ErrKind}, {api.Key{Name: "a", Kind: math.MaxInt}, api.ErrKind},
	}
}

// behind lists trees and domains that are wrong too.
func behind(t *testing.T) api.Program {
	t.Helper()
	return program(t, "tree t { if 1; } tree t { use t; } domain d { goal v == 1; } domain d { }")
}

// wantKeys checks what Check answers for keys, with what is wrong behind them too.
func wantKeys(t *testing.T, l []api.Key, name string, err api.Errno) {
	t.Helper()
	want(t, api.Program{Keys: l}, name, err)
	p := behind(t)
	p.Keys = l
	if err == api.OK {
		name, err = "t", api.ErrTwice
	}
	want(t, p, name, err)
}

func TestP1302TheErrorsOfKeys(t *testing.T) {
	for _, n := range []int{1, 2, 3, 7, api.MaxKeys - 1, api.MaxKeys} {
		wantKeys(t, someKeys(n), "", api.OK)
		for at := range n {
			for _, b := range bads() {
				l := someKeys(n)
				l[at] = b.key
				wantKeys(t, l, b.key.Name, b.err)
			}
			l := someKeys(n)
			l[at].Name = ""
			wantKeys(t, l, "", api.ErrName)
			for other := 0; other < at; other += 1 + at/5 {
				l := someKeys(n)
				l[at].Name = l[other].Name
				wantKeys(t, l, l[other].Name, api.ErrTwice)
			}
		}
	}
}

func TestP1302TheFirstKeyThatHasAnError(t *testing.T) {
	const n = 9
	twice := bad{api.Key{Name: "k0"}, api.ErrTwice}
	for first := 1; first < n; first++ {
		for second := first + 1; second < n; second++ {
			for _, one := range append(bads(), twice) {
				for _, two := range append(bads(), twice) {
					l := someKeys(n)
					l[first], l[second] = one.key, two.key
					wantKeys(t, l, one.key.Name, one.err)
				}
			}
		}
	}
}

func TestP1302TheFirstErrorOfAKey(t *testing.T) {
	for _, shared := range []bool{false, true} {
		wrong := api.Key{Name: "9", Kind: 5, Shared: shared}
		wantKeys(t, []api.Key{wrong}, "9", api.ErrName)
		wantKeys(t, []api.Key{{Name: "a"}, {Name: "a", Kind: 5, Shared: shared}}, "a", api.ErrKind)
		wantKeys(t, []api.Key{{Name: "a"}, {Name: "a", Shared: shared}}, "a", api.ErrTwice)
		wantKeys(t, []api.Key{{Name: "a"}, {Name: "b"}, {Name: "a", Shared: shared}, {Name: "b"}}, "a", api.ErrTwice)
		wantKeys(t, []api.Key{{Name: "a"}, {Name: "b"}, {Name: "b", Kind: api.KPoint, Shared: shared}, {Name: "a"}}, "b", api.ErrTwice)
		wantKeys(t, []api.Key{{Name: "a"}, {Name: "A", Shared: shared}, {Name: "a_"}}, "", api.OK)
	}
}

func TestP1302TooManyKeysHaveNoName(t *testing.T) {
	want(t, api.Program{Keys: someKeys(1000)[:api.MaxKeys]}, "", api.OK)
	for _, n := range []int{api.MaxKeys + 1, api.MaxKeys + 2, 1000} {
		wantKeys(t, someKeys(n), "", api.ErrMany)
		for _, b := range bads() {
			for _, at := range []int{0, api.MaxKeys - 1, api.MaxKeys, n - 1} {
				l := someKeys(n)
				l[at] = b.key
				wantKeys(t, l, "", api.ErrMany)
			}
		}
		wantKeys(t, slices.Repeat([]api.Key{{Name: "a"}}, n), "", api.ErrMany)
	}
}

func TestP1302KeysThatAreThereTwiceInAText(t *testing.T) {
	for _, one := range []string{"key own a int;", "key shared a int;", "key own a bool;", "key shared a point;"} {
		for _, two := range []string{"key own a int;", "key shared a int;", "key own a sym;", "key shared a ref;"} {
			wantText(t, one+"key own b int;"+two+"key own b int;", "a", api.ErrTwice)
			wantText(t, "tree t { if a; }"+one+"domain d { goal v == 1; }"+two, "a", api.ErrTwice)
			// A key may have the name of a tree, of a domain and of an act.
			wantText(t, one+"tree a { do a; } domain a { act a cost 1 { } }", "", api.OK)
		}
	}
}
