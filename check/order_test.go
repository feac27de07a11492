package check_test

import (
	"fmt"
	"slices"
	"strings"
	"testing"

	"puppeteer/api"
	"puppeteer/samples"
)

// A piece is a part of a program that is wrong in one way, which one of the six checks
// finds, in the declaration with a name. Its own names end with %, in the place of
// which a letter is put.
type piece struct {
	check      int
	text, name string
	err        api.Errno
}

// pieces lists parts that are wrong, each in its way, in the order of the checks.
func pieces() []piece {
	list := []piece{
		{1, "key own k% int; key shared k% int;", "k%", api.ErrTwice},
		{2, "tree s% { ok; } tree s% { fail; }", "s%", api.ErrTwice},
		{3, "domain d% { } domain d% { }", "d%", api.ErrTwice},
		{3, "key own k% int; domain d% { var k% 0 1; var k% 0 1; }", "d%", api.ErrTwice},
		{3, "key own k% int; domain d% { var k% 1 0; }", "d%", api.ErrArg},
		{3, "domain d% { var k% 0 1; }", "d%", api.ErrName},
		{3, "key own k% sym; domain d% { var k% 0 1; }", "d%", api.ErrKind},
		{3, "domain d% { act a cost 1 { } act a cost 1 { } }", "d%", api.ErrTwice},
		{3, "domain d% { act a cost 0 { } }", "d%", api.ErrArg},
		{3, "domain d% { act a cost 1 { need v == 1; } }", "d%", api.ErrName},
		{3, "key own k% int; domain d% { var k% 0 1; act a cost 1 { make k% = 101; } }", "d%", api.ErrArg},
		{3, "key own k% int; domain d% { var k% 0 1; goal k% == 101; }", "d%", api.ErrArg},
		{5, "tree t% { use t%; }", "t%", api.ErrRing},
		{5, "tree t% { use u%; } tree u% { not use t%; }", "t%", api.ErrRing},
		{5, "tree u% { use t%; } tree t% { seq { ok; use t%; } }", "t%", api.ErrRing},
		{6, "tree t% { " + nots(api.MaxDeep, "use u%;") + " } tree u% { not ok; }", "t%", api.ErrDeep},
		{6, "tree u% { " + full(266, "ok;") + " } tree t% { seq { " + strings.Repeat("use u%; ", 15) + "} }", "t%", api.ErrMany},
	}
	for one, err := range badNodes() {
		for _, name := range []string{"i", "x", "b"} {
			one = strings.ReplaceAll(one, " "+name+" ", " "+name+"% ")
			one = strings.ReplaceAll(one, " "+name+";", " "+name+"%;")
			one = strings.ReplaceAll(one, " "+name+":", " "+name+"%:")
		}
		list = append(list, piece{4, "key own i% int; key shared b% bool; tree t% { " + one + " }", "t%", err})
	}
	return list
}

// with is a piece with a letter in its names.
func (p piece) with(letter string) piece {
	p.text, p.name = strings.ReplaceAll(p.text, "%", letter), strings.ReplaceAll(p.name, "%", letter)
	return p
}

func TestP1302TheEarlierCheckCounts(t *testing.T) {
	for _, one := range pieces() {
		alone := one.with("A")
		wantText(t, alone.text, alone.name, alone.err)
		for _, two := range pieces() {
			// The one that stands first counts in the same check.
			one, two := one.with("A"), two.with("B")
			first := one
			if two.check < one.check {
				first = two
			}
			wantText(t, one.text+" "+two.text, first.name, first.err)
			wantText(t, "tree z { ok; } domain z { } key own z int; "+one.text+" "+two.text, first.name, first.err)
		}
	}
}

func TestP1302TheErrorsOfAllSixChecksInOneProgram(t *testing.T) {
	d := samples.Dice(6)
	got := map[int]int{}
	for range 3000 {
		var list []piece
		for i := range 1 + d.Roll(6) {
			list = append(list, samples.Pick(&d, pieces()...).with(string(rune('A'+i))))
		}
		text := ""
		for _, one := range list {
			text += one.text + " "
		}
		if len(text) > api.MaxText {
			continue
		}
		first := slices.MinFunc(list, func(one, two piece) int { return one.check - two.check })
		got[first.check]++
		wantText(t, text, first.name, first.err)
	}
	for check := 1; check <= 6; check++ {
		if got[check] < 30 {
			t.Fatalf("of each check: %v", got)
		}
	}
}

func TestP1302KeysThatNoTextHasComeAheadOfAll(t *testing.T) {
	for _, one := range pieces() {
		one = one.with("A")
		for _, b := range bads() {
			p := program(t, one.text)
			p.Keys = append([]api.Key{b.key}, p.Keys...)
			want(t, p, b.key.Name, b.err)
			p = program(t, one.text)
			if one.check > 1 {
				p.Keys = append(p.Keys, b.key)
				want(t, p, b.key.Name, b.err)
			}
			p.Keys = someKeys(api.MaxKeys + 1)
			want(t, p, "", api.ErrMany)
		}
	}
}

func TestP1302RandomPrograms(t *testing.T) {
	got := map[string]int{}
	for seed := range 12000 {
		d := samples.Maker{Dice: samples.Dice(seed), Wrongs: []int{0, 1, 3, 10, 30}[seed%5]}
		p := d.Program()
		f := modelCheck(p)
		got[fmt.Sprint(f.check, " ", f.err)]++
		if d.Wrongs == 0 && f.check > 0 && f.check < 6 {
			t.Fatalf("%v is wrong: %v", p, f)
		}
		want(t, p, f.name, f.err)
	}
	for _, one := range []string{"0 0", "1 5", "1 6", "1 7", "2 6", "3 1", "3 5", "3 6", "3 7", "4 1", "4 5", "4 7", "5 8"} {
		if got[one] < 10 {
			t.Fatalf("the checks and errors are %v", got)
		}
	}
}
