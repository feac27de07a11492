package check_test

import (
	"fmt"
	"reflect"
	"strings"
	"sync"
	"testing"

	"puppeteer/api"
	"puppeteer/check"
	"puppeteer/samples"
)

// spread copies a value with all that is in it. Each slice of the copy has spare
// capacity, in which there are further elements, without slices of their own.
func spread(v reflect.Value) reflect.Value {
	switch v.Kind() {
	case reflect.Slice:
		l := reflect.MakeSlice(v.Type(), v.Len()+2, v.Len()+2)
		for i := range v.Len() {
			l.Index(i).Set(spread(v.Index(i)))
			l.Index(v.Len() + i%2).Set(scalars(v.Index(i)))
		}
		return l.Slice(0, v.Len())
	case reflect.Struct:
		s := reflect.New(v.Type()).Elem()
		for i := range v.NumField() {
			s.Field(i).Set(spread(v.Field(i)))
		}
		return s
	}
	return v
}

// scalars copies a value without the slices in it.
func scalars(v reflect.Value) reflect.Value {
	if v.Kind() != reflect.Struct {
		return v
	}
	s := reflect.New(v.Type()).Elem()
	for i := range v.NumField() {
		if v.Field(i).Kind() != reflect.Slice {
			s.Field(i).Set(scalars(v.Field(i)))
		}
	}
	return s
}

// spreadOf is spread of a value of any type.
func spreadOf[T any](v T) T { return spread(reflect.ValueOf(v)).Interface().(T) }

// shown is a value in print, with what is in the spare capacity of its slices.
func shown(v any) string {
	var b strings.Builder
	var show func(v reflect.Value)
	show = func(v reflect.Value) {
		switch v.Kind() {
		case reflect.Slice:
			fmt.Fprintf(&b, "[%d/%d ", v.Len(), v.Cap())
			for i := range v.Cap() {
				show(v.Slice(0, v.Cap()).Index(i))
			}
			b.WriteString("]")
		case reflect.Struct:
			b.WriteString("{")
			for i := range v.NumField() {
				show(v.Field(i))
			}
			b.WriteString("}")
		default:
			fmt.Fprintf(&b, "%v ", v.Interface())
		}
	}
	show(reflect.ValueOf(v))
	return b.String()
}

// programs lists small programs, some of which are wrong.
func programs(t *testing.T, n int) []api.Program {
	t.Helper()
	var list []api.Program
	for i, one := range pieces() {
		one = one.with("A")
		list = append(list, program(t, one.text), program(t, pieces()[(i*7)%len(pieces())].with("B").text+one.text))
	}
	for seed := range n {
		d := samples.Maker{Dice: samples.Dice(seed), Wrongs: 5 * (seed % 3)}
		list = append(list, d.Program())
	}
	return list
}

// An answer is what Check answers.
type answer struct {
	name string
	err  api.Errno
}

func answersOf(list []api.Program) []answer {
	var answers []answer
	for _, p := range list {
		name, err := check.Check(spreadOf(p))
		answers = append(answers, answer{name, err})
	}
	return answers
}

func TestP1303ProgramsStayAsTheyAre(t *testing.T) {
	got := map[api.Errno]int{}
	for _, p := range programs(t, 300) {
		wide := spreadOf(p)
		was := shown(wide)
		name, err := check.Check(wide)
		got[err]++
		if now := shown(wide); now != was {
			t.Fatalf("Check makes %.300q of %.300q", now, was)
		}
		// What is in the spare capacity does not count.
		if wantName, want := check.Check(p); name != wantName || err != want {
			t.Fatalf("Check of %.300q: %q, error %d; want %q, error %d", was, name, err, wantName, want)
		}
	}
	if got[api.OK] < 50 || len(got) < 6 {
		t.Fatalf("the errors are %v", got)
	}
}

func TestP1303ExpressionsAndKeysStayAsTheyAre(t *testing.T) {
	for seed := range 1000 {
		d := samples.Maker{Dice: samples.Dice(seed), Wrongs: 20 * (seed % 2)}
		x, l := spreadOf(d.Expr(d.Roll(5), 1+d.Roll(4))), spreadOf(ten())
		was, wasKeys := shown(x), shown(l)
		kind, err := check.Kind(x, l)
		if shown(x) != was || shown(l) != wasKeys {
			t.Fatalf("Kind makes %.300q with %.300q of %.300q with %.300q", shown(x), shown(l), was, wasKeys)
		}
		wantKind(t, x, l, kind, err)
	}
}

func TestP1303NothingIsKept(t *testing.T) {
	list := programs(t, 60)
	answers := answersOf(list)
	// The same memory becomes a program after the other.
	var all api.Program
	for i := range 3 * len(list) {
		at := i * 7 % len(list)
		p := spreadOf(list[at])
		all.Keys, all.Trees, all.Domains = append(all.Keys[:0], p.Keys...), append(all.Trees[:0], p.Trees...), append(all.Domains[:0], p.Domains...)
		if name, err := check.Check(all); name != answers[at].name || err != answers[at].err {
			t.Fatalf("Check of %.300q: %q, error %d; want %q, error %d", shown(p), name, err, answers[at].name, answers[at].err)
		}
	}
	l, x := ten(), expression(t, "i + 1")
	wantKind(t, x, l, api.KInt, api.OK)
	l[0].Kind = api.KBool
	wantKind(t, x, l, 0, api.ErrKind)
	l[0].Name = "j"
	wantKind(t, x, l, 0, api.ErrName)
	x.Kids[0].Name = "I"
	wantKind(t, x, l, api.KInt, api.OK)
	wantKind(t, x, nil, 0, api.ErrName)
}

func TestP1303AnswersDependOnTheArgumentsOnly(t *testing.T) {
	list := programs(t, 60)
	answers := answersOf(list)
	x, y := expression(t, "p + (i, re P)"), expression(t, "p + (i, none)")
	var all sync.WaitGroup
	for i := range 8 {
		all.Go(func() {
			for j := range 3 * len(list) {
				at := (7*i + j) % len(list)
				if name, err := check.Check(list[at]); name != answers[at].name || err != answers[at].err {
					t.Errorf("Check of %.300q: %q, error %d, then %q, error %d", shown(list[at]), answers[at].name, answers[at].err, name, err)
				}
				if kind, err := check.Kind(x, ten()); kind != api.KPoint || err != api.OK {
					t.Errorf("Kind: %d, error %d", kind, err)
				}
				if kind, err := check.Kind(y, ten()); kind != 0 || err != api.ErrName {
					t.Errorf("Kind: %d, error %d", kind, err)
				}
			}
		})
	}
	all.Wait()
}
