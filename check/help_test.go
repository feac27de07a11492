package check_test

import (
	"fmt"
	"testing"

	"puppeteer/api"
	"puppeteer/check"
	"puppeteer/expr"
	"puppeteer/lex"
	"puppeteer/printer"
	"puppeteer/samples"
	"puppeteer/tree"
)

// expression returns the expression of a text.
func expression(t *testing.T, text string) api.Expr {
	t.Helper()
	l, at, err := lex.Tokens([]byte(text))
	if err != api.OK {
		t.Fatalf("Tokens of %.300q: error %d at %d", text, err, at)
	}
	x, to, err := expr.Parse(l, 0)
	if err != api.OK || to != len(l)-1 {
		t.Fatalf("Parse of %.300q: %d, error %d", text, to, err)
	}
	return x
}

// program returns the program of a text.
func program(t *testing.T, text string) api.Program {
	t.Helper()
	p, at, err := tree.Parse([]byte(text))
	if err != api.OK {
		t.Fatalf("Parse of %.300q: error %d at %d", text, err, at)
	}
	return p
}

func name(text string) api.Expr { return api.Expr{Kind: api.EName, Name: text} }

func ten() []api.Key { return samples.TenKeys() }

// tenKeys is a text that declares these keys.
const tenKeys = "key own i int; key own b bool; key own r ref; key own s sym; key own p point;" +
	"key shared I int; key shared B bool; key shared R ref; key shared S sym; key shared P point;"

// wantKind checks what Kind answers, against the model too.
func wantKind(t *testing.T, x api.Expr, l []api.Key, kind int, err api.Errno) {
	t.Helper()
	if got, gotErr := check.Kind(x, l); got != kind || gotErr != err {
		t.Fatalf("Kind of %.300s with %.300s: %d, error %d; want %d, error %d", fmt.Sprint(x), fmt.Sprint(l), got, gotErr, kind, err)
	}
	if got, gotErr := modelKind(x, l); got != kind || gotErr != err {
		t.Fatalf("by the model, Kind of %.300s with %.300s: %d, error %d; want %d, error %d", fmt.Sprint(x), fmt.Sprint(l), got, gotErr, kind, err)
	}
}

// wantKindOf checks what Kind answers for a text, with a key of each kind.
func wantKindOf(t *testing.T, text string, kind int, err api.Errno) {
	t.Helper()
	x := expression(t, text)
	if got, gotErr := check.Kind(x, ten()); got != kind || gotErr != err {
		t.Fatalf("Kind of %.300q: %d, error %d; want %d, error %d", text, got, gotErr, kind, err)
	}
	wantKind(t, x, ten(), kind, err)
}

// want checks what Check answers for a program, against the model too.
func want(t *testing.T, p api.Program, name string, err api.Errno) {
	t.Helper()
	if got, gotErr := check.Check(p); got != name || gotErr != err {
		t.Fatalf("Check of %.500q: %.50q, error %d; want %.50q, error %d", printer.Print(p), got, gotErr, name, err)
	}
	if got := modelCheck(p); got.name != name || got.err != err {
		t.Fatalf("by the model, Check of %.500q: %.50q, error %d; want %.50q, error %d", printer.Print(p), got.name, got.err, name, err)
	}
}

// wantText checks what Check answers for the program of a text.
func wantText(t *testing.T, text, name string, err api.Errno) {
	t.Helper()
	want(t, program(t, text), name, err)
}

// wantRight checks that a text is a program that is accepted.
func wantRight(t *testing.T, text string) {
	t.Helper()
	wantText(t, text, "", api.OK)
}
