package printer_test

import (
	"math"
	"strings"
	"testing"

	"puppeteer/api"
	"puppeteer/lex"
	"puppeteer/printer"
	"puppeteer/samples"
	"puppeteer/tree"
)

func node(kind int, kids ...api.Node) api.Node { return api.Node{Kind: kind, Kids: kids} }

// some returns the tokens of a text, without the TEnd.
func some(t *testing.T, text string) []api.Token {
	t.Helper()
	l, at, err := lex.Tokens([]byte(text))
	if err != api.OK {
		t.Fatalf("Tokens of %.300q: error %d at %d", text, err, at)
	}
	return l[:len(l)-1]
}

// parsed returns the node of a text.
func parsed(t *testing.T, text string) api.Node {
	t.Helper()
	l := some(t, text)
	n, to, err := tree.Node(l, 0)
	if to != len(l) || err != api.OK {
		t.Fatalf("Node of %.300q: %d, error %d", text, to, err)
	}
	return n
}

// program returns the program of a text.
func program(t *testing.T, text string) api.Program {
	t.Helper()
	p, at, err := tree.Parse([]byte(text))
	if at != len(text) || err != api.OK {
		t.Fatalf("Parse of %.300q: %d, error %d", text, at, err)
	}
	return p
}

// shifted is a text with its lines some levels deeper.
func shifted(text string, levels int) string {
	var b strings.Builder
	for line := range strings.Lines(text) {
		b.WriteString(strings.Repeat("  ", levels) + line)
	}
	return b.String()
}

// levels tells at which level a node is written for a number.
func levels() map[int]int {
	return map[int]int{math.MinInt: 0, math.MinInt + 1: 0, -1 << 40: 0, -100: 0, -2: 0, -1: 0, 0: 0, 1: 1, 2: 2, 3: 3, 50: 50, 98: 98, 99: 99,
		100: 100, 101: 100, 102: 100, 103: 100, 200: 100, 1 << 40: 100, math.MaxInt - 1: 100, math.MaxInt: 100}
}

// wantNode checks the text of a node, at every level.
func wantNode(t *testing.T, n api.Node, want string) {
	t.Helper()
	for deep, level := range levels() {
		if got := printer.Node(n, deep); got != shifted(want, level) {
			t.Fatalf("Node at %d: %q; want %q", deep, got, shifted(want, level))
		}
	}
	wantProgram(t, api.Program{Trees: []api.Tree{{Name: "t", Root: n}}}, "tree t {\n"+shifted(want, 1)+"}\n")
}

// wantProgram checks the text of a program.
func wantProgram(t *testing.T, p api.Program, want string) {
	t.Helper()
	if got := printer.Print(p); got != want {
		t.Fatalf("Print: %q; want %q", got, want)
	}
}

// wantSame checks that a text that was printed is read as the program again, and
// printed as it is.
func wantSame(t *testing.T, p api.Program, text string) {
	t.Helper()
	q, at, err := tree.Parse([]byte(text))
	if at != len(text) || err != api.OK || !samples.SameProgram(p, q) {
		t.Fatalf("%.500q is read as %v, %d, error %d; it was printed for %v", text, q, at, err, p)
	}
	if again := printer.Print(q); again != text {
		t.Fatalf("%.500q is printed as %.500q then", text, again)
	}
}

// laid lays tokens, of which an expression is one, out as the text of a node or of
// a program. It tells the rules another way: the level of a line hangs on the braces
// that are open and on how the line ahead of it ends.
func laid(list []string, level int) string {
	var b strings.Builder
	var open []int // the levels of the lines that end with a brace
	at, begins := level, true
	for i, token := range list {
		if token == "}" {
			at, open = open[len(open)-1], open[:len(open)-1]
		}
		switch {
		case begins:
			b.WriteString(strings.Repeat(" ", 2*at))
		case token != ";":
			b.WriteString(" ")
		}
		b.WriteString(token)
		begins = true
		switch {
		case token == "{":
			open = append(open, at)
			at++
		case token == ":" || token == "not" || i > 0 && list[i-1] == "repeat":
			at++
		case token == ";" || token == "}":
			at = level
			if len(open) > 0 {
				at = open[len(open)-1] + 1
			}
		default:
			begins = false
			continue
		}
		b.WriteString("\n")
	}
	return b.String()
}
