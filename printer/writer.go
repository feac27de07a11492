package printer

import (
	"strconv"
	"strings"

	"puppeteer/api"
	"puppeteer/expr"
	"puppeteer/syntax"
)

// A writer writes a text line by line.
type writer struct {
	strings.Builder
}

// line writes a line of tokens at this level.
func (w *writer) line(level int, tokens ...string) {
	for range level {
		w.WriteString("  ")
	}
	for i, token := range tokens {
		if i > 0 && token != ";" {
			w.WriteByte(' ')
		}
		w.WriteString(token)
	}
	w.WriteByte('\n')
}

// root writes a node that is in no other one.
func (w *writer) root(n api.Node, level int) {
	// A node may be in itself, so that its text would have no end.
	if nested(n, api.MaxDeep) {
		w.node(n, level)
	}
}

// nested tells whether a node is nested at most deep deep, as far as it is written.
func nested(n api.Node, deep int) bool {
	if deep == 0 {
		return false
	}
	if syntax.MostKids(n.Kind) == 0 {
		return true
	}
	for _, kid := range n.Kids {
		if !nested(kid, deep-1) {
			return false
		}
	}
	return true
}

// node writes a node with all that is in it.
func (w *writer) node(n api.Node, level int) {
	first := head(n)
	switch most := syntax.MostKids(n.Kind); {
	case most == 0:
		w.line(level, append(first, ";")...)
	case most == 1:
		w.line(level, first...)
		w.kids(n, level+1)
	default:
		w.line(level, append(first, "{")...)
		w.kids(n, level+1)
		w.line(level, "}")
	}
}

// head lists the tokens that a node begins with, an expression being one of them.
func head(n api.Node) []string {
	list := []string{word(syntax.Nodes(), n.Kind)}
	switch n.Kind {
	case api.NPar:
		return append(list, strconv.Itoa(n.A), strconv.Itoa(n.B))
	case api.NRepeat:
		return append(list, strconv.Itoa(n.A))
	case api.NIf:
		return append(list, expr.Print(n.Expr))
	case api.NSet:
		return append(list, n.Name, ":=", expr.Print(n.Expr))
	case api.NDo, api.NUse, api.NPlan:
		return append(list, n.Name)
	}
	return list
}

// word returns the word at this index, or an empty one if there is none.
func word(list []string, at int) string {
	if at < 0 || at >= len(list) {
		return ""
	}
	return list[at]
}

// kids writes the nodes in a node. Those that have weights stand one level deeper
// than these.
func (w *writer) kids(n api.Node, level int) {
	for i, kid := range n.Kids {
		if n.Kind == api.NPick && i < len(n.Weights) {
			w.line(level, expr.Print(n.Weights[i]), ":")
			w.node(kid, level+1)
			continue
		}
		w.node(kid, level)
	}
}
