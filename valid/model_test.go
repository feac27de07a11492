package valid_test

import (
	"slices"
	"strings"

	"puppeteer/api"
	"puppeteer/expr"
	"puppeteer/flat"
	"puppeteer/inline"
	"puppeteer/lex"
	"puppeteer/printer"
	"puppeteer/samples"
	"puppeteer/tree"
)

// rules lists what nodes have that are right, in the order of their kinds.
const rules = `
seq many
sel many
mseq many
msel many
par many A B
not one
repeat one A
if Expr
set Name Expr
do Name
use never
pick many Weights
plan Name
ok
fail
wait
`

// modelRight tells Right another way: from the node, and by the rules.
func modelRight(l []api.Flat) bool {
	n, back := flat.Back(l)
	return back && inline.Count(n) <= 4000 && inline.Depth(n) <= 40 && ruled(n)
}

// ruled tells whether a node, and those in it, are as the rules have it.
func ruled(n api.Node) bool {
	lines := strings.Split(strings.TrimSpace(rules), "\n")
	if n.Kind < 0 || n.Kind >= len(lines) {
		return false
	}
	words := strings.Fields(lines[n.Kind])
	has := func(word string) bool { return slices.Contains(words[1:], word) }
	least, most, mostA, weights := 0, 0, len(n.Kids), 0
	if has("many") {
		least, most = 1, 16
	}
	if has("one") {
		least, most, mostA = 1, 1, 1000
	}
	if has("Weights") {
		weights = len(n.Kids)
	}
	return !has("never") && least <= len(n.Kids) && len(n.Kids) <= most && len(n.Weights) == weights &&
		rangedIf(has("A"), n.A, mostA) && rangedIf(has("B"), n.B, len(n.Kids)) && namedIf(has("Name"), n.Name) && validIf(has("Expr"), n.Expr) &&
		!slices.ContainsFunc(n.Weights, func(x api.Expr) bool { return !expr.Right(x) }) && !slices.ContainsFunc(n.Kids, func(kid api.Node) bool { return !ruled(kid) })
}

func rangedIf(has bool, number, most int) bool {
	if has {
		return 1 <= number && number <= most
	}
	return number == 0
}

func namedIf(has bool, name string) bool {
	if has {
		return lex.Name(name)
	}
	return name == ""
}

func validIf(has bool, x api.Expr) bool {
	if has {
		return expr.Right(x)
	}
	return samples.SameExpr(x, api.Expr{})
}

// readRight tells Right yet another way: nodes that are right are those that are read
// from a text, but for uses and the ranges of numbers. A text holds no great ones.
func readRight(l []api.Flat) bool {
	n, back := flat.Back(l)
	if !back {
		return false
	}
	tokens, _, err := lex.Tokens([]byte(printer.Node(n, 0)))
	if err != api.OK {
		return false
	}
	got, to, err := tree.Node(tokens, 0)
	return err == api.OK && to == len(tokens)-1 && samples.SameNode(got, n) && inRange(n)
}

func inRange(n api.Node) bool {
	switch n.Kind {
	case api.NUse:
		return false
	case api.NPar:
		if n.A < 1 || n.B < 1 || n.A > len(n.Kids) || n.B > len(n.Kids) {
			return false
		}
	case api.NRepeat:
		if n.A < 1 || n.A > 1000 {
			return false
		}
	}
	return !slices.ContainsFunc(n.Kids, func(kid api.Node) bool { return !inRange(kid) })
}
