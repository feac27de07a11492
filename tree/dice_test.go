package tree_test

import (
	"math"

	"puppeteer/api"
	"puppeteer/expr"
	"puppeteer/lex"
	"puppeteer/samples"
)

// dice make names, numbers, nodes, programs and layouts.
type dice struct{ samples.Dice }

func pick[T any](d *dice, list ...T) T { return samples.Pick(&d.Dice, list...) }

// few is a number from 0 to most, which is more often small than great.
func (d *dice) few(most int) int {
	return d.Roll(1 + d.Roll(1+d.Roll(1+most)))
}

func (d *dice) name() string {
	return pick(d, "a", "b", "x_1", "Seq", "okay", "keys", "v", "w", "own_", "int8", longest())
}

// number is one that a TInt may have.
func (d *dice) number() int {
	return pick(d, 0, 1, 2, 5, 16, 17, 40, 1000, math.MaxInt, math.MaxInt-1, d.Roll(1<<30))
}

func (d *dice) signed() int {
	return pick(d, 1, -1) * d.number()
}

func (d *dice) expr() api.Expr {
	leaf := pick(d, number(d.signed()), key(d.name()), api.Expr{Kind: api.EBool, N: d.Roll(2)}, api.Expr{Kind: api.ESym, Name: d.name()}, of(api.ESelf), of(api.ETime))
	switch d.Roll(6) {
	case 0:
		return of(pick(d, api.ENot, api.ERe, api.EIm, api.ETurn), leaf)
	case 1:
		return of(pick(d, api.EPoint, api.EFar), d.expr(), leaf)
	case 2:
		return of(api.EAdd+d.Roll(api.EOr-api.EAdd+1), leaf, d.expr())
	}
	return leaf
}

// leaf is a node without kids.
func (d *dice) leaf() api.Node {
	return pick(d, test(d.expr()), set(d.name(), d.expr()), named(api.NDo, d.name()), named(api.NUse, d.name()), named(api.NPlan, d.name()),
		node(api.NOk), node(api.NFail), node(api.NWait))
}

// node is one that is nested up to deep deep, and has some n nodes in it.
func (d *dice) node(deep, n int) api.Node {
	if deep == 1 || n <= 1 {
		return d.leaf()
	}
	var kids []api.Node
	for range 1 + d.few(api.MaxKids-1) {
		kids = append(kids, d.node(deep-1, n/(1+d.Roll(4))))
		n -= n / 4
	}
	switch d.Roll(8) {
	case 0:
		return node(api.NNot, kids[0])
	case 1:
		return repeat(d.number(), kids[0])
	case 2:
		return par(d.number(), d.number(), kids...)
	case 3:
		all := node(api.NPick, kids...)
		for range kids {
			all.Weights = append(all.Weights, d.expr())
		}
		return all
	}
	return node(pick(d, api.NSeq, api.NSel, api.NMSeq, api.NMSel), kids...)
}

func (d *dice) cond() api.Cond {
	return api.Cond{Name: d.name(), Op: d.Roll(3), N: d.signed()}
}

func (d *dice) act() api.Act {
	a := api.Act{Name: d.name(), Cost: d.number()}
	for range d.few(api.MaxVars) {
		a.Need = append(a.Need, d.cond())
	}
	for range d.few(api.MaxVars) {
		a.Make = append(a.Make, api.Make{Name: d.name(), Add: d.Roll(2) == 0, N: d.signed()})
	}
	return a
}

func (d *dice) domain() api.Domain {
	all := api.Domain{Name: d.name()}
	for range d.few(api.MaxVars) {
		all.Vars = append(all.Vars, api.Var{Name: d.name(), Low: d.signed(), High: d.signed()})
	}
	for range d.few(api.MaxActs) {
		all.Acts = append(all.Acts, d.act())
	}
	for range d.few(api.MaxVars) {
		all.Goal = append(all.Goal, d.cond())
	}
	return all
}

// program is one with some n declarations of each sort, at most.
func (d *dice) program(n int) api.Program {
	var p api.Program
	for range d.few(n) {
		p.Keys = append(p.Keys, api.Key{Name: d.name(), Kind: d.Roll(5), Shared: d.Roll(2) == 0})
	}
	for range d.few(n) {
		p.Trees = append(p.Trees, api.Tree{Name: d.name(), Root: d.node(1+d.Roll(8), d.Roll(40))})
	}
	for range d.few(n) {
		p.Domains = append(p.Domains, d.domain())
	}
	return p
}

// mix lays lists of several sorts, which follow each other, one into the other,
// each sort in its order. A list's sort is its first token.
func (d *dice) mix(all [][]string) {
	sorts := map[string][][]string{}
	var words []string
	for _, one := range all {
		words = append(words, one[0])
		sorts[one[0]] = append(sorts[one[0]], one)
	}
	for i := range words {
		j := i + d.Roll(len(words)-i)
		words[i], words[j] = words[j], words[i]
	}
	for i, word := range words {
		all[i], sorts[word] = sorts[word][0], sorts[word][1:]
	}
}

// gap is what may stand between tokens.
func (d *dice) gap() string {
	return pick(d, " ", " ", " ", "\n", "\t", "\r\n", "   ", "\n\n  ", " // x\n", "\t//\n", " // ok; } 'k :=\r\n\n", " //// 1\n //a\n ")
}

// lay lays tokens out as a text.
func (d *dice) lay(list []string) string {
	text := pick(d, "", "", d.gap())
	for i, one := range list {
		text += one
		if i+1 < len(list) && !apart(one, list[i+1]) || d.Roll(2) == 0 {
			text += d.gap()
		}
	}
	return text
}

// apart tells whether a token is told from the one behind it without a gap.
func apart(one, other string) bool {
	l, _, err := lex.Tokens([]byte(one + other))
	return err == api.OK && len(l) == 3 && l[1].At == len(one)
}

// loose is a text of an expression, with or without parentheses.
func (d *dice) loose() string {
	if d.Roll(2) == 0 {
		return expr.Print(d.expr())
	}
	return pick(d, "a + 1", "- 5 * b", "not a == b", "a and (b or c)", "(1, 2)", "((a))", "far((1, 2), a)", "'a", "turn turn a < 1", "a == b == c", "1 +", "(1", "far(a)", ")", "")
}
