package samples

import (
	"slices"
	"strconv"
	"strings"

	"puppeteer/api"
	"puppeteer/expr"
	"puppeteer/lex"
)

// Words of nodes, of the kinds of values and of comparisons, in the order of their
// numbers. They are not taken from the program: they test it.
const (
	nodeWords   = "seq sel mseq msel par not repeat if set do use pick plan ok fail wait"
	valueWords  = "int bool ref sym point"
	comparisons = ">= <= =="
)

// NodeWords lists the words that nodes begin with, each at its kind.
func NodeWords() []string { return strings.Fields(nodeWords) }

// WrittenNode lists the tokens of a node, an expression being one of them, from the
// fields that a node of its kind has.
func WrittenNode(n api.Node) []string {
	list := []string{NodeWords()[n.Kind]}
	var end []string
	switch n.Kind {
	case api.NPar:
		list = append(list, strconv.Itoa(n.A), strconv.Itoa(n.B), "{")
		end = []string{"}"}
	case api.NSeq, api.NSel, api.NMSeq, api.NMSel, api.NPick:
		list = append(list, "{")
		end = []string{"}"}
	case api.NRepeat:
		list = append(list, strconv.Itoa(n.A))
	case api.NIf:
		list = append(list, expr.Print(n.Expr), ";")
	case api.NSet:
		list = append(list, n.Name, ":=", expr.Print(n.Expr), ";")
	case api.NDo, api.NUse, api.NPlan:
		list = append(list, n.Name, ";")
	case api.NOk, api.NFail, api.NWait:
		list = append(list, ";")
	}
	for i, kid := range n.Kids {
		if n.Kind == api.NPick && i < len(n.Weights) {
			list = append(list, expr.Print(n.Weights[i]), ":")
		}
		list = append(list, WrittenNode(kid)...)
	}
	return append(list, end...)
}

func writtenCond(word string, c api.Cond) []string {
	return []string{word, c.Name, strings.Fields(comparisons)[c.Op], strconv.Itoa(c.N), ";"}
}

func writtenMake(m api.Make) []string {
	sign, n := "=", strconv.Itoa(m.N)
	if m.Add {
		sign = "+"
		if m.N < 0 {
			sign, n = "-", n[1:]
		}
	}
	return []string{"make", m.Name, sign, n, ";"}
}

// writtenAct lists an act's parts, each of which is a list of tokens.
func writtenAct(a api.Act) [][]string {
	var parts [][]string
	for _, c := range a.Need {
		parts = append(parts, writtenCond("need", c))
	}
	for _, m := range a.Make {
		parts = append(parts, writtenMake(m))
	}
	return parts
}

// writtenDomain lists a domain's elements, each of which is a list of tokens. mix
// puts the parts of an act into their order.
func writtenDomain(d api.Domain, mix func([][]string)) [][]string {
	var elements [][]string
	for _, v := range d.Vars {
		elements = append(elements, []string{"var", v.Name, strconv.Itoa(v.Low), strconv.Itoa(v.High), ";"})
	}
	for _, a := range d.Acts {
		parts := writtenAct(a)
		mix(parts)
		element := []string{"act", a.Name, "cost", strconv.Itoa(a.Cost), "{"}
		elements = append(elements, append(append(element, slices.Concat(parts...)...), "}"))
	}
	for _, c := range d.Goal {
		elements = append(elements, writtenCond("goal", c))
	}
	return elements
}

// Written lists the tokens of a program, an expression being one of them. mix puts
// what may stand in any order into its order.
func Written(p api.Program, mix func([][]string)) []string {
	var all [][]string
	for _, k := range p.Keys {
		owner := "own"
		if k.Shared {
			owner = "shared"
		}
		all = append(all, []string{"key", owner, k.Name, strings.Fields(valueWords)[k.Kind], ";"})
	}
	for _, one := range p.Trees {
		all = append(all, append(append([]string{"tree", one.Name, "{"}, WrittenNode(one.Root)...), "}"))
	}
	for _, d := range p.Domains {
		elements := writtenDomain(d, mix)
		mix(elements)
		all = append(all, append(append([]string{"domain", d.Name, "{"}, slices.Concat(elements...)...), "}"))
	}
	mix(all)
	return slices.Concat(all...)
}

// InOrder leaves a list as it is: keys, trees and domains; vars, acts and goals;
// needs and makes.
func InOrder([][]string) {}

// Mix lays lists of several sorts, which follow each other, one into the other,
// each sort in its order. A list's sort is its first token.
func (d *Dice) Mix(all [][]string) {
	sorts := map[string][][]string{}
	var words []string
	for _, one := range all {
		words = append(words, one[0])
		sorts[one[0]] = append(sorts[one[0]], one)
	}
	for i := range words {
		j := i + d.Roll(len(words)-i)
		words[i], words[j] = words[j], words[i]
	}
	for i, word := range words {
		all[i], sorts[word] = sorts[word][0], sorts[word][1:]
	}
}

// Gap returns what may stand between tokens.
func (d *Dice) Gap() string {
	return Pick(d, " ", " ", " ", "\n", "\t", "\r\n", "   ", "\n\n  ", " // x\n", "\t//\n", " // ok; } 'k :=\r\n\n", " //// 1\n //a\n ")
}

// Lay lays tokens out as a text.
func (d *Dice) Lay(list []string) string {
	var b strings.Builder
	b.WriteString(Pick(d, "", "", d.Gap()))
	for i, one := range list {
		b.WriteString(one)
		if i+1 < len(list) && !apart(one, list[i+1]) || d.Roll(2) == 0 {
			b.WriteString(d.Gap())
		}
	}
	return b.String()
}

// apart tells whether a token is told from the one behind it without a gap.
func apart(one, other string) bool {
	l, _, err := lex.Tokens([]byte(one + other))
	return err == api.OK && len(l) == 3 && l[1].At == len(one)
}
