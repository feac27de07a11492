package tree

import (
	"puppeteer/api"
	"puppeteer/syntax"
)

// node parses a node with all that is in it.
func (p *parser) node() api.Node {
	var open []api.Node // those that wait for a kid, the outermost one first
	var n api.Node

begin:
	if len(open) == api.MaxDeep {
		p.Fail(api.ErrDeep)
	}
	n = p.head()

behind:
	switch {
	case p.Err != api.OK:
		return api.Node{}
	case p.another(&n):
		open = append(open, n)
		goto begin
	case len(open) == 0:
		return n
	}
	last := len(open) - 1
	open[last].Kids = append(open[last].Kids, n)
	n, open = open[last], open[:last]
	goto behind
}

// head parses a node up to the place where its first kid would begin.
func (p *parser) head() api.Node {
	n := api.Node{Kind: p.choice(syntax.Nodes())}
	switch n.Kind {
	case api.NPar:
		n.A = p.Number()
		n.B = p.Number()
	case api.NRepeat:
		n.A = p.Number()
	case api.NIf:
		n.Expr = p.expression()
	case api.NSet:
		n.Name = p.Name()
		p.Expect(":=")
		n.Expr = p.expression()
	case api.NDo, api.NUse, api.NPlan:
		n.Name = p.Name()
	}
	switch most := syntax.MostKids(n.Kind); {
	case most == 0:
		p.Expect(";")
	case most > 1:
		p.Expect("{")
	}
	return n
}

// another tells whether a kid follows behind those that n has, and reads what
// stands ahead of it, or the brace that closes n.
func (p *parser) another(n *api.Node) bool {
	most := syntax.MostKids(n.Kind)
	if most <= 1 {
		return len(n.Kids) < most
	}
	if len(n.Kids) > 0 && p.Accept("}") {
		return false
	}
	if len(n.Kids) == most {
		p.Fail(api.ErrMany)
	}
	if n.Kind == api.NPick {
		n.Weights = append(n.Weights, p.expression())
		p.Expect(":")
	}
	return true
}
