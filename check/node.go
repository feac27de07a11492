package check

import (
	"puppeteer/api"
	"puppeteer/syntax"
)

// mostTimes is how often an NRepeat may repeat its node.
const mostTimes = 1000

// checkNodes checks each tree, node by node.
func (c *checker) checkNodes(p api.Program) (string, api.Errno) {
	return firstTree(p.Trees, func(t api.Tree) api.Errno { return c.node(t.Root) })
}

// node checks a node, and then its kids.
func (c *checker) node(n api.Node) api.Errno {
	c.nodes++
	// No text has so many, but nodes that are in themselves would have no end.
	if c.nodes > api.MaxText {
		return api.ErrMany
	}
	if !formed(n) {
		return api.ErrArg
	}
	if err := c.alone(n); err != api.OK {
		return err
	}
	return first(n.Kids, c.node)
}

// formed tells whether there is such a kind of nodes, with as many kids and weights.
func formed(n api.Node) bool {
	kids, weights := syntax.MostKids(n.Kind), 0
	if n.Kind == api.NPick {
		weights = len(n.Kids)
	}
	return within(n.Kind, api.NSeq, api.NWait) && within(len(n.Kids), min(kids, 1), kids) && len(n.Weights) == weights
}

// alone checks a node without its kids.
func (c *checker) alone(n api.Node) api.Errno {
	switch n.Kind {
	case api.NIf:
		return c.expr(n.Expr, api.KBool)
	case api.NSet:
		kind, there := c.kinds[n.Name]
		if !there {
			return api.ErrName
		}
		return c.expr(n.Expr, kind)
	case api.NPick:
		return first(n.Weights, func(x api.Expr) api.Errno { return c.expr(x, api.KInt) })
	case api.NPlan:
		return errUnless(c.domains.has(n.Name), api.ErrName)
	case api.NUse:
		_, there := c.roots[n.Name]
		return errUnless(there, api.ErrName)
	case api.NPar:
		return errUnless(within(n.A, 1, len(n.Kids)) && within(n.B, 1, len(n.Kids)), api.ErrArg)
	case api.NRepeat:
		return errUnless(within(n.A, 1, mostTimes), api.ErrArg)
	}
	return api.OK
}

// expr checks an expression that is to be of this kind.
func (c *checker) expr(x api.Expr, want int) api.Errno {
	kind, err := c.kinds.kind(x)
	if err != api.OK {
		return err
	}
	return errUnless(kind == want, api.ErrKind)
}
