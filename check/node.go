package check

import (
	"puppeteer/api"
	"puppeteer/syntax"
)

// checkNodes checks each tree, node by node.
func (c *checker) checkNodes(p api.Program) (string, api.Errno) {
	return firstTree(p.Trees, func(t api.Tree) api.Errno { return c.node(t.Root) })
}

// node checks a node, and then its kids.
func (c *checker) node(n api.Node) api.Errno {
	c.nodes++
	// No text has so many, but nodes that are in themselves would have no end.
	if c.nodes > api.MaxText {
		return api.ErrMany
	}
	if !syntax.MayHave(n.Kind, len(n.Kids), len(n.Weights)) {
		return api.ErrArg
	}
	if err := c.alone(n); err != api.OK {
		return err
	}
	return first(n.Kids, c.node)
}

// alone checks a node without its kids.
func (c *checker) alone(n api.Node) api.Errno {
	switch n.Kind {
	case api.NIf:
		return c.expr(n.Expr, api.KBool)
	case api.NSet:
		kind, there := c.kinds[n.Name]
		if !there {
			return api.ErrName
		}
		return c.expr(n.Expr, kind)
	case api.NPick:
		return first(n.Weights, func(x api.Expr) api.Errno { return c.expr(x, api.KInt) })
	case api.NPlan:
		return errUnless(c.domains.has(n.Name), api.ErrName)
	case api.NUse:
		_, there := c.roots[n.Name]
		return errUnless(there, api.ErrName)
	case api.NPar:
		return errUnless(within(n.A, 1, len(n.Kids)) && within(n.B, 1, len(n.Kids)), api.ErrArg)
	case api.NRepeat:
		return errUnless(within(n.A, 1, syntax.MostTimes), api.ErrArg)
	}
	return api.OK
}

// expr checks an expression that is to be of this kind.
func (c *checker) expr(x api.Expr, want int) api.Errno {
	kind, err := c.kinds.kind(x)
	if err != api.OK {
		return err
	}
	return errUnless(kind == want, api.ErrKind)
}
