package check

import (
	"slices"

	"puppeteer/api"
)

// checkRings checks that no tree uses itself.
func (c *checker) checkRings(p api.Program) (string, api.Errno) {
	return firstTree(p.Trees, func(t api.Tree) api.Errno {
		return errUnless(!c.uses(t.Root, t.Name, names{}), api.ErrRing)
	})
}

// uses tells whether a node uses a tree, directly or through trees that are not in
// seen yet.
func (c *checker) uses(n api.Node, name string, seen names) bool {
	if n.Kind != api.NUse {
		return slices.ContainsFunc(n.Kids, func(kid api.Node) bool { return c.uses(kid, name, seen) })
	}
	return n.Name == name || seen.add(n.Name) && c.uses(c.roots[n.Name], name, seen)
}

// checkSizes checks that no tree is too deep or too large if what it uses is in its
// place.
func (c *checker) checkSizes(p api.Program) (string, api.Errno) {
	return firstTree(p.Trees, func(t api.Tree) api.Errno {
		nodes := 0
		return c.expand(t.Root, 1, &nodes)
	})
}

// expand visits a node at this depth, and what it uses, in the order of the text,
// and counts all nodes that stand there in the end.
func (c *checker) expand(n api.Node, depth int, nodes *int) api.Errno {
	if n.Kind == api.NUse {
		return c.expand(c.roots[n.Name], depth, nodes)
	}
	*nodes++
	switch {
	case depth > api.MaxDeep:
		return api.ErrDeep
	case *nodes > api.MaxNodes:
		return api.ErrMany
	}
	return first(n.Kids, func(kid api.Node) api.Errno { return c.expand(kid, depth+1, nodes) })
}
