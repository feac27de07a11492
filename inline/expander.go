package inline

import (
	"puppeteer/api"
	"puppeteer/nest"
)

// An expander makes a tree in which nothing is a use.
type expander struct {
	trees  []api.Tree
	places map[string]int // of the trees, by their names
	open   []bool         // for each tree, whether what is visited is in it

	nodes int // so far
	exprs nest.Copier
}

// placesOf tells where the first tree of each name is.
func placesOf(l []api.Tree) map[string]int {
	places := map[string]int{}
	for i, t := range l {
		if _, there := places[t.Name]; !there {
			places[t.Name] = i
		}
	}
	return places
}

// node returns a node of this depth, with all that is below it.
func (e *expander) node(n api.Node, depth int) (api.Node, api.Errno) {
	n, opened, err := e.follow(n)
	if err != api.OK {
		return api.Node{}, err
	}
	e.nodes++
	switch {
	case depth > api.MaxDeep:
		return api.Node{}, api.ErrDeep
	case e.nodes > api.MaxNodes:
		return api.Node{}, api.ErrMany
	}
	if n.Kids, err = e.kids(n.Kids, depth+1); err != api.OK {
		return api.Node{}, err
	}
	var fit bool
	if n.Expr, n.Weights, fit = e.exprs.Both(n.Expr, n.Weights); !fit {
		return api.Node{}, api.ErrMany
	}
	for _, at := range opened {
		e.open[at] = false
	}
	return n, api.OK
}

// follow returns what a node is replaced by, which is itself unless it is a use, and
// the places of the trees that were opened for it.
func (e *expander) follow(n api.Node) (api.Node, []int, api.Errno) {
	var opened []int
	for n.Kind == api.NUse {
		at, there := e.places[n.Name]
		if !there {
			return api.Node{}, nil, api.ErrName
		}
		if e.open[at] {
			return api.Node{}, nil, api.ErrRing
		}
		e.open[at] = true
		opened = append(opened, at)
		n = e.trees[at].Root
	}
	return n, opened, api.OK
}

func (e *expander) kids(list []api.Node, depth int) ([]api.Node, api.Errno) {
	var kids []api.Node
	for _, n := range list {
		kid, err := e.node(n, depth)
		if err != api.OK {
			return nil, err
		}
		kids = append(kids, kid)
	}
	return kids, api.OK
}
