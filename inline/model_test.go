package inline_test

import (
	"slices"

	"puppeteer/api"
)

// A visit is a node that is still to be visited, its depth in the result, and the
// names of the trees that it is in.
type visit struct {
	n     api.Node
	depth int
	in    []string
}

// modelTree tells Tree another way: it keeps a list of what is still to be visited,
// and makes the result from the depths of the nodes that were.
func modelTree(l []api.Tree, name string) (api.Node, api.Errno) {
	todo := []visit{{use(name), 1, nil}}
	var done []visit
	for len(todo) > 0 {
		v := todo[len(todo)-1]
		todo = todo[:len(todo)-1]
		if v.n.Kind == api.NUse {
			at := slices.IndexFunc(l, func(t api.Tree) bool { return t.Name == v.n.Name })
			if at < 0 {
				return api.Node{}, api.ErrName
			}
			if slices.Contains(v.in, v.n.Name) {
				return api.Node{}, api.ErrRing
			}
			todo = append(todo, visit{l[at].Root, v.depth, slices.Concat(v.in, []string{v.n.Name})})
			continue
		}
		done = append(done, v)
		if v.depth > 40 {
			return api.Node{}, api.ErrDeep
		}
		if len(done) > 4000 {
			return api.Node{}, api.ErrMany
		}
		for _, kid := range slices.Backward(v.n.Kids) {
			todo = append(todo, visit{kid, v.depth + 1, v.in})
		}
	}
	return grown(done), api.OK
}

// grown makes a node of a list of all that is in it, in order. Backward, all kids of
// a node lie ahead of it, one deeper than it is.
func grown(list []visit) api.Node {
	kids := map[int][]api.Node{}
	for _, v := range slices.Backward(list) {
		n := v.n
		n.Kids = kids[v.depth+1]
		slices.Reverse(n.Kids)
		delete(kids, v.depth+1)
		kids[v.depth] = append(kids[v.depth], n)
	}
	return kids[1][0]
}

// depths lists the depths of a node and of all that is below it, in order.
func depths(n api.Node, depth int) []int {
	list := []int{depth}
	for _, kid := range n.Kids {
		list = append(list, depths(kid, depth+1)...)
	}
	return list
}
