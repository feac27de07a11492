package inline

import "math"

// measure counts the elements of a list with all that is below them, and tells the
// depth of the deepest one. It ends as soon as there are more than most. What is
// below itself has no end, so that math.MaxInt is told.
func measure[T any](list []T, kids func(*T) []T, most int) (count, depth int) {
	rest := push(nil, level[T]{list, 1})
	var g guard[T]
	for len(rest) > 0 && count <= most {
		top := rest[len(rest)-1]
		rest = rest[:len(rest)-1]
		one := &top.list[0]
		if g.isBelow(one, top.depth) {
			return math.MaxInt, math.MaxInt
		}
		count++
		depth = max(depth, top.depth)
		rest = push(rest, level[T]{top.list[1:], top.depth})
		rest = push(rest, level[T]{kids(one), top.depth + 1})
	}
	return count, depth
}

// A level is a list of elements of one depth.
type level[T any] struct {
	list  []T
	depth int
}

// push adds a level in which there is something.
func push[T any](rest []level[T], one level[T]) []level[T] {
	if len(one.list) == 0 {
		return rest
	}
	return append(rest, one)
}

// A guard remembers one element, of a certain depth, that is around those that are
// visited. It takes another one each time that the depth has doubled: where all the
// same comes again and again, that one is in it, and comes again before long.
type guard[T any] struct {
	around *T
	depth  int
}

// isBelow tells whether what is visited is the element that is around it.
func (g *guard[T]) isBelow(one *T, depth int) bool {
	if one == g.around {
		return true
	}
	if depth <= g.depth || depth >= 2*g.depth {
		g.around, g.depth = one, depth
	}
	return false
}
