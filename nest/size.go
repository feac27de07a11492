// Package nest measures and copies what is nested: nodes and expressions. Their lists
// may share memory, and may even be in themselves.
package nest

import (
	"math"

	"puppeteer/clamp"
)

// mostElements is how many elements of lists are looked at: no more are given to a
// program, unless they have no end.
const mostElements = math.MaxInt32

// A size is the number of elements of a list with all that is below them, and the
// depth of the deepest one.
type size struct{ count, depth int }

// A place is where a list lies.
type place[T any] struct {
	first  *T
	length int
}

// A visit is a list, of which the elements from at on are still to be looked at.
type visit[T any] struct {
	list []T
	at   int
	size size // of those ahead
}

// Size returns the number of elements of a list with all that is below them, and the
// depth of the deepest one. Both are math.MaxInt if a list is below itself. A list
// that is there several times is looked at once.
func Size[T any](list []T, below func(*T) []T) (count, depth int) {
	if len(list) == 0 {
		return 0, 0
	}
	room := mostElements
	known := map[place[T]]size{} // nothing yet of the lists that are around
	path := []visit[T]{{list: list}}
	for {
		top := &path[len(path)-1]
		if top.at == len(top.list) {
			known[placeOf(top.list)] = top.size
			if path = path[:len(path)-1]; len(path) == 0 {
				return top.size.count, top.size.depth
			}
			continue
		}
		next := below(&top.list[top.at])
		if len(next) == 0 {
			top.add(size{})
			continue
		}
		switch inner, met := known[placeOf(next)]; {
		case inner.count > 0:
			top.add(inner)
		case met || len(next) > room:
			return math.MaxInt, math.MaxInt
		default:
			room -= len(next)
			known[placeOf(next)] = size{}
			path = append(path, visit[T]{list: next})
		}
	}
}

// placeOf tells the place of a list that is not empty.
func placeOf[T any](list []T) place[T] { return place[T]{&list[0], len(list)} }

// add counts an element, with what is below it.
func (v *visit[T]) add(inner size) {
	v.size.count = clamp.Add(v.size.count, clamp.Add(1, inner.count))
	v.size.depth = max(v.size.depth, 1+inner.depth)
	v.at++
}
