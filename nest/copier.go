package nest

import (
	"math"

	"puppeteer/api"
)

// mostExprs is how many expressions, of 56 bytes each, fit into an answer.
const mostExprs = math.MaxInt32 / 56

// A Copier copies the expressions of one answer.
type Copier struct {
	counted int // so far
}

// Both returns an expression and weights in new memory, or false if they do not fit
// into the answer any more.
func (c *Copier) Both(x api.Expr, weights []api.Expr) (api.Expr, []api.Expr, bool) {
	if !c.Fit(x, weights) {
		return api.Expr{}, nil, false
	}
	return anew([]api.Expr{x})[0], anew(weights), true
}

// Fit counts an expression and weights as Both does, without copying them, and reports
// whether they fit.
func (c *Copier) Fit(x api.Expr, weights []api.Expr) bool {
	for _, list := range [][]api.Expr{{x}, weights} {
		count, _ := Size(list, partsOf)
		if count > mostExprs-c.counted {
			return false
		}
		c.counted += count
	}
	return true
}

func partsOf(x *api.Expr) []api.Expr { return x.Kids }

// anew copies expressions with all that is in them. They may be too deep for a
// function that calls itself.
func anew(list []api.Expr) []api.Expr {
	list = moved(list)
	rest := [][]api.Expr{list}
	for len(rest) > 0 {
		last := rest[len(rest)-1]
		rest = rest[:len(rest)-1]
		for i := range last {
			x := &last[i]
			if x.Kids = moved(x.Kids); len(x.Kids) > 0 {
				rest = append(rest, x.Kids)
			}
		}
	}
	return list
}

// moved returns a list in new memory, of which an empty one has none, not even spare
// capacity.
func moved(list []api.Expr) []api.Expr {
	return append([]api.Expr(nil), list...)
}
