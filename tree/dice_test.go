package tree_test

import (
	"puppeteer/expr"
	"puppeteer/samples"
)

// dice make texts of expressions as well.
type dice struct{ samples.Dice }

func pick[T any](d *dice, list ...T) T { return samples.Pick(&d.Dice, list...) }

// loose is a text of an expression, with or without parentheses.
func (d *dice) loose() string {
	if d.Roll(2) == 0 {
		return expr.Print(d.Expr())
	}
	return pick(d, "a + 1", "- 5 * b", "not a == b", "a and (b or c)", "(1, 2)", "((a))", "far((1, 2), a)", "'a", "turn turn a < 1", "a == b == c", "1 +", "(1", "far(a)", ")", "")
}
