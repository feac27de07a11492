// Package clamp is layer 1: arithmetic on ints that saturates instead of
// overflowing.
package clamp

import "math"

// Add returns a + b, limited to the range of int.
func Add(a, b int) int {
	if b > 0 && a > math.MaxInt-b {
		return math.MaxInt
	}
	if b < 0 && a < math.MinInt-b {
		return math.MinInt
	}
	return a + b
}

// Sub returns a - b, limited to the range of int.
func Sub(a, b int) int {
	// Not Add(a, -b): the least int has no negation.
	if b < 0 && a > math.MaxInt+b {
		return math.MaxInt
	}
	if b > 0 && a < math.MinInt+b {
		return math.MinInt
	}
	return a - b
}

// Mul returns a * b, limited to the range of int.
func Mul(a, b int) int {
	if a == 0 || b == 0 {
		return 0
	}
	product := a * b
	// Dividing back reveals a product that wrapped around, except here,
	// where the division wraps around as well and gives a again.
	backWraps := a == math.MinInt && b == -1
	if !backWraps && product/b == a {
		return product
	}
	if (a < 0) != (b < 0) {
		return math.MinInt
	}
	return math.MaxInt
}

// Div returns a / b, truncated towards 0 and limited to the range of int, or
// 0 if b is 0.
func Div(a, b int) int {
	if b == 0 {
		return 0
	}
	// The only quotient beyond the range of int.
	if a == math.MinInt && b == -1 {
		return math.MaxInt
	}
	return a / b
}

// Within returns n limited to the range low to high, or low if high is less
// than low.
func Within(n, low, high int) int {
	// The test of low stands last, so that low wins over a lesser high.
	return max(low, min(n, high))
}
