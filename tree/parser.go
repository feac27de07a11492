package tree

import (
	"puppeteer/api"
	"puppeteer/expr"
	"puppeteer/tokens"
)

// A parser parses nodes and declarations. Once it has an error, what its methods
// return counts for nothing.
type parser struct {
	tokens.Reader
}

// choice reads one of these words or signs, and returns its index.
func (p *parser) choice(texts []string) int {
	for i, text := range texts {
		if p.Accept(text) {
			return i
		}
	}
	p.Fail(api.ErrSyntax)
	return 0
}

// expression parses the longest expression that follows.
func (p *parser) expression() api.Expr {
	if p.Err != api.OK {
		return api.Expr{}
	}
	x, at, err := expr.Parse(p.List, p.At)
	p.At, p.Err = at, err
	return x
}
