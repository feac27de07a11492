package expr

import (
	"math"

	"puppeteer/api"
	"puppeteer/lex"
	"puppeteer/tokens"
)

// A parser parses expressions. Once it has an error, what its methods return
// counts for nothing.
type parser struct {
	tokens.Reader
}

// binary parses an expression whose operators, but for those in parentheses, are
// of this level or stronger ones. nest is the nesting of its operands.
func (p *parser) binary(level, nest int) api.Expr {
	if level == len(levels) {
		return p.unary(nest)
	}
	x := p.binary(level+1, nest)
	for {
		kind, ok := p.operator(level)
		if !ok {
			return x
		}
		x = p.form(kind, x, p.binary(level+1, nest))
		if level == comparing {
			return x
		}
	}
}

// operator reads an operator of this level and returns its kind, or false if
// there is none.
func (p *parser) operator(level int) (int, bool) {
	for _, kind := range levels[level] {
		if p.Accept(word(kind)) {
			return kind, true
		}
	}
	return 0, false
}

// unary parses a unary expression, whose nesting is nest.
func (p *parser) unary(nest int) api.Expr {
	if nest > api.MaxDeep {
		p.Fail(api.ErrDeep)
		return api.Expr{}
	}
	for _, kind := range []int{api.ENot, api.ERe, api.EIm, api.ETurn} {
		if p.Accept(word(kind)) {
			return p.form(kind, p.unary(nest+1))
		}
	}
	if p.Accept("-") {
		return api.Expr{Kind: api.EInt, N: -p.number()}
	}
	return p.primary(nest)
}

// primary parses a primary expression, whose nesting is nest.
func (p *parser) primary(nest int) api.Expr {
	switch {
	case p.Next().Kind == api.TInt:
		return api.Expr{Kind: api.EInt, N: p.number()}
	case p.Next().Kind == api.TName:
		return api.Expr{Kind: api.EName, Name: p.name()}
	case p.Accept("'"):
		return api.Expr{Kind: api.ESym, Name: p.name()}
	case p.Accept("true"):
		return api.Expr{Kind: api.EBool, N: 1}
	case p.Accept("false"):
		return api.Expr{Kind: api.EBool}
	case p.Accept("self"):
		return api.Expr{Kind: api.ESelf}
	case p.Accept("time"):
		return api.Expr{Kind: api.ETime}
	case p.Accept("("):
		x := p.binary(weakest, nest+1)
		if p.Accept(")") {
			return x
		}
		return p.pair(api.EPoint, x, nest)
	case p.Accept("far"):
		p.Expect("(")
		return p.pair(api.EFar, p.binary(weakest, nest+1), nest)
	}
	p.Fail(api.ErrSyntax)
	return api.Expr{}
}

// pair parses what follows the first operand of an EPoint or EFar, whose nesting
// is nest.
func (p *parser) pair(kind int, first api.Expr, nest int) api.Expr {
	p.Expect(",")
	second := p.binary(weakest, nest+1)
	p.Expect(")")
	return p.form(kind, first, second)
}

// form makes an expression of its Kids.
func (p *parser) form(kind int, kids ...api.Expr) api.Expr {
	x := api.Expr{Kind: kind, Kids: kids}
	if depth(x) > api.MaxDeep {
		p.Fail(api.ErrDeep)
	}
	return x
}

func depth(x api.Expr) int {
	deepest := 0
	for _, kid := range x.Kids {
		deepest = max(deepest, depth(kid))
	}
	return deepest + 1
}

// number reads a TInt and returns its N.
func (p *parser) number() int {
	// No valid expression has this N, nor its negation.
	if p.Next().N == math.MinInt {
		p.Fail(api.ErrSyntax)
	}
	return p.Number()
}

// name reads a TName and returns its Text.
func (p *parser) name() string {
	if !lex.Name(p.Next().Text) {
		p.Fail(api.ErrSyntax)
	}
	return p.Name()
}
