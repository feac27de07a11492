package expr

import (
	"math"

	"puppeteer/api"
	"puppeteer/lex"
)

// A parser reads tokens, the one at index at next. Once it has an error, it reads
// no further: at stays where the error is, and what its methods return counts for
// nothing.
type parser struct {
	tokens []api.Token
	at     int
	err    api.Errno
}

// binary parses an expression whose operators, but for those in parentheses, are
// of this level or stronger ones. nest is the nesting of its operands.
func (p *parser) binary(level, nest int) api.Expr {
	if level == len(levels) {
		return p.unary(nest)
	}
	x := p.binary(level+1, nest)
	for {
		kind, ok := p.operator(level)
		if !ok {
			return x
		}
		x = p.form(kind, x, p.binary(level+1, nest))
		if level == comparing {
			return x
		}
	}
}

// operator reads an operator of this level and returns its kind, or false if
// there is none.
func (p *parser) operator(level int) (int, bool) {
	for _, kind := range levels[level] {
		if p.accept(word(kind)) {
			return kind, true
		}
	}
	return 0, false
}

// unary parses a unary expression, whose nesting is nest.
func (p *parser) unary(nest int) api.Expr {
	if nest > api.MaxDeep {
		p.fail(api.ErrDeep)
		return api.Expr{}
	}
	for _, kind := range []int{api.ENot, api.ERe, api.EIm, api.ETurn} {
		if p.accept(word(kind)) {
			return p.form(kind, p.unary(nest+1))
		}
	}
	if p.accept("-") {
		return api.Expr{Kind: api.EInt, N: -p.number()}
	}
	return p.primary(nest)
}

// primary parses a primary expression, whose nesting is nest.
func (p *parser) primary(nest int) api.Expr {
	switch {
	case p.next().Kind == api.TInt:
		return api.Expr{Kind: api.EInt, N: p.number()}
	case p.next().Kind == api.TName:
		return api.Expr{Kind: api.EName, Name: p.name()}
	case p.accept("'"):
		return api.Expr{Kind: api.ESym, Name: p.name()}
	case p.accept("true"):
		return api.Expr{Kind: api.EBool, N: 1}
	case p.accept("false"):
		return api.Expr{Kind: api.EBool}
	case p.accept("self"):
		return api.Expr{Kind: api.ESelf}
	case p.accept("time"):
		return api.Expr{Kind: api.ETime}
	case p.accept("("):
		x := p.binary(weakest, nest+1)
		if p.accept(")") {
			return x
		}
		return p.pair(api.EPoint, x, nest)
	case p.accept("far"):
		p.expect("(")
		return p.pair(api.EFar, p.binary(weakest, nest+1), nest)
	}
	p.fail(api.ErrSyntax)
	return api.Expr{}
}

// pair parses what follows the first operand of an EPoint or EFar, whose nesting
// is nest.
func (p *parser) pair(kind int, first api.Expr, nest int) api.Expr {
	p.expect(",")
	second := p.binary(weakest, nest+1)
	p.expect(")")
	return p.form(kind, first, second)
}

// form makes an expression of its Kids.
func (p *parser) form(kind int, kids ...api.Expr) api.Expr {
	x := api.Expr{Kind: kind, Kids: kids}
	if depth(x) > api.MaxDeep {
		p.fail(api.ErrDeep)
	}
	return x
}

func depth(x api.Expr) int {
	deepest := 0
	for _, kid := range x.Kids {
		deepest = max(deepest, depth(kid))
	}
	return deepest + 1
}

// number reads a TInt and returns its N.
func (p *parser) number() int {
	token := p.next()
	// No valid expression has this N, nor its negation.
	if token.Kind != api.TInt || token.N == math.MinInt {
		p.fail(api.ErrSyntax)
		return 0
	}
	p.at++
	return token.N
}

// name reads a TName and returns its Text.
func (p *parser) name() string {
	token := p.next()
	if token.Kind != api.TName || !lex.Name(token.Text) {
		p.fail(api.ErrSyntax)
		return ""
	}
	p.at++
	return token.Text
}

// expect reads a word or sign that must be next.
func (p *parser) expect(text string) {
	if !p.accept(text) {
		p.fail(api.ErrSyntax)
	}
}

// accept reads the next token if it is this word or sign, and tells whether it is.
func (p *parser) accept(text string) bool {
	token := p.next()
	if token.Kind != api.TWord && token.Kind != api.TSign || token.Text != text {
		return false
	}
	p.at++
	return true
}

// next returns the token that is read next, or a TEnd if there is none or it is
// not to be read.
func (p *parser) next() api.Token {
	if p.err != api.OK || p.at == len(p.tokens) {
		return api.Token{}
	}
	return p.tokens[p.at]
}

// fail puts an error at the next token, unless there is one already.
func (p *parser) fail(err api.Errno) {
	if p.err == api.OK {
		p.err = err
	}
}
