package expr_test

import (
	"math"
	"slices"
	"strings"

	"puppeteer/api"
	"puppeteer/lex"
)

// binaries tells the kind and the strength of each binary operator.
func binaries() map[string][2]int {
	return map[string][2]int{
		"or": {api.EOr, 1}, "and": {api.EAnd, 2}, "==": {api.ESame, 3}, "<": {api.ELess, 3},
		"+": {api.EAdd, 4}, "-": {api.ESub, 4}, "*": {api.EMul, 5}, "/": {api.EDiv, 5},
	}
}

// prefixes tells the kind of each word that is followed by one operand.
func prefixes() map[string]int {
	return map[string]int{"not": api.ENot, "re": api.ERe, "im": api.EIm, "turn": api.ETurn}
}

// symbol tells a token as the models see it: "1" for any TInt, "a" for any TName,
// the word or sign itself, or "$" for what is in no expression.
func symbol(token api.Token) string {
	switch token.Kind {
	case api.TInt:
		if token.N > math.MinInt {
			return "1"
		}
	case api.TName:
		if lex.Name(token.Text) {
			return "a"
		}
	case api.TWord, api.TSign:
		if !slices.Contains([]string{"", "1", "a"}, token.Text) {
			return token.Text
		}
	}
	return "$"
}

// A group is what is open: all of the expression (mark ""), parentheses ("(" or
// "far"), the second half of a pair (","), or a word that waits for its operand.
// It gathers operands, and the operators between them.
type group struct {
	mark     string
	kind     int
	first    api.Expr // of a pair
	operands []api.Expr
	signs    []string
}

// A model tells Parse another way: it goes from token to token, with groups on a
// stack, and stacks of operands and operators in each.
type model struct {
	l    []api.Token
	at   int
	open []group
	err  api.Errno
}

// parse is what Parse is to answer.
func parse(l []api.Token, at int) (api.Expr, int, api.Errno) {
	if at < 0 || at >= len(l) {
		return api.Expr{}, len(l), api.ErrSyntax
	}
	m := model{l: l, at: at, open: []group{{}}}
	for m.err == api.OK {
		if !m.operand() {
			continue
		}
		if x, ends := m.behind(); ends {
			return x, m.at, api.OK
		}
	}
	return api.Expr{}, m.at, m.err
}

func (m *model) top() *group { return &m.open[len(m.open)-1] }

func (m *model) pop() { m.open = m.open[:len(m.open)-1] }

// symbol tells the token that is n behind the present one.
func (m *model) symbol(n int) string {
	if m.at+n >= len(m.l) {
		return "$"
	}
	return symbol(m.l[m.at+n])
}

// begin opens a group, behind n tokens.
func (m *model) begin(n int, mark string, kind int) {
	m.at += n
	m.open = append(m.open, group{mark: mark, kind: kind})
}

// wrong puts an error n tokens behind the present one, if it is the first.
func (m *model) wrong(n int, err api.Errno) {
	if m.err == api.OK {
		m.at, m.err = m.at+n, err
	}
}

// operand reads what begins an operand, and tells whether all of it is read.
func (m *model) operand() bool {
	if len(m.open) > api.MaxDeep {
		m.wrong(0, api.ErrDeep)
		return false
	}
	switch s := m.symbol(0); {
	case prefixes()[s] != 0:
		m.begin(1, s, prefixes()[s])
	case s == "(":
		m.begin(1, "(", api.EPoint)
	case s == "far" && m.symbol(1) == "(":
		m.begin(2, "far", api.EFar)
	case s == "far" || s == "-" && m.symbol(1) != "1" || s == "'" && m.symbol(1) != "a":
		m.wrong(1, api.ErrSyntax)
	case s == "-":
		return m.have(2, number(-m.l[m.at+1].N))
	case s == "'":
		return m.have(2, sym(m.l[m.at+1].Text))
	case s == "1":
		return m.have(1, number(m.l[m.at].N))
	case s == "a":
		return m.have(1, name(m.l[m.at].Text))
	case s == "true":
		return m.have(1, truth(1))
	case s == "false":
		return m.have(1, truth(0))
	case s == "self":
		return m.have(1, of(api.ESelf))
	case s == "time":
		return m.have(1, of(api.ETime))
	default:
		m.wrong(0, api.ErrSyntax)
	}
	return false
}

// have takes an operand that ends behind n tokens, and closes the words that wait
// for it. It returns true if no error is met.
func (m *model) have(n int, x api.Expr) bool {
	m.at += n
	for ; prefixes()[m.top().mark] != 0; m.pop() {
		x = m.formed(of(m.top().kind, x))
	}
	m.top().operands = append(m.top().operands, x)
	return m.err == api.OK
}

func (m *model) formed(x api.Expr) api.Expr {
	if depth(x) > api.MaxDeep {
		m.wrong(0, api.ErrDeep)
	}
	return x
}

// reduce applies the last operators of the present group that are at least this
// strong.
func (m *model) reduce(strength int) {
	g := m.top()
	for n := len(g.signs) - 1; n >= 0 && binaries()[g.signs[n]][1] >= strength; n-- {
		x := m.formed(of(binaries()[g.signs[n]][0], g.operands[n], g.operands[n+1]))
		g.signs, g.operands = g.signs[:n], append(g.operands[:n], x)
	}
}

// operator reads the present token if it continues the present group.
func (m *model) operator(s string) bool {
	strength := binaries()[s][1]
	if strength == 0 {
		return false
	}
	if strength != 3 {
		m.reduce(strength)
	} else {
		m.reduce(4)
		n := len(m.top().signs)
		if n > 0 && binaries()[m.top().signs[n-1]][1] == 3 {
			return false
		}
	}
	if m.err != api.OK {
		return false
	}
	m.top().signs = append(m.top().signs, s)
	m.at++
	return true
}

// behind reads what follows an operand, up to the next operand. It returns the
// whole expression if that ends.
func (m *model) behind() (api.Expr, bool) {
	for m.err == api.OK {
		s := m.symbol(0)
		if m.operator(s) {
			return api.Expr{}, false
		}
		m.reduce(0)
		if m.err != api.OK {
			break
		}
		g := *m.top()
		x := g.operands[0]
		switch {
		case g.mark == "":
			return x, true
		case g.mark == "(" && s == ")":
			m.pop()
			m.have(1, x)
		case g.mark == "," && s == ")":
			m.pop()
			m.at++
			m.have(0, m.formed(of(g.kind, g.first, x)))
		case g.mark != "," && s == ",":
			m.at++
			*m.top() = group{mark: ",", kind: g.kind, first: x}
			return api.Expr{}, false
		default:
			m.wrong(0, api.ErrSyntax)
		}
	}
	return api.Expr{}, false
}

// rules is the grammar as the chapter has it: a line for each thing, with its
// forms.
const rules = `
OR: OR or AND | AND
AND: AND and SAME | SAME
SAME: SUM == SUM | SUM < SUM | SUM
SUM: SUM + PRODUCT | SUM - PRODUCT | PRODUCT
PRODUCT: PRODUCT * UNARY | PRODUCT / UNARY | UNARY
UNARY: not UNARY | re UNARY | im UNARY | turn UNARY | - 1 | PRIMARY
PRIMARY: 1 | true | false | a | ' a | self | time | ( OR ) | ( OR , OR ) | far ( OR , OR )
`

// forms tells the forms of each thing.
func forms() map[string][]string {
	all := map[string][]string{}
	for line := range strings.SplitSeq(strings.TrimSpace(rules), "\n") {
		thing, list, _ := strings.Cut(line, ": ")
		all[thing] = strings.Split(list, " | ")
	}
	return all
}

// A state is a form of a thing that begins at a place, of which some parts have
// been read.
type state struct {
	thing, form string
	parts, from int
}

// next is the part that follows, or "" at the end.
func (s state) next() string {
	if parts := strings.Fields(s.form); s.parts < len(parts) {
		return parts[s.parts]
	}
	return ""
}

// grammatical tells how many of the tokens can begin an expression, and whether
// they are one, by the rules alone: it follows all forms at once.
func grammatical(l []api.Token) (int, bool) {
	all := forms()
	var sets [][]state
	var now []state
	add := func(s state) {
		if !slices.Contains(now, s) {
			now = append(now, s)
		}
	}
	for _, form := range all["OR"] {
		add(state{"OR", form, 0, 0})
	}
	for at := 0; ; at++ {
		for i := 0; i < len(now); i++ {
			for _, form := range all[now[i].next()] {
				add(state{now[i].next(), form, 0, at})
			}
			if now[i].next() != "" {
				continue
			}
			for _, waiting := range sets[now[i].from] {
				if waiting.next() == now[i].thing {
					add(state{waiting.thing, waiting.form, waiting.parts + 1, waiting.from})
				}
			}
		}
		sets = append(sets, now)
		now = nil
		for _, s := range sets[at] {
			if at < len(l) && all[s.next()] == nil && s.next() == symbol(l[at]) {
				add(state{s.thing, s.form, s.parts + 1, s.from})
			}
		}
		if len(now) == 0 {
			return at, slices.ContainsFunc(sets[at], func(s state) bool {
				return s.thing == "OR" && s.from == 0 && s.next() == ""
			})
		}
	}
}
