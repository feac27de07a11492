package tree

import (
	"puppeteer/api"
	"puppeteer/syntax"
)

// program parses declarations up to the end.
func (p *parser) program() api.Program {
	var all api.Program
	// Behind an error, the next token is a TEnd.
	for p.Next().Kind != api.TEnd {
		switch {
		case p.begins("key", len(all.Keys), api.MaxKeys):
			all.Keys = append(all.Keys, p.key())
		case p.begins("tree", len(all.Trees), api.MaxTrees):
			all.Trees = append(all.Trees, p.tree())
		case p.begins("domain", len(all.Domains), api.MaxTrees):
			all.Domains = append(all.Domains, p.domain())
		default:
			p.Fail(api.ErrSyntax)
		}
	}
	return all
}

// begins reads the word that begins a declaration or an element, and tells whether
// it is next. It is an error if there are most of its sort already.
func (p *parser) begins(word string, have, most int) bool {
	if have == most && p.Is(word) {
		p.Fail(api.ErrMany)
	}
	return p.Accept(word)
}

// key parses what follows the word key.
func (p *parser) key() api.Key {
	var k api.Key
	k.Shared = p.choice(syntax.Owners()) == 1
	k.Name = p.Name()
	k.Kind = p.choice(syntax.Values())
	p.Expect(";")
	return k
}

// tree parses what follows the word tree.
func (p *parser) tree() api.Tree {
	t := api.Tree{Name: p.Name()}
	p.Expect("{")
	t.Root = p.node()
	p.Expect("}")
	return t
}

// domain parses what follows the word domain.
func (p *parser) domain() api.Domain {
	d := api.Domain{Name: p.Name()}
	p.Expect("{")
	for p.within() {
		switch {
		case p.begins("var", len(d.Vars), api.MaxVars):
			d.Vars = append(d.Vars, p.variable())
		case p.begins("act", len(d.Acts), api.MaxActs):
			d.Acts = append(d.Acts, p.act())
		case p.begins("goal", len(d.Goal), api.MaxVars):
			d.Goal = append(d.Goal, p.cond())
		default:
			p.Fail(api.ErrSyntax)
		}
	}
	return d
}

// within tells whether a further element is to be read between braces, and reads
// the closing one if it is next.
func (p *parser) within() bool {
	return p.Err == api.OK && !p.Accept("}")
}

// variable parses what follows the word var.
func (p *parser) variable() api.Var {
	var v api.Var
	v.Name = p.Name()
	v.Low = p.signed()
	v.High = p.signed()
	p.Expect(";")
	return v
}

// act parses what follows the word act.
func (p *parser) act() api.Act {
	a := api.Act{Name: p.Name()}
	p.Expect("cost")
	a.Cost = p.Number()
	p.Expect("{")
	for p.within() {
		switch {
		case p.begins("need", len(a.Need), api.MaxVars):
			a.Need = append(a.Need, p.cond())
		case p.begins("make", len(a.Make), api.MaxVars):
			a.Make = append(a.Make, p.change())
		default:
			p.Fail(api.ErrSyntax)
		}
	}
	return a
}

// cond parses what follows the words goal and need.
func (p *parser) cond() api.Cond {
	var c api.Cond
	c.Name = p.Name()
	c.Op = p.choice(syntax.Comparisons())
	c.N = p.signed()
	p.Expect(";")
	return c
}

// change parses what follows the word make.
func (p *parser) change() api.Make {
	m := api.Make{Name: p.Name()}
	switch {
	case p.Accept("="):
		m.N = p.signed()
	case p.Accept("+"):
		m.Add, m.N = true, p.Number()
	case p.Accept("-"):
		m.Add, m.N = true, -p.Number()
	default:
		p.Fail(api.ErrSyntax)
	}
	p.Expect(";")
	return m
}

// signed reads a number, which is negative if a minus stands ahead of it.
func (p *parser) signed() int {
	if p.Accept("-") {
		return -p.Number()
	}
	return p.Number()
}
