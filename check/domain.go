package check

import "puppeteer/api"

// checkDomains checks the domains and keeps their names.
func (c *checker) checkDomains(p api.Program) (string, api.Errno) {
	if len(p.Domains) > api.MaxTrees {
		return "", api.ErrMany
	}
	for _, d := range p.Domains {
		if !c.domains.add(d.Name) {
			return d.Name, api.ErrTwice
		}
		e := elements{kinds: c.kinds, vars: names{}, acts: names{}}
		if err := e.domain(d); err != api.OK {
			return d.Name, err
		}
	}
	return "", api.OK
}

// elements checks a domain. It holds the names of the vars and acts that are
// checked.
type elements struct {
	kinds      kinds
	vars, acts names
}

func (e elements) domain(d api.Domain) api.Errno {
	if len(d.Vars) > api.MaxVars || len(d.Acts) > api.MaxActs || len(d.Goal) > api.MaxVars {
		return api.ErrMany
	}
	if err := first(d.Vars, e.variable); err != api.OK {
		return err
	}
	if err := first(d.Acts, e.act); err != api.OK {
		return err
	}
	return first(d.Goal, e.cond)
}

func (e elements) variable(v api.Var) api.Errno {
	if !e.vars.add(v.Name) {
		return api.ErrTwice
	}
	if v.Low > v.High || !inRange(v.Low) || !inRange(v.High) {
		return api.ErrArg
	}
	kind, there := e.kinds[v.Name]
	if !there {
		return api.ErrName
	}
	return errUnless(kind == api.KInt, api.ErrKind)
}

func (e elements) act(a api.Act) api.Errno {
	if len(a.Need) > api.MaxVars || len(a.Make) > api.MaxVars {
		return api.ErrMany
	}
	if !e.acts.add(a.Name) {
		return api.ErrTwice
	}
	if !within(a.Cost, 1, api.MaxCost) {
		return api.ErrArg
	}
	if err := first(a.Need, e.cond); err != api.OK {
		return err
	}
	return first(a.Make, func(m api.Make) api.Errno { return e.operand(m.Name, m.N) })
}

func (e elements) cond(c api.Cond) api.Errno {
	return e.operand(c.Name, c.N)
}

// operand checks the variable and the number of a condition or a make.
func (e elements) operand(name string, n int) api.Errno {
	if !e.vars.has(name) {
		return api.ErrName
	}
	return errUnless(inRange(n), api.ErrArg)
}

// inRange tells whether a number may stand in a domain.
func inRange(n int) bool {
	return within(n, -api.MaxHigh, api.MaxHigh)
}
