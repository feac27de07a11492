package samples

import (
	"slices"
	"strconv"

	"puppeteer/api"
)

// A Maker makes programs that check.Check accepts, but for some of 1000 choices, which
// may be wrong.
type Maker struct {
	Dice
	Wrongs int
}

// wrong tells whether the next choice is to be wrong.
func (d *Maker) wrong() bool { return d.Roll(1000) < d.Wrongs }

// TenKeys lists a key of each kind, and a shared one of each.
func TenKeys() []api.Key {
	return []api.Key{
		{Name: "i", Kind: api.KInt}, {Name: "b", Kind: api.KBool}, {Name: "r", Kind: api.KRef}, {Name: "s", Kind: api.KSym}, {Name: "p", Kind: api.KPoint},
		{Name: "I", Kind: api.KInt, Shared: true}, {Name: "B", Kind: api.KBool, Shared: true}, {Name: "R", Kind: api.KRef, Shared: true},
		{Name: "S", Kind: api.KSym, Shared: true}, {Name: "P", Kind: api.KPoint, Shared: true},
	}
}

func name(text string) api.Expr { return api.Expr{Kind: api.EName, Name: text} }

// leaf is an expression of a kind, without kids.
func (d *Maker) leaf(kind int) api.Expr {
	key := TenKeys()[kind+5*d.Roll(2)].Name
	switch kind {
	case api.KInt:
		return Pick(&d.Dice, api.Expr{N: d.Roll(300) - 150}, api.Expr{Kind: api.ETime}, name(key))
	case api.KBool:
		return Pick(&d.Dice, api.Expr{Kind: api.EBool, N: d.Roll(2)}, name(key))
	case api.KRef:
		return Pick(&d.Dice, api.Expr{Kind: api.ESelf}, name(key))
	case api.KSym:
		return Pick(&d.Dice, api.Expr{Kind: api.ESym, Name: key}, name(key))
	}
	return name(key)
}

// A part is a kind of expressions, and how many kids it has of which kind.
type part struct{ form, kids, kind int }

// parts lists what expressions of a kind may be, with kids.
func (d *Maker) parts(kind int) []part {
	switch kind {
	case api.KInt:
		return []part{{api.EAdd, 2, kind}, {api.ESub, 2, kind}, {api.EMul, 2, kind}, {api.EDiv, 2, kind}, {api.ERe, 1, api.KPoint}, {api.EIm, 1, api.KPoint}, {api.EFar, 2, api.KPoint}}
	case api.KBool:
		return []part{{api.ENot, 1, kind}, {api.EAnd, 2, kind}, {api.EOr, 2, kind}, {api.ELess, 2, api.KInt}, {api.ESame, 2, d.Roll(5)}}
	case api.KPoint:
		return []part{{api.EAdd, 2, kind}, {api.ESub, 2, kind}, {api.EPoint, 2, api.KInt}, {api.ETurn, 1, kind}}
	}
	return nil
}

// Expr is an expression of a kind, up to deep deep.
func (d *Maker) Expr(kind, deep int) api.Expr {
	if d.wrong() {
		if d.Roll(2) == 0 {
			return name("x")
		}
		kind = d.Roll(5)
	}
	list := d.parts(kind)
	if deep == 1 || len(list) == 0 || d.Roll(5) == 0 {
		return d.leaf(kind)
	}
	one := Pick(&d.Dice, list...)
	x := api.Expr{Kind: one.form}
	for range one.kids {
		x.Kids = append(x.Kids, d.Expr(one.kind, deep-1))
	}
	return x
}

// number is one from low to high, often one of these two, unless it is wrong.
func (d *Maker) number(low, high int) int {
	if d.wrong() {
		return Pick(&d.Dice, low-1, high+1)
	}
	return Pick(&d.Dice, low, high, low+d.Roll(high-low+1))
}

// oneOf is one of some names, unless it is wrong.
func (d *Maker) oneOf(list []string) string {
	if len(list) == 0 || d.wrong() {
		return Pick(&d.Dice, "none", "i", "t1", "d1", "a1")
	}
	return Pick(&d.Dice, list...)
}

// new is a name that is none of some, unless it is wrong.
func (d *Maker) new(ahead string, list []string) string {
	if len(list) > 0 && d.wrong() {
		return Pick(&d.Dice, list...)
	}
	return ahead + strconv.Itoa(len(list))
}

// known is what the nodes of a tree may name.
type known struct{ trees, domains []string }

// node is a node that is nested up to deep deep, with some n nodes in it.
func (d *Maker) node(deep, n int, all known) api.Node {
	if deep == 1 || n <= 1 {
		return d.single(all)
	}
	kids := []api.Node{d.node(deep-1, n/(1+d.Roll(2)), all)}
	for range d.Few(api.MaxKids - 1) {
		kids = append(kids, d.node(deep-1, n/(2+d.Roll(4)), all))
	}
	switch d.Roll(8) {
	case 0:
		return api.Node{Kind: api.NNot, Kids: kids[:1]}
	case 1:
		return api.Node{Kind: api.NRepeat, A: max(0, d.number(1, 1000)), Kids: kids[:1]}
	case 2:
		return api.Node{Kind: api.NPar, A: d.number(1, len(kids)), B: d.number(1, len(kids)), Kids: kids}
	case 3:
		all := api.Node{Kind: api.NPick, Kids: kids}
		for range kids {
			all.Weights = append(all.Weights, d.Expr(api.KInt, 1+d.Roll(3)))
		}
		return all
	}
	return api.Node{Kind: Pick(&d.Dice, api.NSeq, api.NSel, api.NMSeq, api.NMSel), Kids: kids}
}

// single is a node without kids.
func (d *Maker) single(all known) api.Node {
	deep := 1 + d.Roll(4)
	switch d.Roll(6) {
	case 0:
		return api.Node{Kind: api.NIf, Expr: d.Expr(api.KBool, deep)}
	case 1:
		kind := d.Roll(5)
		return api.Node{Kind: api.NSet, Name: d.oneOf([]string{TenKeys()[kind].Name, TenKeys()[kind+5].Name}), Expr: d.Expr(kind, deep)}
	case 2:
		if len(all.trees) > 0 {
			return api.Node{Kind: api.NUse, Name: d.oneOf(all.trees)}
		}
	case 3:
		if len(all.domains) > 0 {
			return api.Node{Kind: api.NPlan, Name: d.oneOf(all.domains)}
		}
	case 4:
		return api.Node{Kind: api.NDo, Name: Pick(&d.Dice, "a", "x", "i", "t0", "d0")}
	}
	return api.Node{Kind: Pick(&d.Dice, api.NOk, api.NFail, api.NWait)}
}

func (d *Maker) conds(vars []string) []api.Cond {
	var list []api.Cond
	for range d.Few(min(api.MaxVars, len(vars)*api.MaxVars)) {
		list = append(list, api.Cond{Name: d.oneOf(vars), Op: d.Roll(3), N: d.number(-api.MaxHigh, api.MaxHigh)})
	}
	return list
}

func (d *Maker) act(a api.Act, vars []string) api.Act {
	a.Cost, a.Need = d.number(1, api.MaxCost), d.conds(vars)
	for range d.Few(min(api.MaxVars, len(vars)*api.MaxVars)) {
		a.Make = append(a.Make, api.Make{Name: d.oneOf(vars), Add: d.Roll(2) == 0, N: d.number(-api.MaxHigh, api.MaxHigh)})
	}
	return a
}

// domain is a domain, of which some keys are the variables.
func (d *Maker) domain(name string) api.Domain {
	all := api.Domain{Name: name}
	var vars, acts []string
	for range d.Few(api.MaxVars) {
		v := api.Var{Name: d.new("v", vars), Low: d.number(-api.MaxHigh, 0), High: d.number(0, api.MaxHigh)}
		if d.wrong() {
			v.Name = Pick(&d.Dice, "none", "b", "S", "x")
		}
		if d.wrong() {
			v.Low, v.High = v.High, v.Low
		}
		vars, all.Vars = append(vars, v.Name), append(all.Vars, v)
	}
	for range d.Few(api.MaxActs) {
		a := d.act(api.Act{Name: d.new("a", acts)}, vars)
		acts, all.Acts = append(acts, a.Name), append(all.Acts, a)
	}
	all.Goal = d.conds(vars)
	return all
}

// Program is a program in which a tree uses only such as follow it in a list, which
// is in another order than the trees are, unless it is wrong.
func (d *Maker) Program() api.Program {
	p := api.Program{Keys: TenKeys()}
	for i := range api.MaxVars {
		p.Keys = append(p.Keys, api.Key{Name: "v" + strconv.Itoa(i), Shared: d.Roll(2) == 0})
	}
	if d.wrong() {
		k := &p.Keys[d.Roll(len(p.Keys))]
		k.Kind, k.Name = Pick(&d.Dice, -1, 0, 1, 2, 5), Pick(&d.Dice, "", "9", "i", "v0", "v7", "x")
	}
	var all known
	for range d.Few(6) {
		one := d.domain(d.new("d", all.domains))
		all.domains, p.Domains = append(all.domains, one.Name), append(p.Domains, one)
	}
	var names []string
	for range 1 + d.Few(8) {
		names = append(names, d.new("t", names))
	}
	for i, name := range names {
		all.trees = names[i+1:]
		if d.wrong() {
			all.trees = names
		}
		p.Trees = append(p.Trees, api.Tree{Name: name, Root: d.node(1+d.Roll(8), d.Roll(30), all)})
		at := d.Roll(len(p.Trees))
		p.Trees[i], p.Trees[at] = p.Trees[at], p.Trees[i]
	}
	if d.Roll(2) == 0 {
		slices.Reverse(p.Keys)
	}
	return p
}
