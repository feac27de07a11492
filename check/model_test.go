package check_test

import (
	"regexp"
	"slices"
	"strings"

	"puppeteer/api"
	"puppeteer/expr"
)

// rules lists what may be formed of which kinds, and the kind of the result.
const rules = `
int + int is int
point + point is point
int - int is int
point - point is point
int * int is int
int / int is int
int == int is bool
bool == bool is bool
ref == ref is bool
sym == sym is bool
point == point is bool
int < int is bool
bool and bool is bool
bool or bool is bool
not bool is bool
( int , int ) is point
re point is int
im point is int
turn point is point
far ( point , point ) is int
`

// kindWords lists the words of the kinds of values, each at its number, and forms the
// texts of the kinds of expressions with kids, in the order of their numbers, with a
// % for each kid.
const kindWords = "int bool ref sym point"

func forms() []string {
	return strings.Split("% + %;% - %;% * %;% / %;% == %;% < %;% and %;% or %;not %;( % , % );re %;im %;turn %;far ( % , % )", ";")
}

// ruled returns the kind of a form of these kinds by the rules, or -1.
func ruled(form string, kinds ...int) int {
	words := strings.Fields(kindWords)
	for _, kind := range kinds {
		form = strings.Replace(form, "%", words[kind], 1)
	}
	for line := range strings.Lines(rules) {
		if result, ok := strings.CutPrefix(line, form+" is "); ok {
			return slices.Index(words, strings.TrimSpace(result))
		}
	}
	return -1
}

// backward lists an expression and all in it, kids ahead of what they are in.
func backward(x api.Expr) []api.Expr {
	var list []api.Expr
	for _, kid := range x.Kids {
		list = append(list, backward(kid)...)
	}
	return append(list, x)
}

// modelKind tells Kind another way: the values of an expression lie on a stack, from
// which each operation takes its own.
func modelKind(x api.Expr, l []api.Key) (int, api.Errno) {
	if !expr.Right(x) {
		return 0, api.ErrArg
	}
	var stack []int
	for _, x := range backward(x) {
		rest := len(stack) - len(x.Kids)
		of := stack[rest:]
		kind := -1
		switch {
		case x.Kind == api.EName:
			at := slices.IndexFunc(l, func(k api.Key) bool { return k.Name == x.Name })
			if at < 0 {
				return 0, api.ErrName
			}
			kind = l[at].Kind
		case x.Kind < api.EAdd:
			kind = []int{api.KInt, api.KBool, -1, api.KSym, api.KRef, api.KInt}[x.Kind]
		default:
			kind = ruled(forms()[x.Kind-api.EAdd], of...)
			if kind < 0 {
				return 0, api.ErrKind
			}
		}
		stack = append(stack[:rest], kind)
	}
	return stack[0], api.OK
}

// A fault is an error of a program, with its name, and which of the six checks
// finds it.
type fault struct {
	check int
	name  string
	err   api.Errno
}

// faults are all faults of a program, in order.
type faults []fault

// add adds a fault if there is one.
func (f *faults) add(wrong bool, check int, name string, err api.Errno) {
	if wrong {
		*f = append(*f, fault{check, name, err})
	}
}

var nameForm = regexp.MustCompile(`^[a-zA-Z][a-zA-Z0-9_]{0,23}$`)

func (f *faults) keys(l []api.Key) {
	f.add(len(l) > 100, 1, "", api.ErrMany)
	for i, k := range l {
		f.add(!nameForm.MatchString(k.Name), 1, k.Name, api.ErrName)
		f.add(k.Kind < 0 || k.Kind > 4, 1, k.Name, api.ErrKind)
		f.add(slices.ContainsFunc(l[:i], func(o api.Key) bool { return o.Name == k.Name }), 1, k.Name, api.ErrTwice)
	}
}

func outside(n int) bool { return n > 100 || n < -100 }

func (f *faults) domain(d api.Domain, keys []api.Key) {
	var vars, acts []string
	for _, v := range d.Vars {
		f.add(slices.Contains(vars, v.Name), 3, d.Name, api.ErrTwice)
		f.add(v.Low > v.High || outside(v.Low) || outside(v.High), 3, d.Name, api.ErrArg)
		at := slices.IndexFunc(keys, func(k api.Key) bool { return k.Name == v.Name })
		f.add(at < 0, 3, d.Name, api.ErrName)
		f.add(at >= 0 && keys[max(at, 0)].Kind != api.KInt, 3, d.Name, api.ErrKind)
		vars = append(vars, v.Name)
	}
	operand := func(name string, n int) {
		f.add(!slices.Contains(vars, name), 3, d.Name, api.ErrName)
		f.add(outside(n), 3, d.Name, api.ErrArg)
	}
	for _, a := range d.Acts {
		f.add(slices.Contains(acts, a.Name), 3, d.Name, api.ErrTwice)
		f.add(a.Cost < 1 || a.Cost > 1000, 3, d.Name, api.ErrArg)
		for _, c := range a.Need {
			operand(c.Name, c.N)
		}
		for _, m := range a.Make {
			operand(m.Name, m.N)
		}
		acts = append(acts, a.Name)
	}
	for _, c := range d.Goal {
		operand(c.Name, c.N)
	}
}

// forward lists a node and all in it, a node ahead of its kids.
func forward(n api.Node) []api.Node {
	list := []api.Node{n}
	for _, kid := range n.Kids {
		list = append(list, forward(kid)...)
	}
	return list
}

// expr adds the fault of an expression that is to be of a kind.
func (f *faults) expr(x api.Expr, want int, name string, keys []api.Key) {
	kind, err := modelKind(x, keys)
	f.add(err != api.OK, 4, name, err)
	f.add(err == api.OK && kind != want, 4, name, api.ErrKind)
}

func (f *faults) node(n api.Node, name string, p api.Program) {
	switch n.Kind {
	case api.NIf:
		f.expr(n.Expr, api.KBool, name, p.Keys)
	case api.NSet:
		at := slices.IndexFunc(p.Keys, func(k api.Key) bool { return k.Name == n.Name })
		f.add(at < 0, 4, name, api.ErrName)
		if at >= 0 {
			f.expr(n.Expr, p.Keys[at].Kind, name, p.Keys)
		}
	case api.NPick:
		for _, x := range n.Weights {
			f.expr(x, api.KInt, name, p.Keys)
		}
	case api.NPlan:
		f.add(!slices.ContainsFunc(p.Domains, func(d api.Domain) bool { return d.Name == n.Name }), 4, name, api.ErrName)
	case api.NUse:
		f.add(!slices.ContainsFunc(p.Trees, func(o api.Tree) bool { return o.Name == n.Name }), 4, name, api.ErrName)
	case api.NPar:
		f.add(n.A < 1 || n.A > len(n.Kids) || n.B < 1 || n.B > len(n.Kids), 4, name, api.ErrArg)
	case api.NRepeat:
		f.add(n.A < 1 || n.A > 1000, 4, name, api.ErrArg)
	}
}

// rings adds the trees that use themselves: who uses whom is a matrix, which is closed
// over each tree that may lie between two.
func (f *faults) rings(l []api.Tree) {
	places := map[string]int{}
	for i, one := range l {
		places[one.Name] = i
	}
	var uses [api.MaxTrees][api.MaxTrees]bool
	for i, one := range l {
		for _, n := range forward(one.Root) {
			if n.Kind == api.NUse {
				uses[i][places[n.Name]] = true
			}
		}
	}
	for by := range l {
		for from := range l {
			for to := range l {
				uses[from][to] = uses[from][to] || uses[from][by] && uses[by][to]
			}
		}
	}
	for i, one := range l {
		f.add(uses[i][i], 5, one.Name, api.ErrRing)
	}
}

// depths lists the depths of all nodes of n, with what it uses, of which the first
// are as many as count. known has those of trees that were asked for.
func depths(n api.Node, roots map[string]api.Node, known map[string][]int) []int {
	if n.Kind == api.NUse {
		if known[n.Name] == nil {
			known[n.Name] = depths(roots[n.Name], roots, known)
		}
		return known[n.Name]
	}
	list := []int{1}
	for _, kid := range n.Kids {
		for _, deep := range depths(kid, roots, known) {
			list = append(list, deep+1)
		}
		list = list[:min(len(list), 4001)]
	}
	return list
}

// sizes adds the trees that are too deep or too large with what they use.
func (f *faults) sizes(l []api.Tree) {
	roots, known := map[string]api.Node{}, map[string][]int{}
	for _, one := range l {
		roots[one.Name] = one.Root
	}
	for _, one := range l {
		for i, deep := range depths(one.Root, roots, known) {
			f.add(deep > 40, 6, one.Name, api.ErrDeep)
			f.add(i >= 4000, 6, one.Name, api.ErrMany)
		}
	}
}

// modelCheck tells Check another way: all faults of a program that tree.Parse may
// return, but for its keys, are put together, and the first of them counts.
func modelCheck(p api.Program) fault {
	var f faults
	f.keys(p.Keys)
	if len(f) > 0 {
		return f[0]
	}
	for i, one := range p.Trees {
		f.add(slices.ContainsFunc(p.Trees[:i], func(o api.Tree) bool { return o.Name == one.Name }), 2, one.Name, api.ErrTwice)
	}
	for i, d := range p.Domains {
		f.add(slices.ContainsFunc(p.Domains[:i], func(o api.Domain) bool { return o.Name == d.Name }), 3, d.Name, api.ErrTwice)
		f.domain(d, p.Keys)
	}
	for _, one := range p.Trees {
		for _, n := range forward(one.Root) {
			f.node(n, one.Name, p)
		}
	}
	if len(f) == 0 {
		f.rings(p.Trees)
	}
	if len(f) == 0 {
		f.sizes(p.Trees)
	}
	return append(f, fault{})[0]
}
