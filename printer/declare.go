package printer

import (
	"strconv"

	"puppeteer/api"
	"puppeteer/syntax"
)

func (w *writer) key(k api.Key) {
	owner := 0
	if k.Shared {
		owner = 1
	}
	w.line(0, "key", syntax.Owners()[owner], k.Name, word(syntax.Values(), k.Kind), ";")
}

func (w *writer) tree(t api.Tree) {
	w.line(0, "tree", t.Name, "{")
	w.root(t.Root, 1)
	w.line(0, "}")
}

func (w *writer) domain(d api.Domain) {
	w.line(0, "domain", d.Name, "{")
	for _, v := range d.Vars {
		w.line(1, "var", v.Name, strconv.Itoa(v.Low), strconv.Itoa(v.High), ";")
	}
	for _, a := range d.Acts {
		w.act(a)
	}
	for _, c := range d.Goal {
		w.cond(1, "goal", c)
	}
	w.line(0, "}")
}

func (w *writer) act(a api.Act) {
	w.line(1, "act", a.Name, "cost", strconv.Itoa(a.Cost), "{")
	for _, c := range a.Need {
		w.cond(2, "need", c)
	}
	for _, m := range a.Make {
		w.change(m)
	}
	w.line(1, "}")
}

// cond writes a condition behind the word that it belongs to.
func (w *writer) cond(level int, ahead string, c api.Cond) {
	w.line(level, ahead, c.Name, word(syntax.Comparisons(), c.Op), strconv.Itoa(c.N), ";")
}

func (w *writer) change(m api.Make) {
	sign, n := "=", m.N
	switch {
	case m.Add && n < 0:
		sign, n = "-", -n
	case m.Add:
		sign = "+"
	}
	w.line(2, "make", m.Name, sign, strconv.Itoa(n), ";")
}
