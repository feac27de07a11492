package check

import (
	"puppeteer/api"
	"puppeteer/expr"
)

// Kind returns the kind of the values of an expression, where l declares the keys.
// It returns ErrArg if x is not valid; ErrName if no key has a Name that x asks for,
// or ErrKind if an operation is not for values of these kinds, whichever of them
// comes first, kids ahead of what they are in.
func Kind(x api.Expr, l []api.Key) (int, api.Errno) {
	return kindsOf(l).kind(x)
}

// kinds holds the kinds of keys by their names.
type kinds map[string]int

func kindsOf(l []api.Key) kinds {
	all := kinds{}
	for _, k := range l {
		if _, there := all[k.Name]; !there {
			all[k.Name] = k.Kind
		}
	}
	return all
}

// kind is Kind, with these keys.
func (all kinds) kind(x api.Expr) (int, api.Errno) {
	if !expr.Right(x) {
		return 0, api.ErrArg
	}
	return all.valid(x)
}

// valid is the kind of a valid expression.
func (all kinds) valid(x api.Expr) (int, api.Errno) {
	var of []int
	for _, kid := range x.Kids {
		kind, err := all.valid(kid)
		if err != api.OK {
			return 0, err
		}
		of = append(of, kind)
	}
	if x.Kind == api.EName {
		kind, there := all[x.Name]
		if !there {
			return 0, api.ErrName
		}
		return kind, api.OK
	}
	kind, ok := result(x.Kind, of)
	if !ok {
		return 0, api.ErrKind
	}
	return kind, api.OK
}

// result returns the kind of an expression, other than a name, whose kids are of
// these kinds, and whether there may be such an expression.
func result(form int, of []int) (int, bool) {
	switch form {
	case api.EInt, api.ETime:
		return api.KInt, true
	case api.EBool:
		return api.KBool, true
	case api.ESelf:
		return api.KRef, true
	case api.ESym:
		return api.KSym, true
	case api.EAdd, api.ESub:
		return of[0], areAll(api.KInt, of) || areAll(api.KPoint, of)
	case api.EMul, api.EDiv:
		return api.KInt, areAll(api.KInt, of)
	case api.ERe, api.EIm, api.EFar:
		return api.KInt, areAll(api.KPoint, of)
	case api.ENot, api.EAnd, api.EOr:
		return api.KBool, areAll(api.KBool, of)
	case api.ESame:
		return api.KBool, areAll(of[0], of)
	case api.ELess:
		return api.KBool, areAll(api.KInt, of)
	case api.EPoint:
		return api.KPoint, areAll(api.KInt, of)
	}
	// An ETurn is left.
	return api.KPoint, areAll(api.KPoint, of)
}

func areAll(kind int, of []int) bool {
	for _, one := range of {
		if one != kind {
			return false
		}
	}
	return true
}
