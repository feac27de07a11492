// Package syntax tells what the texts of programs are made of, for package tree,
// which reads them, package printer, which writes them, and the packages check and
// valid, which reject what they cannot have.
package syntax

import "puppeteer/api"

// MostTimes is how often a node may be repeated.
const MostTimes = 1000

// Nodes lists the words that nodes begin with, each at its kind.
func Nodes() []string {
	return []string{
		api.NSeq:    "seq",
		api.NSel:    "sel",
		api.NMSeq:   "mseq",
		api.NMSel:   "msel",
		api.NPar:    "par",
		api.NNot:    "not",
		api.NRepeat: "repeat",
		api.NIf:     "if",
		api.NSet:    "set",
		api.NDo:     "do",
		api.NUse:    "use",
		api.NPick:   "pick",
		api.NPlan:   "plan",
		api.NOk:     "ok",
		api.NFail:   "fail",
		api.NWait:   "wait",
	}
}

// MostKids returns how many kids a node of this kind may have. They stand between
// braces if they may be many.
func MostKids(kind int) int {
	switch kind {
	case api.NSeq, api.NSel, api.NMSeq, api.NMSel, api.NPar, api.NPick:
		return api.MaxKids
	case api.NNot, api.NRepeat:
		return 1
	}
	return 0
}

// MayHave reports whether there is such a kind of nodes, and a node of it may have so
// many kids and weights.
func MayHave(kind, kids, weights int) bool {
	most, want := MostKids(kind), 0
	if kind == api.NPick {
		want = kids
	}
	return api.NSeq <= kind && kind <= api.NWait && min(most, 1) <= kids && kids <= most && weights == want
}

// Owners lists the words for keys that are not shared, and for those that are.
func Owners() []string {
	return []string{"own", "shared"}
}

// Values lists the words for the kinds of values, each at its kind.
func Values() []string {
	return []string{
		api.KInt:   "int",
		api.KBool:  "bool",
		api.KRef:   "ref",
		api.KSym:   "sym",
		api.KPoint: "point",
	}
}

// Comparisons lists the signs of comparisons, each at its number.
func Comparisons() []string {
	return []string{
		api.CLeast: ">=",
		api.CMost:  "<=",
		api.CSame:  "==",
	}
}
