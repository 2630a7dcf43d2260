package tableau

import (
	"cmp"
	"slices"

	"watchway/api"
	"watchway/ltl"
)

// elementsOf answers the parts of a plain formula that are chosen or not: its atoms, then those that look at the next place, each once.
func elementsOf(f api.Ltl) []api.Ltl {
	var atoms, others []api.Ltl
	eachPart(f, func(part api.Ltl) {
		switch part.Kind {
		case api.LAtom:
			atoms = withPart(atoms, part)
		case api.LNext, api.LUntil, api.LRelease:
			others = withPart(others, part)
		}
	})
	slices.SortFunc(atoms, func(a, b api.Ltl) int { return cmp.Compare(a.N, b.N) })
	return slices.Concat(atoms, others)
}

// eachPart hands over a formula and its parts, each ahead of its Kids.
func eachPart(f api.Ltl, do func(api.Ltl)) {
	do(f)
	for _, kid := range f.Kids {
		eachPart(kid, do)
	}
}

// withPart adds a part to a list, unless it is there.
func withPart(list []api.Ltl, part api.Ltl) []api.Ltl {
	if placeOf(list, part) >= 0 {
		return list
	}
	return append(list, part)
}

// placeOf answers where a part stands in a list; below 0, if it doesn't.
func placeOf(list []api.Ltl, part api.Ltl) int {
	return slices.IndexFunc(list, func(other api.Ltl) bool { return ltl.Same(other, part) })
}
