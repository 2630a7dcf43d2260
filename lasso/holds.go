package lasso

import (
	"slices"

	"watchway/api"
	"watchway/ltl"
)

// Holds answers of each place of a word's Stem and then of its Loop whether f holds there.
func Holds(f api.Ltl, w api.Word) ([]bool, api.Errno) {
	if e := ltl.Check(f); e != api.OK {
		return nil, e
	}
	if e := Check(w); e != api.OK {
		return nil, e
	}
	return row{slices.Concat(w.Stem, w.Loop), len(w.Stem)}.holds(f), api.OK
}

// row is a word's letters, each once, and the place that comes behind the last one.
type row struct {
	letters []uint64
	again   int
}

// holds tells of each place whether a formula holds there.
func (r row) holds(f api.Ltl) []bool {
	kids := make([][]bool, len(f.Kids))
	for i, kid := range f.Kids {
		kids[i] = r.holds(kid)
	}
	switch f.Kind {
	case api.LNext:
		return r.each(func(place int) bool { return kids[0][r.next(place)] })
	case api.LUntil:
		return r.until(kids[0], kids[1])
	case api.LRelease:
		return r.release(kids[0], kids[1])
	case api.LFinally:
		return r.until(r.all(true), kids[0])
	case api.LGlobally:
		return r.release(r.all(false), kids[0])
	}
	return r.holdsNow(f, kids)
}

// holdsNow is holds of a formula that looks at no later place; kids tells where its Kids hold.
func (r row) holdsNow(f api.Ltl, kids [][]bool) []bool {
	switch f.Kind {
	case api.LAtom:
		return r.each(func(place int) bool { return r.letters[place]>>f.N&1 == 1 })
	case api.LNot:
		return r.each(func(place int) bool { return !kids[0][place] })
	case api.LAnd:
		return r.each(func(place int) bool { return kids[0][place] && kids[1][place] })
	case api.LOr:
		return r.each(func(place int) bool { return kids[0][place] || kids[1][place] })
	}
	return r.all(f.Kind == api.LTrue)
}

// next answers the place behind a place.
func (r row) next(place int) int {
	if place+1 < len(r.letters) {
		return place + 1
	}
	return r.again
}

// each asks at each place.
func (r row) each(at func(place int) bool) []bool {
	list := make([]bool, len(r.letters))
	for place := range list {
		list[place] = at(place)
	}
	return list
}

// all tells the same of each place.
func (r row) all(is bool) []bool {
	return r.each(func(int) bool { return is })
}

// until tells where an LUntil of what holds at these places does: it does not, if the second one never comes.
func (r row) until(first, second []bool) []bool {
	return r.fromBehind(false, func(place int, later bool) bool {
		return second[place] || first[place] && later
	})
}

// release tells where an LRelease of what holds at these places does: it does, if the second one never ends.
func (r row) release(first, second []bool) []bool {
	return r.fromBehind(true, func(place int, later bool) bool {
		return second[place] && (first[place] || later)
	})
}

// fromBehind asks at each place, with what was answered at the next one; never is the answer if no place ever decides it. What decides it in the Loop is met on one way round, so the first round tells what stands behind the last place, and the second one is right everywhere.
func (r row) fromBehind(never bool, at func(place int, later bool) bool) []bool {
	list := make([]bool, len(r.letters))
	later := never
	for range 2 {
		for place := len(list) - 1; place >= 0; place-- {
			later = at(place, later)
			list[place] = later
		}
		later = list[r.again]
	}
	return list
}
