package tableau

import (
	"slices"

	"watchway/api"
)

// choices are the states of an automaton: all choices of some elements, by their bits.
type choices struct{ elements []api.Ltl }

// count is how many states there are.
func (c choices) count() int { return 1 << len(c.elements) }

// each asks of each state.
func (c choices) each(at func(state int) bool) []bool {
	list := make([]bool, c.count())
	for state := range list {
		list[state] = at(state)
	}
	return list
}

// where answers the states of which something is so, rising.
func where(list []bool) []int {
	var states []int
	for state, is := range list {
		if is {
			states = append(states, state)
		}
	}
	return states
}

// chosen tells of each state whether it chooses an element.
func (c choices) chosen(element api.Ltl) []bool {
	place := placeOf(c.elements, element)
	return c.each(func(state int) bool { return state>>place&1 == 1 })
}

// truths tells of each state whether a part is true there.
func (c choices) truths(part api.Ltl) []bool {
	switch part.Kind {
	case api.LAtom, api.LNext:
		return c.chosen(part)
	}
	var kids [][]bool
	for _, kid := range part.Kids {
		kids = append(kids, c.truths(kid))
	}
	switch part.Kind {
	case api.LNot:
		return c.each(func(state int) bool { return !kids[0][state] })
	case api.LAnd:
		return c.each(func(state int) bool { return kids[0][state] && kids[1][state] })
	case api.LOr:
		return c.each(func(state int) bool { return kids[0][state] || kids[1][state] })
	case api.LUntil:
		later := c.chosen(part)
		return c.each(func(state int) bool { return kids[1][state] || kids[0][state] && later[state] })
	case api.LRelease:
		later := c.chosen(part)
		return c.each(func(state int) bool { return kids[1][state] && (kids[0][state] || later[state]) })
	}
	return c.each(func(int) bool { return part.Kind == api.LTrue })
}

// letters answers of each state the atoms that its letter must have, and must not have.
func (c choices) letters() (must, not []uint64) {
	must, not = make([]uint64, c.count()), make([]uint64, c.count())
	for _, element := range c.elements {
		if element.Kind != api.LAtom {
			continue
		}
		for state, is := range c.chosen(element) {
			if is {
				must[state] |= 1 << element.N
			} else {
				not[state] |= 1 << element.N
			}
		}
	}
	return must, not
}

// next answers of each state those to which it goes. Which they are hangs on what it chooses of the elements that are no atoms, so states are gathered by what the one ahead must have chosen of these.
func (c choices) next() [][]int {
	ahead := make([]int, c.count())
	told := 0
	for place, element := range c.elements {
		asked := element
		switch element.Kind {
		case api.LAtom:
			continue
		case api.LNext:
			asked = element.Kids[0]
		}
		told |= 1 << place
		for _, state := range where(c.truths(asked)) {
			ahead[state] |= 1 << place
		}
	}
	behind := make([][]int, c.count())
	for state, choice := range ahead {
		behind[choice] = append(behind[choice], state)
	}
	next := make([][]int, c.count())
	for state := range next {
		next[state] = slices.Clone(behind[state&told])
	}
	return next
}

// fair answers the fair sets: without them an LUntil could be told for ever of what never comes, and an LRelease never of what never ends.
func (c choices) fair() [][]int {
	var sets [][]int
	for _, element := range c.elements {
		if element.Kind != api.LUntil && element.Kind != api.LRelease {
			continue
		}
		is, second := c.truths(element), c.truths(element.Kids[1])
		sets = append(sets, where(c.each(func(state int) bool {
			if element.Kind == api.LUntil {
				return !is[state] || second[state]
			}
			return is[state] || !second[state]
		})))
	}
	return sets
}
