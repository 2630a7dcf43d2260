package auto

import (
	"iter"

	"watchway/api"
	"watchway/bitset"
)

// Single answers an automaton with just one fair set that accepts the same words as a.
func Single(a api.Auto) (api.Auto, api.Errno) {
	if e := Check(a); e != api.OK {
		return api.Auto{}, e
	}
	// In place of no fair set there may be one of all states: it is always met.
	fair := bitset.OfEach(a.Fair)
	if len(fair) == 0 {
		fair = []bitset.Set{bitset.Below(len(a.Next))}
	}
	next := eachOnce(a.Next)
	single, pairs, e := gather(paired(once(a.Start), 0), func(at pair) iter.Seq[pair] {
		waited := at.second
		if fair[waited].Has(at.first) {
			waited = (waited + 1) % len(fair)
		}
		return paired(next[at.first], waited)
	})
	if e != api.OK {
		return api.Auto{}, e
	}
	for _, p := range pairs {
		single.Must = append(single.Must, a.Must[p.first])
		single.Not = append(single.Not, a.Not[p.first])
	}
	single.Fair = [][]int{where(pairs, func(p pair) bool { return p.second == 0 && fair[0].Has(p.first) })}
	return single, api.OK
}

// paired hands over each of some states with the number of the fair set that is waited for.
func paired(states []int, waited int) iter.Seq[pair] {
	return func(yield func(pair) bool) {
		for _, state := range states {
			if !yield(pair{state, waited}) {
				return
			}
		}
	}
}
