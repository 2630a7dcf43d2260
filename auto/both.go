package auto

import (
	"iter"
	"slices"

	"watchway/api"
	"watchway/bitset"
)

// Both answers the automaton that accepts just what a and b accept.
func Both(a, b api.Auto) (api.Auto, api.Errno) {
	if e := Check(a); e != api.OK {
		return api.Auto{}, e
	}
	if e := Check(b); e != api.OK {
		return api.Auto{}, e
	}
	if len(a.Fair)+len(b.Fair) > api.MaxFair {
		return api.Auto{}, api.ErrLarge
	}
	with, nextA, nextB := partners(a, b), eachOnce(a.Next), eachOnce(b.Next)
	both, pairs, e := gather(cross(once(a.Start), once(b.Start), with), func(at pair) iter.Seq[pair] {
		return cross(nextA[at.first], nextB[at.second], with)
	})
	if e != api.OK {
		return api.Auto{}, e
	}
	for _, p := range pairs {
		both.Must = append(both.Must, a.Must[p.first]|b.Must[p.second])
		both.Not = append(both.Not, a.Not[p.first]|b.Not[p.second])
	}
	for _, fair := range bitset.OfEach(a.Fair) {
		both.Fair = append(both.Fair, where(pairs, func(p pair) bool { return fair.Has(p.first) }))
	}
	for _, fair := range bitset.OfEach(b.Fair) {
		both.Fair = append(both.Fair, where(pairs, func(p pair) bool { return fair.Has(p.second) }))
	}
	return both, api.OK
}

// partners answers of each state of a the states of b with which it makes a pair.
func partners(a, b api.Auto) []bitset.Set {
	with := make([]bitset.Set, len(a.Next))
	for first := range with {
		for second := range b.Next {
			if a.Must[first]&b.Not[second] == 0 && a.Not[first]&b.Must[second] == 0 {
				with[first].Add(second)
			}
		}
	}
	return with
}

// cross hands over the pairs of each of firsts with each of seconds, in order. Those that are no pairs may be by far the most, so they are not looked at one by one.
func cross(firsts, seconds []int, with []bitset.Set) iter.Seq[pair] {
	return func(yield func(pair) bool) {
		among := bitset.Of(seconds)
		var places [maxStates]int
		for place, second := range seconds {
			places[second] = place
		}
		for _, first := range firsts {
			paired := bitset.Meet(&among, &with[first])
			list := paired.List()
			slices.SortFunc(list, func(x, y int) int { return places[x] - places[y] })
			for _, second := range list {
				if !yield(pair{first, second}) {
					return
				}
			}
		}
	}
}
