package auto

import (
	"iter"

	"watchway/api"
	"watchway/bitset"
)

// pair is a state of an automaton with one of another, or with the number of a fair set.
type pair struct{ first, second int }

// roll gives pairs their numbers, as they first come.
type roll struct {
	numbers map[pair]int
	pairs   []pair // by their numbers
}

// gather answers an automaton of pairs, with its Start and Next alone, and the pairs of its states: those of start and all that come by next from there on. Neither may hand over a pair twice.
func gather(start iter.Seq[pair], next func(pair) iter.Seq[pair]) (api.Auto, []pair, api.Errno) {
	r := roll{numbers: map[pair]int{}}
	list, e := r.list(start)
	if e != api.OK {
		return api.Auto{}, nil, e
	}
	a := api.Auto{Start: list}
	// Pairs are added to the end while they are gone through, so all that come are met in the order in which they came.
	for at := 0; at < len(r.pairs); at++ {
		list, e := r.list(next(r.pairs[at]))
		if e != api.OK {
			return api.Auto{}, nil, e
		}
		a.Next = append(a.Next, list)
	}
	return a, r.pairs, api.OK
}

// list answers the numbers of pairs, new or not; ErrLarge, as soon as there are too many.
func (r *roll) list(come iter.Seq[pair]) ([]int, api.Errno) {
	var list []int
	for p := range come {
		number, known := r.numbers[p]
		if !known {
			if len(r.pairs) == maxStates {
				return nil, api.ErrLarge
			}
			number = len(r.pairs)
			r.numbers[p] = number
			r.pairs = append(r.pairs, p)
		}
		list = append(list, number)
	}
	return list, api.OK
}

// where answers the numbers of the pairs of which something is so, rising.
func where(pairs []pair, is func(pair) bool) []int {
	var list []int
	for number, p := range pairs {
		if is(p) {
			list = append(list, number)
		}
	}
	return list
}

// once answers a list without what comes in it again.
func once(list []int) []int {
	var seen bitset.Set
	var short []int
	for _, state := range list {
		if !seen.Has(state) {
			seen.Add(state)
			short = append(short, state)
		}
	}
	return short
}

// eachOnce is once of each list: they are gone through for many pairs, so what comes again is left out ahead of that.
func eachOnce(lists [][]int) [][]int {
	short := make([][]int, len(lists))
	for i, list := range lists {
		short[i] = once(list)
	}
	return short
}
