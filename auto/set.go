package auto

import "math/bits"

// set is a set of states, as bits: what two sets have in common is seen 64 states at a time, so lists as long as an automaton may have them cost little.
type set [maxStates / 64]uint64

// none stands where a state would, if there were one.
const none = -1

func setOf(list []int) set {
	var s set
	for _, state := range list {
		s.add(state)
	}
	return s
}

func setsOf(lists [][]int) []set {
	sets := make([]set, len(lists))
	for i, list := range lists {
		sets[i] = setOf(list)
	}
	return sets
}

func (s *set) add(state int) { s[state/64] |= 1 << (state % 64) }

func (s *set) remove(state int) { s[state/64] &^= 1 << (state % 64) }

func (s *set) has(state int) bool { return s[state/64]>>(state%64)&1 == 1 }

// join adds all states of another set.
func (s *set) join(t *set) {
	for i := range s {
		s[i] |= t[i]
	}
}

// list answers the states of a set, rising.
func (s *set) list() []int {
	var list []int
	for i, word := range s {
		for ; word != 0; word &= word - 1 {
			list = append(list, i*64+bits.TrailingZeros64(word))
		}
	}
	return list
}

// meet answers what two sets have in common.
func meet(s, t *set) set {
	var both set
	for i := range both {
		both[i] = s[i] & t[i]
	}
	return both
}

// firstOf answers the least state that two sets have in common, or none.
func firstOf(s, t *set) int {
	for i := range s {
		if word := s[i] & t[i]; word != 0 {
			return i*64 + bits.TrailingZeros64(word)
		}
	}
	return none
}
