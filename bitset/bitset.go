// Package bitset: sets of numbers, as bits. What two sets have in common is seen 64 numbers at a time, so lists as long as an automaton or a world may have them cost little.
package bitset

import "math/bits"

// Size is how many numbers a set may have: those from 0 on, below it. No automaton and no world has more states.
const Size = 2048

// Set is a set of numbers below Size.
type Set [Size / 64]uint64

// None stands where a number would, if there were one.
const None = -1

// Of answers the set of the numbers of a list.
func Of(list []int) Set {
	var s Set
	for _, number := range list {
		s.Add(number)
	}
	return s
}

// OfEach answers the set of each list.
func OfEach(lists [][]int) []Set {
	sets := make([]Set, len(lists))
	for i, list := range lists {
		sets[i] = Of(list)
	}
	return sets
}

// Below answers the set of all numbers below another one.
func Below(count int) Set {
	var s Set
	for number := range count {
		s.Add(number)
	}
	return s
}

// Add puts a number in.
func (s *Set) Add(number int) { s[number/64] |= 1 << (number % 64) }

// Remove takes a number out.
func (s *Set) Remove(number int) { s[number/64] &^= 1 << (number % 64) }

// Has tells whether a number is in.
func (s *Set) Has(number int) bool { return s[number/64]>>(number%64)&1 == 1 }

// Join adds all numbers of another set.
func (s *Set) Join(t *Set) {
	for i := range s {
		s[i] |= t[i]
	}
}

// Cut takes out all numbers of another set.
func (s *Set) Cut(t *Set) {
	for i := range s {
		s[i] &^= t[i]
	}
}

// List answers the numbers of a set, rising.
func (s *Set) List() []int {
	var list []int
	for i, word := range s {
		for ; word != 0; word &= word - 1 {
			list = append(list, i*64+bits.TrailingZeros64(word))
		}
	}
	return list
}

// Meet answers what two sets have in common.
func Meet(s, t *Set) Set {
	var both Set
	for i := range both {
		both[i] = s[i] & t[i]
	}
	return both
}

// First answers the least number that two sets have in common, or None.
func First(s, t *Set) int {
	for i := range s {
		if word := s[i] & t[i]; word != 0 {
			return i*64 + bits.TrailingZeros64(word)
		}
	}
	return None
}
