// Package joint: a world and an automaton that go side by side, letter by letter. Packages auto and empty look there for rows without end that are fair to both.
package joint

import (
	"watchway/api"
	"watchway/bitset"
)

// Spot is a state of the world, and one of the automaton that goes with its letter.
type Spot struct{ World, Auto int }

// Joint is the graph of all spots: from one to each of which both parts go on. It is never laid out, as there may be a million spots that go to each other.
type Joint struct {
	start           []Spot
	fits            []bitset.Set // of each state of the world those of the automaton with which it makes a spot
	ahead, behind   goings
	ofWorld, ofAuto []bitset.Set // of each state the numbers of the fair sets that have it
	sets            bitset.Set
}

// goings tells of each state of the world, and of each of the automaton, to which one may go from there.
type goings struct{ world, auto []bitset.Set }

// Of answers the joint of a world and an automaton; it is for those that packages world and auto take.
func Of(w api.World, a api.Auto) *Joint {
	j := &Joint{
		fits:    fitting(w.Label, a),
		ahead:   goings{bitset.OfEach(w.Next), bitset.OfEach(a.Next)},
		behind:  goings{having(w.Next, len(w.Next), 0), having(a.Next, len(a.Next), 0)},
		ofWorld: having(w.Fair, len(w.Next), 0),
		ofAuto:  having(a.Fair, len(a.Next), len(w.Fair)),
		sets:    bitset.Below(len(w.Fair) + len(a.Fair)),
	}
	worlds, autos := bitset.Of(w.Start), bitset.Of(a.Start)
	for _, state := range worlds.List() {
		fits := bitset.Meet(&autos, &j.fits[state])
		for _, other := range fits.List() {
			j.start = append(j.start, Spot{state, other})
		}
	}
	return j
}

// fitting answers of each letter the states of an automaton that go with it.
func fitting(letters []uint64, a api.Auto) []bitset.Set {
	fits := make([]bitset.Set, len(letters))
	for i, letter := range letters {
		for state, must := range a.Must {
			if letter&must == must && letter&a.Not[state] == 0 {
				fits[i].Add(state)
			}
		}
	}
	return fits
}

// having answers of each of so many states the numbers of the lists that have it, counted from first on.
func having(lists [][]int, states, first int) []bitset.Set {
	sets := make([]bitset.Set, states)
	for i, list := range lists {
		for _, state := range list {
			sets[state].Add(first + i)
		}
	}
	return sets
}

// Sets answers the numbers of all fair sets: the world's, then the automaton's.
func (j *Joint) Sets() bitset.Set { return j.sets }

// Unmet answers the fair sets, of some, that are not met at a spot.
func (j *Joint) Unmet(sets bitset.Set, at Spot) bitset.Set {
	sets.Cut(&j.ofWorld[at.World])
	sets.Cut(&j.ofAuto[at.Auto])
	return sets
}

// Meeting answers what tells of a spot whether one of some fair sets is met there.
func (j *Joint) Meeting(sets bitset.Set) func(Spot) bool {
	worlds, autos := touching(j.ofWorld, &sets), touching(j.ofAuto, &sets)
	return func(at Spot) bool { return worlds[at.World] || autos[at.Auto] }
}

// touching tells of each list whether it has something in common with a set.
func touching(lists []bitset.Set, sets *bitset.Set) []bool {
	is := make([]bool, len(lists))
	for i := range lists {
		is[i] = bitset.First(&lists[i], sets) != bitset.None
	}
	return is
}
