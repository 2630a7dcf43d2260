package joint

import (
	"iter"
	"slices"

	"watchway/bitset"
)

// walk goes through spots, each once.
type walk struct {
	goings
	left []bitset.Set // of each state of the world those of the automaton with which it makes a spot that is not yet met
	open []bitset.Set // of each state of the automaton those of the world that may have some left to which it goes
}

// newWalk begins a walk through those spots, of each state of the world a set.
func newWalk(along goings, through []bitset.Set) *walk {
	all := bitset.Below(len(along.world))
	return &walk{along, slices.Clone(through), slices.Repeat([]bitset.Set{all}, len(along.auto))}
}

// take meets a spot, and tells whether it was left till then.
func (w *walk) take(at Spot) bool {
	was := w.left[at.World].Has(at.Auto)
	w.left[at.World].Remove(at.Auto)
	return was
}

// next meets a spot that is left and to which one goes from another.
func (w *walk) next(at Spot) (Spot, bool) {
	for {
		state := bitset.First(&w.world[at.World], &w.open[at.Auto])
		if state == bitset.None {
			return Spot{}, false
		}
		if other := bitset.First(&w.auto[at.Auto], &w.left[state]); other != bitset.None {
			w.left[state].Remove(other)
			return Spot{state, other}, true
		}
		// What is left gets less, never more. So each two states are looked at in vain just once, from however many spots one would come there.
		w.open[at.Auto].Remove(state)
	}
}

// onward meets all spots that are left and to which one goes from another.
func (w *walk) onward(at Spot) iter.Seq[Spot] {
	return func(yield func(Spot) bool) {
		for to, is := w.next(at); is && yield(to); to, is = w.next(at) {
		}
	}
}

// depth goes in depth, from a spot that has been taken, and answers what it meets as it leaves it: each spot behind those that were met from there. It keeps its own path: that may be as long as there are spots.
func (w *walk) depth(from Spot) []Spot {
	var done []Spot
	path := []Spot{from}
	for len(path) > 0 {
		at := path[len(path)-1]
		if to, is := w.next(at); is {
			path = append(path, to)
			continue
		}
		done = append(done, at)
		path = path[:len(path)-1]
	}
	return done
}

// reached is a spot, and the place in the list of all that are reached of the one from which it was.
type reached struct {
	at   Spot
	from int
}

// shortest answers a shortest way from one of some spots, which have been taken, to a goal; no spot, if there is none.
func (w *walk) shortest(begin iter.Seq[Spot], isGoal func(Spot) bool) []Spot {
	var list []reached
	come := begin
	for from := bitset.None; from < len(list); from++ {
		if from != bitset.None {
			come = w.onward(list[from].at)
		}
		for at := range come {
			list = append(list, reached{at, from})
			if isGoal(at) {
				return wayTo(list)
			}
		}
	}
	return nil
}

// wayTo answers the way to the last one that was reached.
func wayTo(list []reached) []Spot {
	var way []Spot
	for i := len(list) - 1; i != bitset.None; i = list[i].from {
		way = append(way, list[i].at)
	}
	slices.Reverse(way)
	return way
}
