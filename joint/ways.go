package joint

import (
	"iter"
	"slices"

	"watchway/bitset"
)

// FairParts hands over the fair parts to which one comes from where one may begin. In the end a row without end stays in one part, spots of which one comes from each to each, and a row may meet all of a part again and again; so a part is fair, if one can go on in it for ever, and it meets each fair set. The parts are found by Kosaraju's rule: from the spot that was left last on, going backward.
func (j *Joint) FairParts() iter.Seq[[]Spot] {
	return func(yield func([]Spot) bool) {
		met := j.met()
		w := newWalk(j.behind, j.Through(met))
		for _, at := range slices.Backward(met) {
			if !w.take(at) {
				continue
			}
			if part := w.depth(at); j.isFair(part) && !yield(part) {
				return
			}
		}
	}
}

// met answers the spots to which one comes, as they are left.
func (j *Joint) met() []Spot {
	w := newWalk(j.ahead, j.fits)
	var met []Spot
	for _, at := range j.start {
		if w.take(at) {
			met = append(met, w.depth(at)...)
		}
	}
	return met
}

func (j *Joint) isFair(part []Spot) bool {
	var met bitset.Set
	for _, at := range part {
		met.Join(&j.ofWorld[at.World])
		met.Join(&j.ofAuto[at.Auto])
	}
	return met == j.sets && j.goesOn(part)
}

// goesOn tells whether one can go on in a part for ever: a spot that is one alone must go to itself.
func (j *Joint) goesOn(part []Spot) bool {
	at := part[0]
	return len(part) > 1 || j.ahead.world[at.World].Has(at.World) && j.ahead.auto[at.Auto].Has(at.Auto)
}

// Through answers spots as a way is told through which it may lead: of each state of the world a set.
func (j *Joint) Through(spots []Spot) []bitset.Set {
	through := make([]bitset.Set, len(j.fits))
	for _, at := range spots {
		through[at.World].Add(at.Auto)
	}
	return through
}

// Lead answers a shortest way from where one may begin to a goal, both included; no spot, if there is none.
func (j *Joint) Lead(isGoal func(Spot) bool) []Spot {
	w := newWalk(j.ahead, j.fits)
	for _, at := range j.start {
		w.take(at)
	}
	return w.shortest(slices.Values(j.start), isGoal)
}

// Onward answers a shortest way from a spot to a goal, through some alone: what stands behind the spot, the goal included, which may be the spot itself again; no spot, if there is none.
func (j *Joint) Onward(at Spot, through []bitset.Set, isGoal func(Spot) bool) []Spot {
	w := newWalk(j.ahead, through)
	return w.shortest(w.onward(at), isGoal)
}
