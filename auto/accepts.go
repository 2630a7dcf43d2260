package auto

import (
	"slices"

	"watchway/api"
	"watchway/lasso"
	"watchway/scc"
)

// Accepts tells whether an endless fair row of states goes with a word.
func Accepts(a api.Auto, w api.Word) (bool, api.Errno) {
	if e := Check(a); e != api.OK {
		return false, e
	}
	if e := lasso.Check(w); e != api.OK {
		return false, e
	}
	// Check has seen to it that Next is a graph.
	turned, _ := scc.Turn(a.Next)
	r := rounds{next: setsOf(a.Next), prev: setsOf(turned), fair: setsOf(a.Fair)}
	for _, letter := range w.Loop {
		r.fits = append(r.fits, fitting(a, letter))
	}
	begin := setOf(a.Start)
	for _, letter := range w.Stem {
		fits := fitting(a, letter)
		begin = r.behind(meet(&begin, &fits))
	}
	return r.acceptFrom(begin), api.OK
}

// fitting answers the states with which a letter goes.
func fitting(a api.Auto, letter uint64) set {
	var fits set
	for state, must := range a.Must {
		if letter&must == must && letter&a.Not[state] == 0 {
			fits.add(state)
		}
	}
	return fits
}

// spot is a state at a place of a Loop.
type spot struct{ state, place int }

// rounds is an automaton that goes round a Loop, from spot to spot. There may be more spots than package scc takes nodes.
type rounds struct {
	next, prev []set // of each state those to which it goes, and those that go to it
	fits       []set // of each place those with which its letter goes
	fair       []set
}

// behind answers all states to which some of those go.
func (r rounds) behind(states set) set {
	var all set
	for _, state := range states.list() {
		all.join(&r.next[state])
	}
	return all
}

// acceptFrom tells whether an endless fair row begins with one of those states at the Loop's first place. In the end such a row stays in one part, spots of which one comes from each to each, and a row may meet all of a part again and again. The parts are found by Kosaraju's rule: from the spot that was left last on, going backward.
func (r rounds) acceptFrom(begin set) bool {
	left := slices.Clone(r.fits)
	var met []spot
	for state := firstOf(&begin, &left[0]); state != none; state = firstOf(&begin, &left[0]) {
		met = append(met, walk(spot{state, 0}, left, r.forward)...)
	}
	clear(left)
	for _, at := range met {
		left[at.place].add(at.state)
	}
	for _, at := range slices.Backward(met) {
		if left[at.place].has(at.state) && r.isFair(walk(at, left, r.backward)) {
			return true
		}
	}
	return false
}

// forward answers the states to which a spot goes, and their place.
func (r rounds) forward(at spot) (*set, int) {
	return &r.next[at.state], (at.place + 1) % len(r.fits)
}

// backward answers the states that go to a spot, and their place.
func (r rounds) backward(at spot) (*set, int) {
	return &r.prev[at.state], (at.place + len(r.fits) - 1) % len(r.fits)
}

// walk goes in depth through the spots that are left, of each place a set, and takes away those that it meets; it answers them as it leaves them, each behind those that were met from there. It keeps its own path: that may be as long as there are spots.
func walk(from spot, left []set, goOn func(spot) (*set, int)) []spot {
	var done []spot
	left[from.place].remove(from.state)
	path := []spot{from}
	for len(path) > 0 {
		at := path[len(path)-1]
		states, place := goOn(at)
		state := firstOf(states, &left[place])
		if state == none {
			done = append(done, at)
			path = path[:len(path)-1]
			continue
		}
		left[place].remove(state)
		path = append(path, spot{state, place})
	}
	return done
}

// isFair tells whether one can go on in a part for ever, and meets each fair set there.
func (r rounds) isFair(part []spot) bool {
	if !r.goesOn(part) {
		return false
	}
	var states set
	for _, at := range part {
		states.add(at.state)
	}
	return !slices.ContainsFunc(r.fair, func(fair set) bool { return firstOf(&fair, &states) == none })
}

// goesOn tells whether one can go on in a part: a spot that is one alone must go to itself.
func (r rounds) goesOn(part []spot) bool {
	if len(part) > 1 {
		return true
	}
	states, place := r.forward(part[0])
	return place == part[0].place && states.has(part[0].state)
}
