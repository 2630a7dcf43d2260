package world

import (
	"slices"

	"watchway/api"
	"watchway/lasso"
)

// maxPath is how many states Stem and Loop of a path may have together, if it is asked whether it is good.
const maxPath = 60000

// Good tells whether a path that goes round is a fair way that begins where w may.
func Good(w api.World, p api.Path) (bool, api.Errno) {
	if e := Check(w); e != api.OK {
		return false, e
	}
	if len(p.Stem)+len(p.Loop) > maxPath {
		return false, api.ErrLarge
	}
	return goesRound(w, p) && isWay(w, p) && meetsAll(w, p.Loop), api.OK
}

// Word answers the word of a path's letters.
func Word(w api.World, p api.Path) (api.Word, api.Errno) {
	if e := Check(w); e != api.OK {
		return api.Word{}, e
	}
	if !goesRound(w, p) {
		return api.Word{}, api.ErrArg
	}
	word := api.Word{Stem: letters(w, p.Stem), Loop: letters(w, p.Loop)}
	if e := lasso.Check(word); e != api.OK {
		return api.Word{}, e
	}
	return word, api.OK
}

// goesRound tells whether a path has states alone, and some that come again and again.
func goesRound(w api.World, p api.Path) bool {
	return len(p.Loop) > 0 && areStates(w, p.Stem) && areStates(w, p.Loop)
}

// isWay tells whether a path that goes round begins at one of Start, and goes on by Next alone, from its end to its Loop, too.
func isWay(w api.World, p api.Path) bool {
	row := slices.Concat(p.Stem, p.Loop, p.Loop[:1])
	if !slices.Contains(w.Start, row[0]) {
		return false
	}
	goes := goings(w)
	for i, to := range row[1:] {
		if !goes[row[i]][to] {
			return false
		}
	}
	return true
}

// goings tells of each state whether one goes on from it to each: a long path asks it often, and lists may be long.
func goings(w api.World) [][]bool {
	goes := make([][]bool, len(w.Next))
	for state, next := range w.Next {
		goes[state] = among(w, next)
	}
	return goes
}

// among tells of each state whether a list has it.
func among(w api.World, list []int) []bool {
	is := make([]bool, len(w.Next))
	for _, state := range list {
		is[state] = true
	}
	return is
}

// meetsAll tells whether of each fair set some state stands in a Loop.
func meetsAll(w api.World, loop []int) bool {
	comes := among(w, loop)
	misses := func(set []int) bool {
		return !slices.ContainsFunc(set, func(state int) bool { return comes[state] })
	}
	return !slices.ContainsFunc(w.Fair, misses)
}

// letters answers the Label of each state of a list.
func letters(w api.World, list []int) []uint64 {
	row := make([]uint64, len(list))
	for i, state := range list {
		row[i] = w.Label[state]
	}
	return row
}
