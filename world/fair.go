package world

import (
	"watchway/api"
	"watchway/scc"
)

// Fair tells of each state whether a fair way begins there. In the end a way stays in one part, states of which one comes from each to each, and a way may meet all of a part again and again; so it does, if one comes to a fair part.
func Fair(w api.World) ([]bool, api.Errno) {
	if e := Check(w); e != api.OK {
		return nil, e
	}
	// Check has seen to it that Next is a graph, and such a small one that nothing is refused.
	turned, _ := scc.Turn(w.Next)
	begins, _ := scc.Reach(turned, inFairParts(w))
	return begins, api.OK
}

// inFairParts lists the states of the fair parts: those in which one can go on for ever, and that meet each fair set.
func inFairParts(w api.World) []int {
	parts, _ := scc.Parts(w.Next)
	isFair := goingOn(w, parts)
	for _, set := range w.Fair {
		meets := make([]bool, len(parts))
		for _, state := range set {
			meets[parts[state]] = true
		}
		for part := range isFair {
			isFair[part] = isFair[part] && meets[part]
		}
	}
	var list []int
	for state, part := range parts {
		if isFair[part] {
			list = append(list, state)
		}
	}
	return list
}

// goingOn tells of each part whether one can go on in it for ever: a state that is one alone must go to itself. There are no more parts than states.
func goingOn(w api.World, parts []int) []bool {
	list := make([]bool, len(parts))
	for state, next := range w.Next {
		for _, to := range next {
			if parts[to] == parts[state] {
				list[parts[state]] = true
			}
		}
	}
	return list
}
