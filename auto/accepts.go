package auto

import (
	"slices"

	"watchway/api"
	"watchway/joint"
	"watchway/lasso"
)

// Accepts tells whether an endless fair row of states goes with a word.
func Accepts(a api.Auto, w api.Word) (bool, api.Errno) {
	if e := Check(a); e != api.OK {
		return false, e
	}
	if e := lasso.Check(w); e != api.OK {
		return false, e
	}
	for range joint.Of(along(w), a).FairParts() {
		return true, api.OK
	}
	return false, api.OK
}

// along answers the world that goes along a word: its states are the word's places, and from the last one it goes back to where the Loop begins.
func along(w api.Word) api.World {
	line := api.World{Start: []int{0}, Label: slices.Concat(w.Stem, w.Loop)}
	for place := range line.Label {
		line.Next = append(line.Next, []int{place + 1})
	}
	line.Next[len(line.Next)-1] = []int{len(w.Stem)}
	return line
}
