package lasso

import (
	"slices"

	"watchway/api"
)

// Least answers the same word with the shortest Loop, and with the shortest Stem for that.
func Least(w api.Word) (api.Word, api.Errno) {
	if e := Check(w); e != api.OK {
		return api.Word{}, e
	}
	return least(w), api.OK
}

// Same tells whether two words have the same letter at each place.
func Same(v, w api.Word) (bool, api.Errno) {
	if e := Check(v); e != api.OK {
		return false, e
	}
	if e := Check(w); e != api.OK {
		return false, e
	}
	a, b := least(v), least(w)
	return slices.Equal(a.Stem, b.Stem) && slices.Equal(a.Loop, b.Loop), api.OK
}

// least is Least of a word. A Stem that ends like its Loop is longer than it must be: the Loop may begin a letter earlier.
func least(w api.Word) api.Word {
	loop := w.Loop[:period(w.Loop)]
	stem, begin := len(w.Stem), 0
	for stem > 0 {
		last := (begin + len(loop) - 1) % len(loop)
		if w.Stem[stem-1] != loop[last] {
			break
		}
		stem, begin = stem-1, last
	}
	return api.Word{Stem: slices.Clone(w.Stem[:stem]), Loop: slices.Concat(loop[begin:], loop[:begin])}
}

// period answers how many letters the shortest loop with the same letters, again and again, has.
func period(loop []uint64) int {
	for count := 1; count < len(loop); count++ {
		if len(loop)%count == 0 && slices.Equal(loop[count:], loop[:len(loop)-count]) {
			return count
		}
	}
	return len(loop)
}
