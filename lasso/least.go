package lasso

import (
	"slices"

	"watchway/api"
)

// Least answers the same word with the shortest Loop, and with the shortest Stem for that.
func Least(w api.Word) (api.Word, api.Errno) {
	if e := Check(w); e != api.OK {
		return api.Word{}, e
	}
	return least(w), api.OK
}

// Same tells whether two words have the same letter at each place.
func Same(v, w api.Word) (bool, api.Errno) {
	if e := Check(v); e != api.OK {
		return false, e
	}
	if e := Check(w); e != api.OK {
		return false, e
	}
	a, b := least(v), least(w)
	return slices.Equal(a.Stem, b.Stem) && slices.Equal(a.Loop, b.Loop), api.OK
}

// least is Least of a word.
func least(w api.Word) api.Word {
	stem, loop := Fold(w.Stem, w.Loop)
	return api.Word{Stem: stem, Loop: loop}
}

// Fold answers the same endless row with the shortest loop, and with the shortest stem for that; the loop must have something. A stem that ends like its loop is longer than it must be: the loop may begin one place earlier.
func Fold[T comparable](stem, loop []T) ([]T, []T) {
	loop = loop[:period(loop)]
	size, begin := len(stem), 0
	for size > 0 {
		last := (begin + len(loop) - 1) % len(loop)
		if stem[size-1] != loop[last] {
			break
		}
		size, begin = size-1, last
	}
	return slices.Clone(stem[:size]), slices.Concat(loop[begin:], loop[:begin])
}

// period answers how long the shortest loop of the same things, again and again, is.
func period[T comparable](loop []T) int {
	for count := 1; count < len(loop); count++ {
		if len(loop)%count == 0 && slices.Equal(loop[count:], loop[:len(loop)-count]) {
			return count
		}
	}
	return len(loop)
}
