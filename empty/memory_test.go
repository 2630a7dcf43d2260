package empty

import (
	"slices"
	"testing"

	"watchway/api"
)

// mark is what stands in the room behind lists; no answer has it.
const mark = 0x7ead

// roomy is a list with marked room behind it.
func roomy[T any](list []T, with T) []T {
	return append(slices.Clone(list), with, with)[:len(list)]
}

// roomyLists is roomy of lists and of each list in them.
func roomyLists(lists [][]int) [][]int {
	var out [][]int
	for _, list := range lists {
		out = append(out, roomy(list, mark))
	}
	return roomy(out, roomy([]int{mark}, mark))
}

// given is what Find is handed.
type given struct {
	w api.World
	a api.Auto
}

// roomyGiven is a copy with marked room behind all of its lists.
func roomyGiven(x given) given {
	return given{
		api.World{Start: roomy(x.w.Start, mark), Next: roomyLists(x.w.Next), Label: roomy(x.w.Label, mark), Fair: roomyLists(x.w.Fair)},
		api.Auto{Start: roomy(x.a.Start, mark), Next: roomyLists(x.a.Next), Must: roomy(x.a.Must, mark), Not: roomy(x.a.Not, mark), Fair: roomyLists(x.a.Fair)},
	}
}

// numbers are all lists of numbers of what is given, room included.
func (x given) numbers() [][]int {
	var all [][]int
	for _, lists := range [][][]int{x.w.Next, x.w.Fair, x.a.Next, x.a.Fair, {x.w.Start, x.a.Start}} {
		for _, list := range lists[:cap(lists)] {
			all = append(all, list[:cap(list)])
		}
	}
	return all
}

// letters are all letters of what is given, room included.
func (x given) letters() [][]uint64 {
	var all [][]uint64
	for _, list := range [][]uint64{x.w.Label, x.a.Must, x.a.Not} {
		all = append(all, list[:cap(list)])
	}
	return all
}

// same holds what is given against each other, room included.
func (x given) same(y given) bool {
	return slices.EqualFunc(x.numbers(), y.numbers(), slices.Equal) && slices.EqualFunc(x.letters(), y.letters(), slices.Equal)
}

// spoil overwrites all that is given, room included.
func (x given) spoil() {
	for _, list := range x.numbers() {
		fill(list, mark)
	}
	for _, list := range x.letters() {
		fill(list, mark)
	}
}

// fill overwrites a list and its spare room.
func fill[T any](list []T, with T) {
	list = list[:cap(list)]
	for i := range list {
		list[i] = with
	}
}

// handed are worlds and automata of all sorts, wrong ones among them.
func handed() []given {
	two := api.Auto{Start: []int{1, 0, 1}, Next: dense(2), Must: []uint64{1, 0}, Not: []uint64{0, 1}, Fair: alone(0, 1)}
	list := []given{
		{},
		{open(ring(1)), all()},
		{open(line(9), []int{8}), all()},
		{lettered([][]int{{1, 1, 0}, {2, 0, 2}, {0}}, 1, 0, 1), two},
		{lettered([][]int{{1}, {2}, {3}, {2}}, 0, 0, 1, 0), two},
		{lettered(dense(2), 1, 1), two},
		{open(ring(7), []int{2, 0, 2}, []int{1}), free(ring(21), []int{20, 3})},
		{open(ring(600), []int{599}), free(ring(3))},
		{open(ring(3), nil), all()},
	}
	for _, worlds := range wrongWorlds() {
		for _, w := range worlds {
			list = append(list, given{w, two})
		}
	}
	for _, automata := range wrongAutos() {
		for _, a := range automata {
			list = append(list, given{open(ring(3)), a})
		}
	}
	return list
}

func TestHandedInStays(t *testing.T) {
	for i, was := range handed() {
		x, want := roomyGiven(was), roomyGiven(was)
		Find(x.w, x.a)
		if !x.same(want) {
			t.Error(i, x)
		}
	}
}

// What was answered stays when what was handed in is overwritten, and an answer that is overwritten, room included, alters neither what was handed in nor the answer's other list.
func TestAnswersStandAlone(t *testing.T) {
	for i, was := range handed() {
		x := roomyGiven(was)
		p, is, e := Find(x.w, x.a)
		want := api.Path{Stem: slices.Clone(p.Stem), Loop: slices.Clone(p.Loop)}
		x.spoil()
		if !slices.Equal(p.Stem, want.Stem) || !slices.Equal(p.Loop, want.Loop) {
			t.Error(i, p, "want", want)
		}
		x = roomyGiven(was)
		p, _, _ = Find(x.w, x.a)
		fill(p.Stem, mark)
		if !slices.Equal(p.Loop, want.Loop) {
			t.Error(i, "Loop", p, "want", want)
		}
		p, _, _ = Find(x.w, x.a)
		fill(p.Loop, mark)
		if !slices.Equal(p.Stem, want.Stem) {
			t.Error(i, "Stem", p, "want", want)
		}
		if !x.same(roomyGiven(was)) {
			t.Error(i, "is altered", x)
		}
		for _, other := range handed() {
			Find(other.w, other.a)
		}
		// The same one of all ways is told each time.
		again, isAgain, eAgain := Find(x.w, x.a)
		if isAgain != is || eAgain != e || !slices.Equal(again.Stem, want.Stem) || !slices.Equal(again.Loop, want.Loop) {
			t.Error(i, again, isAgain, eAgain, "want", want, is, e)
		}
	}
}

// What is handed in may have one list at several places.
func TestSharedLists(t *testing.T) {
	both, letters := roomy([]int{1, 0, 1}, mark), roomy([]uint64{0, 0}, mark)
	w := api.World{Start: both, Next: [][]int{both, both}, Label: letters, Fair: [][]int{both, both[:1], both}}
	a := api.Auto{Start: both, Next: w.Next, Must: letters, Not: letters, Fair: w.Fair}
	p := some(t, "shared", w, a)
	fill(p.Stem, mark)
	fill(p.Loop, mark)
	if !slices.Equal(both[:5], []int{1, 0, 1, mark, mark}) || !slices.Equal(letters[:4], []uint64{0, 0, mark, mark}) {
		t.Error(both, letters)
	}
}
