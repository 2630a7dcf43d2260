package auto

import (
	"slices"
	"testing"

	"watchway/api"
)

// mark is what stands in the room behind lists; no answer has it.
const mark = 0x7ead

// roomy is a list with marked room behind it.
func roomy[T any](list []T, with T) []T {
	return append(slices.Clone(list), with, with)[:len(list)]
}

// roomyLists is roomy of lists and of each list in them.
func roomyLists(lists [][]int) [][]int {
	var out [][]int
	for _, list := range lists {
		out = append(out, roomy(list, mark))
	}
	return roomy(out, roomy([]int{mark}, mark))
}

// roomyAuto is an automaton with marked room behind all of its lists.
func roomyAuto(a api.Auto) api.Auto {
	return api.Auto{
		Start: roomy(a.Start, mark), Next: roomyLists(a.Next),
		Must: roomy(a.Must, mark), Not: roomy(a.Not, mark), Fair: roomyLists(a.Fair),
	}
}

// whole is an automaton with the room behind its lists made a part of them.
func whole(a api.Auto) api.Auto {
	lists := func(lists [][]int) [][]int {
		var out [][]int
		for _, list := range lists[:cap(lists)] {
			out = append(out, list[:cap(list)])
		}
		return out
	}
	return api.Auto{
		Start: a.Start[:cap(a.Start)], Next: lists(a.Next),
		Must: a.Must[:cap(a.Must)], Not: a.Not[:cap(a.Not)], Fair: lists(a.Fair),
	}
}

// clone is a copy of an automaton, room included.
func clone(a api.Auto) api.Auto {
	lists := func(lists [][]int) [][]int {
		var out [][]int
		for _, list := range lists {
			out = append(out, slices.Clone(list))
		}
		return out
	}
	return api.Auto{Start: slices.Clone(a.Start), Next: lists(a.Next), Must: slices.Clone(a.Must), Not: slices.Clone(a.Not), Fair: lists(a.Fair)}
}

// fill overwrites a list and its spare room.
func fill[T any](list []T, with T) {
	list = list[:cap(list)]
	for i := range list {
		list[i] = with
	}
}

// spoil overwrites all lists of an automaton, room included.
func spoil(a api.Auto) {
	for _, list := range slices.Concat(a.Next, a.Fair, [][]int{a.Start}) {
		fill(list, mark)
	}
	fill(a.Must, mark)
	fill(a.Not, mark)
	fill(a.Next, nil)
	fill(a.Fair, nil)
}

// handed are automata of all sorts, wrong ones among them.
func handed() []api.Auto {
	list := []api.Auto{
		{},
		free(ring(1)),
		free(ring(3), []int{2}, []int{2, 0}, []int{1}),
		free(dense(4), []int{1, 1, 3}, nil),
		free([][]int{{1, 1, 0}, {2, 0, 2}, {0}}, []int{0, 1, 2}, []int{2, 1}),
		{Start: []int{1, 0, 1}, Next: dense(2), Must: []uint64{1, 0}, Not: []uint64{0, 1}, Fair: [][]int{{0}, {1}}},
		onceRound(40, 80),
	}
	for _, x := range wrongs()[:20] {
		list = append(list, x.a)
	}
	return list
}

func TestHandedInStays(t *testing.T) {
	stem, loop := roomy([]uint64{1}, mark), roomy([]uint64{0, 1}, mark)
	for i, was := range handed() {
		a, b, want := roomyAuto(was), roomyAuto(was), whole(roomyAuto(was))
		Check(a)
		Accepts(a, word(stem, loop))
		Single(a)
		Both(a, b)
		Both(a, a)
		if !sameAuto(whole(a), want) || !sameAuto(whole(b), want) {
			t.Error(i, a, b)
		}
	}
	if !slices.Equal(stem[:3], []uint64{1, mark, mark}) || !slices.Equal(loop[:4], []uint64{0, 1, mark, mark}) {
		t.Error(stem, loop)
	}
}

// places hands over where all that an automaton has lies, room included.
func places(a api.Auto, do func(place any)) {
	for _, list := range slices.Concat(a.Next, a.Fair, [][]int{a.Start}) {
		for i := range list[:cap(list)] {
			do(&list[:cap(list)][i])
		}
	}
	for _, list := range [][]uint64{a.Must, a.Not} {
		for i := range list[:cap(list)] {
			do(&list[:cap(list)][i])
		}
	}
	for _, list := range [][][]int{a.Next, a.Fair} {
		for i := range list[:cap(list)] {
			do(&list[:cap(list)][i])
		}
	}
}

func TestAnswersLieApart(t *testing.T) {
	for i, was := range handed() {
		given := roomyAuto(was)
		one, _ := Single(given)
		two, _ := Both(given, given)
		lies := map[any]bool{}
		places(given, func(p any) { lies[p] = true })
		for _, answer := range []api.Auto{one, two} {
			places(answer, func(p any) {
				if lies[p] {
					t.Error(i, answer, "shares memory")
				}
				lies[p] = true
			})
		}
	}
}

// What is handed in may have one list at several places.
func TestSharedLists(t *testing.T) {
	all := roomy([]int{1, 0, 1}, mark)
	bits := roomy([]uint64{0, 0}, mark)
	a := api.Auto{Start: all, Next: [][]int{all, all}, Must: bits, Not: bits, Fair: [][]int{all, all[:1], all}}
	apart := clone(a)
	one, e := Single(a)
	if e != api.OK || !sameAuto(one, plainSingle(apart)) {
		t.Error(one, e)
	}
	two, e := Both(a, a)
	if e != api.OK || !sameAuto(two, plainBoth(apart, apart)) {
		t.Error(two, e)
	}
	accepts(t, "", a, word(bits, bits), true)
	if !slices.Equal(all[:cap(all)][:5], []int{1, 0, 1, mark, mark}) || !slices.Equal(bits[:4], []uint64{0, 0, mark, mark}) {
		t.Error(all, bits)
	}
}

// An answer that is spoilt, room included, alters no later one; what was handed in, spoilt afterwards, no answer; an error leaves nothing behind.
func TestNothingIsKept(t *testing.T) {
	w := word([]uint64{1}, []uint64{0, 1})
	for i, was := range handed() {
		given := clone(was)
		is, e := Accepts(given, w)
		one, e1 := Single(given)
		two, e2 := Both(given, given)
		spoil(given)
		wantOne, wantTwo := clone(one), clone(two)
		spoil(one)
		spoil(two)
		for _, x := range wrongs() {
			Accepts(x.a, w)
			Single(x.a)
			Both(was, x.a)
		}
		if again, f := Accepts(was, w); again != is || f != e {
			t.Error(i, again, f)
		}
		if again, f := Single(was); f != e1 || !sameAuto(again, wantOne) {
			t.Error(i, again, f)
		}
		if again, f := Both(was, was); f != e2 || !sameAuto(again, wantTwo) {
			t.Error(i, again, f)
		}
		if e == api.OK && (!sameAuto(wantOne, plainSingle(was)) && e1 == api.OK || !sameAuto(wantTwo, plainBoth(was, was)) && e2 == api.OK) {
			t.Error(i, wantOne, wantTwo)
		}
	}
}
