package world

import (
	"math"
	"slices"
	"testing"

	"watchway/api"
)

// path is a short way to write a path.
func path(stem []int, loop ...int) api.Path { return api.Path{Stem: stem, Loop: loop} }

// open is a world with those lists of Next that begins at 0; each state has a letter of its own.
func open(next [][]int, fair ...[]int) api.World {
	w := api.World{Start: []int{0}, Next: next, Fair: fair}
	for state := range next {
		w.Label = append(w.Label, uint64(state)+1)
	}
	return w
}

// ring goes from each state to the next one, from the last one to 0.
func ring(states int) [][]int {
	next := make([][]int, states)
	for state := range next {
		next[state] = []int{(state + 1) % states}
	}
	return next
}

// line goes from each state to the next one; the last one goes to itself.
func line(states int) [][]int {
	next := ring(states)
	next[states-1] = []int{states - 1}
	return next
}

// span are the numbers from 0 to ahead of another.
func span(count int) []int {
	list := make([]int, count)
	for i := range list {
		list[i] = i
	}
	return list
}

// dense goes from each state to each.
func dense(states int) [][]int {
	return times(states, span(states))
}

// times is a list with one thing that many times.
func times[T any](count int, thing T) []T {
	list := make([]T, count)
	for i := range list {
		list[i] = thing
	}
	return list
}

// sameWorld tells whether two worlds are the same.
func sameWorld(a, b api.World) bool {
	return slices.Equal(a.Start, b.Start) && slices.EqualFunc(a.Next, b.Next, slices.Equal) &&
		slices.Equal(a.Label, b.Label) && slices.EqualFunc(a.Fair, b.Fair, slices.Equal)
}

// sameWord tells whether two words are the same, letter by letter.
func sameWord(a, b api.Word) bool {
	return slices.Equal(a.Stem, b.Stem) && slices.Equal(a.Loop, b.Loop)
}

// changed is the world of two states that go round, with something done to it.
func changed(do func(w *api.World)) api.World {
	w := open(ring(2), []int{0}, []int{1})
	do(&w)
	return w
}

// wrong is a world that isn't any, and its error.
type wrong struct {
	w    api.World
	want api.Errno
}

func wrongs() []wrong {
	return append(wrongArgs(), wrongSizes()...)
}

func wrongArgs() []wrong {
	var list []wrong
	for _, do := range []func(w *api.World){
		func(w *api.World) { w.Label = nil },
		func(w *api.World) { w.Label = []uint64{1} },
		func(w *api.World) { w.Label = []uint64{1, 2, 3} },
		func(w *api.World) { w.Label = make([]uint64, 601) },
		func(w *api.World) { w.Next = nil },
		func(w *api.World) { w.Next = w.Next[:1] },
		func(w *api.World) { w.Next = append(w.Next, []int{0}) },
		func(w *api.World) { w.Next[0] = nil },
		func(w *api.World) { w.Next[1] = []int{} },
		func(w *api.World) { w.Next[1] = w.Next[1][:0] },
		func(w *api.World) { *w = open([][]int{nil}) },
		func(w *api.World) { *w = open(ring(600)); w.Next[599] = nil },
		func(w *api.World) { w.Start = []int{2} },
		func(w *api.World) { w.Start = []int{1, 0, -1} },
		func(w *api.World) { w.Start = []int{0, math.MaxInt} },
		func(w *api.World) { w.Next[0] = []int{1, 2} },
		func(w *api.World) { w.Next[1] = []int{-1, 0} },
		func(w *api.World) { w.Next[1] = []int{math.MinInt} },
		func(w *api.World) { w.Fair[0] = []int{2} },
		func(w *api.World) { w.Fair[1] = []int{1, 0, -1} },
		func(w *api.World) { w.Fair[1] = []int{math.MinInt, 0} },
		func(w *api.World) { w.Fair = append(w.Fair, []int{600}) },
		func(w *api.World) { *w = api.World{Start: []int{0}} },
		func(w *api.World) { *w = api.World{Fair: [][]int{{0}}} },
		func(w *api.World) { *w = api.World{Label: []uint64{0}} },
		func(w *api.World) { *w = open(ring(600)); w.Start = []int{600} },
		func(w *api.World) { *w = open(ring(600), make([][]int, 80)...); w.Fair[79] = []int{600} },
	} {
		list = append(list, wrong{changed(do), api.ErrArg})
	}
	return list
}

func wrongSizes() []wrong {
	var list []wrong
	for _, do := range []func(w *api.World){
		func(w *api.World) { *w = open(ring(601)) },
		func(w *api.World) { *w = open(times(50000, []int{0})) },
		func(w *api.World) { w.Fair = make([][]int, 81) },
		func(w *api.World) { w.Fair = times(81, []int{0}) },
		func(w *api.World) { *w = open(ring(601), make([][]int, 81)...) },
		func(w *api.World) { *w = open(ring(601)); w.Label = nil },
		func(w *api.World) { *w = open(ring(601)); w.Label = w.Label[:600] },
		func(w *api.World) { w.Next = make([][]int, 601) },
		func(w *api.World) { *w = open(ring(601)); w.Next[7] = nil },
		func(w *api.World) { *w = open(ring(601)); w.Next[7] = []int{-1} },
		func(w *api.World) { *w = open(ring(601)); w.Start = []int{-1} },
		func(w *api.World) { *w = open(ring(601), []int{601}) },
		func(w *api.World) { w.Fair = make([][]int, 81); w.Label = nil },
		func(w *api.World) { w.Fair = make([][]int, 81); w.Next[0] = nil },
		func(w *api.World) { w.Fair = make([][]int, 81); w.Next[0] = []int{5} },
		func(w *api.World) { w.Fair = make([][]int, 81); w.Start = []int{5} },
		func(w *api.World) { w.Fair = times(81, []int{5}) },
		func(w *api.World) { *w = api.World{Fair: make([][]int, 81)} },
	} {
		list = append(list, wrong{changed(do), api.ErrLarge})
	}
	return list
}

func TestCheck(t *testing.T) {
	for i, w := range []api.World{
		{},
		{Start: []int{}, Next: [][]int{}, Label: []uint64{}, Fair: [][]int{}},
		{Fair: [][]int{nil, {}}},
		{Fair: make([][]int, 80)},
		open(ring(1)),
		open(ring(2), []int{0}, []int{1}),
		open(ring(600)),
		open(dense(600), times(80, span(600))...),
		open(ring(600), make([][]int, 80)...),
		open(ring(2), times(80, []int{1, 0, 1})...),
		changed(func(w *api.World) { w.Start = nil }),
		changed(func(w *api.World) { w.Start = times(3000, 1) }),
		changed(func(w *api.World) { w.Next[0] = times(3000, 1) }),
		changed(func(w *api.World) { w.Fair[0] = times(3000, 0) }),
		changed(func(w *api.World) { w.Label[0], w.Label[1] = math.MaxUint64, math.MaxUint64 }),
		changed(func(w *api.World) { w.Label[0], w.Label[1] = 0, 1<<63 }),
	} {
		if e := Check(w); e != api.OK {
			t.Error(i, e)
		}
	}
}

// somePaths are paths of all sorts: some of states, some that are wrong by themselves.
func somePaths() []api.Path {
	return []api.Path{
		{}, path(nil, 0, 1), path([]int{0}, 1, 0), path([]int{0}), path(nil, -1), path([]int{7}, 0),
		path(nil, make([]int, 61)...), path(make([]int, 60001)), path(nil, times(60001, -1)...),
	}
}

func TestWrongWorlds(t *testing.T) {
	for i, x := range wrongs() {
		if e := Check(x.w); e != x.want {
			t.Error(i, "Check", e, "want", x.want)
		}
		if list, e := Fair(x.w); e != x.want || list != nil {
			t.Error(i, "Fair", list, e, "want", x.want)
		}
		// The world's error is told ahead of the path's.
		for j, p := range somePaths() {
			if is, e := Good(x.w, p); e != x.want || is {
				t.Error(i, j, "Good", is, e, "want", x.want)
			}
			if word, e := Word(x.w, p); e != x.want || word.Stem != nil || word.Loop != nil {
				t.Error(i, j, "Word", word, e, "want", x.want)
			}
		}
	}
}
