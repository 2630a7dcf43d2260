package auto

import (
	"math"
	"slices"
	"testing"

	"watchway/api"
)

// word is a short way to write a word.
func word(stem, loop []uint64) api.Word { return api.Word{Stem: stem, Loop: loop} }

// again is a word without a Stem.
func again(loop ...uint64) api.Word { return word(nil, loop) }

// free is an automaton with those lists of Next that takes all letters and begins at 0.
func free(next [][]int, fair ...[]int) api.Auto {
	return api.Auto{Start: []int{0}, Next: next, Must: make([]uint64, len(next)), Not: make([]uint64, len(next)), Fair: fair}
}

// ring goes from each state to the next one, from the last one to 0.
func ring(states int) [][]int {
	next := make([][]int, states)
	for state := range next {
		next[state] = []int{(state + 1) % states}
	}
	return next
}

// span are the numbers from 0 to ahead of another.
func span(count int) []int {
	list := make([]int, count)
	for i := range list {
		list[i] = i
	}
	return list
}

// dense goes from each state to each.
func dense(states int) [][]int {
	next := make([][]int, states)
	for state := range next {
		next[state] = span(states)
	}
	return next
}

// times is a list with one thing that many times.
func times[T any](count int, thing T) []T {
	list := make([]T, count)
	for i := range list {
		list[i] = thing
	}
	return list
}

// sameAuto tells whether two automata are the same.
func sameAuto(a, b api.Auto) bool {
	return slices.Equal(a.Start, b.Start) && slices.EqualFunc(a.Next, b.Next, slices.Equal) &&
		slices.Equal(a.Must, b.Must) && slices.Equal(a.Not, b.Not) && slices.EqualFunc(a.Fair, b.Fair, slices.Equal)
}

// isZero tells whether an automaton is the zero value.
func isZero(a api.Auto) bool {
	return a.Start == nil && a.Next == nil && a.Must == nil && a.Not == nil && a.Fair == nil
}

// changed is the automaton of two states that go round, with something done to it.
func changed(do func(a *api.Auto)) api.Auto {
	a := free(ring(2), []int{0}, []int{1})
	do(&a)
	return a
}

// wrong is an automaton that isn't any, and its error.
type wrong struct {
	a    api.Auto
	want api.Errno
}

func wrongs() []wrong {
	arg := func(do func(a *api.Auto)) wrong { return wrong{changed(do), api.ErrArg} }
	large := func(do func(a *api.Auto)) wrong { return wrong{changed(do), api.ErrLarge} }
	return []wrong{
		arg(func(a *api.Auto) { a.Must = nil }),
		arg(func(a *api.Auto) { a.Must = []uint64{0} }),
		arg(func(a *api.Auto) { a.Must = []uint64{0, 0, 0} }),
		arg(func(a *api.Auto) { a.Must = make([]uint64, 3000) }),
		arg(func(a *api.Auto) { a.Not = nil }),
		arg(func(a *api.Auto) { a.Not = []uint64{0} }),
		arg(func(a *api.Auto) { a.Not = []uint64{0, 0, 0} }),
		arg(func(a *api.Auto) { a.Next = nil }),
		arg(func(a *api.Auto) { a.Next = ring(2)[:1] }),
		arg(func(a *api.Auto) { a.Next = append(a.Next, nil) }),
		arg(func(a *api.Auto) { a.Start = []int{2} }),
		arg(func(a *api.Auto) { a.Start = []int{1, 0, -1} }),
		arg(func(a *api.Auto) { a.Start = []int{0, math.MaxInt} }),
		arg(func(a *api.Auto) { a.Next[0] = []int{1, 2} }),
		arg(func(a *api.Auto) { a.Next[1] = []int{-1, 0} }),
		arg(func(a *api.Auto) { a.Next[1] = []int{math.MinInt} }),
		arg(func(a *api.Auto) { a.Fair[0] = []int{2} }),
		arg(func(a *api.Auto) { a.Fair[1] = []int{1, 0, -1} }),
		arg(func(a *api.Auto) { a.Fair = append(a.Fair, []int{2048}) }),
		arg(func(a *api.Auto) { *a = api.Auto{Start: []int{0}} }),
		arg(func(a *api.Auto) { *a = api.Auto{Fair: [][]int{{0}}} }),
		arg(func(a *api.Auto) { *a = api.Auto{Must: []uint64{0}} }),
		arg(func(a *api.Auto) { *a = free(ring(2048)); a.Start = []int{2048} }),
		large(func(a *api.Auto) { *a = free(ring(2049)) }),
		large(func(a *api.Auto) { *a = free(make([][]int, 100000)) }),
		large(func(a *api.Auto) { a.Fair = make([][]int, 81) }),
		large(func(a *api.Auto) { a.Fair = times(81, []int{0}) }),
		large(func(a *api.Auto) { *a = free(ring(2049)); a.Must = nil }),
		large(func(a *api.Auto) { a.Next = make([][]int, 2049) }),
		large(func(a *api.Auto) { *a = free(ring(2049)); a.Start = []int{-1} }),
		large(func(a *api.Auto) { *a = free(ring(2049)); a.Next[7] = []int{-1} }),
		large(func(a *api.Auto) { a.Fair = make([][]int, 81); a.Not = nil }),
		large(func(a *api.Auto) { a.Fair = make([][]int, 81); a.Next[0] = []int{5} }),
		large(func(a *api.Auto) { a.Fair = times(81, []int{5}) }),
		large(func(a *api.Auto) { *a = api.Auto{Fair: make([][]int, 81)} }),
	}
}

func TestCheck(t *testing.T) {
	for i, a := range []api.Auto{
		{},
		{Start: []int{}, Next: [][]int{}, Must: []uint64{}, Not: []uint64{}, Fair: [][]int{}},
		{Fair: [][]int{nil, {}}},
		free(ring(1)),
		free([][]int{nil}),
		free(ring(2), []int{0}, []int{1}),
		free(ring(2048)),
		free(dense(2048), times(80, span(2048))...),
		free(ring(2048), make([][]int, 80)...),
		free(ring(2), times(80, []int{1, 0, 1})...),
		changed(func(a *api.Auto) { a.Start = times(3000, 1) }),
		changed(func(a *api.Auto) { a.Next[0] = times(3000, 1) }),
		changed(func(a *api.Auto) { a.Fair[0] = times(3000, 0) }),
		changed(func(a *api.Auto) { a.Start = nil }),
		changed(func(a *api.Auto) { a.Must[0], a.Not[0] = math.MaxUint64, math.MaxUint64 }),
	} {
		if e := Check(a); e != api.OK {
			t.Error(i, e)
		}
	}
}

func TestWrongAutomata(t *testing.T) {
	good := free(ring(2), []int{0}, []int{1})
	for i, x := range wrongs() {
		if e := Check(x.a); e != x.want {
			t.Error(i, "Check", e, "want", x.want)
		}
		if is, e := Accepts(x.a, again(0)); e != x.want || is {
			t.Error(i, "Accepts", is, e, "want", x.want)
		}
		if a, e := Single(x.a); e != x.want || !isZero(a) {
			t.Error(i, "Single", a, e, "want", x.want)
		}
		if a, e := Both(x.a, good); e != x.want || !isZero(a) {
			t.Error(i, "Both, the first one", a, e, "want", x.want)
		}
		if a, e := Both(good, x.a); e != x.want || !isZero(a) {
			t.Error(i, "Both, the second one", a, e, "want", x.want)
		}
	}
}

// Of two that are wrong the first one's error is told.
func TestWhichErrorIsTold(t *testing.T) {
	short, long := again(), word(make([]uint64, 61), nil)
	for i, x := range wrongs() {
		for _, w := range []api.Word{short, long} {
			if is, e := Accepts(x.a, w); e != x.want || is {
				t.Error(i, "Accepts", is, e, "want", x.want)
			}
		}
		for j, y := range wrongs() {
			if a, e := Both(x.a, y.a); e != x.want || !isZero(a) {
				t.Error(i, j, "Both", a, e, "want", x.want)
			}
		}
	}
}

func TestWrongWords(t *testing.T) {
	for i, x := range []struct {
		w    api.Word
		want api.Errno
	}{
		{again(), api.ErrArg},
		{word([]uint64{1}, nil), api.ErrArg},
		{word(make([]uint64, 60), nil), api.ErrArg},
		{word(make([]uint64, 61), nil), api.ErrLarge},
		{word(nil, make([]uint64, 61)), api.ErrLarge},
		{word(make([]uint64, 60), []uint64{0}), api.ErrLarge},
		{word(make([]uint64, 30), make([]uint64, 31)), api.ErrLarge},
		{word(make([]uint64, 59), []uint64{0}), api.OK},
		{word(make([]uint64, 30), make([]uint64, 30)), api.OK},
		{again(make([]uint64, 60)...), api.OK},
	} {
		if is, e := Accepts(free(ring(1)), x.w); e != x.want || is != (x.want == api.OK) {
			t.Error(i, is, e, "want", x.want)
		}
		if is, e := Accepts(api.Auto{}, x.w); e != x.want || is {
			t.Error(i, is, e, "want", x.want)
		}
	}
}
