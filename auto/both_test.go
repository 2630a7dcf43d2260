package auto

import (
	"testing"

	"watchway/api"
)

// both asks for an automaton.
func both(t *testing.T, what string, a, b, want api.Auto) {
	t.Helper()
	if got, e := Both(a, b); e != api.OK || !sameAuto(got, want) {
		t.Error(what, got, e, "want", want)
	}
}

// tooLarge asks for ErrLarge, and nothing beside it.
func tooLarge(t *testing.T, what string, got api.Auto, e api.Errno) {
	t.Helper()
	if e != api.ErrLarge || !isZero(got) {
		t.Error(what, len(got.Next), len(got.Fair), e)
	}
}

func TestBothOfNothing(t *testing.T) {
	some := free(ring(3), []int{2}, []int{0, 1})
	both(t, "both empty", api.Auto{}, api.Auto{}, api.Auto{})
	both(t, "the first one empty", api.Auto{}, some, api.Auto{Fair: make([][]int, 2)})
	both(t, "the second one empty", some, api.Auto{Fair: make([][]int, 1)}, api.Auto{Fair: make([][]int, 3)})
	nowhere := free(ring(3), []int{1})
	nowhere.Start = nil
	both(t, "no Start", some, nowhere, api.Auto{Fair: make([][]int, 3)})
}

// Numbers go as pairs first come: a's in order, with each b's in order, whatever the numbers of the states.
func TestOrderOfPairs(t *testing.T) {
	a := api.Auto{
		Start: []int{2, 0, 2}, Next: [][]int{{1}, {}, {1, 0, 1, 2}},
		Must: []uint64{1, 2, 4}, Not: []uint64{64, 128, 256}, Fair: [][]int{{2, 0, 2}, {1}},
	}
	b := api.Auto{
		Start: []int{1, 0, 1}, Next: [][]int{{0}, {1, 1, 0}},
		Must: []uint64{8, 16}, Not: []uint64{512, 1024}, Fair: [][]int{{1}, {}, {1, 0}},
	}
	// 0: 2 1, 1: 2 0, 2: 0 1, 3: 0 0, 4: 1 1, 5: 1 0
	both(t, "", a, b, api.Auto{
		Start: []int{0, 1, 2, 3},
		Next:  [][]int{{4, 5, 2, 3, 0, 1}, {5, 3, 1}, {4, 5}, {5}, {}, {}},
		Must:  []uint64{20, 12, 17, 9, 18, 10},
		Not:   []uint64{256 | 1024, 256 | 512, 64 | 1024, 64 | 512, 128 | 1024, 128 | 512},
		Fair:  [][]int{{0, 1, 2, 3}, {4, 5}, {0, 2, 4}, {}, {0, 1, 2, 3, 4, 5}},
	})
}

// What one must have and the other one must not have is no pair, and nothing is come to by it.
func TestNoPairs(t *testing.T) {
	a := api.Auto{
		Start: []int{0, 1}, Next: [][]int{{0, 1}, {2}, {2, 3}, {3}},
		Must: []uint64{1, 0, 1 << 63, 0}, Not: []uint64{0, 1, 0, 0}, Fair: [][]int{{0, 1, 2, 3}},
	}
	b := api.Auto{Start: []int{0}, Next: [][]int{{0, 1}, {1}}, Must: []uint64{1, 0}, Not: []uint64{0, 1 << 63}, Fair: [][]int{{1}}}
	// 0 0 goes to itself, 0 1 and 1 1, not to 1 0; 0 1 to itself and 1 1; that would go to 2 1, which is none, and by it to 3 1.
	want := api.Auto{
		Start: []int{0}, Next: [][]int{{0, 1, 2}, {1, 2}, {}},
		Must: []uint64{1, 1, 0}, Not: []uint64{0, 1 << 63, 1 | 1<<63},
		Fair: [][]int{{0, 1, 2}, {1, 2}},
	}
	both(t, "", a, b, want)
	want.Fair[0], want.Fair[1] = want.Fair[1], want.Fair[0]
	both(t, "the other way round", b, a, want)
}

// A state with which no letter goes by itself makes pairs as any other one.
func TestPairsOfWhatNeverFits(t *testing.T) {
	a := free(ring(1))
	a.Must[0], a.Not[0] = 3, 1
	b := free(ring(1))
	b.Must[0], b.Not[0] = 2, 4
	both(t, "", a, b, api.Auto{Start: []int{0}, Next: [][]int{{0}}, Must: []uint64{3}, Not: []uint64{5}})
	b.Not[0] = 2
	both(t, "", a, b, api.Auto{})
}

func TestHowManyPairs(t *testing.T) {
	a, e := Both(free(ring(2048)), free(ring(1)))
	if e != api.OK || !sameAuto(a, free(ring(2048))) {
		t.Error(len(a.Next), e)
	}
	a, e = Both(free(ring(1024)), free(ring(2048)))
	if e != api.OK || !sameAuto(a, free(ring(2048))) {
		t.Error(len(a.Next), e)
	}
	a, e = Both(free(ring(3)), free(ring(682)))
	if e != api.OK || !sameAuto(a, free(ring(2046))) {
		t.Error(len(a.Next), e)
	}
	a, e = Both(free(ring(683)), free(ring(3)))
	tooLarge(t, "a ring of 2049 pairs", a, e)
	a, e = Both(free(ring(2048)), free(ring(2047)))
	tooLarge(t, "a ring of 4192256 pairs", a, e)
	a, e = Both(free(dense(2048)), free(dense(2048)))
	tooLarge(t, "all pairs, from one on", a, e)
}

func TestHowManyPairsOfStart(t *testing.T) {
	begins := func(states int) api.Auto {
		a := free(make([][]int, states))
		a.Start = span(states)
		return a
	}
	a, e := Both(begins(32), begins(64))
	if e != api.OK || !sameAuto(a, begins(2048)) {
		t.Error(len(a.Next), e)
	}
	a, e = Both(begins(3), begins(683))
	tooLarge(t, "2049 pairs", a, e)
	a, e = Both(begins(2048), begins(2048))
	tooLarge(t, "all pairs", a, e)
	// What comes again doesn't count.
	x, y := begins(32), begins(64)
	x.Start, y.Start = append(x.Start, x.Start...), append(y.Start, times(100000, 7)...)
	a, e = Both(x, y)
	if e != api.OK || !sameAuto(a, begins(2048)) {
		t.Error(len(a.Next), e)
	}
}

func TestHowManySets(t *testing.T) {
	sets := func(count int) api.Auto { return free(ring(2), times(count, []int{1})...) }
	for _, x := range [][2]int{{40, 40}, {80, 0}, {0, 80}, {1, 79}} {
		if a, e := Both(sets(x[0]), sets(x[1])); e != api.OK || !sameAuto(a, sets(80)) {
			t.Error(x, a, e)
		}
	}
	for _, x := range [][2]int{{41, 40}, {40, 41}, {80, 1}, {1, 80}, {80, 80}} {
		a, e := Both(sets(x[0]), sets(x[1]))
		tooLarge(t, "sets", a, e)
		a, e = Both(api.Auto{Fair: make([][]int, x[0])}, api.Auto{Fair: make([][]int, x[1])})
		tooLarge(t, "sets of nothing", a, e)
	}
}

// Of all that may be put together little is a pair.
func TestFewOfManyPairs(t *testing.T) {
	a := free(dense(2048), span(2048)[1:])
	for state := range a.Must {
		a.Must[state], a.Not[state] = uint64(state), ^uint64(state)&2047
	}
	got, e := Both(a, a)
	want := a
	want.Fair = [][]int{a.Fair[0], a.Fair[0]}
	if e != api.OK || !sameAuto(got, want) {
		t.Error(len(got.Next), e)
	}
}
