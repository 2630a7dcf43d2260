package auto

import (
	"testing"

	"watchway/api"
)

// single asks for an automaton.
func single(t *testing.T, what string, a, want api.Auto) {
	t.Helper()
	if got, e := Single(a); e != api.OK || !sameAuto(got, want) {
		t.Error(what, got, e, "want", want)
	}
}

func TestSingleOfNothing(t *testing.T) {
	single(t, "empty", api.Auto{}, api.Auto{Fair: [][]int{nil}})
	single(t, "empty, with sets", api.Auto{Fair: make([][]int, 3)}, api.Auto{Fair: [][]int{nil}})
	a := free(ring(3), []int{1})
	a.Start = nil
	single(t, "no Start", a, api.Auto{Fair: [][]int{nil}})
}

// Without a fair set all states are in the one that is made, with one it stays; what isn't come to goes away, and numbers change.
func TestSingleOfNoneAndOne(t *testing.T) {
	a := api.Auto{
		Start: []int{3, 1, 3}, Next: [][]int{{0}, {1, 3, 1}, {2}, {4}, {}},
		Must: []uint64{1, 2, 4, 8, 16}, Not: []uint64{32, 64, 128, 256, 1 << 63},
	}
	// 0: 3, 1: 1, 2: 4
	want := api.Auto{
		Start: []int{0, 1}, Next: [][]int{{2}, {1, 0}, {}},
		Must: []uint64{8, 2, 16}, Not: []uint64{256, 64, 1 << 63}, Fair: [][]int{{0, 1, 2}},
	}
	single(t, "none", a, want)
	a.Fair = [][]int{{4, 2, 3, 4}}
	want.Fair = [][]int{{0, 2}}
	single(t, "one", a, want)
	a.Fair = [][]int{{0, 2}}
	want.Fair = [][]int{{}}
	single(t, "one that is never met", a, want)
}

func TestSingleOfTwo(t *testing.T) {
	a := api.Auto{Start: []int{0, 1}, Next: dense(2), Must: []uint64{1, 0}, Not: []uint64{0, 1}, Fair: [][]int{{0}, {1}}}
	// 0: 0 0, 1: 1 0, 2: 0 1, 3: 1 1
	single(t, "", a, api.Auto{
		Start: []int{0, 1}, Next: [][]int{{2, 3}, {0, 1}, {2, 3}, {0, 1}},
		Must: []uint64{1, 0, 1, 0}, Not: []uint64{0, 1, 0, 1}, Fair: [][]int{{0}},
	})
}

// A set is waited for as long as it isn't met, also if others are; a state that is in several goes on by one alone.
func TestSingleOfThree(t *testing.T) {
	a := free(ring(3), []int{2}, []int{2, 0}, []int{1})
	// 0: 0 0, 1: 1 0, 2: 2 0, 3: 0 1, 4: 1 2, then 2 0
	want := free([][]int{{1}, {2}, {3}, {4}, {2}}, []int{2})
	single(t, "", a, want)
	a.Fair[2] = nil
	// 4: 1 2, 5: 2 2, 6: 0 2, then 4
	single(t, "the last one is never met", a, free([][]int{{1}, {2}, {3}, {4}, {5}, {6}, {4}}, []int{2}))
	a.Fair = [][]int{nil, {0, 1, 2}}
	single(t, "the first one is never met", a, free(ring(3), nil))
	a = free([][]int{{0}}, times(4, []int{0})...)
	single(t, "one state in all sets", a, free(ring(4), []int{0}))
}

// onceRound is a ring that must go round for each of so many sets.
func onceRound(states, sets int) api.Auto { return free(ring(states), times(sets, []int{0})...) }

func TestHowManyWaitingPairs(t *testing.T) {
	for _, x := range [][2]int{{2048, 1}, {1024, 2}, {682, 3}, {32, 64}, {25, 80}} {
		a, e := Single(onceRound(x[0], x[1]))
		if e != api.OK || !sameAuto(a, free(ring(x[0]*x[1]), []int{0})) {
			t.Error(x, len(a.Next), e)
		}
	}
	for _, x := range [][2]int{{683, 3}, {1025, 2}, {2048, 2}, {26, 80}, {2048, 80}} {
		a, e := Single(onceRound(x[0], x[1]))
		tooLarge(t, "waiting", a, e)
	}
	// What is never come to doesn't count.
	a, e := Single(free(ring(2048), nil, []int{0}))
	if e != api.OK || !sameAuto(a, free(ring(2048), nil)) {
		t.Error(len(a.Next), e)
	}
	a, e = Single(free(dense(2048)))
	if e != api.OK || !sameAuto(a, free(dense(2048), span(2048))) {
		t.Error(len(a.Next), e)
	}
}
