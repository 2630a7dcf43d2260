package world

import (
	"slices"
	"testing"

	"watchway/api"
)

// fair asks for what Fair answers: the states at which fair ways begin.
func fair(t *testing.T, what string, w api.World, want ...int) {
	t.Helper()
	list, e := Fair(w)
	is := make([]bool, len(w.Next))
	for _, state := range want {
		is[state] = true
	}
	if e != api.OK || !slices.Equal(list, is) {
		t.Error(what, list, e, "want", want)
	}
}

func TestFairByHand(t *testing.T) {
	// 0 goes round by itself, then to 1 and 2, which go round; 3 goes there from aside.
	next := [][]int{{0, 1}, {2}, {1}, {2, 3}}
	for _, x := range []struct {
		sets [][]int
		want []int
	}{
		{nil, []int{0, 1, 2, 3}},
		{[][]int{{0}}, []int{0}},
		{[][]int{{1}}, []int{0, 1, 2, 3}},
		{[][]int{{2}}, []int{0, 1, 2, 3}},
		{[][]int{{3}}, []int{3}},
		{[][]int{{0, 3}}, []int{0, 3}},
		{[][]int{{1}, {2}}, []int{0, 1, 2, 3}},
		{[][]int{{0}, {1}}, nil},
		{[][]int{{0}, {3}}, nil},
		{[][]int{{0, 1}, {0, 2}}, []int{0, 1, 2, 3}},
		{[][]int{{0, 1}, {0}}, []int{0}},
		{[][]int{{0, 1, 2, 3}}, []int{0, 1, 2, 3}},
		{[][]int{{}}, nil},
		{[][]int{{1}, nil}, nil},
		{[][]int{{3, 0, 3, 3}, {0, 0}}, []int{0}},
	} {
		fair(t, "", open(next, x.sets...), x.want...)
	}
}

// A state that doesn't come again is met once, so it makes no way fair, though it stands in each set.
func TestMetOnce(t *testing.T) {
	fair(t, "ahead of a ring", open([][]int{{1}, {2}, {1}}, []int{0}))
	fair(t, "ahead of a ring, and in it", open([][]int{{1}, {2}, {1}}, []int{0, 2}), 0, 1, 2)
	fair(t, "between two", open([][]int{{0, 1}, {2}, {2}}, []int{1}))
	fair(t, "between two, and the first one", open([][]int{{0, 1}, {2}, {2}}, []int{1, 0}), 0)
	fair(t, "between two, and the last one", open([][]int{{0, 1}, {2}, {2}}, []int{1, 2}), 0, 1, 2)
	fair(t, "at two that don't go back", open([][]int{{0, 1}, {1}}, []int{0}, []int{1}))
}

// Where a way may begin has no say: Fair tells it of each state.
func TestStartHasNoSay(t *testing.T) {
	for _, start := range [][]int{nil, {}, {0}, {2, 1}, {2, 2, 2}} {
		w := open([][]int{{0}, {0, 2}, {2}}, []int{0})
		w.Start = start
		fair(t, "", w, 0, 1)
	}
}

// The document's example.
func TestGoesToItselfAlone(t *testing.T) {
	fair(t, "one state, one set", open(ring(1), nil))
	fair(t, "one state, no set", open(ring(1)), 0)
	fair(t, "one state, in the set", open(ring(1), []int{0}), 0)
	fair(t, "two states", open([][]int{{0}, {1}}, []int{1}), 1)
	fair(t, "two states, two sets", open([][]int{{0}, {1}}, []int{1}, []int{0, 1}), 1)
}

func TestNoStates(t *testing.T) {
	fair(t, "nothing", api.World{})
	fair(t, "empty sets", api.World{Fair: make([][]int, 80)})
}

func TestFairAtTheLimits(t *testing.T) {
	sets := make([][]int, 80)
	for i := range sets {
		sets[i] = []int{i * 7}
	}
	fair(t, "a ring", open(ring(600), sets...), span(600)...)
	fair(t, "a line", open(line(600), sets...))
	fair(t, "a line, no sets", open(line(600)), span(600)...)
	fair(t, "a line, its end", open(line(600), times(80, []int{599})...), span(600)...)
	fair(t, "dense", open(dense(600), times(80, span(600))...), span(600)...)
	sets[79] = nil
	fair(t, "a ring, the last set has none", open(ring(600), sets...))
	// Each state goes to itself and on: a way may stay anywhere, so fair ways begin up to the set's last state.
	next := line(600)
	for state := range next {
		next[state] = append(next[state], state)
	}
	fair(t, "stays", open(next, []int{3, 398, 17}), span(399)...)
	fair(t, "stays, in vain", open(next, []int{3}, []int{4}))
}

// Lists of Next and of the fair sets may be longer than there are states.
func TestLongLists(t *testing.T) {
	next := [][]int{times(100000, 1), append(times(100000, 1), 0), {1}}
	fair(t, "", open(next, times(100000, 1), append(times(100000, 2), 0)), 0, 1, 2)
	fair(t, "", open(next, times(100000, 1), times(100000, 2)))
}
