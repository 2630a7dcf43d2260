package world

import (
	"math"
	"slices"
	"testing"

	"watchway/api"
)

// good asks for what Good answers.
func good(t *testing.T, what any, w api.World, p api.Path, want bool) {
	t.Helper()
	if is, e := Good(w, p); e != api.OK || is != want {
		t.Error(what, is, e, "want", want)
	}
}

func TestGoodByHand(t *testing.T) {
	w := open([][]int{{0, 1}, {2}, {1, 3}, {3}, {0}}, []int{1, 3})
	w.Start = []int{0, 2}
	for i, x := range []struct {
		p    api.Path
		want bool
	}{
		{path([]int{0}, 1, 2), true},
		{path([]int{0, 1}, 2, 1), true},
		{path([]int{0, 0, 0, 1, 2, 1, 2}, 3), true},
		{path([]int{0, 1, 2}, 3, 3), true},
		{path(nil, 2, 1), true},
		{path([]int{2}, 3), true},
		{path([]int{2, 1}, 2, 1, 2, 1), true},
		// No fair set is met again and again.
		{path(nil, 0), false},
		{path([]int{0}, 0), false},
		// It begins elsewhere.
		{path(nil, 1, 2), false},
		{path([]int{1}, 2, 1), false},
		{path([]int{4, 0}, 1, 2), false},
		{path(nil, 3), false},
		// One can't go so: in Stem, from Stem to Loop, in Loop, from its end to its beginning.
		{path([]int{0, 2}, 1, 2), false},
		{path([]int{0}, 2, 1), false},
		{path([]int{0, 0}, 3), false},
		{path([]int{0}, 1, 2, 2), false},
		{path([]int{0}, 1, 3), false},
		{path([]int{0}, 1, 2, 3), false},
		{path([]int{0}, 1, 2, 1), false},
		{path([]int{0}, 1), false},
		{path(nil, 2, 3), false},
		// It doesn't go round.
		{path(nil), false},
		{path([]int{0}), false},
		{path([]int{0, 1, 2, 3}), false},
	} {
		good(t, i, w, x.p, x.want)
	}
}

func TestGoodAndWhereItBegins(t *testing.T) {
	for i, x := range []struct {
		start []int
		want  [2]bool
	}{
		{nil, [2]bool{false, false}},
		{[]int{0}, [2]bool{true, false}},
		{[]int{1}, [2]bool{false, true}},
		{[]int{1, 0}, [2]bool{true, true}},
		{[]int{1, 1, 1}, [2]bool{false, true}},
	} {
		w := open(ring(2))
		w.Start = x.start
		good(t, i, w, path(nil, 0, 1), x.want[0])
		good(t, i, w, path([]int{0}, 1, 0), x.want[0])
		good(t, i, w, path(nil, 1, 0), x.want[1])
		good(t, i, w, path([]int{1, 0, 1}, 0, 1), x.want[1])
	}
}

// What stands in Stem alone is met no more often than that.
func TestGoodAndFairSets(t *testing.T) {
	next := [][]int{{0, 1, 2}, {0, 1, 2}, {2}}
	for i, x := range []struct {
		sets [][]int
		p    api.Path
		want bool
	}{
		{nil, path(nil, 0), true},
		{nil, path([]int{0, 1}, 2), true},
		{[][]int{{}}, path(nil, 0, 1), false},
		{[][]int{{0, 1}, nil}, path(nil, 0, 1), false},
		{[][]int{{0}}, path([]int{0}, 1), false},
		{[][]int{{0}}, path([]int{0, 1, 0, 0}, 2), false},
		{[][]int{{0}}, path([]int{0}, 1, 0), true},
		{[][]int{{0}, {1}}, path(nil, 0), false},
		{[][]int{{0}, {1}}, path([]int{0}, 1), false},
		{[][]int{{0}, {1}}, path(nil, 0, 1), true},
		{[][]int{{0}, {1}}, path(nil, 0, 0, 0, 1), true},
		{[][]int{{0}, {1}, {2}}, path(nil, 0, 1), false},
		{[][]int{{2, 0}, {1, 2}}, path([]int{0, 1}, 2), true},
		{[][]int{{2, 0}, {1, 2}}, path([]int{0, 2}, 2, 2), true},
		{[][]int{{2, 0}, {1, 1, 1}}, path(nil, 0, 0), false},
	} {
		good(t, i, open(next, x.sets...), x.p, x.want)
	}
}

// notStates are numbers that are no state's of two.
var notStates = []int{-1, 2, 3, 600, math.MinInt, math.MaxInt}

func TestNumbersThatAreNoStates(t *testing.T) {
	w := open(dense(2))
	for _, n := range notStates {
		for i, p := range []api.Path{
			path(nil, n), path(nil, 0, n), path(nil, n, 0), path([]int{n}, 0), path([]int{0, n}, 0), path([]int{n, 0}, 0), path([]int{0}, 1, n, 1), path([]int{n}),
		} {
			good(t, i, w, p, false)
			if word, e := Word(w, p); e != api.ErrArg || word.Stem != nil || word.Loop != nil {
				t.Error(n, i, word, e)
			}
		}
	}
	for i, p := range []api.Path{path(nil, 0), path([]int{0}, 0), path([]int{0}), path(nil), path(nil, -1)} {
		good(t, i, api.World{}, p, false)
		if word, e := Word(api.World{}, p); e != api.ErrArg || word.Stem != nil || word.Loop != nil {
			t.Error(i, word, e)
		}
	}
}

// long is a path with so many states, from 0 to 599 and again.
func long(stem, loop int) api.Path {
	row := make([]int, stem+loop)
	for i := range row {
		row[i] = i % 600
	}
	return api.Path{Stem: row[:stem:stem], Loop: row[stem:]}
}

func TestLongPaths(t *testing.T) {
	w := open(ring(600))
	for i, x := range []struct {
		stem, loop int
		want       bool
	}{
		{0, 60000, true}, {59400, 600, true}, {1, 600, true}, {599, 1200, true},
		{30000, 30000, true}, {0, 59999, false}, {1, 59999, false}, {60000, 0, false}, {59999, 1, false},
	} {
		good(t, i, w, long(x.stem, x.loop), x.want)
	}
	w = open(dense(600), span(600)[:1], span(600)[599:])
	good(t, "dense", w, long(0, 60000), true)
	good(t, "dense, round as it likes", w, long(17, 59983), true)
	good(t, "dense, ends ahead of 599", w, long(0, 599), false)
	p := long(1, 59999)
	for _, n := range []int{-1, 600} {
		p.Loop[59998] = n
		good(t, "a last one that is none", w, p, false)
	}
}

func TestPathsThatAreTooLong(t *testing.T) {
	for i, w := range []api.World{open(ring(600)), open(ring(1), nil), {}} {
		for j, p := range []api.Path{
			long(0, 60001), long(60001, 0), long(1, 60000), long(60000, 1), long(59401, 600), long(30000, 30001), long(0, 200000),
			path(nil, times(60001, -1)...), path(times(60001, math.MaxInt)), path(times(60000, 0), -1),
		} {
			if is, e := Good(w, p); e != api.ErrLarge || is {
				t.Error(i, j, is, e)
			}
		}
	}
}

// Lists of Next may be longer than there are states, and a path asks them often.
func TestGoodWithLongLists(t *testing.T) {
	w := open([][]int{append(times(100000, 0), 1), append(times(100000, 1), 0)}, append(times(100000, 0), 1))
	w.Start = append(times(100000, 1), 0)
	row := make([]int, 60000)
	for i := range row {
		row[i] = i % 2
	}
	good(t, "", w, path(nil, row...), true)
}

// word asks for what Word answers.
func word(t *testing.T, what any, w api.World, p api.Path, stem, loop []uint64) {
	t.Helper()
	if x, e := Word(w, p); e != api.OK || !sameWord(x, api.Word{Stem: stem, Loop: loop}) {
		t.Error(what, x, e, "want", stem, loop)
	}
}

func TestWordByHand(t *testing.T) {
	w := open([][]int{{1}, {2}, {2}}, nil)
	w.Label = []uint64{5, 0, math.MaxUint64}
	word(t, "a way", w, path([]int{0, 1}, 2), []uint64{5, 0}, []uint64{math.MaxUint64})
	word(t, "no Stem", w, path(nil, 2), nil, []uint64{math.MaxUint64})
	// It is asked of any states, in any order: what leads on, where it begins and what is fair has no say.
	word(t, "no way", w, path([]int{2, 0, 0}, 1, 0, 2, 1), []uint64{math.MaxUint64, 5, 5}, []uint64{0, 5, math.MaxUint64, 0})
	w.Start = nil
	word(t, "no Start", w, path([]int{0}, 0, 0), []uint64{5}, []uint64{5, 5})
	w.Label = []uint64{1 << 63, 1 << 63, 1 << 63}
	word(t, "all the same", w, path([]int{0}, 1, 2), []uint64{1 << 63}, []uint64{1 << 63, 1 << 63})
}

func TestWordOfEachState(t *testing.T) {
	w := open(ring(600))
	for state := range 600 {
		w.Label[state] = uint64(state) * 0x0123_4567_89ab_cdef
	}
	for state := range 600 {
		other := (state*7 + 3) % 600
		word(t, state, w, path([]int{state}, other), []uint64{w.Label[state]}, []uint64{w.Label[other]})
	}
}

func TestWordAllSizes(t *testing.T) {
	w := open(ring(600))
	letters := func(list []int) []uint64 {
		var row []uint64
		for _, state := range list {
			row = append(row, uint64(state)+1)
		}
		return row
	}
	for stem := range 70 {
		for loop := range 70 {
			p := long(stem, loop)
			want := api.OK
			switch {
			case loop == 0:
				want = api.ErrArg
			case stem+loop > 60:
				want = api.ErrLarge
			}
			if want == api.OK {
				word(t, []int{stem, loop}, w, p, letters(p.Stem), letters(p.Loop))
			} else if x, e := Word(w, p); e != want || x.Stem != nil || x.Loop != nil {
				t.Error(stem, loop, x, e, "want", want)
			}
		}
	}
}

// What is wrong by its numbers is told ahead of what is too long.
func TestWordsThatAreTooLong(t *testing.T) {
	w := open(dense(2))
	for i, x := range []struct {
		p    api.Path
		want api.Errno
	}{
		{path(nil, make([]int, 61)...), api.ErrLarge},
		{path(make([]int, 60), 1), api.ErrLarge},
		{path(nil, make([]int, 100000)...), api.ErrLarge},
		{path(make([]int, 61)), api.ErrArg},
		{path(make([]int, 100000)), api.ErrArg},
		{path(nil, append(make([]int, 61), 2)...), api.ErrArg},
		{path(append(make([]int, 61), -1), 0), api.ErrArg},
	} {
		if word, e := Word(w, x.p); e != x.want || word.Stem != nil || word.Loop != nil {
			t.Error(i, word, e, "want", x.want)
		}
	}
}

// A path is answered the same, whether its Stem goes once more round its Loop or not.
func TestLongerStems(t *testing.T) {
	w := open([][]int{{1, 3}, {2}, {3}, {1, 0}}, []int{2}, []int{3, 0})
	for _, loop := range [][]int{{1, 2, 3}, {1, 2, 3, 0}, {1, 2, 3, 0, 3}, {1, 2, 1}} {
		want, e := Good(w, path([]int{0}, loop...))
		if e != api.OK {
			t.Fatal(e)
		}
		for at := range loop {
			around := slices.Concat(loop[at:], loop[:at])
			good(t, at, w, path(append([]int{0}, loop[:at]...), around...), want)
			good(t, at, w, path(slices.Concat([]int{0}, loop, loop[:at]), slices.Concat(around, around)...), want)
		}
	}
}
