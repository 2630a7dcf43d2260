package auto

import (
	"math"
	"testing"

	"watchway/api"
	"watchway/lasso"
	"watchway/ltl"
)

// accepts asks for what is answered.
func accepts(t *testing.T, what string, a api.Auto, w api.Word, want bool) {
	t.Helper()
	if is, e := Accepts(a, w); e != api.OK || is != want {
		t.Error(what, w, is, e, "want", want)
	}
}

func TestLetters(t *testing.T) {
	a := free(ring(1))
	a.Must[0], a.Not[0] = 5, 1<<63|2
	for letter, want := range map[uint64]bool{
		5: true, 5 | 8: true, 5 | 1<<62: true, math.MaxUint64 &^ (1<<63 | 2): true,
		0: false, 1: false, 4: false, 7: false, 5 | 1<<63: false, math.MaxUint64: false,
	} {
		accepts(t, "alone", a, again(letter), want)
		accepts(t, "in the Stem", a, word([]uint64{letter}, []uint64{5}), want)
		accepts(t, "behind a Stem", a, word([]uint64{5}, []uint64{5, letter}), want)
		accepts(t, "at the end", a, again(5, 5, letter), want)
	}
	a.Not[0] |= 4
	accepts(t, "no letter goes with it", a, again(5), false)
	accepts(t, "no letter goes with it", a, again(1), false)
}

func TestWhereItBegins(t *testing.T) {
	a := free([][]int{{0}, {2}, {1}})
	a.Must = []uint64{1, 2, 4}
	for _, x := range []struct {
		start []int
		w     api.Word
		want  bool
	}{
		{nil, again(7), false},
		{[]int{0}, again(1), true},
		{[]int{0}, again(2, 4), false},
		{[]int{1}, again(2, 4), true},
		{[]int{1}, again(4, 2), false},
		{[]int{2}, again(4, 2), true},
		{[]int{2}, word([]uint64{4}, []uint64{2, 4}), true},
		{[]int{2}, word([]uint64{4}, []uint64{4, 2}), false},
		{[]int{2, 2, 0}, again(1), true},
		{[]int{2, 1}, again(1), false},
		{[]int{1}, again(2, 4, 2), false},
		{[]int{1}, again(2, 4, 6), false},
		{[]int{1}, again(6, 6, 6), true},
		{[]int{1}, again(2, 4, 2, 4), true},
		{[]int{1}, again(2, 4, 2, 2), false},
	} {
		a.Start = x.start
		accepts(t, "", a, x.w, x.want)
	}
}

func TestRowsMustGoOn(t *testing.T) {
	for _, x := range []struct {
		next [][]int
		want bool
	}{
		{nil, false},
		{[][]int{nil}, false},
		{[][]int{{1}, nil}, false},
		{[][]int{{0}}, true},
		{[][]int{{1}, {2}, {3}, nil}, false},
		{[][]int{{1}, {2}, {3}, {3}}, true},
		{[][]int{{1}, {2}, {3}, {2}}, true},
		{[][]int{{1, 1}, {}, {2}}, false},
		{[][]int{{1, 2}, {}, {2}}, true},
	} {
		a := free(x.next)
		if x.next == nil {
			a.Start = nil
		}
		for _, w := range []api.Word{again(0), again(1, 2), again(0, 0, 0), word([]uint64{9}, []uint64{1}), word(make([]uint64, 7), []uint64{1, 3})} {
			accepts(t, "", a, w, x.want)
		}
	}
}

func TestFairSets(t *testing.T) {
	two := [][]int{{0, 1}, {0, 1}}
	down := [][]int{{0, 1}, {1, 2}, {2}}
	for _, x := range []struct {
		next [][]int
		fair [][]int
		want bool
	}{
		{two, nil, true},
		{two, [][]int{{}}, false},
		{two, [][]int{{0, 1}, nil}, false},
		{two, [][]int{{0}, {1}}, true},
		{two, [][]int{{1, 0, 1, 1}}, true},
		{down, [][]int{{0}}, true},
		{down, [][]int{{1}}, true},
		{down, [][]int{{2}}, true},
		{down, [][]int{{0}, {1}}, false},
		{down, [][]int{{0}, {2}}, false},
		{down, [][]int{{0, 2}, {2, 1}}, true},
		{down, [][]int{{0, 1}, {2, 1}, {1}}, true},
		{[][]int{{1}, {1}}, [][]int{{0}}, false},
		{[][]int{{1}, {2}, {1}}, [][]int{{1}, {2}}, true},
		{[][]int{{1}, {2}, {1}}, [][]int{{1}, {2}, {0}}, false},
		{[][]int{{0}, {1}}, [][]int{{1}}, false},
		{ring(80), func() [][]int {
			var sets [][]int
			for state := range 80 {
				sets = append(sets, []int{state})
			}
			return sets
		}(), true},
		{ring(79), append(times(79, []int{78}), nil), false},
	} {
		a := free(x.next, x.fair...)
		for _, w := range []api.Word{again(0), again(1, 2), again(0, 0, 0), word([]uint64{9}, []uint64{1}), word(make([]uint64, 7), []uint64{1, 3})} {
			accepts(t, "", a, w, x.want)
		}
	}
}

// A fair set counts at a place alone with whose letter its state goes.
func TestFairSetsAndLetters(t *testing.T) {
	a := free(dense(2), []int{0}, []int{1})
	a.Must, a.Not = []uint64{1, 0}, []uint64{0, 1}
	for _, x := range []struct {
		w    api.Word
		want bool
	}{
		{again(1, 0), true}, {again(1), false}, {again(0), false}, {again(3, 2, 2), true},
		{word([]uint64{0}, []uint64{1}), false}, {word([]uint64{1}, []uint64{0}), false}, {word([]uint64{1, 1}, []uint64{1, 1, 0}), true},
	} {
		a.Start = []int{1, 0}
		accepts(t, "", a, x.w, x.want)
	}
}

// Of automata that are made by hand it is known which formula tells the same.
func TestAutomataOfFormulas(t *testing.T) {
	until := api.Auto{Start: []int{0, 1}, Next: [][]int{{0, 1}, {2}, {2}}, Must: []uint64{1, 2, 0}, Not: []uint64{0, 0, 0}, Fair: [][]int{{2}}}
	often := api.Auto{Start: []int{0, 1}, Next: dense(2), Must: []uint64{1, 0}, Not: []uint64{0, 0}, Fair: [][]int{{0}}}
	last := api.Auto{Start: []int{0, 1}, Next: [][]int{{0, 1}, {1}}, Must: []uint64{0, 0}, Not: []uint64{0, 2}, Fair: [][]int{{1}}}
	third := api.Auto{Start: []int{0}, Next: [][]int{{1}, {2}, {3}, {3}}, Must: []uint64{0, 0, 1, 0}, Not: []uint64{0, 0, 2, 0}}
	both := api.Auto{Start: []int{2, 1, 0}, Next: dense(3), Must: []uint64{1, 2, 0}, Not: []uint64{0, 0, 0}, Fair: [][]int{{0}, {1}}}
	for text, a := range map[string]api.Auto{"a U b": until, "G F a": often, "F G !b": last, "X X (a & !b)": third, "G F a & G F b": both} {
		f, _, e := ltl.Parse(text, []string{"a", "b"})
		if e != api.OK {
			t.Fatal(text, e)
		}
		for _, w := range words(5, 4) {
			list, e := lasso.Holds(f, w)
			if e != api.OK {
				t.Fatal(text, w, e)
			}
			accepts(t, text, a, w, list[0])
		}
	}
}

// More states at places than a graph of package scc may have nodes, all on one way.
func TestLongWays(t *testing.T) {
	loop := make([]uint64, 59)
	loop[58] = 1
	w := word([]uint64{0}, loop)
	a := free(ring(2048), []int{0}, []int{2047}, []int{1000})
	accepts(t, "a ring", a, w, true)
	a.Fair = append(a.Fair, nil)
	accepts(t, "a ring, an empty set", a, w, false)
	a.Fair = [][]int{{1234}}
	a.Not[1234] = 1
	accepts(t, "a ring, 1234 meets the last letter", a, w, false)
	// A state comes again behind 2048 places: with a Loop of 32 letters it meets the same letter each time.
	loop = make([]uint64, 32)
	loop[5] = 1
	for state, want := range map[int]bool{5: false, 5 + 32: false, 2048 - 27: false, 6: true, 4: true, 2047: true} {
		a = free(ring(2048))
		a.Not[state] = 1
		accepts(t, "a ring, 32 letters", a, again(loop...), want)
	}
	line := ring(2048)
	line[2047] = nil
	accepts(t, "a line", free(line), again(make([]uint64, 60)...), false)
	line[2047] = []int{2047}
	accepts(t, "a line with an end that goes on", free(line, []int{2047}), again(make([]uint64, 60)...), true)
	accepts(t, "a line, what is left behind", free(line, []int{2046}), again(make([]uint64, 60)...), false)
}

func TestDense(t *testing.T) {
	letters := make([]uint64, 60)
	for i := range letters {
		letters[i] = uint64(i)
	}
	a := free(dense(2048), times(80, span(2048)[60:])...)
	for state := range a.Must {
		a.Must[state], a.Not[state] = uint64(state)&63, ^uint64(state)&63
	}
	a.Start = span(2048)
	accepts(t, "all letters come", a, again(letters...), true)
	a.Fair[79] = []int{63, 62, 61, 60}
	accepts(t, "four don't", a, again(letters...), false)
	a.Fair[79] = []int{63, 59, 61, 60}
	accepts(t, "three don't", a, again(letters...), true)
	accepts(t, "it comes in the Stem alone", a, word(letters[59:], letters[:59]), false)
}

// A list of Next may be longer than there are states.
func TestLongLists(t *testing.T) {
	a := free([][]int{times(100000, 1), append(times(100000, 0), 1)}, times(100000, 1))
	a.Start = times(100000, 0)
	a.Must[1] = 1
	accepts(t, "", a, again(0, 1), true)
	accepts(t, "", a, again(0), false)
	accepts(t, "", a, word([]uint64{0}, []uint64{1}), true)
}
