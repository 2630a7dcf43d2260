package empty

import (
	"slices"
	"testing"

	"watchway/api"
	"watchway/ltl"
	"watchway/proc"
	"watchway/runs"
	"watchway/scc"
	"watchway/tableau"
	"watchway/world"
)

// open is a world with those lists of Next that begins at 0; no state's letter has anything.
func open(next [][]int, fair ...[]int) api.World {
	return api.World{Start: []int{0}, Next: next, Label: make([]uint64, len(next)), Fair: fair}
}

// lettered is a world with those letters.
func lettered(next [][]int, letters ...uint64) api.World {
	w := open(next)
	w.Label = letters
	return w
}

// free is an automaton with those lists of Next that takes all letters and begins at 0.
func free(next [][]int, fair ...[]int) api.Auto {
	return api.Auto{Start: []int{0}, Next: next, Must: make([]uint64, len(next)), Not: make([]uint64, len(next)), Fair: fair}
}

// all is the automaton that accepts all words.
func all() api.Auto { return free([][]int{{0}}) }

// formula is the automaton of a text; a is atom 0, b is 1, c is 2, d is 3.
func formula(t *testing.T, text string) api.Auto {
	t.Helper()
	f, at, e := ltl.Parse(text, []string{"a", "b", "c", "d"})
	if e != api.OK {
		t.Fatal(text, at, e)
	}
	a, e := tableau.Make(f)
	if e != api.OK {
		t.Fatal(text, e)
	}
	return a
}

// ring goes from each state to the next one, from the last one to 0.
func ring(states int) [][]int {
	next := make([][]int, states)
	for state := range next {
		next[state] = []int{(state + 1) % states}
	}
	return next
}

// line goes from each state to the next one; the last one goes to itself.
func line(states int) [][]int {
	next := ring(states)
	next[states-1] = []int{states - 1}
	return next
}

// span are the numbers from 0 to ahead of another.
func span(count int) []int {
	list := make([]int, count)
	for i := range list {
		list[i] = i
	}
	return list
}

// dense goes from each state to each.
func dense(states int) [][]int { return times(states, span(states)) }

// times is a list with one thing that many times.
func times[T any](count int, thing T) []T {
	return slices.Repeat([]T{thing}, count)
}

// alone are lists of one number each.
func alone(numbers ...int) [][]int {
	var lists [][]int
	for _, number := range numbers {
		lists = append(lists, []int{number})
	}
	return lists
}

// none looks that there is no way, and nothing told beside that.
func none(t *testing.T, what string, w api.World, a api.Auto, want api.Errno) {
	t.Helper()
	if p, is, e := Find(w, a); e != want || is || p.Stem != nil || p.Loop != nil {
		t.Error(what, p, is, e, "want", want)
	}
}

// some looks that there is a way, that it is fair, and that its word is accepted; it answers it.
func some(t *testing.T, what string, w api.World, a api.Auto) api.Path {
	t.Helper()
	p, is, e := Find(w, a)
	if e != api.OK || !is {
		t.Error(what, "is not found:", p, is, e)
		return p
	}
	if good, e := world.Good(w, p); e != api.OK || !good {
		t.Error(what, p, "is no fair way:", good, e)
	} else if !accepted(t, w, a, p) {
		t.Error(what, p, "is not accepted")
	}
	return p
}

// accepted tells whether a path's word is accepted: the places of the path, each with each state that goes with its letter, are laid out as one graph, of which package scc tells the parts.
func accepted(t *testing.T, w api.World, a api.Auto, p api.Path) bool {
	t.Helper()
	row, states := slices.Concat(p.Stem, p.Loop), len(a.Next)
	fits := func(place, state int) bool {
		letter := w.Label[row[place]]
		return letter&a.Must[state] == a.Must[state] && letter&a.Not[state] == 0
	}
	graph := make([][]int, len(row)*states)
	for node := range graph {
		place := node/states + 1
		if place == len(row) {
			place = len(p.Stem)
		}
		for _, to := range a.Next[node%states] {
			if fits(node/states, node%states) && fits(place, to) {
				graph[node] = append(graph[node], place*states+to)
			}
		}
	}
	var begin []int
	for _, state := range a.Start {
		if fits(0, state) {
			begin = append(begin, state)
		}
	}
	reached, e := scc.Reach(graph, begin)
	parts, e2 := scc.Parts(graph)
	if e != api.OK || e2 != api.OK {
		t.Fatal("too large to be looked at:", len(row), states)
	}
	return hasFair(graph, reached, parts, a)
}

// hasFair tells whether a part that is reached goes on for ever, and meets each fair set.
func hasFair(graph [][]int, reached []bool, parts []int, a api.Auto) bool {
	met := map[int]map[int]bool{}
	for node, outs := range graph {
		if !reached[node] {
			continue
		}
		of := met[parts[node]]
		if of == nil {
			of = map[int]bool{}
			met[parts[node]] = of
		}
		for _, to := range outs {
			of[-1] = of[-1] || parts[to] == parts[node]
		}
		for set, list := range a.Fair {
			of[set] = of[set] || slices.Contains(list, node%len(a.Next))
		}
	}
	for _, of := range met {
		is := of[-1]
		for set := range a.Fair {
			is = is && of[set]
		}
		if is {
			return true
		}
	}
	return false
}

// asks looks what is found of several formulas.
func asks(t *testing.T, w api.World, want map[string]bool) {
	t.Helper()
	for text, is := range want {
		if is {
			some(t, text, w, formula(t, text))
		} else {
			none(t, text, w, formula(t, text), api.OK)
		}
	}
}

func TestByHand(t *testing.T) {
	// As often as one likes at a, then at b for ever.
	w := lettered([][]int{{0, 1}, {1}}, 1, 2)
	asks(t, w, map[string]bool{
		"true": true, "false": false, "a": true, "b": false, "G a": true, "F b": true, "G b": false, "F G b": true, "X X b": true,
		"F b & G F a": false, "a U b": true, "X X X X X (a & X b)": true, "F (b & X a)": false, "c": false, "!c": true, "F (a & b)": false, "silent": false,
	})
	w.Start = []int{1}
	asks(t, w, map[string]bool{"a": false, "F a": false, "b": true, "G b": true, "F !b": false})
	w.Start = []int{1, 0}
	asks(t, w, map[string]bool{"a": true, "b": true, "G a": true, "G b": true, "a & G F b": true, "b & F a": false, "G (a & b)": false})
	w.Start = nil
	asks(t, w, map[string]bool{"true": false, "a": false, "!a": false, "G b": false})
}

// What must come again and again, by the world's fair sets.
func TestFairWays(t *testing.T) {
	w := lettered([][]int{{0, 1}, {1, 0, 2}, {2}}, 1, 2, 4)
	asks(t, w, map[string]bool{"G a": true, "G F a & F b": true, "F G c": true, "F c & F G !c": false, "F G b": true})
	w.Fair = alone(0)
	asks(t, w, map[string]bool{"G a": true, "F G a": true, "F G b": false, "F c": false, "G F b": true, "b": false})
	w.Fair = alone(0, 1)
	asks(t, w, map[string]bool{"G a": false, "G (b -> X a)": true, "F G b": false, "F c": false, "G F a & G F b": true, "X X X (b & X b)": true})
	w.Fair = alone(2)
	asks(t, w, map[string]bool{"G a": false, "F G c": true, "G !c": false, "X X X b": true, "G (b -> X c)": true, "a & X b & X X a & X X X a": true})
	w.Fair = [][]int{{0, 2}, {2, 1}}
	asks(t, w, map[string]bool{"G a": false, "F G c": true, "F G b": false, "G F a & G F b": true})
	w.Fair = alone(0, 2)
	asks(t, w, map[string]bool{"true": false, "F c": false, "G !c": false})
	w.Fair = [][]int{{0, 1, 2}, {}}
	asks(t, w, map[string]bool{"true": false})
}

// The document's example: where no fair way is, nothing is accepted.
func TestNoFairWay(t *testing.T) {
	for _, w := range []api.World{open([][]int{{0}}, nil), open([][]int{{1}, {1}}, []int{0}), open(ring(5), []int{0}, nil), open(line(5), []int{3})} {
		none(t, "all words", w, all(), api.OK)
		asks(t, w, map[string]bool{"true": false, "a": false, "!a": false, "G F !a": false})
	}
	some(t, "a fair one", open([][]int{{0}}, []int{0}), all())
	// There is a fair way, but it begins elsewhere.
	w := open([][]int{{0}, {1}}, []int{1})
	none(t, "elsewhere", w, all(), api.OK)
	w.Start = []int{0, 1}
	some(t, "at the second one", w, all())
}

// One way is fair, another one accepted, and none both.
func TestNoneIsBoth(t *testing.T) {
	w := lettered([][]int{{1, 2}, {1}, {2}}, 0, 1, 2)
	w.Fair = alone(1)
	asks(t, w, map[string]bool{"F b": false, "F a": true, "X G a": true, "X b": false})
	w.Fair = alone(2)
	asks(t, w, map[string]bool{"F b": true, "F a": false})
	// An automaton that must be in each of two states again and again, where one of them takes a alone, the other one b alone.
	a := api.Auto{Start: []int{0, 1}, Next: dense(2), Must: []uint64{1, 2}, Not: []uint64{0, 0}, Fair: alone(0, 1)}
	none(t, "a or b for ever", lettered([][]int{{0, 1}, {1}}, 1, 2), a, api.OK)
	some(t, "by turns", lettered([][]int{{1}, {0}}, 1, 2), a)
	some(t, "both at once", lettered([][]int{{0}}, 3), a)
	w = lettered([][]int{{0, 1}, {1, 0}}, 1, 2)
	some(t, "as one likes", w, a)
	w.Fair = [][]int{{0}, {1}, {0, 1}}
	some(t, "as one likes, both", w, a)
	// Rows of the automaton must go on, and be fair, too.
	none(t, "an end", w, free([][]int{{1}, {2}, nil}), api.OK)
	none(t, "no Start", w, api.Auto{Next: dense(2), Must: []uint64{0, 0}, Not: []uint64{0, 0}}, api.OK)
	none(t, "an empty set", w, free(dense(2), []int{0, 1}, nil), api.OK)
	none(t, "what does not come again", w, free([][]int{{1}, {1}}, []int{0}), api.OK)
	some(t, "what comes", w, free([][]int{{1}, {1}}, []int{1}))
}

// The letter of the first state is the word's first one, and each state is asked for all of its Must, for nothing of its Not.
func TestLetters(t *testing.T) {
	for bit := range 64 {
		letter := uint64(1) << bit
		w := lettered(ring(2), letter, ^letter)
		a := free(ring(2))
		a.Must, a.Not = []uint64{letter, ^letter}, []uint64{^letter, letter}
		some(t, "just these", w, a)
		a.Start = []int{1}
		none(t, "the other way round", w, a, api.OK)
		w.Start = []int{1}
		some(t, "both the other way round", w, a)
		a.Must[0] |= 1 << ((bit + 1) % 64)
		none(t, "one more that must be", w, a, api.OK)
		a.Must[0] = 0
		a.Not[0] |= letter
		none(t, "one more that must not be", w, a, api.OK)
		a.Not[0] = 0
		some(t, "anything", w, a)
	}
}

// Nothing at all is a world, and an automaton.
func TestNothing(t *testing.T) {
	none(t, "both", api.World{}, api.Auto{}, api.OK)
	none(t, "no world", api.World{}, all(), api.OK)
	none(t, "no automaton", open(ring(1)), api.Auto{}, api.OK)
	none(t, "empty sets", api.World{Fair: make([][]int, 80)}, api.Auto{Fair: make([][]int, 80)}, api.OK)
}

// Where the automaton alone goes on, the world's states are told no more often than they must be.
func TestShortPaths(t *testing.T) {
	for _, x := range []struct {
		what string
		w    api.World
		a    api.Auto
		want api.Path
	}{
		{"one state", open([][]int{{0}}), free(ring(50), alone(span(50)...)...), api.Path{Loop: []int{0}}},
		{"two states", open(ring(2)), free(ring(9), alone(8)...), api.Path{Loop: []int{0, 1}}},
		{"a line", open(line(4)), free(ring(9), alone(8)...), api.Path{Stem: []int{0, 1, 2}, Loop: []int{3}}},
		{"far and near", open([][]int{{1, 6, 3}, {2}, {2}, {4}, {5}, {5}, {6}}, []int{2, 5, 6}), all(), api.Path{Stem: []int{0}, Loop: []int{6}}},
		{"all at one state", open([][]int{{0, 1}, {2, 1}, {0}}, []int{1}, []int{0, 1}), all(), api.Path{Stem: []int{0}, Loop: []int{1}}},
		{"once round", open(ring(600), alone(span(80)...)...), all(), api.Path{Loop: span(600)}},
	} {
		p := some(t, x.what, x.w, x.a)
		if !slices.Equal(p.Stem, x.want.Stem) || !slices.Equal(p.Loop, x.want.Loop) {
			t.Error(x.what, p, "want", x.want)
		}
	}
}

// A path's word may be longer than package lasso takes.
func TestLongPaths(t *testing.T) {
	w := open(ring(600), alone(599)...)
	w.Label[599] = 1
	p := some(t, "a ring", w, formula(t, "G F a"))
	if _, e := world.Word(w, p); e != api.ErrLarge || len(p.Loop) != 600 {
		t.Error(p, e)
	}
	w = open(line(600))
	w.Label[599] = 1
	p = some(t, "a line", w, formula(t, "F a"))
	if _, e := world.Word(w, p); e != api.ErrLarge || len(p.Stem) != 599 {
		t.Error(p, e)
	}
	// A ring of 7 states at which one may or may not be at a, and just each 16th letter is to be: once round is 112 states.
	var next [][]int
	for state := range 14 {
		at := (state/2 + 1) % 7 * 2
		next = append(next, []int{at, at + 1})
	}
	w = open(next)
	a := free(ring(16))
	for state := range next {
		w.Label[state] = uint64(state % 2)
	}
	for state := range a.Next {
		a.Not[state] = 1
	}
	w.Start, a.Must[3], a.Not[3] = []int{0, 1}, 1, 0
	if p = some(t, "two rings", w, a); len(p.Stem) != 0 || len(p.Loop) != 112 {
		t.Error(p)
	}
}

// The worlds of processes.
func TestProcesses(t *testing.T) {
	for _, x := range []struct {
		text string
		want map[string]bool
	}{
		// s is atom 0, then come x, b, e.
		{"start s\nxor x\ntask b\nend e\nflow s x\nflow x b\nflow b x\nflow x e\n", map[string]bool{
			"G F c": true, "F d": true, "F silent": true, "G F b & F G !silent": true, "F a": false, "c": false, "b": true,
			"F c & F d": true, "G !d": true, "F G c": false, "F d & G !silent": false, "F G b": false, "G F c & F d": false, "F (d & X X !silent)": false,
		}},
		// s is atom 0, then come f, b, c; two tasks stand beside each other, and both are done.
		{"start s\nand f\ntask b\ntask c\nand j\nend e\nflow s f\nflow f b\nflow f c\nflow b j\nflow c j\nflow j e\n", map[string]bool{
			"b & X c & X X d": true, "b & X d & X X c": true, "G !c": false, "G !d": false, "G !silent": false, "F G silent": true, "F (c & F c & X F c)": false,
		}},
		// s is atom 0, then come x, b, c; one goes round by b or by c, each of which can be done just where the other one can't.
		{"start s\nxor x\ntask b\ntask c\nend e\nflow s x\nflow x b\nflow x c\nflow b x\nflow c x\nflow x e\n", map[string]bool{
			"G F c & G !d": true, "G F c & G F d": true, "G !c & G !d": true, "F G b": false, "G !silent & F G !c & F G !d": false,
		}},
	} {
		p, at, e := proc.Parse(x.text)
		if e != api.OK {
			t.Fatal(x.text, at, e)
		}
		w, _, e := runs.Of(p, 1, 200)
		if e != api.OK {
			t.Fatal(x.text, e)
		}
		asks(t, w, x.want)
	}
}

// wrongWorlds are worlds that aren't any, and their errors.
func wrongWorlds() map[api.Errno][]api.World {
	short, ends, start, fair := open(ring(2)), open([][]int{{1}, nil}), open(ring(2)), open(ring(2), []int{2})
	short.Label, start.Start = short.Label[:1], []int{-1}
	both := open(ring(601))
	both.Label = nil
	return map[api.Errno][]api.World{
		api.ErrArg:   {short, ends, start, fair, open([][]int{{1}}), open([][]int{{-1}}), {Label: []uint64{0}}},
		api.ErrLarge: {open(ring(601)), open(ring(2), make([][]int, 81)...), open(make([][]int, 601)), both},
	}
}

// wrongAutos are automata that aren't any, and their errors.
func wrongAutos() map[api.Errno][]api.Auto {
	must, not, start := free(ring(2)), free(ring(2)), free(ring(2))
	must.Must, not.Not, start.Start = must.Must[:1], append(not.Not, 0), []int{2}
	both := free(ring(2049))
	both.Not = nil
	return map[api.Errno][]api.Auto{
		api.ErrArg:   {must, not, start, free(ring(2), []int{-1}), free([][]int{{1}}), {Must: []uint64{0}}},
		api.ErrLarge: {free(ring(2049)), free(ring(2), make([][]int, 81)...), both},
	}
}

func TestWrongs(t *testing.T) {
	for want, worlds := range wrongWorlds() {
		for _, w := range worlds {
			none(t, "a world", w, all(), want)
			none(t, "a world, no automaton", w, api.Auto{}, want)
			// The world's error is told ahead of the automaton's.
			for _, automata := range wrongAutos() {
				for _, a := range automata {
					none(t, "both", w, a, want)
				}
			}
		}
	}
	for want, automata := range wrongAutos() {
		for _, a := range automata {
			none(t, "an automaton", open(ring(2)), a, want)
			none(t, "an automaton, no world", api.World{}, a, want)
		}
	}
}

// 600 states of a world, 2048 of an automaton: more than a million together.
func TestAtTheLimits(t *testing.T) {
	w, a := open(ring(512)), free(ring(2048))
	w.Label[0], a.Must[0] = 1, 1
	if p, is, e := Find(w, a); e != api.OK || !is || len(p.Stem) != 0 || !slices.Equal(p.Loop, span(512)) {
		t.Error(p, is, e)
	}
	w, a = open(ring(599)), free(ring(2047))
	w.Label[0], a.Must[0] = 1, 1
	none(t, "two rings", w, a, api.OK)
	a.Must[0] = 0
	w.Fair, a.Fair = times(80, []int{598}), times(80, []int{2046})
	if p, is, e := Find(w, a); e != api.OK || !is || len(p.Stem) != 0 || !slices.Equal(p.Loop, span(599)) {
		t.Error(p, is, e)
	}
	w.Fair[79] = nil
	none(t, "the world's last set has none", w, a, api.OK)
	w.Fair, a.Fair[79] = nil, nil
	none(t, "the automaton's last set has none", w, a, api.OK)
	w, a = open(line(600), []int{599}), free(line(2048), []int{2047})
	if p, is, e := Find(w, a); e != api.OK || !is || !slices.Equal(p.Stem, span(599)) || !slices.Equal(p.Loop, []int{599}) {
		t.Error(p, is, e)
	}
}

// Each state goes to each, and all fair sets are to be met.
func TestDense(t *testing.T) {
	w, a := open(dense(600), alone(span(80)...)...), free(dense(2048), times(80, []int{2047})...)
	p, is, e := Find(w, a)
	if good, _ := world.Good(w, p); e != api.OK || !is || !good {
		t.Error(p, is, e, good)
	}
	w = open(dense(60), alone(span(60)...)...)
	for state := range w.Label {
		w.Label[state] = uint64(state)
	}
	some(t, "sixty", w, formula(t, "G F (a & b) & G (c -> X !c)"))
	none(t, "seven in a row", w, formula(t, "F G (a & b & c)"), api.OK)
	a.Fair[79] = nil
	none(t, "an empty set", open(dense(600)), a, api.OK)
	// Half of the automaton goes with each letter, but one never comes there.
	for state := range a.Next {
		a.Next[state] = span(1024)
	}
	a.Fair = [][]int{span(2048)[1024:]}
	none(t, "half of it", open(dense(600)), a, api.OK)
}

// Lists may be longer than there are states.
func TestLongLists(t *testing.T) {
	long := func(numbers ...int) []int { return slices.Repeat(numbers, 50000) }
	w := api.World{Start: long(1, 0), Next: [][]int{long(1, 0), long(0)}, Label: []uint64{1, 2}, Fair: [][]int{long(1), long(1, 0)}}
	a := api.Auto{Start: long(0, 1), Next: [][]int{long(1, 0), long(0, 1)}, Must: []uint64{1, 2}, Not: []uint64{2, 1}, Fair: [][]int{long(0), long(1)}}
	some(t, "long lists", w, a)
	w.Fair[1] = nil
	none(t, "long lists, an empty set", w, a, api.OK)
}
