package world

import (
	"math/rand"
	"slices"
	"testing"

	"watchway/api"
	"watchway/auto"
)

// plainFair goes by another way than the program: states are left out, as long as from one of them some fair set can't be met by one going or more among those that stay; what stays can go on so for ever. In the end whoever comes there begins a fair way.
func plainFair(w api.World) []bool {
	stay := times(len(w.Next), true)
	for {
		sets := append(slices.Clone(w.Fair), span(len(w.Next)))
		was := slices.Clone(stay)
		for _, set := range sets {
			meets := make([]bool, len(w.Next))
			for _, state := range set {
				meets[state] = stay[state]
			}
			stay = ahead(w, stay, meets)
		}
		if slices.Equal(was, stay) {
			break
		}
	}
	begins := ahead(w, times(len(w.Next), true), stay)
	for state := range begins {
		begins[state] = begins[state] || stay[state]
	}
	return begins
}

// ahead tells from which states that stay one comes to one of some others by one going or more, all of them among those that stay.
func ahead(w api.World, stay, others []bool) []bool {
	comes := make([]bool, len(w.Next))
	for range w.Next {
		for state, next := range w.Next {
			for _, to := range next {
				if stay[state] && (others[to] || stay[to] && comes[to]) {
					comes[state] = true
				}
			}
		}
	}
	return comes
}

// plainGood goes along a path, place by place, until it has been round its Loop twice; the second time round tells what is met again and again.
func plainGood(w api.World, p api.Path) bool {
	if len(p.Loop) == 0 {
		return false
	}
	at := func(place int) int {
		if place < len(p.Stem) {
			return p.Stem[place]
		}
		return p.Loop[(place-len(p.Stem))%len(p.Loop)]
	}
	end := len(p.Stem) + 2*len(p.Loop)
	for place := range end {
		if at(place) < 0 || at(place) >= len(w.Next) {
			return false
		}
	}
	for place := range end {
		if !slices.Contains(w.Next[at(place)], at(place+1)) {
			return false
		}
	}
	for _, set := range w.Fair {
		met := false
		for place := len(p.Stem) + len(p.Loop); place < end; place++ {
			met = met || slices.Contains(set, at(place))
		}
		if !met {
			return false
		}
	}
	return slices.Contains(w.Start, at(0))
}

// chosen are the states whose bits are 1.
func chosen(bits int) []int {
	var list []int
	for state := 0; bits>>state != 0; state++ {
		if bits>>state&1 == 1 {
			list = append(list, state)
		}
	}
	return list
}

// eachNext hands over all lists of Next of that many states, as they rise.
func eachNext(states int, do func(next [][]int)) {
	next := make([][]int, states)
	var choose func(state int)
	choose = func(state int) {
		if state == states {
			do(slices.Clone(next))
			return
		}
		for bits := 1; bits < 1<<states; bits++ {
			next[state] = chosen(bits)
			choose(state + 1)
		}
	}
	choose(0)
}

// eachFair hands over all fair sets of that many states, up to two of them, in either order.
func eachFair(states int, do func(sets [][]int)) {
	do(nil)
	for first := range 1 << states {
		do([][]int{chosen(first)})
		for second := range 1 << states {
			do([][]int{chosen(first), chosen(second)})
		}
	}
}

// paths are all paths of up to so many states, those below a number.
func paths(most, below int) []api.Path {
	list := []api.Path{{}}
	rows := [][]int{{}}
	for size := 1; size <= most; size++ {
		var longer [][]int
		for _, row := range rows {
			for state := range below {
				longer = append(longer, append(slices.Clone(row), state))
			}
		}
		rows = longer
		for _, row := range rows {
			for stem := range size + 1 {
				list = append(list, path(row[:stem], row[stem:]...))
			}
		}
	}
	return list
}

// agreeFair holds Fair against the plain reckoning.
func agreeFair(t *testing.T, w api.World) []bool {
	t.Helper()
	list, e := Fair(w)
	if e != api.OK || !slices.Equal(list, plainFair(w)) {
		t.Fatal(w, list, e, "want", plainFair(w))
	}
	return list
}

// agreeGood holds Good against the plain reckoning.
func agreeGood(t *testing.T, w api.World, p api.Path) bool {
	t.Helper()
	is, e := Good(w, p)
	if e != api.OK || is != plainGood(w, p) {
		t.Fatal(w, p, is, e)
	}
	return is
}

// A fair way begins where a good path does, and the other way round: of so few states all paths that may be needed are short.
func TestSmall(t *testing.T) {
	list := paths(4, 2)
	for start := range 4 {
		eachNext(2, func(next [][]int) {
			eachFair(2, func(sets [][]int) {
				w := open(next, sets...)
				w.Start = chosen(start)
				begins := make([]bool, 2)
				for _, p := range list {
					if agreeGood(t, w, p) {
						begins[slices.Concat(p.Stem, p.Loop)[0]] = true
					}
				}
				for state, is := range agreeFair(t, w) {
					if begins[state] != (is && slices.Contains(w.Start, state)) {
						t.Fatal(w, state, is, begins)
					}
				}
			})
		})
	}
}

func TestThreeStates(t *testing.T) {
	eachNext(3, func(next [][]int) {
		eachFair(3, func(sets [][]int) { agreeFair(t, open(next, sets...)) })
	})
}

// With three states and up to one fair set each state at which a fair way begins has a good path of up to four states.
func TestThreeStatesAndTheirPaths(t *testing.T) {
	list := paths(4, 3)
	eachNext(3, func(next [][]int) {
		for first := range 8 {
			w := open(next, chosen(first))
			w.Start = span(3)
			begins := make([]bool, 3)
			for _, p := range list {
				if is, e := Good(w, p); e != api.OK {
					t.Fatal(w, p, e)
				} else if is {
					begins[slices.Concat(p.Stem, p.Loop)[0]] = true
				}
			}
			if list, e := Fair(w); e != api.OK || !slices.Equal(list, begins) {
				t.Fatal(w, list, e, "want", begins)
			}
		}
	})
}

// someOf draws a list of states: in any order, some more than once.
func someOf(r *rand.Rand, states, least, most int) []int {
	var list []int
	for range least + r.Intn(most+1-least) {
		list = append(list, r.Intn(states))
	}
	return list
}

// drawn draws a world.
func drawn(r *rand.Rand, most int) api.World {
	states := 1 + r.Intn(most)
	w := api.World{Start: someOf(r, states, 0, 4)}
	for range states {
		w.Next = append(w.Next, someOf(r, states, 1, 1+r.Intn(3)))
		w.Label = append(w.Label, uint64(r.Intn(4))|uint64(r.Intn(2))<<63)
	}
	for range r.Intn(5) {
		w.Fair = append(w.Fair, someOf(r, states, 0, states))
	}
	return w
}

// drawnPath goes through a world from one of Start on, where it can, until it is where it was before; now and then something is altered.
func drawnPath(r *rand.Rand, w api.World) api.Path {
	row := []int{r.Intn(len(w.Next))}
	if len(w.Start) > 0 {
		row[0] = w.Start[r.Intn(len(w.Start))]
	}
	for range r.Intn(4 * len(w.Next)) {
		next := w.Next[row[len(row)-1]]
		row = append(row, next[r.Intn(len(next))])
	}
	for again := slices.Index(row, row[len(row)-1]); again == len(row)-1; again = slices.Index(row, row[len(row)-1]) {
		row = append(row, w.Next[row[len(row)-1]][0])
	}
	stem := slices.Index(row, row[len(row)-1])
	row = row[:len(row)-1]
	if r.Intn(4) == 0 {
		row[r.Intn(len(row))] = r.Intn(len(w.Next)+2) - 1
	}
	if r.Intn(9) == 0 {
		stem = r.Intn(len(row) + 1)
	}
	return path(row[:stem], row[stem:]...)
}

func TestDrawn(t *testing.T) {
	r := rand.New(rand.NewSource(12))
	begin, goods := 0, 0
	for range 8000 {
		w := drawn(r, 9)
		if slices.Contains(agreeFair(t, w), true) {
			begin++
		}
		for range 6 {
			p := drawnPath(r, w)
			if !agreeGood(t, w, p) {
				continue
			}
			goods++
			// What is good begins a fair way.
			if list, e := Fair(w); e != api.OK || !list[slices.Concat(p.Stem, p.Loop)[0]] {
				t.Fatal(w, p, list, e)
			}
		}
	}
	if begin < 2000 || begin > 7000 || goods < 3000 || goods > 24000 {
		t.Error("too few of one sort", begin, goods)
	}
}

func TestDrawnLarge(t *testing.T) {
	r := rand.New(rand.NewSource(13))
	all, some, none := 0, 0, 0
	for range 60 {
		w := drawn(r, 600)
		for i := range w.Fair {
			w.Fair[i] = someOf(r, len(w.Next), 1, 4)
		}
		list := agreeFair(t, w)
		switch {
		case !slices.Contains(list, true):
			none++
		case !slices.Contains(list, false):
			all++
		default:
			some++
		}
		for range 10 {
			agreeGood(t, w, drawnPath(r, w))
		}
	}
	if all < 5 || some < 5 || none < 5 {
		t.Error("too few of one sort", all, some, none)
	}
}

// asAuto is the automaton that goes as a world does: it accepts the words of its fair ways, and no others.
func asAuto(w api.World) api.Auto {
	a := api.Auto{Start: w.Start, Next: w.Next, Must: w.Label, Fair: w.Fair}
	for _, letter := range w.Label {
		a.Not = append(a.Not, ^letter)
	}
	return a
}

// Two roads: the word of a good path is accepted. Where each state has a letter of its own a path is good just if its word is accepted.
func TestWordsAndAutomata(t *testing.T) {
	r := rand.New(rand.NewSource(14))
	count := map[bool]int{}
	for range 6000 {
		w := drawn(r, 7)
		p := drawnPath(r, w)
		x, e := Word(w, p)
		if e != api.OK {
			continue
		}
		is, e := auto.Accepts(asAuto(w), x)
		if e != api.OK || agreeGood(t, w, p) && !is {
			t.Fatal(w, p, x, is, e)
		}
		for state := range w.Label {
			w.Label[state] = uint64(state) << 61
		}
		x, _ = Word(w, p)
		is, e = auto.Accepts(asAuto(w), x)
		count[is]++
		if e != api.OK || is != agreeGood(t, w, p) {
			t.Fatal(w, p, x, is, e)
		}
	}
	if count[true] < 1000 || count[false] < 1000 {
		t.Error("too few of one sort", count)
	}
}

// Other names for the states, another order of lists and sets change nothing.
func TestOtherNames(t *testing.T) {
	r := rand.New(rand.NewSource(15))
	for range 3000 {
		w := drawn(r, 40)
		names := r.Perm(len(w.Next))
		named := func(list []int) []int {
			var out []int
			for _, i := range r.Perm(len(list)) {
				out = append(out, names[list[i]])
			}
			return out
		}
		other := open(make([][]int, len(w.Next)))
		other.Start = named(w.Start)
		for state, name := range names {
			other.Next[name], other.Label[name] = named(w.Next[state]), w.Label[state]
		}
		for _, i := range r.Perm(len(w.Fair)) {
			other.Fair = append(other.Fair, named(w.Fair[i]))
		}
		was, e1 := Fair(w)
		is, e2 := Fair(other)
		for state, name := range names {
			if e1 != api.OK || e2 != api.OK || was[state] != is[name] {
				t.Fatal(w, other, was, is)
			}
		}
		p := drawnPath(r, w)
		if slices.ContainsFunc(slices.Concat(p.Stem, p.Loop), func(n int) bool { return n < 0 || n >= len(names) }) {
			continue
		}
		var q api.Path
		for _, state := range p.Stem {
			q.Stem = append(q.Stem, names[state])
		}
		for _, state := range p.Loop {
			q.Loop = append(q.Loop, names[state])
		}
		x, e1 := Word(w, p)
		y, e2 := Word(other, q)
		if e1 != e2 || !sameWord(x, y) || agreeGood(t, w, p) != agreeGood(t, other, q) {
			t.Fatal(w, p, other, q)
		}
	}
}
