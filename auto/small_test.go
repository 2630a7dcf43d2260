package auto

import (
	"math/rand"
	"slices"
	"testing"

	"watchway/api"
)

// words are all words of up to so many letters, those below a number.
func words(most int, below uint64) []api.Word {
	var list []api.Word
	rows := [][]uint64{{}}
	for size := 1; size <= most; size++ {
		var longer [][]uint64
		for _, row := range rows {
			for letter := range below {
				longer = append(longer, append(slices.Clone(row), letter))
			}
		}
		rows = longer
		for _, row := range rows {
			for stem := range size {
				list = append(list, word(row[:stem], row[stem:]))
			}
		}
	}
	return list
}

// plainAccepts goes by the words of the document: by Warshall's rule it is known from which state at which place one comes to which, by one going or more; a row that meets some state at some place again and again may go by all that lies between.
func plainAccepts(a api.Auto, w api.Word) bool {
	letters := slices.Concat(w.Stem, w.Loop)
	states := len(a.Next)
	fits := func(state, place int) bool {
		return letters[place]&a.Must[state] == a.Must[state] && letters[place]&a.Not[state] == 0
	}
	comes := make([][]bool, states*len(letters))
	for from := range comes {
		comes[from] = make([]bool, len(comes))
		place := from/states + 1
		if place == len(letters) {
			place = len(w.Stem)
		}
		for _, to := range a.Next[from%states] {
			comes[from][place*states+to] = fits(from%states, from/states) && fits(to, place)
		}
	}
	for by := range comes {
		for from := range comes {
			for to := range comes {
				comes[from][to] = comes[from][to] || comes[from][by] && comes[by][to]
			}
		}
	}
	for at := range comes {
		begins := func(state int) bool { return fits(state, 0) && (state == at || comes[state][at]) }
		meets := func(set []int) bool {
			for to := range comes {
				if slices.Contains(set, to%states) && comes[at][to] && comes[to][at] {
					return true
				}
			}
			return false
		}
		misses := func(set []int) bool { return !meets(set) }
		if slices.ContainsFunc(a.Start, begins) && comes[at][at] && !slices.ContainsFunc(a.Fair, misses) {
			return true
		}
	}
	return false
}

// naming gives pairs numbers as they first come.
type naming struct{ pairs [][2]int }

// put adds a pair's number to a list, unless it is there.
func (n *naming) put(list []int, x, y int) []int {
	at := slices.Index(n.pairs, [2]int{x, y})
	if at < 0 {
		at = len(n.pairs)
		n.pairs = append(n.pairs, [2]int{x, y})
	}
	if slices.Contains(list, at) {
		return list
	}
	return append(list, at)
}

// plainBoth is P26 as it is written.
func plainBoth(a, b api.Auto) api.Auto {
	var n naming
	var out api.Auto
	all := func(xs, ys []int) []int {
		var list []int
		for _, x := range xs {
			for _, y := range ys {
				if a.Must[x]&b.Not[y] == 0 && b.Must[y]&a.Not[x] == 0 {
					list = n.put(list, x, y)
				}
			}
		}
		return list
	}
	out.Start = all(a.Start, b.Start)
	for i := 0; i < len(n.pairs); i++ {
		p := n.pairs[i]
		out.Next = append(out.Next, all(a.Next[p[0]], b.Next[p[1]]))
		out.Must = append(out.Must, a.Must[p[0]]|b.Must[p[1]])
		out.Not = append(out.Not, a.Not[p[0]]|b.Not[p[1]])
	}
	for side, sets := range [][][]int{a.Fair, b.Fair} {
		for _, set := range sets {
			var list []int
			for i, p := range n.pairs {
				if slices.Contains(set, p[side]) {
					list = append(list, i)
				}
			}
			out.Fair = append(out.Fair, list)
		}
	}
	return out
}

// plainSingle is P27 as it is written.
func plainSingle(a api.Auto) api.Auto {
	var n naming
	var out api.Auto
	for _, state := range a.Start {
		out.Start = n.put(out.Start, state, 0)
	}
	var fair []int
	for i := 0; i < len(n.pairs); i++ {
		state, wait := n.pairs[i][0], n.pairs[i][1]
		if len(a.Fair) == 0 || wait == 0 && slices.Contains(a.Fair[0], state) {
			fair = append(fair, i)
		}
		if len(a.Fair) > 0 && slices.Contains(a.Fair[wait], state) {
			wait++
			if wait == len(a.Fair) {
				wait = 0
			}
		}
		var list []int
		for _, to := range a.Next[state] {
			list = n.put(list, to, wait)
		}
		out.Next = append(out.Next, list)
		out.Must = append(out.Must, a.Must[state])
		out.Not = append(out.Not, a.Not[state])
	}
	out.Fair = [][]int{fair}
	return out
}

// chosen are the states whose bits are 1.
func chosen(bits int) []int {
	var list []int
	for state := 0; bits>>state != 0; state++ {
		if bits>>state&1 == 1 {
			list = append(list, state)
		}
	}
	return list
}

// eachSmall hands over all automata of two states with one atom and up to two fair sets.
func eachSmall(do func(a api.Auto)) {
	for next := range 16 {
		for letters := range 16 {
			for start := range 4 {
				a := api.Auto{
					Start: chosen(start), Next: [][]int{chosen(next & 3), chosen(next >> 2)},
					Must: []uint64{uint64(letters & 1), uint64(letters >> 1 & 1)}, Not: []uint64{uint64(letters >> 2 & 1), uint64(letters >> 3)},
				}
				do(a)
				for first := range 4 {
					a.Fair = [][]int{chosen(first)}
					do(a)
					for second := range 4 {
						a.Fair = [][]int{chosen(first), chosen(second)}
						do(a)
					}
				}
			}
		}
	}
}

// agree holds Accepts against the plain reckoning.
func agree(t *testing.T, a api.Auto, w api.Word) bool {
	t.Helper()
	is, e := Accepts(a, w)
	if e != api.OK || is != plainAccepts(a, w) {
		t.Fatal(a, w, is, e)
	}
	return is
}

func TestSmall(t *testing.T) {
	list := words(3, 2)
	eachSmall(func(a api.Auto) {
		one, e := Single(a)
		if e != api.OK || !sameAuto(one, plainSingle(a)) {
			t.Fatal(a, one, e)
		}
		for _, w := range list {
			is := agree(t, a, w)
			if same, e := Accepts(one, w); e != api.OK || same != is {
				t.Fatal(a, one, w, same, e)
			}
		}
	})
}

// someOf draws a list of states: in any order, some more than once.
func someOf(r *rand.Rand, states, most int) []int {
	var list []int
	for range r.Intn(most + 1) {
		list = append(list, r.Intn(states))
	}
	return list
}

// drawn draws an automaton.
func drawn(r *rand.Rand, most int) api.Auto {
	states := 1 + r.Intn(most)
	a := api.Auto{Start: someOf(r, states, 4)}
	for range states {
		a.Next = append(a.Next, someOf(r, states, 5))
		must := uint64(r.Intn(4)&r.Intn(4)) | uint64(r.Intn(2)&r.Intn(2))<<63
		not := uint64(r.Intn(4)&r.Intn(4)) | uint64(r.Intn(2)&r.Intn(2))<<63
		if r.Intn(9) > 0 {
			not &^= must
		}
		a.Must, a.Not = append(a.Must, must), append(a.Not, not)
	}
	for range r.Intn(4) {
		a.Fair = append(a.Fair, someOf(r, states, 2*states))
	}
	return a
}

// drawnWord draws a word of up to eight letters.
func drawnWord(r *rand.Rand) api.Word {
	row := make([]uint64, 1+r.Intn(8))
	for i := range row {
		row[i] = uint64(r.Intn(4)) | uint64(r.Intn(2))<<63
	}
	stem := r.Intn(len(row))
	return word(row[:stem], row[stem:])
}

func TestDrawn(t *testing.T) {
	r := rand.New(rand.NewSource(10))
	count := 0
	for range 3000 {
		a, w := drawn(r, 7), drawnWord(r)
		if agree(t, a, w) {
			count++
		}
		one, e := Single(a)
		if e != api.OK || !sameAuto(one, plainSingle(a)) {
			t.Fatal(a, one, e)
		}
		if same, e := Accepts(one, w); e != api.OK || same != plainAccepts(a, w) {
			t.Fatal(a, one, w, same, e)
		}
	}
	if count < 300 || count > 2700 {
		t.Error("too few of one sort", count)
	}
}

// Two together accept just what each of them accepts.
func TestDrawnPairs(t *testing.T) {
	r := rand.New(rand.NewSource(26))
	count := 0
	for range 6000 {
		a, b := drawn(r, 7), drawn(r, 7)
		got, e := Both(a, b)
		if e != api.OK || !sameAuto(got, plainBoth(a, b)) {
			t.Fatal(a, b, got, e)
		}
		for range 4 {
			w := drawnWord(r)
			isA, e1 := Accepts(a, w)
			isB, e2 := Accepts(b, w)
			is, e := Accepts(got, w)
			if e1 != api.OK || e2 != api.OK || e != api.OK || is != (isA && isB) {
				t.Fatal(a, b, w, isA, isB, is, e)
			}
			if is {
				count++
			}
		}
	}
	if count < 500 {
		t.Error("too few are accepted", count)
	}
}

// Larger ones, whose states lie in several words of bits.
func TestDrawnLarge(t *testing.T) {
	r := rand.New(rand.NewSource(27))
	large := 0
	for range 150 {
		a, b := drawn(r, 300), drawn(r, 6)
		for _, x := range [][2]api.Auto{{a, b}, {b, a}} {
			want := plainBoth(x[0], x[1])
			got, e := Both(x[0], x[1])
			if len(want.Next) > 2048 {
				tooLarge(t, "drawn", got, e)
			} else if e != api.OK || !sameAuto(got, want) {
				t.Fatal(len(got.Next), e)
			}
			if len(want.Next) > 100 {
				large++
			}
		}
		one, e := Single(a)
		if e != api.OK || !sameAuto(one, plainSingle(a)) {
			t.Fatal(len(a.Next), len(one.Next), e)
		}
	}
	if large < 20 {
		t.Error("too few are large", large)
	}
}

// Other names for the states, another order of lists and sets change nothing of what is accepted.
func TestOtherNames(t *testing.T) {
	r := rand.New(rand.NewSource(25))
	for range 2000 {
		a, w := drawn(r, 70), drawnWord(r)
		names := r.Perm(len(a.Next))
		named := func(list []int) []int {
			var out []int
			for _, i := range r.Perm(len(list)) {
				out = append(out, names[list[i]])
			}
			return out
		}
		b := free(make([][]int, len(a.Next)))
		b.Start = named(a.Start)
		for state, name := range names {
			b.Next[name], b.Must[name], b.Not[name] = named(a.Next[state]), a.Must[state], a.Not[state]
		}
		for _, i := range r.Perm(len(a.Fair)) {
			b.Fair = append(b.Fair, named(a.Fair[i]))
		}
		isA, e1 := Accepts(a, w)
		isB, e2 := Accepts(b, w)
		if e1 != api.OK || e2 != api.OK || isA != isB {
			t.Fatal(a, b, w, isA, isB)
		}
	}
}
