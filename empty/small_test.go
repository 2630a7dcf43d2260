package empty

import (
	"math/rand"
	"slices"
	"testing"

	"watchway/api"
	"watchway/auto"
	"watchway/lasso"
	"watchway/ltl"
	"watchway/proc"
	"watchway/runs"
	"watchway/tableau"
	"watchway/world"
)

// pair is a state of a world with one of an automaton.
type pair struct{ state, other int }

// plainPairs are the pairs of which the automaton's state goes with the world's letter.
func plainPairs(w api.World, a api.Auto) []pair {
	var list []pair
	for state, letter := range w.Label {
		for other := range a.Next {
			if letter&a.Must[other] == a.Must[other] && letter&a.Not[other] == 0 {
				list = append(list, pair{state, other})
			}
		}
	}
	return list
}

// plainComes tells from which pair one comes to which, by one going or more, by Warshall's rule.
func plainComes(w api.World, a api.Auto, pairs []pair) [][]bool {
	comes := make([][]bool, len(pairs))
	for i, from := range pairs {
		comes[i] = make([]bool, len(pairs))
		for k, to := range pairs {
			comes[i][k] = slices.Contains(w.Next[from.state], to.state) && slices.Contains(a.Next[from.other], to.other)
		}
	}
	for by := range pairs {
		for from := range pairs {
			for to := range pairs {
				comes[from][to] = comes[from][to] || comes[from][by] && comes[by][to]
			}
		}
	}
	return comes
}

// plainFind goes by the words of the document: there is such a way just if one comes to some pair again and again, and on the way back there may come to a pair of each fair set.
func plainFind(w api.World, a api.Auto) bool {
	pairs := plainPairs(w, a)
	comes := plainComes(w, a, pairs)
	begins := func(p pair) bool { return slices.Contains(w.Start, p.state) && slices.Contains(a.Start, p.other) }
	for at := range pairs {
		is, first := comes[at][at], begins(pairs[at])
		meets := func(is func(p pair) bool) bool {
			for to := range pairs {
				if is(pairs[to]) && comes[at][to] && comes[to][at] {
					return true
				}
			}
			return false
		}
		for from := range pairs {
			first = first || begins(pairs[from]) && comes[from][at]
		}
		for _, set := range w.Fair {
			is = is && meets(func(p pair) bool { return slices.Contains(set, p.state) })
		}
		for _, set := range a.Fair {
			is = is && meets(func(p pair) bool { return slices.Contains(set, p.other) })
		}
		if is && first {
			return true
		}
	}
	return false
}

// agree holds Find against the plain reckoning, and looks at the way that is told.
func agree(t *testing.T, w api.World, a api.Auto) bool {
	t.Helper()
	is := plainFind(w, a)
	found(t, w, a, is)
	return is
}

// found looks at what Find answers, of which it is known whether there is a way.
func found(t *testing.T, w api.World, a api.Auto, want bool) api.Path {
	t.Helper()
	p, is, e := Find(w, a)
	if e != api.OK || is != want || !is && (p.Stem != nil || p.Loop != nil) {
		t.Fatal(w, a, p, is, e, "want", want)
	}
	if !is {
		return p
	}
	if good, e := world.Good(w, p); e != api.OK || !good {
		t.Fatal(w, a, p, "is no fair way", good, e)
	}
	if !accepted(t, w, a, p) {
		t.Fatal(w, a, p, "is not accepted")
	}
	return p
}

// chosen are the states whose bits are 1.
func chosen(bits int) []int {
	var list []int
	for state := 0; bits>>state != 0; state++ {
		if bits>>state&1 == 1 {
			list = append(list, state)
		}
	}
	return list
}

// eachWorld hands over the worlds of two states that begin at 0, or at both, with one atom and up to one fair set.
func eachWorld(do func(w api.World)) {
	for next := range 9 {
		for letters := range 4 {
			for _, start := range []int{1, 3} {
				w := lettered([][]int{chosen(next%3 + 1), chosen(next/3 + 1)}, uint64(letters&1), uint64(letters>>1))
				w.Start = chosen(start)
				do(w)
				for first := range 3 {
					w.Fair = [][]int{chosen(first)}
					do(w)
				}
			}
		}
	}
}

// eachAuto hands over automata of two states that begin at 0, or at both, with one atom and one fair set, none, or two.
func eachAuto(do func(a api.Auto)) {
	for next := range 16 {
		for letters := range 9 {
			for _, start := range []int{1, 3} {
				a := free([][]int{chosen(next & 3), chosen(next >> 2)})
				a.Must = []uint64{uint64(letters % 3 % 2), uint64(letters / 3 % 2)}
				a.Not = []uint64{uint64(letters % 3 / 2), uint64(letters / 3 / 2)}
				a.Start = chosen(start)
				for _, sets := range [][][]int{nil, {{0}}, {{1}}, {{0}, {1}}} {
					a.Fair = sets
					do(a)
				}
			}
		}
	}
}

func TestSmall(t *testing.T) {
	count := map[bool]int{}
	eachWorld(func(w api.World) {
		eachAuto(func(a api.Auto) { count[agree(t, w, a)]++ })
	})
	if count[true] < 50000 || count[false] < 50000 {
		t.Error("too few of one sort", count)
	}
}

// someOf draws a list of states: in any order, some more than once.
func someOf(r *rand.Rand, states, least, most int) []int {
	var list []int
	for range least + r.Intn(most+1-least) {
		list = append(list, r.Intn(states))
	}
	return list
}

// drawnWorld draws a world.
func drawnWorld(r *rand.Rand, most int) api.World {
	states := 1 + r.Intn(most)
	w := api.World{Start: someOf(r, states, 0, 4)}
	for range states {
		w.Next = append(w.Next, someOf(r, states, 1, 1+r.Intn(3)))
		w.Label = append(w.Label, uint64(r.Intn(4))|uint64(r.Intn(2))<<63)
	}
	for range r.Intn(4) {
		w.Fair = append(w.Fair, someOf(r, states, 1, states))
	}
	return w
}

// drawnAuto draws an automaton.
func drawnAuto(r *rand.Rand, most int) api.Auto {
	states := 1 + r.Intn(most)
	a := api.Auto{Start: someOf(r, states, 1, 4)}
	for range states {
		a.Next = append(a.Next, someOf(r, states, 0, 5))
		must := uint64(r.Intn(4)&r.Intn(4)) | uint64(r.Intn(2)&r.Intn(2))<<63
		not := uint64(r.Intn(4)&r.Intn(4)) | uint64(r.Intn(2)&r.Intn(2))<<63
		if r.Intn(9) > 0 {
			not &^= must
		}
		a.Must, a.Not = append(a.Must, must), append(a.Not, not)
	}
	for range r.Intn(4) {
		a.Fair = append(a.Fair, someOf(r, states, 0, 2*states))
	}
	return a
}

func TestDrawn(t *testing.T) {
	r := rand.New(rand.NewSource(14))
	count := map[bool]int{}
	for range 6000 {
		count[agree(t, drawnWorld(r, 8), drawnAuto(r, 6))]++
	}
	if count[true] < 600 || count[false] < 600 {
		t.Error("too few of one sort", count)
	}
}

// laidOut is the world of all pairs, whose fair sets are both ones': package world tells where its fair ways begin. A state more, to which all go and in no fair set, lets one go on from each.
func laidOut(w api.World, a api.Auto) (api.World, []pair) {
	pairs := plainPairs(w, a)
	numbers := map[pair]int{}
	for number, p := range pairs {
		numbers[p] = number
	}
	end := len(pairs)
	both := api.World{Label: make([]uint64, end+1), Fair: [][]int{span(end)}}
	for _, p := range pairs {
		next := []int{end}
		for _, state := range w.Next[p.state] {
			for _, other := range a.Next[p.other] {
				if number, is := numbers[pair{state, other}]; is {
					next = append(next, number)
				}
			}
		}
		both.Next = append(both.Next, next)
	}
	both.Next = append(both.Next, []int{end})
	for _, set := range w.Fair {
		both.Fair = append(both.Fair, numbersOf(pairs, func(p pair) bool { return slices.Contains(set, p.state) }))
	}
	for _, set := range a.Fair {
		both.Fair = append(both.Fair, numbersOf(pairs, func(p pair) bool { return slices.Contains(set, p.other) }))
	}
	return both, pairs
}

// numbersOf are the numbers of the pairs of which something is so.
func numbersOf(pairs []pair, is func(p pair) bool) []int {
	var list []int
	for number, p := range pairs {
		if is(p) {
			list = append(list, number)
		}
	}
	return list
}

// Larger ones: two roads, by pairs that are never laid out, and by the world of all of them, which package world takes up to 600 states of.
func TestDrawnLarger(t *testing.T) {
	r := rand.New(rand.NewSource(15))
	count := map[bool]int{}
	for range 1500 {
		w, a := drawnWorld(r, 80), drawnAuto(r, 12)
		for i := range w.Fair {
			w.Fair[i] = someOf(r, len(w.Next), 1, 5)
		}
		both, pairs := laidOut(w, a)
		begins, e := world.Fair(both)
		if e == api.ErrLarge {
			continue
		}
		want := slices.ContainsFunc(numbersOf(pairs, func(p pair) bool {
			return slices.Contains(w.Start, p.state) && slices.Contains(a.Start, p.other)
		}), func(number int) bool { return begins[number] })
		found(t, w, a, want)
		count[want]++
	}
	if count[true] < 100 || count[false] < 100 {
		t.Error("too few of one sort", count)
	}
}

// Whatever is told of large ones is a way that can be looked at.
func TestDrawnLarge(t *testing.T) {
	r := rand.New(rand.NewSource(16))
	count := map[bool]int{}
	for range 60 {
		w, a := drawnWorld(r, 600), drawnAuto(r, 20)
		for i := range w.Fair {
			w.Fair[i] = someOf(r, len(w.Next), 1, 5)
		}
		_, is, _ := Find(w, a)
		found(t, w, a, is)
		count[is]++
	}
	if count[true] < 5 {
		t.Error("too few of one sort", count)
	}
}

// drawnFormula draws a formula of so many nodes at most.
func drawnFormula(r *rand.Rand, nodes int) api.Ltl {
	kind := api.LNot + r.Intn(8)
	if nodes <= 2 {
		return api.Ltl{Kind: api.LAtom, N: []int{0, 1, 63}[r.Intn(3)]}
	}
	switch kind {
	case api.LNot, api.LNext, api.LFinally, api.LGlobally:
		return api.Ltl{Kind: kind, Kids: []api.Ltl{drawnFormula(r, nodes-1)}}
	}
	first := 1 + r.Intn(nodes-2)
	return api.Ltl{Kind: kind, Kids: []api.Ltl{drawnFormula(r, first), drawnFormula(r, nodes-1-first)}}
}

// not is the formula's LNot.
func not(f api.Ltl) api.Ltl { return api.Ltl{Kind: api.LNot, Kids: []api.Ltl{f}} }

// Of a formula and its not one holds on each fair way; what is told is a way on whose word it does, by its own meaning.
func TestFormulas(t *testing.T) {
	r := rand.New(rand.NewSource(17))
	count := map[[2]bool]int{}
	for range 1500 {
		w, f := drawnWorld(r, 12), drawnFormula(r, 3+r.Intn(8))
		a, e := tableau.Make(f)
		if e != api.OK {
			t.Fatal(f, e)
		}
		b, _ := tableau.Make(not(f))
		is, isNot := holdsSomewhere(t, w, f, a), holdsSomewhere(t, w, not(f), b)
		count[[2]bool{is, isNot}]++
		begins, _ := world.Fair(w)
		fair := slices.ContainsFunc(w.Start, func(state int) bool { return begins[state] })
		if fair != (is || isNot) {
			t.Fatal(w, f, is, isNot, fair)
		}
	}
	for x, times := range count {
		if times < 100 {
			t.Error("too few of one sort", x, count)
		}
	}
}

// holdsSomewhere tells whether a way is found, and looks that the formula holds on its word.
func holdsSomewhere(t *testing.T, w api.World, f api.Ltl, a api.Auto) bool {
	t.Helper()
	p, is, e := Find(w, a)
	if e != api.OK {
		t.Fatal(w, f, e)
	}
	if !is {
		return false
	}
	if good, e := world.Good(w, p); e != api.OK || !good {
		t.Fatal(w, f, p, good, e)
	}
	word, e := world.Word(w, p)
	if e != api.OK {
		return true
	}
	if list, e := lasso.Holds(f, word); e != api.OK || !list[0] {
		t.Fatal(w, f, p, word, list, e)
	}
	return true
}

// along is the world whose only way has a word's letters.
func along(w api.Word) api.World {
	line := open(ring(len(w.Stem) + len(w.Loop)))
	line.Label = slices.Concat(w.Stem, w.Loop)
	line.Next[len(line.Next)-1] = []int{len(w.Stem)}
	return line
}

// drawnWord draws a word of up to twelve letters.
func drawnWord(r *rand.Rand) api.Word {
	row := make([]uint64, 1+r.Intn(12))
	for i := range row {
		row[i] = uint64(r.Intn(4)) | uint64(r.Intn(2))<<63
	}
	stem := r.Intn(len(row))
	return api.Word{Stem: row[:stem], Loop: row[stem:]}
}

// Two roads: a word is accepted, a formula holds on it, just if the world that goes along it has such a way; that way has its word.
func TestWords(t *testing.T) {
	r := rand.New(rand.NewSource(18))
	count := map[bool]int{}
	for range 3000 {
		x, f := drawnWord(r), drawnFormula(r, 3+r.Intn(7))
		list, _ := lasso.Holds(f, x)
		a, e := tableau.Make(f)
		if e != api.OK {
			t.Fatal(f, e)
		}
		w := along(x)
		p := found(t, w, a, list[0])
		count[list[0]]++
		if !list[0] {
			continue
		}
		word, e := world.Word(w, p)
		if same, e2 := lasso.Same(word, x); e != api.OK || e2 != api.OK || !same {
			t.Fatal(x, f, p, word, e, e2)
		}
		a = drawnAuto(r, 9)
		is, e := auto.Accepts(a, x)
		if e != api.OK {
			t.Fatal(a, x, e)
		}
		found(t, w, a, is)
	}
	if count[true] < 500 || count[false] < 500 {
		t.Error("too few of one sort", count)
	}
}

// asAuto is the automaton that goes as a world does: it accepts the words of its fair ways, and no others.
func asAuto(w api.World) api.Auto {
	a := api.Auto{Start: w.Start, Next: w.Next, Must: w.Label, Fair: w.Fair}
	for _, letter := range w.Label {
		a.Not = append(a.Not, ^letter)
	}
	return a
}

// anyLetters is a world in which each letter that a drawn one may have comes whenever one likes.
func anyLetters() api.World {
	w := open(dense(8))
	w.Start = span(8)
	for state := range w.Label {
		w.Label[state] = uint64(state&3) | uint64(state>>2)<<63
	}
	return w
}

// Two roads: the automaton with one fair set in place of its own; two automata one behind the other or both in one; the world as an automaton.
func TestOtherAutomata(t *testing.T) {
	r := rand.New(rand.NewSource(19))
	count := map[[2]bool]int{}
	for range 1500 {
		w, a, b := drawnWorld(r, 9), drawnAuto(r, 6), drawnAuto(r, 6)
		_, is, _ := Find(w, a)
		one, e := auto.Single(a)
		if e != api.OK {
			t.Fatal(a, e)
		}
		found(t, w, one, is)
		whole, e := auto.Both(asAuto(w), a)
		if e != api.OK {
			t.Fatal(w, a, e)
		}
		found(t, anyLetters(), whole, is)
		both, e := auto.Both(a, b)
		if e != api.OK {
			t.Fatal(a, b, e)
		}
		p, of, _ := Find(w, both)
		count[[2]bool{is, of}]++
		if !of {
			continue
		}
		if good, e := world.Good(w, p); e != api.OK || !good || !accepted(t, w, a, p) || !accepted(t, w, b, p) {
			t.Fatal(w, a, b, p, good, e)
		}
	}
	if count[[2]bool{true, true}] < 30 || count[[2]bool{true, false}] < 100 || count[[2]bool{false, false}] < 300 || len(count) > 3 {
		t.Error("too few of one sort", count)
	}
}

// named gives other names to the states of a list, in another order.
func named(r *rand.Rand, list, names []int) []int {
	var out []int
	for _, i := range r.Perm(len(list)) {
		out = append(out, names[list[i]])
	}
	return out
}

// Other names for the states, another order of lists and sets change nothing of what there is.
func TestOtherNames(t *testing.T) {
	r := rand.New(rand.NewSource(20))
	count := map[bool]int{}
	for range 1500 {
		w, a := drawnWorld(r, 30), drawnAuto(r, 10)
		names, others := r.Perm(len(w.Next)), r.Perm(len(a.Next))
		v, b := open(make([][]int, len(w.Next))), free(make([][]int, len(a.Next)))
		v.Start, b.Start = named(r, w.Start, names), named(r, a.Start, others)
		for state, name := range names {
			v.Next[name], v.Label[name] = named(r, w.Next[state], names), w.Label[state]
		}
		for state, name := range others {
			b.Next[name], b.Must[name], b.Not[name] = named(r, a.Next[state], others), a.Must[state], a.Not[state]
		}
		for _, i := range r.Perm(len(w.Fair)) {
			v.Fair = append(v.Fair, named(r, w.Fair[i], names))
		}
		for _, i := range r.Perm(len(a.Fair)) {
			b.Fair = append(b.Fair, named(r, a.Fair[i], others))
		}
		_, is, _ := Find(w, a)
		found(t, v, b, is)
		count[is]++
	}
	if count[true] < 100 || count[false] < 100 {
		t.Error("too few of one sort", count)
	}
}

// Of the worlds of processes wider bounds change nothing.
func TestWiderBounds(t *testing.T) {
	text := "start s\nand f\ntask b\nxor x\ntask c\nand j\nend e\nflow s f\nflow f b\nflow f x\nflow b j\nflow x c\nflow c x\nflow x j\nflow j e\n"
	p, at, e := proc.Parse(text)
	if e != api.OK {
		t.Fatal(at, e)
	}
	for _, text := range []string{"F d", "G F d", "G !d", "F G !silent", "F (c & X c)", "F (d & X d)", "G (d -> X d)", "c R !b", "F a & F silent"} {
		f, _, _ := ltl.Parse(text, []string{"s", "a", "b", "c", "d"})
		a, e := tableau.Make(f)
		if e != api.OK {
			t.Fatal(text, e)
		}
		first, _, e := runs.Of(p, 1, 20)
		_, want, e2 := Find(first, a)
		if e != api.OK || e2 != api.OK {
			t.Fatal(text, e, e2)
		}
		for _, bounds := range [][2]int{{1, 200}, {2, 20}, {9, 200}} {
			w, _, e := runs.Of(p, bounds[0], bounds[1])
			if e != api.OK {
				t.Fatal(text, bounds, e)
			}
			found(t, w, a, want)
		}
	}
}
