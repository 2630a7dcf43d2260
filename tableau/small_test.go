package tableau

import (
	"math/rand"
	"slices"
	"strconv"
	"testing"

	"watchway/api"
	"watchway/auto"
	"watchway/lasso"
	"watchway/push"
)

// key writes a formula: each Kind has just so many Kids, so two that are written alike are the same part by part.
func key(f api.Ltl) string {
	s := strconv.Itoa(f.Kind) + "." + strconv.Itoa(f.N) + " "
	for _, kid := range f.Kids {
		s += key(kid)
	}
	return s
}

// reckoning is P28 and P29 as they are written: the elements, and by how each is written its number.
type reckoning struct {
	elements []api.Ltl
	numbers  map[string]int
}

// add makes a part an element, if it is of that sort and none yet.
func (r *reckoning) add(f api.Ltl, isSort bool) {
	if _, known := r.numbers[key(f)]; isSort && !known {
		r.numbers[key(f)] = len(r.elements)
		r.elements = append(r.elements, f)
	}
}

// addSteps adds the parts that are LNext, LUntil or LRelease, each ahead of its Kids.
func (r *reckoning) addSteps(f api.Ltl) {
	r.add(f, f.Kind == 7 || f.Kind == 8 || f.Kind == 9)
	for _, kid := range f.Kids {
		r.addSteps(kid)
	}
}

// hasAtom tells whether an LAtom is in a formula.
func hasAtom(f api.Ltl, n int) bool {
	return f.Kind == 3 && f.N == n || slices.ContainsFunc(f.Kids, func(kid api.Ltl) bool { return hasAtom(kid, n) })
}

// reckoned are the elements of a plain formula.
func reckoned(f api.Ltl) *reckoning {
	r := &reckoning{numbers: map[string]int{}}
	for n := range 64 {
		r.add(atom(n), hasAtom(f, n))
	}
	r.addSteps(f)
	return r
}

// isChosen tells whether a state chooses an element.
func (r *reckoning) isChosen(f api.Ltl, state int) bool {
	number, is := r.numbers[key(f)]
	return is && state/(1<<number)%2 == 1
}

// isTrue tells whether a part is true at a state.
func (r *reckoning) isTrue(f api.Ltl, state int) bool {
	kid := func(i int) bool { return r.isTrue(f.Kids[i], state) }
	switch f.Kind {
	case 1, 2:
		return f.Kind == 1
	case 3, 7:
		return r.isChosen(f, state)
	case 4:
		return !kid(0)
	case 5:
		return kid(0) && kid(1)
	case 6:
		return kid(0) || kid(1)
	case 8:
		return kid(1) || kid(0) && r.isChosen(f, state)
	case 9:
		return kid(1) && (kid(0) || r.isChosen(f, state))
	}
	panic("not plain")
}

// some are the states of which something is so.
func (r *reckoning) some(is func(state int) bool) []int {
	var list []int
	for state := range 1 << len(r.elements) {
		if is(state) {
			list = append(list, state)
		}
	}
	return list
}

// isFair tells whether a state is in an element's fair set.
func (r *reckoning) isFair(element api.Ltl, state int) bool {
	is, second := r.isTrue(element, state), r.isTrue(element.Kids[1], state)
	return element.Kind == 8 && (!is || second) || element.Kind == 9 && (is || !second)
}

// auto is the automaton of a plain formula.
func (r *reckoning) auto(f api.Ltl) api.Auto {
	a := api.Auto{Start: r.some(func(state int) bool { return r.isTrue(f, state) })}
	// What a state says of the next one, and what a state is of which that is so; of each element a letter.
	var says, is []string
	for state := range 1 << len(r.elements) {
		var must, not uint64
		var said, so []bool
		for _, element := range r.elements {
			switch {
			case element.Kind == 3 && r.isChosen(element, state):
				must += 1 << element.N
			case element.Kind == 3:
				not += 1 << element.N
			case element.Kind == 7:
				said, so = append(said, r.isChosen(element, state)), append(so, r.isTrue(element.Kids[0], state))
			default:
				said, so = append(said, r.isChosen(element, state)), append(so, r.isTrue(element, state))
			}
		}
		a.Must, a.Not = append(a.Must, must), append(a.Not, not)
		says, is = append(says, row(said)), append(is, row(so))
	}
	for from := range says {
		a.Next = append(a.Next, r.some(func(to int) bool { return says[from] == is[to] }))
	}
	for _, element := range r.elements {
		if element.Kind == 8 || element.Kind == 9 {
			a.Fair = append(a.Fair, r.some(func(state int) bool { return r.isFair(element, state) }))
		}
	}
	return a
}

// row writes what is so and what isn't.
func row(list []bool) string {
	s := ""
	for _, is := range list {
		s += strconv.FormatBool(is) + " "
	}
	return s
}

// agree holds Make against the reckoning, and answers what it answered.
func agree(t *testing.T, f api.Ltl) (api.Auto, api.Errno) {
	t.Helper()
	got, e := Make(f)
	plain, wantE := push.Plain(f)
	var want api.Auto
	if wantE == api.OK {
		r := reckoned(plain)
		if len(r.elements) > 10 {
			wantE = api.ErrLarge
		} else {
			want = r.auto(plain)
		}
	}
	if e != wantE || !sameAuto(got, want) || e == api.OK && auto.Check(got) != api.OK || e != api.OK && !isZero(got) {
		t.Fatal(f, got, e, "want", want, wantE)
	}
	return got, e
}

// states answers of each place of a word the state at which its only fair way stands there, by what holds at that place and at the next one; in it lean neither Make nor the reckoning's rules of what is true.
func states(t *testing.T, f api.Ltl, w api.Word) []int {
	t.Helper()
	plain, _ := push.Plain(f)
	row := make([]int, len(w.Stem)+len(w.Loop))
	for number, element := range reckoned(plain).elements {
		part := element
		if element.Kind == 7 {
			part = element.Kids[0]
		}
		list, e := lasso.Holds(part, w)
		if e != api.OK {
			t.Fatal(part, w, e)
		}
		for place := range row {
			at := place
			if element.Kind != 3 {
				at++
			}
			if at == len(row) {
				at = len(w.Stem)
			}
			if list[at] {
				row[place] += 1 << number
			}
		}
	}
	return row
}

// meansIt looks whether an automaton accepts a word just if the formula holds at its first place, and whether the word goes through it in just one fair way.
func meansIt(t *testing.T, f api.Ltl, a api.Auto, w api.Word, begins []int) {
	t.Helper()
	holds, e := lasso.Holds(f, w)
	is, e2 := auto.Accepts(a, w)
	if e != api.OK || e2 != api.OK || is != holds[0] {
		t.Fatal(f, a, w, holds, e, is, e2)
	}
	way := states(t, f, w)
	for place, state := range way {
		next := len(w.Stem)
		if place+1 < len(way) {
			next = place + 1
		}
		if !slices.Contains(a.Next[state], way[next]) {
			t.Fatal(f, a, w, way, place)
		}
	}
	for _, state := range begins {
		a.Start = []int{state}
		if is, e := auto.Accepts(a, w); e != api.OK || is != (state == way[0]) {
			t.Fatal(f, a, w, way, state, is, e)
		}
	}
}

// eachFormula hands over all formulas of that many nodes, with those leaves.
func eachFormula(nodes int, leaves []api.Ltl, do func(api.Ltl)) {
	if nodes == 1 {
		for _, f := range leaves {
			do(f)
		}
		return
	}
	for _, kind := range []int{4, 7, 10, 11} {
		eachFormula(nodes-1, leaves, func(kid api.Ltl) { do(of(kind, kid)) })
	}
	for _, kind := range []int{5, 6, 8, 9} {
		for first := 1; first < nodes-1; first++ {
			eachFormula(first, leaves, func(a api.Ltl) {
				eachFormula(nodes-1-first, leaves, func(b api.Ltl) { do(of(kind, a, b)) })
			})
		}
	}
}

// words are all words of up to so many letters, those below a number.
func words(most int, below uint64) []api.Word {
	var list []api.Word
	rows := [][]uint64{{}}
	for size := 1; size <= most; size++ {
		var longer [][]uint64
		for _, row := range rows {
			for letter := range below {
				longer = append(longer, append(slices.Clone(row), letter))
			}
		}
		rows = longer
		for _, row := range rows {
			for stem := range size {
				list = append(list, api.Word{Stem: row[:stem], Loop: row[stem:]})
			}
		}
	}
	return list
}

func TestSmallFormulas(t *testing.T) {
	for nodes := 1; nodes <= 5; nodes++ {
		eachFormula(nodes, []api.Ltl{of(1), of(2), atom(0), atom(1)}, func(f api.Ltl) { agree(t, f) })
	}
	eachFormula(6, []api.Ltl{of(2), atom(0)}, func(f api.Ltl) { agree(t, f) })
}

func TestWhatIsAccepted(t *testing.T) {
	list := words(2, 4)
	for nodes := 1; nodes <= 4; nodes++ {
		eachFormula(nodes, []api.Ltl{of(1), of(2), atom(0), atom(1)}, func(f api.Ltl) {
			a, _ := agree(t, f)
			for _, w := range list {
				meansIt(t, f, a, w, span(0, len(a.Next)))
			}
		})
	}
}

// With one atom words may be longer.
func TestLongerWords(t *testing.T) {
	list := words(4, 2)
	for nodes := 1; nodes <= 4; nodes++ {
		eachFormula(nodes, []api.Ltl{atom(0)}, func(f api.Ltl) {
			a, _ := agree(t, f)
			for _, w := range list {
				meansIt(t, f, a, w, span(0, len(a.Next)))
			}
		})
	}
}

// drawn is a formula of so many nodes at most; few atoms make parts the same.
func drawn(r *rand.Rand, nodes, deep, atoms int) api.Ltl {
	kind := 4 + r.Intn(8)
	if nodes <= 2 || deep <= 1 {
		kind = []int{1, 2, 3, 3, 3, 3, 3, 3}[r.Intn(8)]
	}
	switch kind {
	case 1, 2:
		return of(kind)
	case 3:
		return atom([]int{2, 0, 63, 1, 9, 40}[r.Intn(atoms)])
	case 4, 7, 10, 11:
		return of(kind, drawn(r, nodes-1, deep-1, atoms))
	}
	first := 1 + r.Intn(nodes-2)
	a := drawn(r, first, deep-1, atoms)
	if r.Intn(4) == 0 {
		return of(kind, a, a)
	}
	return of(kind, a, drawn(r, nodes-1-first, deep-1, atoms))
}

// drawnWord is a word of up to so many letters.
func drawnWord(r *rand.Rand, most int) api.Word {
	row := make([]uint64, 1+r.Intn(most))
	for i := range row {
		for _, n := range []int{0, 1, 2, 9, 17, 40, 63} {
			row[i] |= uint64(r.Intn(2)) << n
		}
	}
	stem := r.Intn(len(row))
	return api.Word{Stem: row[:stem], Loop: row[stem:]}
}

func TestDrawnFormulas(t *testing.T) {
	r := rand.New(rand.NewSource(11))
	seen, sizes := map[api.Errno]int{}, map[int]int{}
	for range 800 {
		f := drawn(r, 1+r.Intn(40), 2+r.Intn(12), 1+r.Intn(6))
		a, e := agree(t, f)
		seen[e]++
		if e != api.OK {
			continue
		}
		sizes[len(a.Next)]++
		w := drawnWord(r, 12)
		begins := []int{states(t, f, w)[0]}
		for range 4 {
			begins = append(begins, r.Intn(len(a.Next)))
		}
		meansIt(t, f, a, w, begins)
	}
	if seen[api.OK] < 400 || seen[api.ErrLarge] < 50 || len(seen) > 2 || sizes[1024] < 10 || sizes[512] < 10 {
		t.Error(seen, sizes)
	}
}

// Two roads: a formula and its plain form, the order of what stands beside one another, nots of nots.
func TestTwoRoads(t *testing.T) {
	r := rand.New(rand.NewSource(28))
	for range 500 {
		f := drawn(r, 1+r.Intn(14), 7, 3)
		a, e := Make(f)
		if plain, pe := push.Plain(f); pe == api.OK {
			if same, e2 := Make(plain); e2 != e || !sameAuto(a, same) {
				t.Fatal(f, plain, e, e2)
			}
		}
		twice, e2 := Make(around(api.LNot, 2, f))
		if e2 != e || !sameAuto(a, twice) {
			t.Fatal(f, e, e2)
		}
		// All that is other in the automaton of the not is where it may begin.
		not, e3 := Make(of(api.LNot, f))
		if e3 != e || len(not.Start)+len(a.Start) != len(a.Next) {
			t.Fatal(f, e, e3, a.Start, not.Start)
		}
		not.Start = a.Start
		if !sameAuto(not, a) {
			t.Fatal(f, not, a)
		}
	}
}
