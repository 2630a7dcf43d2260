package scc

import (
	"slices"
	"testing"

	"watchway/api"
)

// mark is what stands in the room behind lists; no answer has it.
const mark = -77

// roomy is a list with marked room behind it.
func roomy(list ...int) []int {
	long := append(slices.Clone(list), mark, mark, mark)
	return long[:len(list)]
}

// given is what the calls are handed, each list with room behind it.
type given struct {
	g    [][]int
	from []int
	to   []bool
}

func newGiven() given {
	g := [][]int{roomy(2, 1, 2), roomy(2), roomy(1, 3), roomy(), roomy(0, 4), roomy(mark), roomy(mark)}[:5]
	to := []bool{false, false, true, true, false, true, true}[:5]
	return given{g, roomy(4, 0, 4), to}
}

// same holds lists against each other with all of the room behind them.
func (a given) same(b given) bool {
	return slices.EqualFunc(a.g[:cap(a.g)], b.g[:cap(b.g)], func(x, y []int) bool {
		return len(x) == len(y) && slices.Equal(x[:cap(x)], y[:cap(y)])
	}) &&
		slices.Equal(a.from[:cap(a.from)], b.from[:cap(b.from)]) &&
		slices.Equal(a.to[:cap(a.to)], b.to[:cap(b.to)])
}

// spoil overwrites all that was handed in, room included.
func (a given) spoil() {
	for _, list := range a.g[:cap(a.g)] {
		fill(list, mark)
	}
	clear(a.g[:cap(a.g)])
	fill(a.from, mark)
	fill(a.to, true)
}

// fill overwrites a list and its spare room.
func fill[T any](list []T, with T) {
	list = list[:cap(list)]
	for i := range list {
		list[i] = with
	}
}

// answers are those of all calls to one thing that is given.
type answers struct {
	check   api.Errno
	turned  [][]int
	reached []bool
	parts   []int
	way     []int
	is      bool
}

func ask(t *testing.T, a given) answers {
	t.Helper()
	var x answers
	var errs [4]api.Errno
	x.check = Check(a.g)
	x.turned, errs[0] = Turn(a.g)
	x.reached, errs[1] = Reach(a.g, a.from)
	x.parts, errs[2] = Parts(a.g)
	x.way, x.is, errs[3] = Way(a.g, a.from, a.to)
	if errs != [4]api.Errno{} {
		t.Fatal(errs)
	}
	return x
}

func (x answers) same(y answers) bool {
	return x.check == y.check && x.is == y.is && sameGraph(x.turned, y.turned) &&
		slices.Equal(x.reached, y.reached) && slices.Equal(x.parts, y.parts) && slices.Equal(x.way, y.way)
}

func wantAnswers() answers {
	return answers{
		turned:  [][]int{{4}, {0, 2}, {0, 1}, {2}, {4}},
		reached: []bool{true, true, true, true, true},
		parts:   []int{0, 1, 1, 2, 3},
		way:     []int{0, 2},
		is:      true,
	}
}

func TestNothingHandedInIsChanged(t *testing.T) {
	a := newGiven()
	ask(t, a)
	if !a.same(newGiven()) {
		t.Error(a)
	}
}

func TestWrongThingsAreNotChangedEither(t *testing.T) {
	a, b := newGiven(), newGiven()
	a.g[3], b.g[3] = roomy(9), roomy(9)
	Check(a.g)
	Turn(a.g)
	Reach(a.g, a.from)
	Parts(a.g)
	Way(a.g, a.from, a.to)
	if !a.same(b) {
		t.Error(a)
	}
}

func TestAnswersOutliveWhatWasHandedIn(t *testing.T) {
	a := newGiven()
	x := ask(t, a)
	a.spoil()
	if !x.same(wantAnswers()) {
		t.Error(x)
	}
}

func TestSpoiledAnswersChangeNothing(t *testing.T) {
	a := newGiven()
	x := ask(t, a)
	for _, list := range x.turned {
		fill(list, mark)
	}
	fill(x.turned, nil)
	fill(x.reached, false)
	fill(x.parts, mark)
	fill(x.way, mark)
	if !a.same(newGiven()) {
		t.Error("what was handed in", a)
	}
	if y := ask(t, a); !y.same(wantAnswers()) {
		t.Error("the next answer", y)
	}
}

// No list of Turn's answer may reach another one, not by its spare room.
func TestTurnedListsAreApart(t *testing.T) {
	g := [][]int{{0, 1, 2}, {0, 1, 2}, {0, 1, 2, 3}, {3, 2}}
	for spoiled := range g {
		x, e := Turn(g)
		if e != api.OK {
			t.Fatal(e)
		}
		fill(x[spoiled], mark)
		y, _ := Turn(g)
		for node := range g {
			if node != spoiled && !slices.Equal(x[node], y[node]) {
				t.Error(spoiled, node, x[node])
			}
		}
	}
}

// Lists of one graph may be one memory; what is answered is apart all the same.
func TestListsThatShareMemory(t *testing.T) {
	all := []int{2, 1, 0}
	g := [][]int{all, all, all[:1]}
	if x, e := Turn(g); e != api.OK || !sameGraph(x, [][]int{{0, 1}, {0, 1}, {0, 1, 2}}) {
		t.Error(x, e)
	}
	if x, e := Parts(g); e != api.OK || !slices.Equal(x, []int{0, 0, 1}) {
		t.Error(x, e)
	}
	if x, is, e := Way(g, all, []bool{true, true, false}); e != api.OK || !is || !slices.Equal(x, []int{0}) {
		t.Error(x, is, e)
	}
	if !slices.Equal(all, []int{2, 1, 0}) {
		t.Error(all)
	}
}

// What was asked before, wrong things too, has no say in an answer.
func TestNothingIsKept(t *testing.T) {
	for range 3 {
		if x := ask(t, newGiven()); !x.same(wantAnswers()) {
			t.Fatal(x)
		}
		Parts(ring(50))
		Way(ring(50), []int{3}, make([]bool, 50))
		Reach([][]int{{7}}, []int{8})
		Turn(chain(40))
	}
}
