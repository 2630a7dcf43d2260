package tableau

import (
	"math"
	"slices"
	"strings"
	"testing"

	"watchway/api"
	"watchway/auto"
	"watchway/ltl"
	"watchway/push"
)

// atom is a short way to write an LAtom.
func atom(n int) api.Ltl { return api.Ltl{Kind: api.LAtom, N: n} }

// of is a short way to write a formula with Kids.
func of(kind int, kids ...api.Ltl) api.Ltl { return api.Ltl{Kind: kind, Kids: kids} }

// around is a formula with that many single ones of a Kind around it.
func around(kind, count int, f api.Ltl) api.Ltl {
	for range count {
		f = of(kind, f)
	}
	return f
}

// tree is a tree of a Kind with two Kids whose leaves are those.
func tree(kind int, leaves ...api.Ltl) api.Ltl {
	if len(leaves) == 1 {
		return leaves[0]
	}
	half := len(leaves) / 2
	return of(kind, tree(kind, leaves[:half]...), tree(kind, leaves[half:]...))
}

// atoms are those from 0 to ahead of a number.
func atoms(count int) []api.Ltl {
	var list []api.Ltl
	for n := range count {
		list = append(list, atom(n))
	}
	return list
}

// letters are the names in texts of formulas here, by the numbers of their atoms.
var letters = strings.Split("abcdefghijklmnopqrstuvwxyz", "")

// read is the formula of a text.
func read(t *testing.T, s string) api.Ltl {
	t.Helper()
	f, at, e := ltl.Parse(s, letters)
	if e != api.OK {
		t.Fatal(s, at, e)
	}
	return f
}

// sameAuto tells whether two automata are the same.
func sameAuto(a, b api.Auto) bool {
	return slices.Equal(a.Start, b.Start) && slices.EqualFunc(a.Next, b.Next, slices.Equal) &&
		slices.Equal(a.Must, b.Must) && slices.Equal(a.Not, b.Not) && slices.EqualFunc(a.Fair, b.Fair, slices.Equal)
}

// isZero tells whether an automaton is the zero value.
func isZero(a api.Auto) bool {
	return a.Start == nil && a.Next == nil && a.Must == nil && a.Not == nil && a.Fair == nil
}

// made is the automaton of a text.
func made(t *testing.T, s string) api.Auto {
	t.Helper()
	a, e := Make(read(t, s))
	if e != api.OK || auto.Check(a) != api.OK {
		t.Fatal(s, a, e)
	}
	return a
}

// span are the numbers from one to ahead of another.
func span(from, to int) []int {
	var list []int
	for i := from; i < to; i++ {
		list = append(list, i)
	}
	return list
}

// times is a list with one thing that many times.
func times[T any](count int, thing T) []T {
	return slices.Repeat([]T{thing}, count)
}

func TestByHand(t *testing.T) {
	none, zero, a, noA := []uint64{0}, []uint64{0, 0}, []uint64{0, 1}, []uint64{1, 0}
	as, noAs := []uint64{0, 1, 0, 1}, []uint64{1, 0, 1, 0}
	for _, x := range []struct {
		text string
		want api.Auto
	}{
		{"true", api.Auto{Start: []int{0}, Next: [][]int{{0}}, Must: none, Not: none}},
		{"false", api.Auto{Next: [][]int{{0}}, Must: none, Not: none}},
		{"!false / false", api.Auto{Start: []int{0}, Next: [][]int{{0}}, Must: none, Not: none}},
		{"a", api.Auto{Start: []int{1}, Next: times(2, []int{0, 1}), Must: a, Not: noA}},
		{"!a", api.Auto{Start: []int{0}, Next: times(2, []int{0, 1}), Must: a, Not: noA}},
		{"a / !a", api.Auto{Start: []int{0, 1}, Next: times(2, []int{0, 1}), Must: a, Not: noA}},
		{"a & !a", api.Auto{Next: times(2, []int{0, 1}), Must: a, Not: noA}},
		{"!(b & !a)", api.Auto{Start: []int{0, 1, 3}, Next: times(4, span(0, 4)), Must: []uint64{0, 1, 2, 3}, Not: []uint64{3, 2, 1, 0}}},
		{"X true", api.Auto{Start: []int{1}, Next: [][]int{{}, {0, 1}}, Must: zero, Not: zero}},
		{"X false", api.Auto{Start: []int{1}, Next: [][]int{{0, 1}, {}}, Must: zero, Not: zero}},
		{"X a", api.Auto{Start: []int{2, 3}, Next: [][]int{{0, 2}, {0, 2}, {1, 3}, {1, 3}}, Must: as, Not: noAs}},
		{"!X !a", api.Auto{Start: []int{0, 1}, Next: [][]int{{1, 3}, {1, 3}, {0, 2}, {0, 2}}, Must: as, Not: noAs}},
		{"X X true", api.Auto{Start: []int{1, 3}, Next: [][]int{{}, {}, {0, 1}, {2, 3}}, Must: make([]uint64, 4), Not: make([]uint64, 4)}},
		{"F a", api.Auto{Start: []int{1, 2, 3}, Next: [][]int{{0}, {0}, {1, 2, 3}, {1, 2, 3}}, Must: as, Not: noAs, Fair: [][]int{{0, 1, 3}}}},
		{"G a", api.Auto{Start: []int{3}, Next: [][]int{{0, 1, 2}, {0, 1, 2}, {3}, {3}}, Must: as, Not: noAs, Fair: [][]int{{0, 2, 3}}}},
		{"a U false", api.Auto{Start: []int{3}, Next: [][]int{{0, 1, 2}, {0, 1, 2}, {3}, {3}}, Must: as, Not: noAs, Fair: [][]int{{0, 1, 2}}}},
		{"a R true", api.Auto{Start: []int{1, 2, 3}, Next: [][]int{{0}, {0}, {1, 2, 3}, {1, 2, 3}}, Must: as, Not: noAs, Fair: [][]int{{1, 2, 3}}}},
		{"b U a", api.Auto{
			Start: []int{1, 3, 5, 6, 7}, Next: slices.Concat(times(4, []int{0, 2, 4}), times(4, []int{1, 3, 5, 6, 7})),
			Must: []uint64{0, 1, 2, 3, 0, 1, 2, 3}, Not: []uint64{3, 2, 1, 0, 3, 2, 1, 0}, Fair: [][]int{{0, 1, 2, 3, 4, 5, 7}},
		}},
		{"b R a", api.Auto{
			Start: []int{3, 5, 7}, Next: slices.Concat(times(4, []int{0, 1, 2, 4, 6}), times(4, []int{3, 5, 7})),
			Must: []uint64{0, 1, 2, 3, 0, 1, 2, 3}, Not: []uint64{3, 2, 1, 0, 3, 2, 1, 0}, Fair: [][]int{{0, 2, 3, 4, 5, 6, 7}},
		}},
		{"G F a", api.Auto{
			Start: []int{3, 6, 7}, Next: slices.Concat(times(2, []int{0, 2}), times(2, []int{}), times(2, []int{1, 4, 5}), times(2, []int{3, 6, 7})),
			Must: slices.Concat(as, as), Not: slices.Concat(noAs, noAs), Fair: [][]int{{0, 2, 3, 6, 7}, {0, 1, 2, 3, 5, 7}},
		}},
	} {
		if got := made(t, x.text); !sameAuto(got, x.want) {
			t.Error(x.text, got, "want", x.want)
		}
	}
}

// elementTexts are the elements of a text's plain formula, written.
func elementTexts(t *testing.T, s string) string {
	t.Helper()
	plain, e := push.Plain(read(t, s))
	if e != api.OK {
		t.Fatal(s, e)
	}
	var texts []string
	for _, element := range elementsOf(plain) {
		text, e := ltl.Print(element, letters)
		if e != api.OK {
			t.Fatal(s, element, e)
		}
		texts = append(texts, text)
	}
	return strings.Join(texts, ", ")
}

func TestElements(t *testing.T) {
	for _, x := range []struct{ text, want string }{
		{"true", ""},
		{"!(true / false) & true", ""},
		{"a", "a"},
		{"b & a & b & !a", "a, b"},
		{"silent / z / c & b", "b, c, z, silent"},
		{"X a / b", "a, b, X a"},
		{"X a / X b", "a, b, X a, X b"},
		{"X b / X a", "a, b, X b, X a"},
		{"X X a", "a, X X a, X a"},
		{"X a & X a", "a, X a"},
		{"X a & X !a", "a, X a, X !a"},
		{"X a & X (a & a)", "a, X a, X (a & a)"},
		{"X (a & b) & X (b & a)", "a, b, X (a & b), X (b & a)"},
		{"a U b / a R b", "a, b, a U b, a R b"},
		{"a U b / b U a / a U b", "a, b, a U b, b U a"},
		{"(X a) U (b R X a)", "a, b, X a U (b R X a), X a, b R X a"},
		{"X a / X (X a U b)", "a, b, X a, X (X a U b), X a U b"},
		{"X (X a U b) / X a", "a, b, X (X a U b), X a U b, X a"},
		{"F a", "a, true U a"},
		{"F a & (true U a)", "a, true U a"},
		{"G a / (false R a) / F a", "a, false R a, true U a"},
		{"F G F a", "a, true U (false R (true U a)), false R (true U a), true U a"},
		{"X F a & F a", "a, X (true U a), true U a"},
	} {
		if got := elementTexts(t, x.text); got != x.want {
			t.Error(x.text, "has", got, "want", x.want)
		}
	}
}

// Where an element stands among the others is seen in what it does as a bit.
func TestOrderOfElements(t *testing.T) {
	a := made(t, "X b / X a")
	for state, next := range a.Next {
		for to := range 16 {
			isNext := to>>1&1 == state>>2&1 && to&1 == state>>3&1
			if slices.Contains(next, to) != isNext {
				t.Error(state, next, to)
			}
		}
	}
	b := made(t, "F (b & G a)")
	if len(b.Next) != 16 || !slices.Equal(b.Start, []int{4, 5, 6, 7, 11, 12, 13, 14, 15}) || len(b.Fair) != 2 {
		t.Error(b)
	}
	// The LUntil stands ahead of the LRelease that is in it, and so do their fair sets.
	if !slices.Equal(b.Fair[0], []int{0, 1, 2, 3, 8, 9, 10, 11, 15}) || !slices.Equal(b.Fair[1], []int{0, 2, 4, 6, 8, 9, 10, 11, 12, 13, 14, 15}) {
		t.Error(b.Fair)
	}
	c := made(t, "silent & b")
	if !slices.Equal(c.Must, []uint64{0, 2, 1 << 63, 1<<63 | 2}) || !slices.Equal(c.Not, []uint64{1<<63 | 2, 1 << 63, 2, 0}) {
		t.Error(c)
	}
}

func TestEachAtom(t *testing.T) {
	for n := range 64 {
		for other := range 64 {
			a, e := Make(of(api.LAnd, atom(n), of(api.LNot, atom(other))))
			low, high := uint64(1)<<min(n, other), uint64(1)<<max(n, other)
			want := api.Auto{Start: []int{1}, Next: times(4, span(0, 4)), Must: []uint64{0, low, high, low | high}, Not: []uint64{low | high, high, low, 0}}
			if n > other {
				want.Start = []int{2}
			}
			if n == other {
				want = api.Auto{Next: times(2, span(0, 2)), Must: []uint64{0, low}, Not: []uint64{low, 0}}
			}
			if e != api.OK || !sameAuto(a, want) {
				t.Fatal(n, other, a, e)
			}
		}
	}
}

// padded is a formula that has some elements, with more atoms beside it, so that it has another number of them.
func padded(f api.Ltl, has, elements int) api.Ltl {
	list := []api.Ltl{f}
	for n := range elements - has {
		list = append(list, atom(40+n))
	}
	return tree(api.LAnd, list...)
}

// counted are formulas with that many elements, from 10 on.
func counted(t *testing.T, elements int) []api.Ltl {
	return []api.Ltl{
		tree(api.LAnd, atoms(elements)...),
		tree(api.LOr, append(atoms(elements), atoms(elements)...)...),
		around(api.LNext, elements, of(api.LTrue)),
		around(api.LNext, elements-1, atom(63)),
		around(api.LFinally, elements-1, atom(7)),
		around(api.LGlobally, elements-1, atom(0)),
		of(api.LNot, around(api.LFinally, elements, of(api.LFalse))),
		padded(read(t, "a U b / !a U b / a U !b / a R b / b R a"), 7, elements),
		padded(read(t, "X a & X b & X c & X d & X e"), 10, elements),
		padded(read(t, "a U (b R (c U (d R e)))"), 9, elements),
		padded(read(t, "X X X X X a / X X X X a"), 6, elements),
		padded(read(t, "G F a & G F b & F G c & a U b & a U b"), 10, elements),
	}
}

func TestHowManyElements(t *testing.T) {
	for i, f := range counted(t, 10) {
		a, e := Make(f)
		if e != api.OK || len(a.Next) != 1024 || auto.Check(a) != api.OK {
			t.Error(i, f, len(a.Next), e)
		}
	}
	for _, elements := range []int{11, 12, 15} {
		for i, f := range counted(t, elements) {
			if a, e := Make(f); e != api.ErrLarge || !isZero(a) {
				t.Error(elements, i, f, a, e)
			}
		}
	}
}

// With ten atoms and nothing else each state goes to each.
func TestTenAtoms(t *testing.T) {
	a, e := Make(tree(api.LAnd, atoms(10)...))
	if e != api.OK || !slices.Equal(a.Start, []int{1023}) || len(a.Fair) != 0 {
		t.Error(a.Start, a.Fair, e)
	}
	for state, next := range a.Next {
		if !slices.Equal(next, span(0, 1024)) || a.Must[state] != uint64(state) || a.Not[state] != uint64(1023-state) {
			t.Fatal(state, next, a.Must[state], a.Not[state])
		}
	}
}

// wrong is what is no formula, or becomes none, and its error.
type wrong struct {
	f    api.Ltl
	want api.Errno
}

func wrongs() []wrong {
	round := of(api.LAnd, atom(0), atom(0))
	round.Kids[1] = round
	down := of(api.LNot, atom(0))
	down.Kids[0] = down
	list := []wrong{
		{api.Ltl{}, api.ErrArg},
		{of(-1), api.ErrArg},
		{of(12), api.ErrArg},
		{of(math.MaxInt), api.ErrArg},
		{of(math.MinInt), api.ErrArg},
		{atom(-1), api.ErrArg},
		{atom(64), api.ErrArg},
		{atom(math.MinInt), api.ErrArg},
		{api.Ltl{Kind: api.LTrue, N: 1}, api.ErrArg},
		{of(api.LTrue, atom(0)), api.ErrArg},
		{of(api.LAtom, atom(0)), api.ErrArg},
		{api.Ltl{Kind: api.LNext, N: 3, Kids: []api.Ltl{atom(0)}}, api.ErrArg},
		{of(api.LUntil, atom(0), atom(64)), api.ErrArg},
		{of(api.LFinally, of(api.LGlobally)), api.ErrArg},
		{around(api.LNot, 20, atom(0)), api.ErrDeep},
		{around(api.LFinally, 20, atom(0)), api.ErrDeep},
		{around(api.LNext, 20, atom(64)), api.ErrDeep},
		{around(api.LNext, 19, atom(64)), api.ErrArg},
		{tree(api.LOr, times(31, atom(0))...), api.ErrLarge},
		{tree(api.LOr, append(times(30, atom(0)), of(api.LFinally, atom(0)))...), api.ErrLarge},
		{round, api.ErrDeep},
		{down, api.ErrDeep},
	}
	for _, kind := range []int{api.LNot, api.LNext, api.LFinally, api.LGlobally} {
		list = append(list, wrong{of(kind), api.ErrArg}, wrong{of(kind, atom(0), atom(0)), api.ErrArg})
	}
	for _, kind := range []int{api.LAnd, api.LOr, api.LUntil, api.LRelease} {
		list = append(list, wrong{of(kind, atom(0)), api.ErrArg}, wrong{of(kind, atom(0), atom(0), atom(0)), api.ErrArg})
	}
	// What is plain may be too large, though there are two elements.
	for _, kind := range []int{api.LFinally, api.LGlobally} {
		list = append(list, wrong{tree(api.LAnd, times(16, of(kind, atom(0)))...), api.ErrLarge})
		list = append(list, wrong{around(api.LNot, 2, tree(api.LAnd, times(15, of(kind, atom(0)))...)), api.ErrLarge})
	}
	return list
}

func TestWrongFormulas(t *testing.T) {
	// Some lead back to themselves, so they can't be written.
	for i, x := range wrongs() {
		if a, e := Make(x.f); e != x.want || !isZero(a) {
			t.Error(i, a, e, "want", x.want)
		}
	}
}

// Of what is no formula the error is ltl.Check's, however many elements it would have.
func TestWhichErrorIsTold(t *testing.T) {
	told := map[api.Errno]int{}
	for i, f := range counted(t, 15) {
		for _, bad := range []api.Ltl{atom(64), of(api.LNot), {}, around(api.LNot, 19, atom(0))} {
			both := of(api.LAnd, f, bad)
			want := ltl.Check(both)
			told[want]++
			if a, e := Make(both); e != want || !isZero(a) {
				t.Error(i, f, a, e)
			}
		}
	}
	if told[api.ErrArg] == 0 || told[api.ErrDeep] == 0 || told[api.OK] != 0 {
		t.Error(told)
	}
}

// Just as large and as deep as a formula may be.
func TestLargest(t *testing.T) {
	list := times(15, of(api.LGlobally, atom(0)))
	for _, x := range []struct {
		f      api.Ltl
		states int
	}{
		{tree(api.LAnd, list...), 4},
		{of(api.LNot, tree(api.LAnd, list...)), 4},
		{around(api.LNot, 19, atom(5)), 2},
		{around(api.LNot, 10, around(api.LNext, 9, atom(5))), 1024},
		{of(api.LNot, tree(api.LOr, append(list[1:], atom(1), atom(2))...)), 16},
	} {
		a, e := Make(x.f)
		if e != api.OK || len(a.Next) != x.states {
			t.Error(x.f, len(a.Next), e)
		}
	}
}
