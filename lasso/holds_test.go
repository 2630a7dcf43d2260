package lasso

import (
	"math"
	"slices"
	"testing"

	"watchway/api"
	"watchway/ltl"
)

// atom is a short way to write an LAtom.
func atom(n int) api.Ltl { return api.Ltl{Kind: api.LAtom, N: n} }

// of is a short way to write a formula with Kids.
func of(kind int, kids ...api.Ltl) api.Ltl { return api.Ltl{Kind: kind, Kids: kids} }

// abc are the names in texts of formulas here.
var abc = []string{"a", "b", "c"}

// read is the formula of a text.
func read(t *testing.T, s string) api.Ltl {
	t.Helper()
	f, at, e := ltl.Parse(s, abc)
	if e != api.OK {
		t.Fatal(s, at, e)
	}
	return f
}

// marks tells where something holds: 1, where not: 0.
func marks(list []bool) string {
	text := ""
	for _, is := range list {
		text += map[bool]string{false: "0", true: "1"}[is]
	}
	return text
}

// row by row: the letters of a Stem and a Loop, then formulas and where they hold.
var held = []struct {
	stem, loop []uint64
	want       map[string]string
}{
	{nil, []uint64{0}, map[string]string{"true": "1", "false": "0", "a": "0", "!a": "1", "X a": "0", "F a": "0", "G !a": "1", "a U b": "0", "b R a": "0", "b R !a": "1", "!a U b": "0", "b R true": "1", "false U true": "1", "true R false": "0"}},
	{nil, []uint64{1}, map[string]string{"a": "1", "b": "0", "X a": "1", "X X X a": "1", "F a": "1", "G a": "1", "a U b": "0", "a W b": "1", "b R a": "1", "a R a": "1", "a U a": "1", "a R b": "0"}},
	{nil, []uint64{1, 2}, map[string]string{"a": "10", "X a": "01", "F a": "11", "G a": "00", "G F a": "11", "F G a": "00", "a U b": "11", "b U a": "11", "a R b": "00", "G (a / b)": "11", "G (a -> X b)": "11", "X X a": "10"}},
	{[]uint64{1, 1}, []uint64{2}, map[string]string{"F b": "111", "G F b": "111", "F G b": "111", "G b": "001", "a U b": "111", "G a": "000", "F a": "110", "X b": "011", "a U G b": "111", "X G b": "011"}},
	{[]uint64{0, 1, 1}, []uint64{2, 0}, map[string]string{"a U b": "01110", "F a": "11100", "X a": "11000", "F b": "11111", "!b U a": "11100", "!b U b": "11111", "G !a": "00011"}},
	{[]uint64{2, 2}, []uint64{2, 3, 0}, map[string]string{"a R b": "11110", "b U a": "11110", "a R (a & b)": "00010", "G b": "00000", "(a & b) R b": "11110"}},
	{[]uint64{1}, []uint64{0, 0, 0, 2}, map[string]string{"F b": "11111", "!a U b": "01111", "a U b": "00001", "X b": "00010", "X X b": "00100", "X X X X b": "10001", "X X X X X b": "00010"}},
	{nil, []uint64{4, 1, 1}, map[string]string{"a U c": "111", "c U a": "111", "X(a U c)": "111", "a U b": "000", "(a / c) W b": "111", "(a / c) U b": "000", "a W b": "000"}},
}

func TestHoldsByHand(t *testing.T) {
	for _, h := range held {
		for s, want := range h.want {
			if list, e := Holds(read(t, s), word(h.stem, h.loop)); e != api.OK || marks(list) != want {
				t.Error(h.stem, h.loop, s, marks(list), e)
			}
		}
	}
}

func TestHoldsEachAtom(t *testing.T) {
	for n := range 64 {
		w := word([]uint64{1 << n, ^uint64(1 << n)}, []uint64{math.MaxUint64, 0})
		if list, e := Holds(atom(n), w); e != api.OK || marks(list) != "1010" {
			t.Error(n, marks(list), e)
		}
	}
	if list, e := Holds(read(t, "F silent"), word([]uint64{1 << 63}, []uint64{1 << 62})); e != api.OK || marks(list) != "10" {
		t.Error(marks(list), e)
	}
}

// wrongFormulas are formulas that aren't any.
func wrongFormulas() map[api.Errno][]api.Ltl {
	deep, wide := atom(0), atom(0)
	for range 20 {
		deep = of(api.LNot, deep)
	}
	for range 6 {
		wide = of(api.LAnd, wide, wide)
	}
	ring := of(api.LNot, atom(0))
	ring.Kids[0] = ring
	return map[api.Errno][]api.Ltl{
		api.ErrArg:   {{}, of(0), of(12), of(-1), atom(64), atom(-1), of(api.LNot), of(api.LUntil, atom(0)), of(api.LTrue, atom(0)), {Kind: api.LTrue, N: 1}, of(api.LNext, of(api.LFinally))},
		api.ErrDeep:  {deep, ring},
		api.ErrLarge: {wide},
	}
}

func TestHoldsWrong(t *testing.T) {
	for want, formulas := range wrongFormulas() {
		for _, f := range formulas {
			for _, w := range []api.Word{{}, sized(1, 1), sized(60, 1), sized(0, 61), sized(61, 0)} {
				if list, e := Holds(f, w); e != want || list != nil {
					t.Error(want, list, e)
				}
			}
		}
	}
	for _, c := range wrongWords {
		for _, s := range []string{"true", "a", "G F a", "a U b"} {
			if list, e := Holds(read(t, s), sized(c.stem, c.loop)); e != c.want || list != nil {
				t.Error(c, s, list, e)
			}
		}
	}
}

// Only the last letter of the longest word has the atom, or only it hasn't.
func TestHoldsLongestWord(t *testing.T) {
	for stem := range 60 {
		w := word(make([]uint64, stem), make([]uint64, 60-stem))
		w.Loop[59-stem] = 1
		want := slices.Repeat([]bool{true}, 60)
		for _, s := range []string{"F a", "G F a", "!a U a", "!G !a", "!F G !a", "a R (!a / a)"} {
			if list, e := Holds(read(t, s), w); e != api.OK || !slices.Equal(list, want) {
				t.Error(stem, s, marks(list), e)
			}
		}
		for _, s := range []string{"G !a", "F G !a", "b R !a", "a U b"} {
			if list, e := Holds(read(t, s), w); e != api.OK || slices.Contains(list, true) || len(list) != 60 {
				t.Error(stem, s, marks(list), e)
			}
		}
	}
}

// tree is a tree of LOrs of the atom 0, with 2^deep - 1 nodes.
func tree(deep int) api.Ltl {
	if deep == 1 {
		return atom(0)
	}
	return of(api.LOr, tree(deep-1), tree(deep-1))
}

// nexts are so many LNexts of the atom 0.
func nexts(count int) api.Ltl {
	f := atom(0)
	for range count {
		f = of(api.LNext, f)
	}
	return f
}

func TestHoldsDeepestFormula(t *testing.T) {
	w := word(nil, make([]uint64, 60))
	w.Loop[19], w.Loop[3] = 1, 1
	list, e := Holds(nexts(19), w)
	if e != api.OK || len(list) != 60 {
		t.Fatal(list, e)
	}
	for place, is := range list {
		if is != (place == 0 || place == 44) {
			t.Error(place)
		}
	}
}

func TestHoldsLargestFormula(t *testing.T) {
	w := word([]uint64{1, 0}, []uint64{0, 1})
	small := of(api.LOr, tree(3), atom(0))
	f := of(api.LAnd, tree(5), of(api.LOr, small, nexts(17)))
	if list, e := Holds(f, w); e != api.OK || marks(list) != "1001" {
		t.Error(marks(list), e)
	}
	small = of(api.LOr, tree(3), of(api.LNot, atom(0)))
	f = of(api.LAnd, tree(5), of(api.LOr, small, nexts(17)))
	if list, e := Holds(f, w); e != api.ErrLarge || list != nil {
		t.Error(marks(list), e)
	}
}
