package ltl

import (
	"strings"
	"testing"

	"watchway/api"
)

var abc = []string{"a", "b", "c"}

func TestPrintEachKind(t *testing.T) {
	a, b := atom(0), atom(1)
	for want, f := range map[string]api.Ltl{
		"true": of(api.LTrue), "false": of(api.LFalse), "a": a, "c": atom(2), "silent": atom(63),
		"!a": of(api.LNot, a), "X a": of(api.LNext, a), "F a": of(api.LFinally, a), "G a": of(api.LGlobally, a),
		"a & b": of(api.LAnd, a, b), "a / b": of(api.LOr, a, b), "a U b": of(api.LUntil, a, b), "a R b": of(api.LRelease, a, b),
	} {
		if s, e := Print(f, abc); e != api.OK || s != want {
			t.Errorf("%q %v, want %q", s, e, want)
		}
	}
}

// The document's own words for each Kid of two Kids in each of the kinds.
func TestPrintBrackets(t *testing.T) {
	a, b, c := atom(0), atom(1), atom(2)
	signs := map[int]string{api.LAnd: "&", api.LOr: "/", api.LUntil: "U", api.LRelease: "R"}
	bareFirst := map[[2]int]int{{5, 5}: 1, {6, 6}: 1, {6, 5}: 1}
	bareSecond := map[[2]int]int{{8, 8}: 1, {9, 9}: 1, {6, 5}: 1}
	for outer, sign := range signs {
		for inner, within := range signs {
			first, second := "(a "+within+" b)", "(b "+within+" c)"
			if bareFirst[[2]int{outer, inner}] == 1 {
				first = strings.Trim(first, "()")
			}
			if bareSecond[[2]int{outer, inner}] == 1 {
				second = strings.Trim(second, "()")
			}
			if s, e := Print(of(outer, of(inner, a, b), c), abc); e != api.OK || s != first+" "+sign+" c" {
				t.Errorf("%q %v", s, e)
			}
			if s, e := Print(of(outer, a, of(inner, b, c)), abc); e != api.OK || s != "a "+sign+" "+second {
				t.Errorf("%q %v", s, e)
			}
		}
	}
	for kind, sign := range map[int]string{api.LNot: "!", api.LNext: "X ", api.LFinally: "F ", api.LGlobally: "G "} {
		for inner, within := range signs {
			if s, e := Print(of(kind, of(inner, a, b)), abc); e != api.OK || s != sign+"(a "+within+" b)" {
				t.Errorf("%q %v", s, e)
			}
			if s, e := Print(of(inner, of(kind, a), of(kind, b)), abc); e != api.OK || s != sign+"a "+within+" "+sign+"b" {
				t.Errorf("%q %v", s, e)
			}
		}
		for inner, within := range map[int]string{api.LNot: "!", api.LNext: "X ", api.LFinally: "F ", api.LGlobally: "G "} {
			if s, e := Print(of(kind, of(inner, a)), abc); e != api.OK || s != sign+within+"a" {
				t.Errorf("%q %v", s, e)
			}
		}
	}
}

func TestPrintNames(t *testing.T) {
	names := []string{"b", "true", "a", "b", "silent", "abcdefghi", "", "A", "false", "abcdefgh", "a b"}
	for n, want := range map[int]string{0: "b", 2: "a", 9: "abcdefgh", 63: "silent"} {
		if s, e := Print(atom(n), names); e != api.OK || s != want {
			t.Errorf("%d: %q %v", n, s, e)
		}
	}
	for _, n := range []int{1, 3, 4, 5, 6, 7, 8, 10, 11, 62} {
		for _, f := range []api.Ltl{atom(n), of(api.LNot, atom(n)), of(api.LAnd, atom(n), atom(0)), of(api.LAnd, atom(0), atom(n)),
			of(api.LOr, of(api.LUntil, atom(n), atom(0)), atom(0)), of(api.LRelease, atom(0), of(api.LAnd, atom(0), atom(n)))} {
			if s, e := Print(f, names); e != api.ErrName || s != "" {
				t.Errorf("%d: %q %v", n, s, e)
			}
		}
	}
	if s, e := Print(atom(0), nil); e != api.ErrName || s != "" {
		t.Errorf("%q %v", s, e)
	}
	if s, e := Print(of(api.LNot, atom(63)), nil); e != api.OK || s != "!silent" {
		t.Errorf("%q %v", s, e)
	}
}

// manyNames are names that are all different.
func manyNames(count int) []string {
	var names []string
	for i := range count {
		names = append(names, strings.Repeat(string(rune('a'+i%26)), 1+i/26))
	}
	return names
}

func TestPrintAndParseManyNames(t *testing.T) {
	names := manyNames(70)
	for n := range 63 {
		s, e := Print(atom(n), names)
		if e != api.OK || s != names[n] {
			t.Errorf("%d: %q %v", n, s, e)
		}
		if f, at, e := Parse(names[n], names); e != api.OK || at != 0 || !equal(f, atom(n)) {
			t.Error(n, f, at, e)
		}
	}
	if s, e := Print(atom(63), names); e != api.OK || s != "silent" {
		t.Errorf("%q %v", s, e)
	}
	for n := 63; n < 70; n++ {
		if f, at, e := Parse("a&"+names[n], names); e != api.ErrName || at != 2 || !isZero(f) {
			t.Error(n, f, at, e)
		}
	}
}

func TestPrintChecksFirst(t *testing.T) {
	for _, f := range []api.Ltl{{}, atom(64), of(api.LNot), of(api.LAnd, atom(9), atom(64)), nots(20), full(6), of(api.LOr, atom(9), full(6))} {
		if s, e := Print(f, abc); e == api.OK || e != Check(f) || s != "" {
			t.Errorf("%q %v %v", s, e, Check(f))
		}
	}
}

// The longest texts: all that may be there, with long names.
func TestPrintLong(t *testing.T) {
	names := []string{"abcdefgh", "ijklmnop"}
	f := sized(60)
	s, e := Print(f, names)
	if e != api.OK || len(s) <= maxText {
		t.Fatalf("%q %v", s, e)
	}
	if s != plainPrint(f, names) {
		t.Errorf("%q", s)
	}
	if g, at, e := Parse(s, names); e != api.ErrLarge || at != 0 || !isZero(g) {
		t.Error(g, at, e)
	}
}
