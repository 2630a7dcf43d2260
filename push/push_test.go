package push

import (
	"math"
	"testing"

	"watchway/api"
	"watchway/ltl"
)

// atom is a short way to write an LAtom.
func atom(n int) api.Ltl { return api.Ltl{Kind: api.LAtom, N: n} }

// of is a short way to write a formula with Kids.
func of(kind int, kids ...api.Ltl) api.Ltl { return api.Ltl{Kind: kind, Kids: kids} }

// around is a formula with that many single ones of a Kind around it.
func around(kind, count int, f api.Ltl) api.Ltl {
	for range count {
		f = of(kind, f)
	}
	return f
}

// full is a tree of a Kind with two Kids that has 2^deep - 1 nodes, 2^(deep-1) of them that leaf.
func full(kind, deep int, leaf api.Ltl) api.Ltl {
	if deep == 1 {
		return leaf
	}
	return of(kind, full(kind, deep-1, leaf), full(kind, deep-1, leaf))
}

// count is how many nodes a formula has.
func count(f api.Ltl) int {
	nodes := 1
	for _, kid := range f.Kids {
		nodes += count(kid)
	}
	return nodes
}

// deep is how deep a formula is.
func deep(f api.Ltl) int {
	most := 0
	for _, kid := range f.Kids {
		most = max(most, deep(kid))
	}
	return most + 1
}

// equal tells whether two formulas are the same node by node.
func equal(f, g api.Ltl) bool {
	if f.Kind != g.Kind || f.N != g.N || len(f.Kids) != len(g.Kids) {
		return false
	}
	for i := range f.Kids {
		if !equal(f.Kids[i], g.Kids[i]) {
			return false
		}
	}
	return true
}

// isZero tells whether a formula is the zero value.
func isZero(f api.Ltl) bool { return f.Kind == 0 && f.N == 0 && f.Kids == nil }

// abc are the names in texts of formulas here.
var abc = []string{"a", "b", "c"}

// read is the formula of a text.
func read(t *testing.T, s string) api.Ltl {
	t.Helper()
	f, at, e := ltl.Parse(s, abc)
	if e != api.OK {
		t.Fatal(s, at, e)
	}
	return f
}

// call is one of the calls of this package.
type call func(api.Ltl) (api.Ltl, api.Errno)

// calls are all of them.
var calls = map[string]call{"Nots": Nots, "Plain": Plain, "Slim": Slim}

// gives looks whether a call makes a formula of another one, both as texts.
func gives(t *testing.T, do call, s, want string) {
	t.Helper()
	g, e := do(read(t, s))
	if e != api.OK || !equal(g, read(t, want)) {
		text, _ := ltl.Print(g, abc)
		t.Errorf("%q: %q %v, want %q", s, text, e, want)
	}
}

func TestNotsByHand(t *testing.T) {
	for s, want := range map[string]string{
		"a":                       "a",
		"!a":                      "!a",
		"!!a":                     "a",
		"!!!a":                    "!a",
		"!!!!a":                   "a",
		"true":                    "true",
		"false":                   "false",
		"!true":                   "false",
		"!false":                  "true",
		"!!true":                  "true",
		"!!false":                 "false",
		"silent":                  "silent",
		"!silent":                 "!silent",
		"!(a & b)":                "!a / !b",
		"!(a / b)":                "!a & !b",
		"!(a U b)":                "!a R !b",
		"!(a R b)":                "!a U !b",
		"!X a":                    "X !a",
		"!F a":                    "G !a",
		"!G a":                    "F !a",
		"!X X a":                  "X X !a",
		"!F G a":                  "G F !a",
		"!G F !a":                 "F G a",
		"!X !a":                   "X a",
		"!(!a & b)":               "a / !b",
		"!(a & !b)":               "!a / b",
		"!!(a & b)":               "a & b",
		"!!(a U !!b)":             "a U b",
		"!(true U a)":             "false R !a",
		"!(false R a)":            "true U !a",
		"a & !true":               "a & false",
		"a & b / X c":             "a & b / X c",
		"F a U G b":               "F a U G b",
		"X !(a & b)":              "X (!a / !b)",
		"F !(a & b)":              "F (!a / !b)",
		"G !F a":                  "G G !a",
		"!(a & b) U !(a / b)":     "(!a / !b) U (!a & !b)",
		"!((a U b) R (b R c))":    "(!a R !b) U (!b U !c)",
		"!(a & b & c)":            "!a / !b / !c",
		"!(a / b & c)":            "!a & (!b / !c)",
		"!(a -> b)":               "a & !b",
		"!(a W b)":                "!b U (!a & !b)",
		"!(!(a & b) / !!c)":       "a & b & !c",
		"!G (a -> F b)":           "F (a & G !b)",
		"!(a & a)":                "!a / !a",
		"!(true & F true)":        "false / G false",
		"!X !F !G !(a U X !b)":    "X F F (a U X !b)",
		"!(!a U !(!b R !silent))": "a R (!b R !silent)",
	} {
		gives(t, Nots, s, want)
	}
}

func TestPlainByHand(t *testing.T) {
	for s, want := range map[string]string{
		"a":                   "a",
		"true":                "true",
		"false":               "false",
		"silent":              "silent",
		"F a":                 "true U a",
		"G a":                 "false R a",
		"F F a":               "true U true U a",
		"G G a":               "false R false R a",
		"F G a":               "true U (false R a)",
		"G F a":               "false R (true U a)",
		"!F a":                "!(true U a)",
		"X G a":               "X (false R a)",
		"F true":              "true U true",
		"F false":             "true U false",
		"G true":              "false R true",
		"G false":             "false R false",
		"F a & G b":           "(true U a) & (false R b)",
		"F a / G b":           "(true U a) / (false R b)",
		"F a U G b":           "(true U a) U (false R b)",
		"F a R G b":           "(true U a) R (false R b)",
		"F (a U G b)":         "true U a U (false R b)",
		"!!a":                 "!!a",
		"true U a":            "true U a",
		"false R a":           "false R a",
		"a & a / !true":       "a & a / !true",
		"G (a -> F b)":        "false R (!a / (true U b))",
		"X !F (a & G X F !b)": "X !(true U (a & (false R X (true U !b))))",
	} {
		gives(t, Plain, s, want)
	}
}

// Each atom stays what it is, with a not and without one.
func TestEachAtom(t *testing.T) {
	for n := range 64 {
		for name, do := range calls {
			for _, f := range []api.Ltl{atom(n), of(api.LNot, atom(n)), of(api.LAnd, atom(n), atom((n+1)%64))} {
				if g, e := do(f); e != api.OK || !equal(f, g) {
					t.Error(name, f, g, e)
				}
			}
		}
		if g, e := Nots(of(api.LNot, of(api.LFinally, atom(n)))); e != api.OK || !equal(g, of(api.LGlobally, of(api.LNot, atom(n)))) {
			t.Error(n, g, e)
		}
		if g, e := Plain(of(api.LGlobally, atom(n))); e != api.OK || !equal(g, of(api.LRelease, of(api.LFalse), atom(n))) {
			t.Error(n, g, e)
		}
	}
}

// Kids of formulas that have none may be nil or empty.
func TestEmptyKids(t *testing.T) {
	for kind := 1; kind <= 3; kind++ {
		f := api.Ltl{Kind: kind, Kids: []api.Ltl{}}
		for name, do := range calls {
			if g, e := do(of(api.LNext, of(api.LAnd, atom(1), f))); e != api.OK || g.Kind == 0 {
				t.Error(name, kind, g, e)
			}
		}
		if g, e := Slim(of(api.LUntil, f, of(kind))); e != api.OK || !equal(g, of(kind)) {
			t.Error(kind, g, e)
		}
	}
}

// wrong are formulas that are none: one that is wrong at each place, too large, too deep ones, ones that lead back to themselves.
func wrong() []api.Ltl {
	list := []api.Ltl{{}, {Kind: 12}, {Kind: -1}, {Kind: math.MaxInt}, {Kind: math.MinInt}, {Kind: api.LTrue, N: 1}, {Kind: api.LNot, N: 3, Kids: []api.Ltl{atom(0)}},
		atom(-1), atom(64), atom(math.MinInt), atom(math.MaxInt), of(api.LAtom, atom(0)), of(api.LTrue, of(api.LTrue)),
		{Kind: api.LAnd, Kids: make([]api.Ltl, 1<<16)}}
	for kind := 4; kind <= 11; kind++ {
		list = append(list, of(kind), of(kind, atom(0), atom(1), atom(2)))
	}
	for _, kind := range []int{api.LNot, api.LNext, api.LFinally, api.LGlobally} {
		list = append(list, of(kind, atom(0), atom(1)), around(kind, 20, atom(0)), around(kind, 20, of(api.LTrue)), around(kind, 200, atom(0)))
	}
	for _, kind := range []int{api.LAnd, api.LOr, api.LUntil, api.LRelease} {
		list = append(list, of(kind, atom(0)), full(kind, 6, atom(0)), full(kind, 6, of(api.LTrue)), of(kind, of(api.LFalse), full(kind, 6, of(api.LFalse))))
	}
	list = append(list, of(api.LAnd, of(api.LFalse), atom(64)), of(api.LOr, atom(64), of(api.LTrue)), of(api.LUntil, atom(64), of(api.LTrue)), around(api.LNot, 2, atom(64)))
	one, two := make([]api.Ltl, 1), make([]api.Ltl, 2)
	one[0] = of(api.LNot, one...)
	two[0], two[1] = of(api.LAnd, two...), of(api.LAnd, two...)
	return append(list, one[0], two[0], two[1])
}

func TestWrong(t *testing.T) {
	for number, f := range wrong() {
		want := ltl.Check(f)
		if want == api.OK {
			t.Fatal("nothing is wrong in", number)
		}
		for name, do := range calls {
			for _, f := range []api.Ltl{f, of(api.LOr, atom(0), f)} {
				if g, e := do(f); e != ltl.Check(f) || !isZero(g) {
					t.Error(name, number, g, e)
				}
			}
		}
	}
}

// Which error is told of a formula in which several things are wrong is Check's business.
func TestWrongFirst(t *testing.T) {
	large, tooDeep, bad := full(api.LAnd, 6, atom(0)), around(api.LFinally, 20, atom(0)), atom(64)
	for _, c := range []struct {
		f    api.Ltl
		want api.Errno
	}{
		{of(api.LOr, large, bad), api.ErrLarge}, {of(api.LOr, bad, large), api.ErrArg},
		{of(api.LOr, tooDeep, bad), api.ErrDeep}, {of(api.LOr, bad, tooDeep), api.ErrArg},
		{of(api.LOr, tooDeep, large), api.ErrDeep}, {of(api.LOr, large, tooDeep), api.ErrLarge},
	} {
		for name, do := range calls {
			if g, e := do(c.f); e != c.want || !isZero(g) {
				t.Error(name, c.want, g, e)
			}
		}
	}
}

// bounded looks whether a call makes a formula of that many nodes of another one, or tells that it has too many.
func bounded(t *testing.T, do call, f api.Ltl, nodes int) {
	t.Helper()
	if e := ltl.Check(f); e != api.OK {
		t.Fatal(e)
	}
	g, e := do(f)
	switch {
	case nodes <= 60 && (e != api.OK || count(g) != nodes):
		t.Error(nodes, count(g), e)
	case nodes > 60 && (e != api.ErrLarge || !isZero(g)):
		t.Error(nodes, g, e)
	}
}

// The not of a tree with 16 leaves has 16 nots: 47 nodes in all. With LNexts beside it there are up to 65.
func TestNotsSize(t *testing.T) {
	for _, kind := range []int{api.LAnd, api.LOr, api.LUntil, api.LRelease} {
		for nexts := range 18 {
			f := of(kind, of(api.LNot, full(kind, 5, atom(3))), around(api.LNext, nexts, atom(0)))
			bounded(t, Nots, f, 49+nexts)
			f = of(api.LNot, of(kind, full(kind, 5, atom(3)), around(api.LNext, nexts, atom(0))))
			bounded(t, Nots, f, 50+nexts)
		}
	}
	// LTrues and atoms with a not ahead of them have none behind it.
	bounded(t, Nots, of(api.LNot, full(api.LAnd, 5, of(api.LTrue))), 31)
	bounded(t, Nots, of(api.LNot, full(api.LUntil, 5, of(api.LNot, atom(7)))), 31)
	bounded(t, Nots, of(api.LNot, of(api.LNot, full(api.LOr, 5, atom(9)))), 31)
}

// Each LFinally and LGlobally is one node more.
func TestPlainSize(t *testing.T) {
	for _, kind := range []int{api.LFinally, api.LGlobally} {
		for _, more := range []int{0, 1, 5, 10} {
			for singles := range 15 {
				f := of(api.LAnd, full(api.LUntil, 5, atom(3)), of(api.LOr, around(api.LNext, more, atom(0)), around(kind, singles, atom(1))))
				bounded(t, Plain, f, 35+more+2*singles)
			}
		}
	}
	bounded(t, Plain, full(api.LAnd, 4, of(api.LFinally, of(api.LGlobally, atom(1)))), 47)
	bounded(t, Plain, full(api.LAnd, 4, of(api.LFinally, of(api.LGlobally, of(api.LFinally, atom(1))))), 63)
}

// 20 deep is what a formula may be; neither a not at its atom nor an LTrue beside a Kid makes it deeper.
func TestDeepest(t *testing.T) {
	for kind, want := range map[int]int{api.LNext: api.LNext, api.LFinally: api.LGlobally, api.LGlobally: api.LFinally} {
		g, e := Nots(of(api.LNot, around(kind, 18, atom(0))))
		if e != api.OK || !equal(g, around(want, 18, of(api.LNot, atom(0)))) {
			t.Error(kind, g, e)
		}
	}
	for nots := range 20 {
		want := atom(0)
		if nots%2 == 1 {
			want = of(api.LNot, atom(0))
		}
		for name, do := range map[string]call{"Nots": Nots, "Slim": Slim} {
			if g, e := do(around(api.LNot, nots, atom(0))); e != api.OK || !equal(g, want) {
				t.Error(name, nots, g, e)
			}
		}
	}
	for _, kind := range []int{api.LFinally, api.LGlobally} {
		if g, e := Plain(around(kind, 19, atom(0))); e != api.OK || deep(g) != 20 || count(g) != 39 {
			t.Error(kind, g, e)
		}
		if g, e := Slim(around(kind, 19, atom(0))); e != api.OK || !equal(g, of(kind, atom(0))) {
			t.Error(kind, g, e)
		}
	}
}
