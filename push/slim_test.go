package push

import (
	"testing"

	"watchway/api"
)

func TestSlimSingles(t *testing.T) {
	for s, want := range map[string]string{
		"a":         "a",
		"true":      "true",
		"false":     "false",
		"silent":    "silent",
		"!a":        "!a",
		"!true":     "false",
		"!false":    "true",
		"!!a":       "a",
		"!!!a":      "!a",
		"!!true":    "true",
		"!X true":   "false",
		"!X !a":     "!X !a",
		"!F a":      "!F a",
		"X a":       "X a",
		"X X a":     "X X a",
		"X true":    "true",
		"X false":   "false",
		"X X true":  "true",
		"X !true":   "false",
		"F a":       "F a",
		"F true":    "true",
		"F false":   "false",
		"F F a":     "F a",
		"F F F a":   "F a",
		"F G a":     "F G a",
		"F G F a":   "F G F a",
		"F X F a":   "F X F a",
		"F !!F a":   "F a",
		"G a":       "G a",
		"G true":    "true",
		"G false":   "false",
		"G G a":     "G a",
		"G F a":     "G F a",
		"G G F F a": "G F a",
		"G !!G a":   "G a",
	} {
		gives(t, Slim, s, want)
	}
}

func TestSlimPairs(t *testing.T) {
	for s, want := range map[string]string{
		"a & b":                   "a & b",
		"a & false":               "false",
		"false & a":               "false",
		"a & true":                "a",
		"true & a":                "a",
		"a & a":                   "a",
		"true & false":            "false",
		"false & true":            "false",
		"true & true":             "true",
		"false & false":           "false",
		"a & !a":                  "a & !a",
		"!a & !a":                 "!a",
		"a & !!a":                 "a",
		"a & b & a":               "a & b & a",
		"(a & b) & (a & b)":       "a & b",
		"(a & b) & (b & a)":       "(a & b) & (b & a)",
		"a & (a & a)":             "a",
		"a & !true":               "false",
		"X a & X (a / false)":     "X a",
		"a / b":                   "a / b",
		"a / true":                "true",
		"true / a":                "true",
		"a / false":               "a",
		"false / a":               "a",
		"a / a":                   "a",
		"true / false":            "true",
		"false / true":            "true",
		"true / true":             "true",
		"false / false":           "false",
		"a / !a":                  "a / !a",
		"(a U b) / (a U (b / b))": "a U b",
		"(a U b) / (a R b)":       "(a U b) / (a R b)",
		"(a U b) / (b U a)":       "(a U b) / (b U a)",
		"F a / F b":               "F a / F b",
		"a -> a":                  "!a / a",
		"!(a & a)":                "!a",
		"!(a & false)":            "true",
		"!(a / true) / b":         "b",
	} {
		gives(t, Slim, s, want)
	}
}

func TestSlimWays(t *testing.T) {
	for s, want := range map[string]string{
		"a U b":               "a U b",
		"a U true":            "true",
		"a U false":           "false",
		"false U a":           "a",
		"true U a":            "F a",
		"true U F a":          "F a",
		"true U G a":          "F G a",
		"true U true U a":     "F a",
		"a U a":               "a",
		"true U true":         "true",
		"true U false":        "false",
		"false U true":        "true",
		"false U false":       "false",
		"a U a U b":           "a U a U b",
		"(a U b) U (a U b)":   "a U b",
		"F a U F a":           "F a",
		"a U F a":             "a U F a",
		"!false U a":          "F a",
		"!true U a":           "a",
		"F (true U a)":        "F a",
		"(true U a) U F a":    "F a",
		"a W true":            "true",
		"a R b":               "a R b",
		"a R true":            "true",
		"a R false":           "false",
		"true R a":            "a",
		"false R a":           "G a",
		"false R G a":         "G a",
		"false R F a":         "G F a",
		"false R false R a":   "G a",
		"a R a":               "a",
		"true R true":         "true",
		"true R false":        "false",
		"false R true":        "true",
		"false R false":       "false",
		"(a R b) R (a R b)":   "a R b",
		"G a R G a":           "G a",
		"a R G a":             "a R G a",
		"a R a R b":           "a R a R b",
		"!true R a":           "G a",
		"a W false":           "G a",
		"G (false R a)":       "G a",
		"(false R a) R G a":   "G a",
		"(true U a) & F a":    "F a",
		"(false R a) / G a":   "G a",
		"!(true U a) / !F a":  "!F a",
		"X (a U b) U X true":  "true",
		"X (a U (b & false))": "false",
	} {
		gives(t, Slim, s, want)
	}
}

// pairs are the Kinds with two Kids.
var pairs = []int{api.LAnd, api.LOr, api.LUntil, api.LRelease}

// Formulas are the same only if all of their parts are: a number alone makes two.
func TestSlimSame(t *testing.T) {
	for _, kind := range pairs {
		for n := range 64 {
			for m := range 64 {
				f := of(kind, of(api.LNext, atom(n)), of(api.LNext, atom(m)))
				want := f
				if n == m {
					want = of(api.LNext, atom(n))
				}
				if g, e := Slim(f); e != api.OK || !equal(g, want) {
					t.Fatal(f, g, e)
				}
			}
		}
	}
}

// So does a Kind alone, wherever it stands.
func TestSlimSameKinds(t *testing.T) {
	for _, kind := range pairs {
		for _, k := range pairs {
			for _, l := range pairs {
				f := of(kind, of(api.LNext, of(k, atom(0), atom(1))), of(api.LNext, of(l, atom(0), atom(1))))
				want := f
				if k == l {
					want = f.Kids[0]
				}
				if g, e := Slim(f); e != api.OK || !equal(g, want) {
					t.Fatal(f, g, e)
				}
			}
		}
	}
}

// slimRow is a formula that is 19 deep, of 28 nodes and some LNexts, in which nothing is too much.
func slimRow(kind, nexts int) api.Ltl {
	row := atom(0)
	for i := range 9 {
		first := atom(i + 1)
		if i < nexts {
			first = of(api.LNext, first)
		}
		row = of(kind, first, of(api.LNot, row))
	}
	return row
}

// The greatest and deepest formulas that may be there, with all of it or one node left.
func TestSlimMost(t *testing.T) {
	for _, kind := range pairs {
		f := of(kind, slimRow(kind, 0), slimRow(kind, 3))
		if g, e := Slim(f); count(f) != 60 || deep(f) != 20 || e != api.OK || !equal(g, f) {
			t.Error(kind, count(f), deep(f), g, e)
		}
		f = of(kind, slimRow(kind, 1), slimRow(kind, 1))
		if g, e := Slim(f); e != api.OK || !equal(g, slimRow(kind, 1)) {
			t.Error(kind, g, e)
		}
		if g, e := Slim(full(kind, 5, atom(5))); e != api.OK || !equal(g, atom(5)) {
			t.Error(kind, g, e)
		}
	}
	f := of(api.LAnd, full(api.LUntil, 5, of(api.LTrue)), of(api.LOr, around(api.LNext, 10, of(api.LFalse)), around(api.LNot, 15, of(api.LFalse))))
	if g, e := Slim(f); count(f) != 60 || e != api.OK || !equal(g, of(api.LTrue)) {
		t.Error(count(f), g, e)
	}
}
