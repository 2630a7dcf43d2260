package dwyer

import (
	"math"
	"testing"

	"watchway/api"
)

// What the document says of each Kind and Scope.
func testHasS(kind int) bool   { return kind == 5 || kind == 6 }
func testHasQ(scope int) bool  { return scope >= 3 && scope <= 5 }
func testHasR(scope int) bool  { return scope == 2 || scope == 4 || scope == 5 }
func testCounts(kind int) bool { return kind == 4 }

// pattern is one with those atoms that its Kind and Scope have.
func pattern(kind, scope, p, s, q, r int) api.Pattern {
	made := api.Pattern{Kind: kind, Scope: scope, P: p}
	if testHasS(kind) {
		made.S = s
	}
	if testHasQ(scope) {
		made.Q = q
	}
	if testHasR(scope) {
		made.R = r
	}
	return made
}

// counted is a PBounded pattern.
func counted(count, scope, p, q, r int) api.Pattern {
	made := pattern(api.PBounded, scope, p, 0, q, r)
	made.Count = count
	return made
}

// patterns are those of each Kind and Scope, and of each Count, with these atoms.
func patterns(p, s, q, r int) []api.Pattern {
	var list []api.Pattern
	for scope := 1; scope <= 5; scope++ {
		for kind := 1; kind <= 6; kind++ {
			for count := 0; count <= 3 && (count == 0 || testCounts(kind)); count++ {
				made := pattern(kind, scope, p, s, q, r)
				made.Count = count
				list = append(list, made)
			}
		}
	}
	return list
}

// outside are numbers that are far out of any bounds.
var outside = []int{math.MinInt, math.MinInt + 1, -1 << 32, -64, 64 + 1<<32, 1 << 32, math.MaxInt - 1, math.MaxInt}

func TestCheckTakesPatterns(t *testing.T) {
	if n := len(patterns(0, 1, 2, 3)); n != 45 {
		t.Fatal(n)
	}
	for _, atoms := range [][4]int{{0, 1, 2, 3}, {0, 0, 0, 0}, {63, 63, 63, 63}, {63, 62, 61, 60}, {5, 5, 7, 7}, {7, 5, 5, 7}} {
		for _, p := range patterns(atoms[0], atoms[1], atoms[2], atoms[3]) {
			if e := Check(p); e != api.OK {
				t.Error(p, e)
			}
		}
	}
}

func TestCheckKind(t *testing.T) {
	for _, kind := range append([]int{-1, 0, 7, 8, 14, 63, 64}, outside...) {
		for scope := 1; scope <= 5; scope++ {
			if e := Check(pattern(kind, scope, 1, 0, 2, 3)); e != api.ErrArg {
				t.Error(kind, scope, e)
			}
		}
	}
	if e := Check(api.Pattern{}); e != api.ErrArg {
		t.Error(e)
	}
}

func TestCheckScope(t *testing.T) {
	for _, scope := range append([]int{-1, 0, 6, 7, 63, 64}, outside...) {
		for kind := 1; kind <= 6; kind++ {
			if e := Check(pattern(kind, scope, 1, 2, 0, 0)); e != api.ErrArg {
				t.Error(kind, scope, e)
			}
		}
	}
}

// Each number alone is tried with all values about its bounds, whether the pattern has it or not.
func TestCheckNumbers(t *testing.T) {
	values := append([]int{-2, -1, 0, 1, 2, 3, 4, 5, 62, 63, 64, 65}, outside...)
	for _, was := range patterns(0, 0, 0, 0) {
		for _, v := range values {
			for _, c := range []struct {
				what     string
				set      func(*api.Pattern)
				has      bool
				greatest int
			}{
				{"P", func(p *api.Pattern) { p.P = v }, true, 63},
				{"S", func(p *api.Pattern) { p.S = v }, testHasS(was.Kind), 63},
				{"Q", func(p *api.Pattern) { p.Q = v }, testHasQ(was.Scope), 63},
				{"R", func(p *api.Pattern) { p.R = v }, testHasR(was.Scope), 63},
				{"Count", func(p *api.Pattern) { p.Count = v }, testCounts(was.Kind), 3},
			} {
				p := was
				c.set(&p)
				want := api.ErrArg
				if v == 0 || c.has && v > 0 && v <= c.greatest {
					want = api.OK
				}
				if e := Check(p); e != want {
					t.Error(c.what, p, e)
				}
			}
		}
	}
}
